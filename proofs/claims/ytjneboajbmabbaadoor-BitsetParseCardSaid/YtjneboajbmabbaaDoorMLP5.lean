/-
  The iterator over a set's elements: for every loop body that keeps what lay below n₀.
-/
import Derived.Test.YtjneboajbmabbaaDoorMB1
import Derived.Test.YtjneboajbmabbaaDoorMB2
import Derived.Test.YtjneboajbmabbaaDoorMLP1
import Derived.Test.YtjneboajbmabbaaDoorMLP2
import Derived.Test.YtjneboajbmabbaaDoorMLP3
import Derived.Test.YtjneboajbmabbaaDoorMLP4
import Derived.RangeFuncNested
import Derived.RangeFuncBound
import Derived.RangeFuncCalls
import Derived.RangeFuncLeaves
import Derived.Shelf.Abstract
import Derived.Shelf.RegionOpen
import Derived.OwnWalkIn
import Derived.TacticsInMore
import Derived.LoopNIn
import Derived.LoopIn
set_option linter.unusedSimpArgs false
set_option linter.unusedVariables false
namespace Go.Proofs.YtjneboajbmabbaaDoor.ref1
open Go.RowKit Go.Own Go.Rw Go.SetL Go.Bits Go.Tz Go.Shelf Go.Can
set_option maxHeartbeats 1000000
set_option maxRecDepth 100000
attribute [local go_sem] Oper.semAt_some

section
variable {F : Fence} {n : Nat} {P : Program} {ops : Array Oper} {rest : List Oper} {o : Oper} {a : Act} {w : World} {Q : Exit → Act → World → Prop}
theorem wpListIn_value (hro : F.round = none) (hF : ∀ f, F.fn f) (hgd : o.guard = none) {v : Value} {w' : World} (hr : (execOp a.eval o).run P w = .ok (.value v) w')
    (h : wpListIn F n P ops Q rest (a.put o.dst v) w') : wpListIn F n P ops Q (o :: rest) a w := by
  refine wpListIn_plain hgd fun K hK => ⟨fun f _ => hF f, ?_⟩
  rw [hro, Oper.semAt_none, hr]
  exact hK _ _ h
theorem wpListIn_load_block (hro : F.round = none) (hF : ∀ f, F.fn f) (hgd : o.guard = none) (ty : TypeId) (x : Operand) (ho : o.op = .load ty x)
    (g : Nat) (cells : Array Value) (t : TypeId) (d : TypeDesc) (hx : a.eval x = .pointer (some ⟨g, 0, none⟩))
    (hg : blockOf w g = some (.cells cells t (0, 0))) (hu : P.underlying ty = some d) (hd : (match d with | .struct _ | .array _ _ => true | _ => false) = true) (hi : (P.info? ty).map (·.size) = some cells.size)
    (h : wpListIn F n P ops Q rest (a.put o.dst (.agg cells)) w) : wpListIn F n P ops Q (o :: rest) a w := by
  refine wpListIn_value hro hF hgd ?_ h
  unfold execOp
  simp only [ho, hx, Instr.loadAt, Instr.sureAddr, Sem.run_bind, Sem.run_pure, Result.andThen_ok, run_loadVar_row w g t ty cells (0, 0) d hg hu hd hi]
theorem wpListIn_indexRow (hro : F.round = none) (hF : ∀ f, F.fn f) (hgd : o.guard = none) {t e : TypeId} {m : Nat} (x y : Operand) (ho : o.op = .index t x y)
    (hu : P.underlying t = some (.array m e)) (he : P.underlying e = some (.int .u64)) (hi : (P.info? e).map (·.size) = some 1)
    {cs : Array Value} {k : Nat} {v : Value} (hk : k < m) (hc : cs[k]? = some v) (ex : a.eval x = .agg cs) (ey : a.eval y = .int .i64 k)
    (h : wpListIn F n P ops Q rest (a.put o.dst v) w) : wpListIn F n P ops Q (o :: rest) a w := by
  obtain ⟨i, hi', hs⟩ : ∃ i, P.info? e = some i ∧ i.size = 1 := by
    cases h : P.info? e with
    | none => rw [h] at hi; cases hi
    | some i => rw [h] at hi; exact ⟨i, rfl, by simpa using hi⟩
  have key : dry P (Instr.index t (.agg cs) (.int .i64 k)) = some v := by
    unfold Instr.index
    rw [dry_bind, show dry P (asIntOf (.int .i64 (k : Int))) = some (IntKind.i64, (k : Int)) from rfl]
    simp only [Option.bind_some, dry_bind, dry_underlying, hu]
    rw [if_pos ⟨Int.natCast_nonneg k, Int.ofNat_lt.2 hk⟩]
    simp only [dry_bind, dry_sizeOf hi', hs, Option.bind_some, Int.toNat_natCast, Nat.mul_one]
    exact dry_part he hc
  refine wpListIn_value hro hF hgd ?_ h
  unfold execOp
  simp only [ho, ex, ey]
  rw [Sem.run_bind, dry_run _ key w]
  rfl
end
theorem TzW.belowN {W w : World} {m : Nat} (h : TzW W) (hm : 0 < m) (hb : Below m W w) : TzW w := fun t ht => (hb.cell (p := ⟨0, dB t / 288230376151711744, none⟩) hm).trans (h t ht)
theorem pred_word (y : W) (h : y ≠ 0#64) : bits BinOp.and IntKind.u64 (toI y) (IntKind.u64.wrap (toI y - 1)) = toI (y &&& (y - 1#64)) := by
  have e : IntKind.u64.wrap (toI y - 1) = toI (y - 1#64) := by
    show (toI y - 1) % 18446744073709551616 = _
    unfold toI
    rw [BitVec.toNat_sub, show (1#64 : BitVec 64).toNat = 1 from rfl]
    have h0 : y.toNat ≠ 0 := fun h1 => h (BitVec.eq_of_toNat_eq h1)
    have := y.isLt
    generalize y.toNat = m at this h0 ⊢
    have e : (2 : Nat) ^ 64 = 18446744073709551616 := rfl
    rw [e] at this ⊢
    omega
  rw [e]
  exact andI_eq _ _

theorem pred_word' (y : W) (h : y ≠ 0#64) : bits BinOp.and IntKind.u64 (toI y) (toI y - 1) = toI (y &&& (y - 1#64)) := by
  have h0 : 0 < toI y := by
    rcases Int.lt_or_eq_of_le (toI_nonneg y) with h1 | h1
    · exact h1
    · exact absurd (toI_inj.1 (h1.symm.trans (show (0 : Int) = toI 0#64 from rfl))) h
  have := toI_lt y
  rw [← pred_word y h, show IntKind.u64.wrap (toI y - 1) = toI y - 1 from by show (toI y - 1) % 18446744073709551616 = _; omega]
theorem pred_lt (y : W) (h : y ≠ 0#64) : (y &&& (y - 1#64)).toNat < y.toNat := by
  rw [BitVec.toNat_and]
  refine Nat.lt_of_le_of_lt Nat.and_le_right ?_
  rw [BitVec.toNat_sub, show (1#64 : BitVec 64).toNat = 1 from rfl]
  have h0 : y.toNat ≠ 0 := fun h1 => h (BitVec.eq_of_toNat_eq h1)
  have := y.isLt
  generalize y.toNat = m at this h0 ⊢
  have e : (2 : Nat) ^ 64 = 18446744073709551616 := rfl
  rw [e] at this ⊢
  omega
theorem all1_in (n : Nat) (l Bn n₀ : Nat) {xs : List W} (hx : xs.length = 16) (hn₀ : 0 < n₀) (J Jx : List Int → World → Prop)
    (hY : ∀ pre x w, J pre w → pre.length < 1025 → YieldAt Fence.wide (n - 1) Tryd.prog l #[.int .i64 x] w fun e w' =>
      (e = .returned (.bool true) ∧ J (pre ++ [x]) w' ∧ Below n₀ w w') ∨ (e = .returned (.bool false) ∧ Jx (pre ++ [x]) w'))
    (w0 : World) {T : TypeId} (hBn : blockOf w0 Bn = some (.cells (rowW xs) T (0, 0))) (hT : TzW w0) (h0 : J [] w0) :
    CallsIn Fence.wide n Tryd.prog 57 #[.func (.yield l) #[] #[], .pointer (some ⟨Bn, 0, none⟩)] w0 fun e w' => (∃ v, e = .returned v) ∧
      ((∃ ys, ys = elems xs ∧ J ys w') ∨ (∃ pre, pre <+: elems xs ∧ Jx pre w')) := by
  have HA := Lib.hid (fun (k : Nat) (h : k < 16) => rowW_at (xs := xs) (k := k) (by rw [hx]; omega))
  have HZ := Lib.hid (show (rowW xs).size = 16 by rw [rowW_size, hx])
  have HT := Lib.hid hT; clear hT
  have HY := Lib.hid hY; clear hY
  have HE : elems xs = ofN (bitAt xs) (64 * 16) := rfl
  rw [HE]
  refine callsIn_of_wp Tryd.func57 rfl trivial ?_ rfl
  simp only [Tryd.ntmps57, List.size_toArray, List.length_cons, List.length_nil, Nat.reduceAdd, Nat.reduceSub, Array.replicate_succ, Array.replicate_zero, List.push_toArray, List.append_toArray, List.nil_append, List.cons_append]
  gi_wp2_with (refine wpListIn_load_block rfl (fun _ => trivial) rfl 25 (.tmp 1) rfl Bn (rowW xs) T _ rfl hBn Tryd.underlying25 rfl (by rw [HZ.out]; exact sInfo) ?_)
  gi_loopw [6] (fun i wr => ∃ k : Nat, k ≤ 16 ∧ i = .int .i64 k ∧ Hid (J (ofN (bitAt xs) (64 * k)) wr) ∧ Hid (Below n₀ w0 wr)) (fun i _ => 16 - (intOf i).toNat)
  case atStart => exact ⟨0, Nat.zero_le _, rfl, Lib.hid h0, Lib.hid (Below.refl _ _)⟩
  case round =>
    obtain ⟨k, hk, rfl, HJ, HB⟩ := hrel
    by_cases hlt : k < 16
    · have ha := HA.out k hlt
      obtain ⟨x, hxk⟩ : ∃ x, x = xs.getD k 0 := ⟨_, rfl⟩
      rw [← hxk] at ha
      have HA2 := Lib.hid ha; clear ha
      have HX := Lib.hid hxk; clear hxk
      gi_wp2_with (refine wpListIn_indexRow rfl (fun _ => trivial) rfl (.tmp 5) (.tmp 6) rfl sU wU wI hlt HA2.out rfl rfl ?_)
      gi_loopw [4] (fun v wr => ∃ (y : W) (p : Nat), v = .int .u64 (toI y) ∧ p ≤ 64 ∧ Hid (Cut x p y) ∧ Hid (J (ofN (bitAt xs) (64 * k + p)) wr) ∧ Hid (Below n₀ w0 wr)) (fun v _ => (intOf v).toNat)
      case atStart => exact ⟨_, 0, rfl, by omega, Lib.hid (cut_start _), Lib.hid HJ.out, Lib.hid HB.out⟩
      case round =>
        rename_i wr0 _ _ _ _
        clear HJ HB
        obtain ⟨y, p, rfl, hp, HC, HJ, HB⟩ := hrel
        by_cases hy : y = 0#64
        · subst hy
          have e0 : toI 0#64 = 0 := rfl
          rw [e0]
          have HN := Lib.hid (come_end (xs := xs) (j := k) hp (HX.out ▸ HC.out))
          gi_wp2
          go_roundw
          case rel => exact ⟨k + 1, by omega, by go_num, Lib.hid (by rw [← HN.out]; exact HJ.out), HB⟩
          case measure => simp [intOf]; omega
        · obtain ⟨t, ht⟩ := low_of hy
          have htz := Lib.hid (tz_calls ht)
          have ht0 := ht.1
          have HN := Lib.hid (come_yes (xs := xs) (j := k) (HX.out ▸ HC.out) ht)
          have HC2 := Lib.hid (cut_step HC.out ht)
          have hlen := ofN_len (bitAt xs) (64 * k + p)
          obtain ⟨fn, tmps, assign, body, hyy, hR⟩ := HY.out _ (64 * (k : Int) + (t : Int)) _ HJ.out (by omega)
          have HP := Lib.hid (pred_word y hy)
          have HP' := Lib.hid (pred_word' y hy)
          have HL := Lib.hid (pred_lt y hy)
          have hu0 : 0 < toI y := by
            rcases Int.lt_or_eq_of_le (toI_nonneg y) with h1 | h1
            · exact h1
            · exact absurd (toI_inj.1 (h1.symm.trans (show (0 : Int) = toI 0#64 from rfl))) hy
          have hu1 := toI_lt y
          have HYE := Lib.hid (show ∃ u, u = toI y from ⟨_, rfl⟩)
          obtain ⟨u, hu⟩ := HYE.out
          rw [← hu] at hu0 hu1 htz ⊢
          have HU := Lib.hid hu; clear hu HYE
          clear ht hy
          gi_wp2_with (refine ⟨trivial, (fun h => by cases h), ?_⟩; refine (callsIn_wide.2 (htz.out _ (HT.out.belowN hn₀ HB.out))).mono ?_; rintro e w1 ⟨rfl, rfl⟩)
          refine ⟨(fun h => by cases h), hR.mono ?_⟩
          have e1 : ofN (bitAt xs) (64 * k + p) ++ [64 * (k : Int) + (t : Int)] = ofN (bitAt xs) (64 * k + (t + 1)) := by rw [← HN.out]; simp
          rw [e1]
          clear e1
          rintro e W3 (⟨rfl, hJ3, hk3⟩ | ⟨rfl, hJx3⟩)
          · have HJ3 := Lib.hid hJ3
            have HB3 := Lib.hid (HB.out.trans hk3)
            clear hJ3 hk3
            gi_wp2
            go_roundw
            case rel => exact ⟨_, t + 1, by rw [← HP'.out, ← HU.out], by omega, HC2, HJ3, HB3⟩
            case measure =>
              have h := HL.out
              rw [HU.out, HP'.out]
              show (toI _).toNat < (toI _).toNat
              unfold toI
              rw [Int.toNat_natCast, Int.toNat_natCast]
              exact h
          · gi_wp2
            refine bodyPost_ret (results_none rfl _ _ _) rfl ?_
            exact ⟨⟨_, rfl⟩, .inr ⟨_, ofN_pre _ (by omega), hJx3⟩⟩
    · obtain rfl : k = 16 := by omega
      gi_wp2
      go_end0
      exact ⟨⟨_, rfl⟩, .inl ⟨_, rfl, HJ.out⟩⟩
/-- the iterator's contract -/
theorem all_stops (n : Nat) (Bn n₀ : Nat) {xs : List W} (hx : xs.length = 16) (hn₀ : 0 < n₀) (w : World) {T : TypeId} (hB : Bn < w.heap.size) (h0 : 0 < w.heap.size) (hBn : blockOf w Bn = some (.cells (rowW xs) T (0, 0))) (hT : TzW w) :
    SeqStopsK Fence.wide n Tryd.prog 57 #[.pointer (some ⟨Bn, 0, none⟩)] (fun x : Int => #[Value.int .i64 x]) (Below n₀) (fun ys => ys = elems xs) (fun pre => pre <+: elems xs) 1025 w := fun l J Jx W hW _ _ hY h0' =>
  all1_in n l Bn n₀ hx hn₀ J Jx hY W ((hW.block Bn hB).trans hBn) (hT.belowN h0 hW) h0'
end Go.Proofs.YtjneboajbmabbaaDoor.ref1
