/-
  BitsetElements: the call answers true whatever its arguments: the frame.
-/
import Derived.Test.YtjneboajbmabbaaDoorMB1
import Derived.Test.YtjneboajbmabbaaDoorMB2
import Derived.Test.YtjneboajbmabbaaDoorML91
import Derived.Test.YtjneboajbmabbaaDoorCards
import Derived.Test.YtjneboajbmabbaaDoorTie
import Derived.Test.YtjneboajbmabbaaDoorCanAG
import Derived.WalkKit
import Derived.ProofKit
import Derived.OpenShut
import Derived.Deep.DeepHandedRow
import Derived.RangeFuncNested
import Derived.RangeFuncBound
import Derived.RangeFuncCalls
import Derived.RangeFuncLeaves
import Derived.Shelf.Abstract
import Derived.Shelf.RegionOpen
import Derived.OwnWalkIn
import Derived.TacticsInMore
import Derived.LoopNIn
import Derived.LoopIn
import Derived.RangeFuncBox
import Derived.Maps.AppendAt
set_option linter.unusedSimpArgs false
set_option linter.unusedVariables false
namespace Go.Proofs.YtjneboajbmabbaaDoor.bitsetElements
open Go.ChangeShapes Go.WideShapes Go.ChangeAt Go.RowKit Go.Joins Go.Own

theorem own : ownKnob Tryd.prog.godebug = none := by kernel_rfl
theorem pc : Can.PC2 Tryd.prog := .of_bool (by kernel_rfl)
noncomputable def tab : Nat → Array Value
  | 0 => Can.tabCells Rows.laid_math_bits_deBruijn64tab
  | 1 => Can.tabCells Rows.laid_internal_strconv_uint64pow10
  | 2 => Can.tabCells Rows.laid_math_bits_deBruijn32tab
  | _ => #[]
noncomputable def H0 (T : Nat → TypeId) : Array Obj := #[.cells (tab 0) (T 0), .cells (tab 1) (T 1), .cells (tab 2) (T 2)]
theorem tabAt (T : Nat → TypeId) (g : Nat) (hg : g ∈ ([0, 1, 2] : List Nat)) : (H0 T)[g]? = some (.cells (tab g) (T g) (0, 0)) := by
  simp only [List.mem_cons, List.not_mem_nil, or_false] at hg
  rcases hg with rfl | rfl | rfl
  all_goals rfl
theorem tabPlain (g : Nat) (hg : g ∈ ([0, 1, 2] : List Nat)) : (tab g).all (Can.plainV 60) = true := by
  simp only [List.mem_cons, List.not_mem_nil, or_false] at hg
  rcases hg with rfl | rfl | rfl
  all_goals kernel_rfl
set_option maxRecDepth 100000 in
theorem knownTrue (T : Nat → TypeId) : Can.evTrue (Can.evS Tryd.prog [0, 1, 2] (Can.noSm) 3000 (.call 24 #[]) (Can.AW.start (H0 T))) = true := by kernel_rfl
noncomputable def sm : Can.RecD := Can.orSmD (Can.liftSm (Can.knownSm 24 tab [0, 1, 2])) (Can.liftSm (Can.noSm))
theorem sums : Can.RecOkD Tryd.prog [0, 1, 2] sm := Can.orSmD_ok (Can.liftSm_ok (Can.knownSm_ok pc (Can.noSm_ok) tabAt tabPlain knownTrue)) (Can.liftSm_ok (Can.noSm_ok))
theorem known {W : World} (hL : laidMetH Tryd.prog Rows.bitsetElementsRow.laid W) : Can.Known (H0 (Can.tyAt W)) (Can.onG [0, 1, 2]) W := by
  refine Can.known_onG fun g hg => ?_
  simp only [List.mem_cons, List.not_mem_nil, or_false] at hg
  rcases hg with rfl | rfl | rfl
  · exact ⟨tab 0, Can.tyAt W 0, rfl, Can.laid_tab hL (by kernel_rfl) (List.mem_of_getElem? (i := 1) rfl) (by kernel_rfl) (by kernel_rfl) (by decide +kernel), by kernel_rfl⟩
  · exact ⟨tab 1, Can.tyAt W 1, rfl, Can.laid_tab hL (by kernel_rfl) (List.mem_of_getElem? (i := 2) rfl) (by kernel_rfl) (by kernel_rfl) (by decide +kernel), by kernel_rfl⟩
  · exact ⟨tab 2, Can.tyAt W 2, rfl, Can.laid_tab hL (by kernel_rfl) (List.mem_of_getElem? (i := 0) rfl) (by kernel_rfl) (by kernel_rfl) (by decide +kernel), by kernel_rfl⟩
end Go.Proofs.YtjneboajbmabbaaDoor.bitsetElements

namespace Go.Proofs.YtjneboajbmabbaaDoor.ref1
open Go.RowKit Go.Own Go.Rw Go.SetL Go.Bits Go.Tz Go.Shelf Go.Can
set_option maxHeartbeats 1000000
set_option maxRecDepth 100000
attribute [local go_sem] Oper.semAt_some

section
variable {F : Fence} {n : Nat} {P : Program} {ops : Array Oper} {rest : List Oper} {o : Oper} {a : Act} {w : World} {Q : Exit → Act → World → Prop}
theorem wpListIn_value (hro : F.round = none) (hF : ∀ f, F.fn f) (hgd : o.guard = none) {v : Value} {w' : World} (hr : (execOp a.eval o).run P w = .ok (.value v) w')
    (h : wpListIn F n P ops Q rest (a.put o.dst v) w') : wpListIn F n P ops Q (o :: rest) a w := by
  refine wpListIn_plain hgd fun K hK => ⟨fun f _ => hF f, ?_⟩
  rw [hro, Oper.semAt_none, hr]
  exact hK _ _ h
theorem wpListIn_load_block (hro : F.round = none) (hF : ∀ f, F.fn f) (hgd : o.guard = none) (ty : TypeId) (x : Operand) (ho : o.op = .load ty x)
    (g : Nat) (cells : Array Value) (t : TypeId) (d : TypeDesc) (hx : a.eval x = .pointer (some ⟨g, 0, none⟩))
    (hg : blockOf w g = some (.cells cells t (0, 0))) (hu : P.underlying ty = some d) (hd : (match d with | .struct _ | .array _ _ => true | _ => false) = true) (hi : (P.info? ty).map (·.size) = some cells.size)
    (h : wpListIn F n P ops Q rest (a.put o.dst (.agg cells)) w) : wpListIn F n P ops Q (o :: rest) a w := by
  refine wpListIn_value hro hF hgd ?_ h
  unfold execOp
  simp only [ho, hx, Instr.loadAt, Instr.sureAddr, Sem.run_bind, Sem.run_pure, Result.andThen_ok, run_loadVar_row w g t ty cells (0, 0) d hg hu hd hi]
theorem wpListIn_indexRow (hro : F.round = none) (hF : ∀ f, F.fn f) (hgd : o.guard = none) {t e : TypeId} {m : Nat} (x y : Operand) (ho : o.op = .index t x y)
    (hu : P.underlying t = some (.array m e)) (he : P.underlying e = some (.int .u64)) (hi : (P.info? e).map (·.size) = some 1)
    {cs : Array Value} {k : Nat} {v : Value} (hk : k < m) (hc : cs[k]? = some v) (ex : a.eval x = .agg cs) (ey : a.eval y = .int .i64 k)
    (h : wpListIn F n P ops Q rest (a.put o.dst v) w) : wpListIn F n P ops Q (o :: rest) a w := by
  obtain ⟨i, hi', hs⟩ : ∃ i, P.info? e = some i ∧ i.size = 1 := by
    cases h : P.info? e with
    | none => rw [h] at hi; cases hi
    | some i => rw [h] at hi; exact ⟨i, rfl, by simpa using hi⟩
  have key : dry P (Instr.index t (.agg cs) (.int .i64 k)) = some v := by
    unfold Instr.index
    rw [dry_bind, show dry P (asIntOf (.int .i64 (k : Int))) = some (IntKind.i64, (k : Int)) from rfl]
    simp only [Option.bind_some, dry_bind, dry_underlying, hu]
    rw [if_pos ⟨Int.natCast_nonneg k, Int.ofNat_lt.2 hk⟩]
    simp only [dry_bind, dry_sizeOf hi', hs, Option.bind_some, Int.toNat_natCast, Nat.mul_one]
    exact dry_part he hc
  refine wpListIn_value hro hF hgd ?_ h
  unfold execOp
  simp only [ho, ex, ey]
  rw [Sem.run_bind, dry_run _ key w]
  rfl
end
theorem TzW.belowN {W w : World} {m : Nat} (h : TzW W) (hm : 0 < m) (hb : Below m W w) : TzW w := fun t ht => (hb.cell (p := ⟨0, dB t / 288230376151711744, none⟩) hm).trans (h t ht)
theorem pred_word (y : W) (h : y ≠ 0#64) : bits BinOp.and IntKind.u64 (toI y) (IntKind.u64.wrap (toI y - 1)) = toI (y &&& (y - 1#64)) := by
  have e : IntKind.u64.wrap (toI y - 1) = toI (y - 1#64) := by
    show (toI y - 1) % 18446744073709551616 = _
    unfold toI
    rw [BitVec.toNat_sub, show (1#64 : BitVec 64).toNat = 1 from rfl]
    have h0 : y.toNat ≠ 0 := fun h1 => h (BitVec.eq_of_toNat_eq h1)
    have := y.isLt
    generalize y.toNat = m at this h0 ⊢
    have e : (2 : Nat) ^ 64 = 18446744073709551616 := rfl
    rw [e] at this ⊢
    omega
  rw [e]
  exact andI_eq _ _

theorem pred_word' (y : W) (h : y ≠ 0#64) : bits BinOp.and IntKind.u64 (toI y) (toI y - 1) = toI (y &&& (y - 1#64)) := by
  have h0 : 0 < toI y := by
    rcases Int.lt_or_eq_of_le (toI_nonneg y) with h1 | h1
    · exact h1
    · exact absurd (toI_inj.1 (h1.symm.trans (show (0 : Int) = toI 0#64 from rfl))) h
  have := toI_lt y
  rw [← pred_word y h, show IntKind.u64.wrap (toI y - 1) = toI y - 1 from by show (toI y - 1) % 18446744073709551616 = _; omega]
theorem pred_lt (y : W) (h : y ≠ 0#64) : (y &&& (y - 1#64)).toNat < y.toNat := by
  rw [BitVec.toNat_and]
  refine Nat.lt_of_le_of_lt Nat.and_le_right ?_
  rw [BitVec.toNat_sub, show (1#64 : BitVec 64).toNat = 1 from rfl]
  have h0 : y.toNat ≠ 0 := fun h1 => h (BitVec.eq_of_toNat_eq h1)
  have := y.isLt
  generalize y.toNat = m at this h0 ⊢
  have e : (2 : Nat) ^ 64 = 18446744073709551616 := rfl
  rw [e] at this ⊢
  omega
theorem all1_in (n : Nat) (l Bn n₀ : Nat) {xs : List W} (hx : xs.length = 16) (hn₀ : 0 < n₀) (J Jx : List Int → World → Prop)
    (hY : ∀ pre x w, J pre w → pre.length < 1025 → YieldAt Fence.wide (n - 1) Tryd.prog l #[.int .i64 x] w fun e w' =>
      (e = .returned (.bool true) ∧ J (pre ++ [x]) w' ∧ Below n₀ w w') ∨ (e = .returned (.bool false) ∧ Jx (pre ++ [x]) w'))
    (w0 : World) {T : TypeId} (hBn : blockOf w0 Bn = some (.cells (rowW xs) T (0, 0))) (hT : TzW w0) (h0 : J [] w0) :
    CallsIn Fence.wide n Tryd.prog 57 #[.func (.yield l) #[] #[], .pointer (some ⟨Bn, 0, none⟩)] w0 fun e w' => (∃ v, e = .returned v) ∧
      ((∃ ys, ys = elems xs ∧ J ys w') ∨ (∃ pre, pre <+: elems xs ∧ Jx pre w')) := by
  have HA := Lib.hid (fun (k : Nat) (h : k < 16) => rowW_at (xs := xs) (k := k) (by rw [hx]; omega))
  have HZ := Lib.hid (show (rowW xs).size = 16 by rw [rowW_size, hx])
  have HT := Lib.hid hT; clear hT
  have HY := Lib.hid hY; clear hY
  have HE : elems xs = ofN (bitAt xs) (64 * 16) := rfl
  rw [HE]
  refine callsIn_of_wp Tryd.func57 rfl trivial ?_ rfl
  simp only [Tryd.ntmps57, List.size_toArray, List.length_cons, List.length_nil, Nat.reduceAdd, Nat.reduceSub, Array.replicate_succ, Array.replicate_zero, List.push_toArray, List.append_toArray, List.nil_append, List.cons_append]
  gi_wp2_with (refine wpListIn_load_block rfl (fun _ => trivial) rfl 25 (.tmp 1) rfl Bn (rowW xs) T _ rfl hBn Tryd.underlying25 rfl (by rw [HZ.out]; exact sInfo) ?_)
  gi_loopw [6] (fun i wr => ∃ k : Nat, k ≤ 16 ∧ i = .int .i64 k ∧ Hid (J (ofN (bitAt xs) (64 * k)) wr) ∧ Hid (Below n₀ w0 wr)) (fun i _ => 16 - (intOf i).toNat)
  case atStart => exact ⟨0, Nat.zero_le _, rfl, Lib.hid h0, Lib.hid (Below.refl _ _)⟩
  case round =>
    obtain ⟨k, hk, rfl, HJ, HB⟩ := hrel
    by_cases hlt : k < 16
    · have ha := HA.out k hlt
      obtain ⟨x, hxk⟩ : ∃ x, x = xs.getD k 0 := ⟨_, rfl⟩
      rw [← hxk] at ha
      have HA2 := Lib.hid ha; clear ha
      have HX := Lib.hid hxk; clear hxk
      gi_wp2_with (refine wpListIn_indexRow rfl (fun _ => trivial) rfl (.tmp 5) (.tmp 6) rfl sU wU wI hlt HA2.out rfl rfl ?_)
      gi_loopw [4] (fun v wr => ∃ (y : W) (p : Nat), v = .int .u64 (toI y) ∧ p ≤ 64 ∧ Hid (Cut x p y) ∧ Hid (J (ofN (bitAt xs) (64 * k + p)) wr) ∧ Hid (Below n₀ w0 wr)) (fun v _ => (intOf v).toNat)
      case atStart => exact ⟨_, 0, rfl, by omega, Lib.hid (cut_start _), Lib.hid HJ.out, Lib.hid HB.out⟩
      case round =>
        rename_i wr0 _ _ _ _
        clear HJ HB
        obtain ⟨y, p, rfl, hp, HC, HJ, HB⟩ := hrel
        by_cases hy : y = 0#64
        · subst hy
          have e0 : toI 0#64 = 0 := rfl
          rw [e0]
          have HN := Lib.hid (come_end (xs := xs) (j := k) hp (HX.out ▸ HC.out))
          gi_wp2
          go_roundw
          case rel => exact ⟨k + 1, by omega, by go_num, Lib.hid (by rw [← HN.out]; exact HJ.out), HB⟩
          case measure => simp [intOf]; omega
        · obtain ⟨t, ht⟩ := low_of hy
          have htz := Lib.hid (tz_calls ht)
          have ht0 := ht.1
          have HN := Lib.hid (come_yes (xs := xs) (j := k) (HX.out ▸ HC.out) ht)
          have HC2 := Lib.hid (cut_step HC.out ht)
          have hlen := ofN_len (bitAt xs) (64 * k + p)
          obtain ⟨fn, tmps, assign, body, hyy, hR⟩ := HY.out _ (64 * (k : Int) + (t : Int)) _ HJ.out (by omega)
          have HP := Lib.hid (pred_word y hy)
          have HP' := Lib.hid (pred_word' y hy)
          have HL := Lib.hid (pred_lt y hy)
          have hu0 : 0 < toI y := by
            rcases Int.lt_or_eq_of_le (toI_nonneg y) with h1 | h1
            · exact h1
            · exact absurd (toI_inj.1 (h1.symm.trans (show (0 : Int) = toI 0#64 from rfl))) hy
          have hu1 := toI_lt y
          have HYE := Lib.hid (show ∃ u, u = toI y from ⟨_, rfl⟩)
          obtain ⟨u, hu⟩ := HYE.out
          rw [← hu] at hu0 hu1 htz ⊢
          have HU := Lib.hid hu; clear hu HYE
          clear ht hy
          gi_wp2_with (refine ⟨trivial, (fun h => by cases h), ?_⟩; refine (callsIn_wide.2 (htz.out _ (HT.out.belowN hn₀ HB.out))).mono ?_; rintro e w1 ⟨rfl, rfl⟩)
          refine ⟨(fun h => by cases h), hR.mono ?_⟩
          have e1 : ofN (bitAt xs) (64 * k + p) ++ [64 * (k : Int) + (t : Int)] = ofN (bitAt xs) (64 * k + (t + 1)) := by rw [← HN.out]; simp
          rw [e1]
          clear e1
          rintro e W3 (⟨rfl, hJ3, hk3⟩ | ⟨rfl, hJx3⟩)
          · have HJ3 := Lib.hid hJ3
            have HB3 := Lib.hid (HB.out.trans hk3)
            clear hJ3 hk3
            gi_wp2
            go_roundw
            case rel => exact ⟨_, t + 1, by rw [← HP'.out, ← HU.out], by omega, HC2, HJ3, HB3⟩
            case measure =>
              have h := HL.out
              rw [HU.out, HP'.out]
              show (toI _).toNat < (toI _).toNat
              unfold toI
              rw [Int.toNat_natCast, Int.toNat_natCast]
              exact h
          · gi_wp2
            refine bodyPost_ret (results_none rfl _ _ _) rfl ?_
            exact ⟨⟨_, rfl⟩, .inr ⟨_, ofN_pre _ (by omega), hJx3⟩⟩
    · obtain rfl : k = 16 := by omega
      gi_wp2
      go_end0
      exact ⟨⟨_, rfl⟩, .inl ⟨_, rfl, HJ.out⟩⟩
/-- the iterator's contract -/
theorem all_stops (n : Nat) (Bn n₀ : Nat) {xs : List W} (hx : xs.length = 16) (hn₀ : 0 < n₀) (w : World) {T : TypeId} (hB : Bn < w.heap.size) (h0 : 0 < w.heap.size) (hBn : blockOf w Bn = some (.cells (rowW xs) T (0, 0))) (hT : TzW w) :
    SeqStopsK Fence.wide n Tryd.prog 57 #[.pointer (some ⟨Bn, 0, none⟩)] (fun x : Int => #[Value.int .i64 x]) (Below n₀) (fun ys => ys = elems xs) (fun pre => pre <+: elems xs) 1025 w := fun l J Jx W hW _ _ hY h0' =>
  all1_in n l Bn n₀ hx hn₀ J Jx hY W ((hW.block Bn hB).trans hBn) (hT.belowN h0 hW) h0'
end Go.Proofs.YtjneboajbmabbaaDoor.ref1

namespace Go.Proofs.YtjneboajbmabbaaDoor.ref1
open Go.RowKit Go.Own Go.Rw Go.SetL Go.Bits Go.Tz Go.Shelf
set_option maxHeartbeats 1000000
set_option maxRecDepth 100000
attribute [local go_sem] Oper.semAt_some

theorem all_calls (xs : List W) (hx : xs.length = 16) (w : World) : Calls Tryd.prog 38 #[.agg (rowW xs)] w fun e w' => e = .returned (.func (.func 57) #[] #[.pointer (some ⟨w.heap.size, 0, none⟩)]) ∧ w' = w.alloc (.cells (rowW xs) 25) := by
  go_enter Tryd.func38, Tryd.ntmps38
  go_wp2
  go_ret
  exact ⟨rfl, rfl⟩
theorem infoInt : (Tryd.prog.info? 3).map (fun i => (i.zero, i.size, i.bytes)) = some (some (.int .i64 0), 1, 8) := by kernel_rfl

theorem wpListIn_make0 {F : Fence} {n : Nat} {P : Program} {ops : Array Oper} {rest : List Oper} {o : Oper} {a : Act} {w : World} {Q : Exit → Act → World → Prop} (hro : F.round = none) (hF : ∀ f, F.fn f) (hgd : o.guard = none)
    (t e : TypeId) (x : Operand) (ho : o.op = .makeSlice t (.const (.int .i64 0)) x) {c : Nat} (hx : a.eval x = .int .i64 c) (hc : c ≤ 1024)
    (i : TypeInfo) (z : Value) (hu : P.underlying t = some (.slice e)) (hi : P.info? e = some i) (hz : i.zero = some z) (hs : i.size = 1) (hb : i.bytes = 8)
    (h : wpListIn F n P ops Q rest (a.put o.dst (.slice (some ⟨w.heap.size, 0, none⟩) 0 c)) (w.alloc (.cells (madeCells z.cells c) e))) : wpListIn F n P ops Q (o :: rest) a w := by
  have hr := run_makeSlice (P := P) w t e i z hu hi hz .i64 .i64 0 c (Int.le_refl _) (by omega) (by rw [hs]; simp; omega) (by rw [hb]; omega) (by omega)
  rw [hs, Int.toNat_natCast, Nat.mul_one] at hr
  refine wpListIn_value hro hF hgd ?_ h
  unfold execOp
  simp only [ho, hx, BigFrame.eval_const]
  rw [Sem.run_bind, hr]
  rfl
theorem own_lower {w : World} {B B' : Nat} {T : TypeId} {v : Value} {n : Nat} {l : List Value} (h : B' ≤ B) (ho : w.ownsRow B T 1 v n l) : w.ownsRow B' T 1 v n l :=
  ⟨ho.1, ho.2.imp id fun ⟨g, cap, cur, e, hb, r⟩ => ⟨g, cap, cur, e, Nat.le_trans h hb, r⟩⟩
theorem elements_in (n : Nat) (hn : 3 ≤ n) {xs : List W} (hx : xs.length = 16) (w : World) (hT : TzW w) (h0 : 0 < w.heap.size) :
    CallsIn Fence.wide n Tryd.prog 37 #[.agg (rowW xs)] w fun e w' => ∃ v, e = .returned v ∧ Go.Rw.Own w' w.heap.size 3 v (elems xs) ∧ Below w.heap.size w w' := by
  have HZ := Lib.hid (show (rowW xs).size = 16 by rw [rowW_size, hx])
  have HT := Lib.hid hT; clear hT
  have HLn := Lib.hid (len_at hx)
  have HAl := Lib.hid (all_calls xs hx)
  have hlen' : (elems xs).length ≤ 1024 := ofN_len (bitAt xs) 1024
  obtain ⟨i0, hi, hz0, hz1, hz2⟩ := info_parts infoInt
  refine callsIn_of_wp_marks Tryd.func37 rfl trivial ?_ rfl
  simp only [Tryd.ntmps37, List.size_toArray, List.length_cons, List.length_nil, Nat.reduceAdd, Nat.reduceSub, Array.replicate_succ, Array.replicate_zero, List.push_toArray, List.append_toArray, List.nil_append, List.cons_append]
  gi_wp2_with (refine wpListIn_load_block rfl (fun _ => trivial) rfl 25 (.tmp 1) rfl w.heap.size (rowW xs) 25 _ rfl (by simp [go_sem]) Tryd.underlying25 rfl (by rw [HZ.out]; exact sInfo) ?_)
  refine ⟨trivial, (fun h => by cases h), ?_⟩
  refine (callsIn_wide.2 (HLn.out _)).mono ?_
  rintro e w1 ⟨rfl, hw1⟩
  have hb1 : blockOf w1 w.heap.size = some (.cells (rowW xs) 25 (0, 0)) := by obtain ⟨y, rfl⟩ := hw1; simp [go_sem]
  have hB1 : Below w.heap.size w w1 := by obtain ⟨y, rfl⟩ := hw1; exact (by repeat (first | assumption | exact Below.refl _ _ | exact below_beyond _ _ | refine Below.beyond ?_ (by (try simp [size_beyond]) <;> omega) _ | refine Below.drew ?_ | refine Go.Rw.below_drewN ?_ _ | refine Go.Rw.below_setRow ?_ (by (try simp [size_beyond]) <;> omega) _ | refine Below.alloc ?_ (by (try simp [size_beyond]) <;> omega) _ | refine Below.setCell ?_ (by (try simp [size_beyond]) <;> omega) _))
  have hs1 : w.heap.size + 1 ≤ w1.heap.size := by obtain ⟨y, rfl⟩ := hw1; rw [size_beyond, World.size_alloc]; omega
  clear hw1
  have HB1 := Lib.hid hB1
  have HS1 := Lib.hid hs1
  clear hB1
  gi_wp2_with (first
    | (refine wpListIn_make0 rfl (fun _ => trivial) rfl 22 3 (.tmp 6) rfl rfl hlen' i0 (.int .i64 0) Tryd.underlying22 hi hz0 hz1 hz2 ?_)
    | (refine wpListIn_load_block rfl (fun _ => trivial) rfl 25 (.tmp 1) rfl w.heap.size (rowW xs) 25 _ rfl (((((Below.refl (w.heap.size + 1) w1).alloc HS1.out _).alloc (by rw [World.size_alloc]; have := HS1.out; omega) _).block w.heap.size (by omega)).trans hb1) Tryd.underlying25 rfl (by rw [HZ.out]; exact sInfo) ?_))
  refine ⟨trivial, (fun h => by cases h), ?_⟩
  refine (callsIn_wide.2 (HAl.out _)).mono ?_
  rintro e w2 ⟨rfl, rfl⟩
  gi_wp2
  have hm : (elems xs).length ≤ maxLen := by unfold maxLen; omega
  have hrow0 : (w1.alloc (.cells (madeCells #[.int .i64 0] (elems xs).length) 3)).ownsRow w1.heap.size 3 1 (.slice (some ⟨w1.heap.size, 0, none⟩) 0 (elems xs).length) 0 [] := World.ownsRow_made w1 _ _ (Nat.le_refl _) hm (by rw [Nat.mul_one]; exact size_madeCells _ _)
  have bO := Boxed.new (w1.alloc (.cells (madeCells #[.int .i64 0] (elems xs).length) 3)) 22 (.slice (some ⟨w1.heap.size, 0, none⟩) 0 (elems xs).length)
  rw [World.size_alloc] at bO
  have hB0 : Below w1.heap.size w1 (((w1.alloc (.cells (madeCells #[.int .i64 0] (elems xs).length) 3)).alloc (.cells #[.slice (some ⟨w1.heap.size, 0, none⟩) 0 (elems xs).length] 22)).alloc (.cells (rowW xs) 25)) :=
    (((Below.refl _ w1).alloc (Nat.le_refl _) _).alloc (by simp) _).alloc (by simp; omega) _
  have hTc := HT.out.belowN h0 (HB1.out.trans (hB0.mono (by omega)))
  refine wpIn_rangeFunc_ownG rfl (by omega) (gf := 57) (lb := #[.pointer (some ⟨w1.heap.size + 1 + 1, 0, none⟩)]) rfl trivial (enters_of Tryd.func57 (by kernel_rfl) rfl)
    (all_stops (n - 1) (w1.heap.size + 1 + 1) w1.heap.size hx (by omega) _ (T := 25) (by simp) (by simp) (by simp [go_sem]) hTc) belowK_t (belowK_b (by simp; omega)) (Below.refl _ _) (fun _ => rfl)
    (fun pre W => (∃ v, Boxed W (w1.heap.size + 1) 22 v ∧ W.ownsRow w1.heap.size 3 1 v pre.length (pre.map (Value.int .i64)) ∧ True) ∧ Below w1.heap.size w1 W)
    (fun _ _ _ => False)
    (OwnFrom.and (Own.from (holdsRow_own w1.heap.size (w1.heap.size + 1) 22 3 1 (fun pre : List Int => pre.length) (fun pre => pre.map (Value.int .i64)) (fun _ _ => True)) _) (ownFrom_below (Nat.le_refl _) (by simp; omega)))
    (fun _ _ _ _ _ hs _ _ => hs)
    ⟨⟨_, bO.alloc _, (hrow0.alloc _).alloc _, trivial⟩, hB0⟩
    (fun x => { tmps := #[.agg (rowW xs), .pointer (some ⟨w.heap.size, 0, none⟩), .slice none 0 0, .pointer (some ⟨w1.heap.size + 1, 0, none⟩), .int .i64 x, .agg (rowW xs), .int .i64 ((elems xs).length : Nat), .slice (some ⟨w1.heap.size, 0, none⟩) 0 (elems xs).length, .agg (rowW xs), .func (.func 57) #[] #[.pointer (some ⟨w1.heap.size + 1 + 1, 0, none⟩)], .int .i64 x, undef, undef, undef, undef, undef], defers := [] }) ?assign ?body ?done ?stop
  case assign =>
    intro l x W K hK
    gi_wp2
    exact hK
  case body =>
    rintro l pre x W ⟨⟨v, hv, hrow, -⟩, hB⟩ hlt
    have hc := hv.cell
    gi_wp2_with (gi_at_builtin; refine wpListIn_append_own _ rfl _ _ 22 rfl w1.heap.size 3 i0 (.int .i64 0) 1 8 Tryd.underlying22 hi hz0 hz1 hz2 rfl (by decide) _ _ _ rfl (hrow.alloc _) ⟨W.heap.size, 0, none⟩ 1 1 [.int .i64 x] rfl rfl (cell_one_new _ _ _) (by simp [Value.oneCell']) (by unfold maxLen; omega) (by omega) (by have := hB.size; simp; omega) ?_; intro v' w2 hown' hgrow _; obtain ⟨g', cap', rfl⟩ := ownsRow_succ hown'; obtain ⟨hv1, hv2, hr2, hk2, hb2⟩ := hv.appended (by decide) hrow hB.size (by omega) hown' hgrow; have hc1 := hv1.cell; have hf1 := hv1.frozen)
    exact ⟨hk2.from _, hb2, ⟨_, hv2, by simpa using hr2, trivial⟩, hB.trans hb2⟩
  case done =>
    rintro D ys W hD rfl ⟨⟨v, hv, hrow, -⟩, hB⟩ hK
    have hc := hv.cell
    gi_wp2
    refine ⟨by simp, .inl ⟨_, _, rfl, run_takeDeferred hK, ?_⟩⟩
    exact ⟨_, results_tmp rfl _ _ _, v, rfl, own_lower (by omega) (ownsRow_putObj hrow _ hK rfl), HB1.out.trans ((hB.trans (belowK_b (w := w1) (Nat.le_refl _) W D _ _ (by simp at hD; omega) hK rfl rfl)).mono (by omega))⟩
  case stop =>
    rintro D c pre W _ _ h _
    exact h.elim
/-- the elements, as a slice of the call's own -/
theorem elements_calls {xs : List W} (hx : xs.length = 16) (w : World) (hT : TzW w) (h0 : 0 < w.heap.size) :
    Calls Tryd.prog 37 #[.agg (rowW xs)] w fun e w' => ∃ v, e = .returned v ∧ Go.Rw.Own w' w.heap.size 3 v (elems xs) ∧ Below w.heap.size w w' :=
  callsIn_wide.1 (elements_in 3 (by omega) hx w hT h0)
end Go.Proofs.YtjneboajbmabbaaDoor.ref1

namespace Go.Proofs.YtjneboajbmabbaaDoor.ref1
open Go.RowKit Go.Rw Go.SetL Go.Bits Go.Tz Go.Shelf Go.Own
set_option maxHeartbeats 1000000
set_option maxRecDepth 100000
attribute [local go_sem] Oper.semAt_some
attribute [local irreducible] beyond grow over

theorem elements_at {xs : List W} (hx : xs.length = 16) (w : World) (hT : TzW w) (h0 : 0 < w.heap.size) :
    Calls Tryd.prog 37 #[.agg (rowW xs)] w (Ret w (elems xs)) :=
  (elements_calls hx w hT h0).mono fun e w' ⟨v, e1, h1, h2⟩ => by subst e1; exact gives_ret (elems_len xs) (h1.gives h2)

/-- one cell is loaded, in a region that draws its order -/
theorem wpQuiet_load_cell {P : Program} {ops : Array Oper} {C : World → Prop} {Q : Act → Prop} {a : Act} {o : Oper} {rest : List Oper} (hw : Region.wanted o (yielded ops a.tmps) = true) (ty : TypeId) (x : Operand) (ho : o.op = .load ty x)
    (p : Addr) (v : Value) (e : TypeId) (hx : a.eval x = .pointer (some p)) (hc : ∀ w, C w → w.cell? p = some v) (hu : P.underlying ty = some (.slice e))
    (hk : wpQuiet P ops C Q rest (a.put o.dst v)) : wpQuiet P ops C Q (o :: rest) a :=
  BigFrame.wpQuiet_want hw fun K hK => ⟨_, fun w hC => by
    have hagg : (isAgg ty).run P w = .ok false w := by
      unfold isAgg
      rw [Sem.run_bind, run_underlying hu w]
      rfl
    have hl : (loadVar ty p).run P w = .ok v w := by simp [loadVar, Sem.run_bind, hagg, run_load, hc w hC]
    unfold Oper.quietAt execOp
    simp only [ho, hx, Instr.loadAt, Instr.sureAddr, Sem.run_bind, Sem.run_pure, Result.andThen_ok, hl]
    exact ⟨rfl, rfl⟩, hK _ hk⟩
/-- a result that lies in a box -/
theorem results_box {P : Program} {fn : Func} {p : Tmp} {ty : TypeId} (h : fn.results = #[.cell p ty]) (tmps : Array Value) (w : World) (g : Nat) (t : TypeId) (v : Value)
    (hp : tmps.getD p undef = .pointer (some ⟨g, 0, none⟩)) (hg : Boxed w g t v) (hu : P.underlying ty = some .bool) : (results fn tmps).run P w = .ok v w := by
  have hagg : (isAgg ty).run P w = .ok false w := by
    unfold isAgg
    rw [Sem.run_bind, run_underlying hu w]
    rfl
  have hl : (loadVar ty ⟨g, 0, none⟩).run P w = .ok v w := by simp [loadVar, Sem.run_bind, hagg, run_load, hg.cell]
  have hp' : tmps[p]?.getD undef = .pointer (some ⟨g, 0, none⟩) := by simpa using hp
  simp [results, h, hp', asAddr, hl]
theorem wp_only {P : Program} {c : Code} {Q : Exit → Act → World → Prop} {a : Act} {w : World} (h : c.wp P (fun e a w => e = .normal ∧ Q .normal a w) a w) : c.wp P Q a w :=
  Code.wp_mono (fun e a w h => by obtain ⟨rfl, h⟩ := h; exact h) h
theorem pre_snoc {pre E : List Int} {u : Int} (h : pre <+: E) (hu : E[pre.length]? = some u) : pre ++ [u] <+: E := by
  obtain ⟨t, rfl⟩ := h
  cases t with
  | nil => simp at hu
  | cons y t => simp at hu; subst hu; exact ⟨t, by simp⟩
theorem pre_at {pre E : List Int} {x : Int} (h : pre ++ [x] <+: E) : E[pre.length]? = some x := by
  obtain ⟨t, rfl⟩ := h
  simp
theorem elem_main {W0 : World} {xs : List W} (hx : xs.length = 16) (s : Int) (hs : 0 ≤ s ∧ s ≤ 255) (hK : ∀ X, Below W0.heap.size W0 X → Calls Tryd.prog 24 #[] X fun e w' => e = .returned (.bool true) ∧ ∃ y, w' = beyond X y)
    (hT : TzW W0) (h0 : 0 < W0.heap.size) :
    Calls Tryd.prog 5 #[.agg (rowW xs), .int .u8 s] W0 fun e w' => e = .returned (.bool true) ∧ ∃ x, w' = beyond W0 x := by
  have HX := Lib.hid hx; clear hx
  have KK := Lib.hid hK; clear hK
  have TZ := Lib.hid hT; clear hT
  have HZ := Lib.hid (show (rowW xs).size = 16 by rw [rowW_size, HX.out])
  have HAl := Lib.hid (all_calls xs HX.out)
  have K1 : BlkAt W0.heap.size (rowW xs) 25 (((W0.alloc (.cells (rowW xs) 25)).alloc (.cells #[.int .u8 s] 5)).alloc (.cells #[.bool false] 4)) := ⟨by simp [go_sem, inW]⟩
  refine callsIn_wide.1 (callsIn_of_wp_marks (n := 5) Tryd.func5 rfl trivial ?_ rfl)
  simp only [Tryd.ntmps5, List.size_toArray, List.length_cons, List.length_nil, Nat.reduceAdd, Nat.reduceSub, Array.replicate_succ, Array.replicate_zero, List.push_toArray, List.append_toArray, List.nil_append, List.cons_append]
  refine wpIn_wide.2 ?_
  go_wp2_with (refine wpList_load_any (by kernel_rfl) 25 (.tmp 2) rfl _ (rowW xs) 25 _ rfl (BlkAt.all (by first | (with_reducible assumption) | (refine BlkAt.below (by with_reducible assumption) ?_; exact (by repeat (first | assumption | exact Below.refl _ _ | exact below_beyond _ _ | refine Below.beyond ?_ (by (try simp [size_beyond]) <;> omega) _ | refine Below.drew ?_ | refine Go.Rw.below_drewN ?_ _ | refine Go.Rw.below_setRow ?_ (by (try simp [size_beyond]) <;> omega) _ | refine Below.alloc ?_ (by (try simp [size_beyond]) <;> omega) _ | refine Below.setCell ?_ (by (try simp [size_beyond]) <;> omega) _))))) Tryd.underlying25 rfl (by rw [HZ.out]; exact sInfo) ?_)
  go_at_call 18
  refine (to_at HX.out _).mono ?_
  rintro e w1 ⟨q1, m1, c1, y1, rfl, hw1, H1⟩
  obtain rfl : m1 = (elems xs).length := H1.all.1
  have K2 : BlkAt W0.heap.size (rowW xs) 25 w1 := by subst hw1; exact BlkAt.below K1 (below_beyond _ _)
  have B1 : Below W0.heap.size W0 w1 := by subst hw1; exact (by repeat (first | assumption | exact Below.refl _ _ | exact below_beyond _ _ | refine Below.beyond ?_ (by (try simp [size_beyond]) <;> omega) _ | refine Below.drew ?_ | refine Go.Rw.below_drewN ?_ _ | refine Go.Rw.below_setRow ?_ (by (try simp [size_beyond]) <;> omega) _ | refine Below.alloc ?_ (by (try simp [size_beyond]) <;> omega) _ | refine Below.setCell ?_ (by (try simp [size_beyond]) <;> omega) _))
  have hs1 : W0.heap.size + 3 ≤ w1.heap.size := by subst hw1; rw [size_beyond]; simp [World.size_alloc]
  have S1 : blockOf w1 (W0.heap.size + 1) = some (.cells #[.int .u8 s] 5 (0, 0)) := by subst hw1; simp [go_sem, inW]
  have R1 : blockOf w1 (W0.heap.size + 2) = some (.cells #[.bool false] 4 (0, 0)) := by subst hw1; simp [go_sem, inW]
  clear hw1 K1
  go_wp2
  have HW : ∃ Wa, Wa = w1.alloc (.cells #[.slice q1 (elems xs).length c1] 27) := ⟨_, rfl⟩
  obtain ⟨Wa, HWa⟩ := HW
  have K3 : BlkAt W0.heap.size (rowW xs) 25 Wa := by subst HWa; exact K2.below (by repeat (first | assumption | exact Below.refl _ _ | exact below_beyond _ _ | refine Below.beyond ?_ (by (try simp [size_beyond]) <;> omega) _ | refine Below.drew ?_ | refine Go.Rw.below_drewN ?_ _ | refine Go.Rw.below_setRow ?_ (by (try simp [size_beyond]) <;> omega) _ | refine Below.alloc ?_ (by (try simp [size_beyond]) <;> omega) _ | refine Below.setCell ?_ (by (try simp [size_beyond]) <;> omega) _))
  have H3 : IsAt q1 (elems xs).length c1 (elems xs) Wa := by subst HWa; exact H1.below (by repeat (first | assumption | exact Below.refl _ _ | exact below_beyond _ _ | refine Below.beyond ?_ (by (try simp [size_beyond]) <;> omega) _ | refine Below.drew ?_ | refine Go.Rw.below_drewN ?_ _ | refine Go.Rw.below_setRow ?_ (by (try simp [size_beyond]) <;> omega) _ | refine Below.alloc ?_ (by (try simp [size_beyond]) <;> omega) _ | refine Below.setCell ?_ (by (try simp [size_beyond]) <;> omega) _))
  have V3 : blockOf Wa w1.heap.size = some (.cells #[.slice q1 (elems xs).length c1] 27 (0, 0)) := by subst HWa; simp [go_sem, inW]
  have B3 : Below W0.heap.size W0 Wa := by subst HWa; exact B1.trans (by repeat (first | assumption | exact Below.refl _ _ | exact below_beyond _ _ | refine Below.beyond ?_ (by (try simp [size_beyond]) <;> omega) _ | refine Below.drew ?_ | refine Go.Rw.below_drewN ?_ _ | refine Go.Rw.below_setRow ?_ (by (try simp [size_beyond]) <;> omega) _ | refine Below.alloc ?_ (by (try simp [size_beyond]) <;> omega) _ | refine Below.setCell ?_ (by (try simp [size_beyond]) <;> omega) _))
  have hs3 : Wa.heap.size = w1.heap.size + 1 := by subst HWa; rw [World.size_alloc]
  have S3 : blockOf Wa (W0.heap.size + 1) = some (.cells #[.int .u8 s] 5 (0, 0)) := by subst HWa; exact (((Below.refl _ w1).alloc (Nat.le_refl _) _).block (W0.heap.size + 1) (by omega)).trans S1
  have R3 : blockOf Wa (W0.heap.size + 2) = some (.cells #[.bool false] 4 (0, 0)) := by subst HWa; exact (((Below.refl _ w1).alloc (Nat.le_refl _) _).block (W0.heap.size + 2) (by omega)).trans R1
  have T3 := Lib.hid (TZ.out.belowN h0 B3)
  rw [← HWa]
  clear HWa
  refine wp_only ?_
  refine wp_region_plan (fun w' => ∃ x, w' = beyond Wa x) [([0, 2], 1), ([], 3), ([4, 5, 6, 9, 10], 7)] [8, 11, 12] (by kernel_rfl) (by kernel_rfl) (by rintro c a d v w ⟨h, _⟩; cases h) (beyond_of (by repeat (first | assumption | exact Below.refl _ _ | exact below_beyond _ _ | refine Below.beyond ?_ (by (try simp [size_beyond]) <;> omega) _ | refine Below.drew ?_ | refine Go.Rw.below_drewN ?_ _ | refine Go.Rw.below_setRow ?_ (by (try simp [size_beyond]) <;> omega) _ | refine Below.alloc ?_ (by (try simp [size_beyond]) <;> omega) _ | refine Below.setCell ?_ (by (try simp [size_beyond]) <;> omega) _))) ?_
  simp only [wpSegs, pick, List.filterMap, List.size_toArray, List.getElem?_toArray, List.getElem?_cons_zero, List.getElem?_cons_succ]
  refine wpQuiet_load_row (by kernel_rfl) 25 (.tmp 2) rfl W0.heap.size (rowW xs) 25 _ rfl (by rintro _ ⟨x, rfl⟩; exact (BlkAt.below K3 (below_beyond _ _)).all) Tryd.underlying25 rfl (by rw [HZ.out]; exact sInfo) ?_
  simp only [Act.put, List.setIfInBounds_toArray, List.set_cons_succ, List.set_cons_zero]
  have VC : ∀ x, (beyond Wa x).cell? ⟨w1.heap.size, 0, none⟩ = some (.slice q1 (elems xs).length c1) := fun x => by
    have := ((below_beyond Wa x).block w1.heap.size (by omega)).trans V3
    simp [World.cell?, this]
  refine wpQuiet_load_cell (by kernel_rfl) 27 (.tmp 5) rfl _ _ _ rfl (by rintro _ ⟨x, rfl⟩; exact VC x) Tryd.underlying27 ?_
  simp only [Act.put, List.setIfInBounds_toArray, List.set_cons_succ, List.set_cons_zero]
  refine wpQuiet_nil ?_
  go_wp2_with (fail)
  go_at_call 37
  (refine (elements_at HX.out _ (T3.out.below (by repeat (first | assumption | exact Below.refl _ _ | exact below_beyond _ _ | refine Below.beyond ?_ (by (try simp [size_beyond]) <;> omega) _ | refine Below.drew ?_ | refine Go.Rw.below_drewN ?_ _ | refine Go.Rw.below_setRow ?_ (by (try simp [size_beyond]) <;> omega) _ | refine Below.alloc ?_ (by (try simp [size_beyond]) <;> omega) _ | refine Below.setCell ?_ (by (try simp [size_beyond]) <;> omega) _))) (by first | omega | (simp; omega) | (rw [size_beyond]; simp; omega))).mono ?_; rintro e w2 ⟨q2, m2, c2, y2, rfl, rfl, H2⟩)
  go_wp2
  refine ⟨beyond_of (by repeat (first | assumption | exact Below.refl _ _ | exact below_beyond _ _ | refine Below.beyond ?_ (by (try simp [size_beyond]) <;> omega) _ | refine Below.drew ?_ | refine Go.Rw.below_drewN ?_ _ | refine Go.Rw.below_setRow ?_ (by (try simp [size_beyond]) <;> omega) _ | refine Below.alloc ?_ (by (try simp [size_beyond]) <;> omega) _ | refine Below.setCell ?_ (by (try simp [size_beyond]) <;> omega) _)), wpQuiet_nil ?_⟩
  go_wp2_with (go_at_call 17; refine (same_at (by first | (with_reducible assumption) | (refine IsAt.below (by with_reducible assumption) ?_; exact (by repeat (first | assumption | exact Below.refl _ _ | exact below_beyond _ _ | refine Below.beyond ?_ (by (try simp [size_beyond]) <;> omega) _ | refine Below.drew ?_ | refine Go.Rw.below_drewN ?_ _ | refine Go.Rw.below_setRow ?_ (by (try simp [size_beyond]) <;> omega) _ | refine Below.alloc ?_ (by (try simp [size_beyond]) <;> omega) _ | refine Below.setCell ?_ (by (try simp [size_beyond]) <;> omega) _)))) (by first | (with_reducible assumption) | (refine IsAt.below (by with_reducible assumption) ?_; exact (by repeat (first | assumption | exact Below.refl _ _ | exact below_beyond _ _ | refine Below.beyond ?_ (by (try simp [size_beyond]) <;> omega) _ | refine Below.drew ?_ | refine Go.Rw.below_drewN ?_ _ | refine Go.Rw.below_setRow ?_ (by (try simp [size_beyond]) <;> omega) _ | refine Below.alloc ?_ (by (try simp [size_beyond]) <;> omega) _ | refine Below.setCell ?_ (by (try simp [size_beyond]) <;> omega) _))))).mono ?_; rintro e w3 ⟨rfl, y3, rfl⟩)
  refine ⟨beyond_of (by repeat (first | assumption | exact Below.refl _ _ | exact below_beyond _ _ | refine Below.beyond ?_ (by (try simp [size_beyond]) <;> omega) _ | refine Below.drew ?_ | refine Go.Rw.below_drewN ?_ _ | refine Go.Rw.below_setRow ?_ (by (try simp [size_beyond]) <;> omega) _ | refine Below.alloc ?_ (by (try simp [size_beyond]) <;> omega) _ | refine Below.setCell ?_ (by (try simp [size_beyond]) <;> omega) _)), ?_⟩
  iterate 2 (go_big_quiet_step (fail))
  refine wpQuiet_load_row (by kernel_rfl) 25 (.tmp 2) rfl W0.heap.size (rowW xs) 25 _ rfl (by rintro _ ⟨x, rfl⟩; exact (BlkAt.below K3 (below_beyond _ _)).all) Tryd.underlying25 rfl (by rw [HZ.out]; exact sInfo) ?_
  simp only [Act.put, List.setIfInBounds_toArray, List.set_cons_succ, List.set_cons_zero]
  refine wpQuiet_load_cell (by kernel_rfl) 27 (.tmp 5) rfl _ _ _ rfl (by rintro _ ⟨x, rfl⟩; exact VC x) Tryd.underlying27 ?_
  simp only [Act.put, List.setIfInBounds_toArray, List.set_cons_succ, List.set_cons_zero]
  repeat (go_big_quiet_step (fail))
  refine wpQuiet_nil ?_
  go_wp2_with (fail)
  go_at_call 37
  refine (elements_at HX.out _ (T3.out.below (by repeat (first | assumption | exact Below.refl _ _ | exact below_beyond _ _ | refine Below.beyond ?_ (by (try simp [size_beyond]) <;> omega) _ | refine Below.drew ?_ | refine Go.Rw.below_drewN ?_ _ | refine Go.Rw.below_setRow ?_ (by (try simp [size_beyond]) <;> omega) _ | refine Below.alloc ?_ (by (try simp [size_beyond]) <;> omega) _ | refine Below.setCell ?_ (by (try simp [size_beyond]) <;> omega) _))) (by first | omega | (simp; omega) | (rw [size_beyond, size_beyond]; simp; omega))).mono ?_
  rintro e w4 ⟨q4, m4, c4, y4, rfl, rfl, H4⟩
  obtain rfl : m4 = (elems xs).length := H4.all.1
  go_wp2
  refine ⟨beyond_of (by repeat (first | assumption | exact Below.refl _ _ | exact below_beyond _ _ | refine Below.beyond ?_ (by (try simp [size_beyond]) <;> omega) _ | refine Below.drew ?_ | refine Go.Rw.below_drewN ?_ _ | refine Go.Rw.below_setRow ?_ (by (try simp [size_beyond]) <;> omega) _ | refine Below.alloc ?_ (by (try simp [size_beyond]) <;> omega) _ | refine Below.setCell ?_ (by (try simp [size_beyond]) <;> omega) _)), ?_⟩
  repeat (go_big_quiet_step (fail))
  refine wpQuiet_nil ?_
  obtain ⟨W2, hW2⟩ : ∃ W2, W2 = beyond (beyond (beyond Wa.drew y2) y3) y4 := ⟨_, rfl⟩
  have HB4 : Below Wa.heap.size Wa W2 := by subst hW2; exact (by repeat (first | assumption | exact Below.refl _ _ | exact below_beyond _ _ | refine Below.beyond ?_ (by (try simp [size_beyond]) <;> omega) _ | refine Below.drew ?_ | refine Go.Rw.below_drewN ?_ _ | refine Go.Rw.below_setRow ?_ (by (try simp [size_beyond]) <;> omega) _ | refine Below.alloc ?_ (by (try simp [size_beyond]) <;> omega) _ | refine Below.setCell ?_ (by (try simp [size_beyond]) <;> omega) _))
  rw [← hW2]
  clear hW2 H2 H4
  have K4 := K3.below HB4
  have A4 := H3.below HB4
  have V4 := (HB4.block w1.heap.size (by omega)).trans V3
  have S4 := (HB4.block (W0.heap.size + 1) (by omega)).trans S3
  have R4 := (HB4.block (W0.heap.size + 2) (by omega)).trans R3
  have B4 : Below W0.heap.size W0 W2 := B3.trans (HB4.mono (by omega))
  have hs4 : w1.heap.size + 1 ≤ W2.heap.size := by have := HB4.size; omega
  clear HB4 K3 H3 V3 S3 R3 VC
  go_wp2_with (fail)
  refine ⟨trivial, ?_⟩
  go_wp2_with (refine wpList_load_any (by kernel_rfl) 25 (.tmp 2) rfl _ (rowW xs) 25 _ rfl (BlkAt.all (by first | (with_reducible assumption) | (refine BlkAt.below (by with_reducible assumption) ?_; exact (by repeat (first | assumption | exact Below.refl _ _ | exact below_beyond _ _ | refine Below.beyond ?_ (by (try simp [size_beyond]) <;> omega) _ | refine Below.drew ?_ | refine Go.Rw.below_drewN ?_ _ | refine Go.Rw.below_setRow ?_ (by (try simp [size_beyond]) <;> omega) _ | refine Below.alloc ?_ (by (try simp [size_beyond]) <;> omega) _ | refine Below.setCell ?_ (by (try simp [size_beyond]) <;> omega) _))))) Tryd.underlying25 rfl (by rw [HZ.out]; exact sInfo) ?_)
  go_at_call 38
  refine (HAl.out _).mono ?_
  rintro e w5 ⟨rfl, rfl⟩
  go_wp2
  have bN := Boxed.new W2 3 (.int .i64 0)
  have hB0 : Below W2.heap.size W2 ((W2.alloc (.cells #[.int .i64 0] 3)).alloc (.cells (rowW xs) 25)) := ((Below.refl _ W2).alloc (Nat.le_refl _) _).alloc (by simp) _
  have hTc := TZ.out.belowN h0 (B4.trans (hB0.mono (by omega)))
  have hlen' : (elems xs).length ≤ 1024 := ofN_len (bitAt xs) 1024
  have HR := Lib.hid A4.all.2.2.2.2
  refine (wpIn_wide (n := 5)).1 ?_
  refine wpIn_rangeFunc_ownG rfl (by omega) (gf := 57) (lb := #[.pointer (some ⟨W2.heap.size + 1, 0, none⟩)]) rfl trivial (enters_of Tryd.func57 (by kernel_rfl) rfl)
    (all_stops 4 (W2.heap.size + 1) W2.heap.size HX.out (by omega) _ (T := 25) (by simp) (by simp) (by simp [go_sem]) hTc) belowK_t (belowK_b (by simp; omega)) (Below.refl _ _) (fun _ => rfl)
    (fun pre W => (Boxed W W2.heap.size 3 (.int .i64 (pre.length : Nat)) ∧ pre <+: elems xs) ∧ Below W2.heap.size W2 W)
    (fun c pre W => match c with
      | .exit k => (Boxed W W2.heap.size 3 (.int .i64 (pre.length : Nat)) ∧ (k = 0 ∧ ((pre.length : Nat) : Int) = s)) ∧ Below W2.heap.size W2 W
      | _ => ¬ pre <+: elems xs)
    (OwnFrom.and (OwnFrom.and (Own.from (boxed_own _ _ (fun pre : List Int => .int .i64 (pre.length : Nat))) _) (ownFrom_pure _ _)) (ownFrom_below (Nat.le_refl _) (by simp; omega)))
    (fun c => by
      cases c
      case exit k => exact OwnFrom.and (OwnFrom.and (Own.from (boxed_own _ _ (fun pre : List Int => .int .i64 (pre.length : Nat))) _) (ownFrom_pure _ _)) (ownFrom_below (Nat.le_refl _) (by simp; omega))
      all_goals exact ownFrom_pure _ _)
    ⟨⟨bN.alloc _, List.nil_prefix⟩, hB0⟩
    (fun x => { tmps := #[.agg (rowW xs), .int .u8 s, .pointer (some ⟨W0.heap.size, 0, none⟩), .pointer (some ⟨W0.heap.size + 1, 0, none⟩), .pointer (some ⟨W0.heap.size + 1 + 1, 0, none⟩), .pointer (some ⟨w1.heap.size, 0, none⟩), .pointer (some ⟨W2.heap.size, 0, none⟩), .int .i64 x, undef, .agg (rowW xs), .slice q1 (elems xs).length c1, .agg (rowW xs), .slice q2 m2 c2, .slice q1 (elems xs).length c1, .bool true, .bool false, .bool false, .agg (rowW xs), .slice q4 (elems xs).length c4, .int .i64 ((elems xs).length : Nat), .slice q1 (elems xs).length c1, .int .i64 ((elems xs).length : Nat), .bool false, .bool false, .agg (rowW xs), .func (.func 57) #[] #[.pointer (some ⟨W2.heap.size + 1, 0, none⟩)], .int .i64 x, undef, undef, undef, undef, undef, undef, undef, undef, undef, undef, undef, undef, undef, undef, undef, undef, undef, undef, undef, undef, undef, undef, undef, undef, undef, undef, undef, undef, undef, undef, undef, undef, undef, undef, undef, undef, undef, undef, undef, undef], defers := [] }) ?assign ?body ?done ?stop
  case assign =>
    intro l x W K hK
    gi_wp2
    exact hK
  case body =>
    rintro l pre x W ⟨⟨hn, hp⟩, hB⟩ hlt
    have hc := hn.cell
    have hf := hn.frozen
    have VC : W.cell? ⟨w1.heap.size, 0, none⟩ = some (.slice q1 (elems xs).length c1) := by
      have := (hB.block w1.heap.size (by omega)).trans V4
      simp [World.cell?, this]
    have SC : W.cell? ⟨W0.heap.size + 1, 0, none⟩ = some (.int .u8 s) := by
      have := (hB.block (W0.heap.size + 1) (by omega)).trans S4
      simp [World.cell?, this]
    have RC : W.cell? ⟨W0.heap.size + 1 + 1, 0, none⟩ = some (.bool false) ∧ W.frozen? ⟨W0.heap.size + 1 + 1, 0, none⟩ = false := by
      have := (hB.block (W0.heap.size + 2) (by omega)).trans R4
      constructor <;> simp [World.cell?, World.frozen?, this]
    obtain ⟨RC1, RC2⟩ := RC
    by_cases h2 : pre.length < (elems xs).length
    · obtain ⟨b, off, u, rfl, hu, hbw, hcu⟩ := HR.out.at (k := pre.length) h2
      have hcu := (hB.cell (p := ⟨b, off + pre.length, none⟩) hbw).trans hcu
      by_cases hxu : x = u
      · by_cases hst : ((pre.length : Nat) : Int) + 1 = s
        · gi_wp2
          have e : (((pre ++ [x]).length : Nat) : Int) = s := by simp; omega
          exact ⟨(KeepsOthers.setCell _ _ _).from _, ⟨by rw [e]; exact hn.set _, rfl, e⟩, hB.setCell (p := ⟨W2.heap.size, 0, none⟩) (Nat.le_refl _) _⟩
        · gi_wp2
          have e : (((pre ++ [x]).length : Nat) : Int) = (pre.length : Int) + 1 := by simp
          exact ⟨(KeepsOthers.setCell _ _ _).from _, (Below.refl W2.heap.size W).setCell (p := ⟨W2.heap.size, 0, none⟩) (Nat.le_refl _) _, ⟨by rw [e]; exact hn.set _, by rw [hxu]; exact pre_snoc hp hu⟩, hB.setCell (p := ⟨W2.heap.size, 0, none⟩) (Nat.le_refl _) _⟩
      · gi_wp2
        all_goals first
          | exact ⟨(KeepsOthers.setCell _ _ _).from _, fun h => by have := pre_at h; rw [hu] at this; cases this; exact hxu rfl⟩
          | (exfalso; rename_i hq _; exact absurd hq.2 (by simp [hxu]))
    · gi_wp2
      exact ⟨(KeepsOthers.setCell _ _ _).from _, fun h => by have := h.length_le; simp at this; omega⟩
  case done =>
    rintro D ys W hD rfl ⟨⟨hn, hp⟩, hB⟩ hK
    have hc := hn.cell
    have VC : W.cell? ⟨w1.heap.size, 0, none⟩ = some (.slice q1 (elems xs).length c1) := by
      have := (hB.block w1.heap.size (by omega)).trans V4
      simp [World.cell?, this]
    have SC : W.cell? ⟨W0.heap.size + 1, 0, none⟩ = some (.int .u8 s) := by
      have := (hB.block (W0.heap.size + 1) (by omega)).trans S4
      simp [World.cell?, this]
    have hsz := hB.size
    have K5 : BlkAt W0.heap.size (rowW xs) 25 W := ⟨(hB.block W0.heap.size (by omega)).trans K4.all⟩
    go_wp2_with (refine wpList_load_any (by kernel_rfl) 25 (.tmp 2) rfl _ (rowW xs) 25 _ rfl (BlkAt.all (by first | (with_reducible assumption) | (refine BlkAt.below (by with_reducible assumption) ?_; exact (by repeat (first | assumption | exact Below.refl _ _ | exact below_beyond _ _ | refine Below.beyond ?_ (by (try simp [size_beyond]) <;> omega) _ | refine Below.drew ?_ | refine Go.Rw.below_drewN ?_ _ | refine Go.Rw.below_setRow ?_ (by (try simp [size_beyond]) <;> omega) _ | refine Below.alloc ?_ (by (try simp [size_beyond]) <;> omega) _ | refine Below.setCell ?_ (by (try simp [size_beyond]) <;> omega) _))))) Tryd.underlying25 rfl (by rw [HZ.out]; exact sInfo) ?_)
    go_at_call 38
    refine (HAl.out _).mono ?_
    rintro e w5 ⟨rfl, rfl⟩
    go_wp2
    have bM := Boxed.new W 3 (.int .i64 0)
    have hB5 : Below W.heap.size W ((W.alloc (.cells #[.int .i64 0] 3)).alloc (.cells (rowW xs) 25)) := ((Below.refl _ W).alloc (Nat.le_refl _) _).alloc (by simp) _
    have hTd := TZ.out.belowN h0 (B4.trans ((hB.mono (by omega)).trans (hB5.mono (by omega))))
    refine (wpIn_wide (n := 5)).1 ?_
    refine wpIn_rangeFunc_ownG rfl (by omega) (gf := 57) (lb := #[.pointer (some ⟨W.heap.size + 1, 0, none⟩)]) rfl trivial (enters_of Tryd.func57 (by kernel_rfl) rfl)
      (all_stops 4 (W.heap.size + 1) W.heap.size HX.out (by omega) _ (T := 25) (by simp) (by simp) (by simp [go_sem]) hTd) belowK_t (belowK_b (by simp; omega)) (Below.refl _ _) (fun _ => rfl)
      (fun pre X => Boxed X W.heap.size 3 (.int .i64 (pre.length : Nat)) ∧ Below W.heap.size W X)
      (fun _ _ _ => False)
      (OwnFrom.and (Own.from (boxed_own _ _ (fun pre : List Int => .int .i64 (pre.length : Nat))) _) (ownFrom_below (Nat.le_refl _) (by simp; omega)))
      (fun _ => ownFrom_pure _ _)
      ⟨bM.alloc _, hB5⟩ ?a1 ?assign2 ?body2 ?done2 ?stop2
    case assign2 =>
      intro l x W K hK
      gi_wp2
      exact hK
    case body2 =>
      rintro l pre x X ⟨hm, hB6⟩ hlt
      have hc6 := hm.cell
      have hf6 := hm.frozen
      gi_wp2
      have e : (((pre ++ [x]).length : Nat) : Int) = (pre.length : Int) + 1 := by simp
      exact ⟨(KeepsOthers.setCell _ _ _).from _, (Below.refl W.heap.size X).setCell (p := ⟨W.heap.size, 0, none⟩) (Nat.le_refl _) _, by rw [e]; exact hm.set _, hB6.setCell (p := ⟨W.heap.size, 0, none⟩) (Nat.le_refl _) _⟩
    case stop2 =>
      rintro D2 c2 pre X _ _ h _
      exact h.elim
    case done2 =>
      rintro D2 ys X hD2 rfl ⟨hm, hB6⟩ hK2
      have hK1 := (hB6.block D (Array.getElem?_eq_some_iff.1 hK).1).trans hK
      have hBX : Below W0.heap.size W0 X := B4.trans ((hB.mono (by omega)).trans (hB6.mono (by omega)))
      have V6 := (hB6.block w1.heap.size (by omega)).trans ((hB.block w1.heap.size (by omega)).trans V4)
      have R6 := (hB6.block (W0.heap.size + 2) (by omega)).trans ((hB.block (W0.heap.size + 2) (by omega)).trans R4)
      go_wp2_with (fail)
      go_at_call 24
      refine (KK.out X hBX).mono ?_
      rintro e w6 ⟨rfl, hw6⟩
      have hB7 : Below X.heap.size X w6 := by obtain ⟨y, rfl⟩ := hw6; exact below_beyond _ _
      clear hw6
      have hsX := hB6.size
      have hsBX := hBX.size
      have hs67 := hB7.size
      rw [World.size_alloc, World.size_alloc] at hD hD2
      have hDX := (Array.getElem?_eq_some_iff.1 hK2).1
      have hDW := (Array.getElem?_eq_some_iff.1 hK).1
      have MC : w6.cell? ⟨W.heap.size, 0, none⟩ = some (.int .i64 ((elems xs).length : Nat)) := (hB7.cell (p := ⟨W.heap.size, 0, none⟩) hm.lt).trans hm.cell
      have VC6 : w6.cell? ⟨w1.heap.size, 0, none⟩ = some (.slice q1 (elems xs).length c1) := by
        have := (hB7.block w1.heap.size (by omega)).trans V6
        simp [World.cell?, this]
      have R7 : Boxed w6 (W0.heap.size + 1 + 1) 4 (.bool false) := (hB7.block (W0.heap.size + 2) (by omega)).trans R6
      have RC := R7.cell
      have RF := R7.frozen
      have hK2' := (hB7.block D2 hDX).trans hK2
      have hK1' := (hB7.block D (by omega)).trans hK1
      go_wp2
      have hY2 := (KeepsOthers.setCell w6 ⟨W0.heap.size + 1 + 1, 0, none⟩ (.bool true)).same D2 _ hK2' rfl
      have hY1 := (KeepsOthers.setCell w6 ⟨W0.heap.size + 1 + 1, 0, none⟩ (.bool true)).same D _ hK1' rfl
      have R8 := R7.set (.bool true)
      have BY : Below W0.heap.size W0 (w6.setCell ⟨W0.heap.size + 1 + 1, 0, none⟩ (.bool true)) := (hBX.trans (hB7.mono (by omega))).setCell (p := ⟨W0.heap.size + 1 + 1, 0, none⟩) (show W0.heap.size ≤ W0.heap.size + 1 + 1 by omega) _
      obtain ⟨Y, hY⟩ : ∃ Y, Y = w6.setCell ⟨W0.heap.size + 1 + 1, 0, none⟩ (.bool true) := ⟨_, rfl⟩
      rw [← hY] at hY2 hY1 R8 BY ⊢
      clear hY
      refine ⟨by simp, .inl ⟨_, _, rfl, run_takeDeferred hY2, ?_⟩⟩
      have hD1 := ((grownBy_putObj' Y D2 (.deferred none)).block D (Array.getElem?_eq_some_iff.1 hY1).1 (by intro e; cases e; omega)).trans hY1
      have R9 := R8.kept (grownBy_putObj' Y D2 (.deferred none)) (by intro e; cases e; omega)
      have BZ := BY.trans (belowK_b (w := W0) (Nat.le_refl _) Y D2 _ (.deferred none) (by omega) hY2 rfl rfl)
      refine ⟨by simp, .inl ⟨_, _, rfl, run_takeDeferred hD1, ?_⟩⟩
      have R10 := R9.kept (grownBy_putObj' _ D (.deferred none)) (by intro e; cases e; omega)
      have BQ := BZ.trans (belowK_b (w := W0) (Nat.le_refl _) _ D _ (.deferred none) (by omega) hD1 rfl rfl)
      exact ⟨_, results_box rfl _ _ _ _ _ rfl R10 Tryd.underlying4, rfl, beyond_of BQ⟩
  case stop =>
    rintro D c pre W hD hpre hI hK
    cases c
    case exit k =>
      obtain ⟨⟨hn, rfl, hs2⟩, hB⟩ := hI
      refine wpIn_wide.2 ?_
      by_cases hpl : pre.length = (elems xs).length
      · have hc := hn.cell
        have VC : W.cell? ⟨w1.heap.size, 0, none⟩ = some (.slice q1 (elems xs).length c1) := by
          have := (hB.block w1.heap.size (by omega)).trans V4
          simp [World.cell?, this]
        have SC : W.cell? ⟨W0.heap.size + 1, 0, none⟩ = some (.int .u8 s) := by
          have := (hB.block (W0.heap.size + 1) (by omega)).trans S4
          simp [World.cell?, this]
        have hsz := hB.size
        have K5 : BlkAt W0.heap.size (rowW xs) 25 W := ⟨(hB.block W0.heap.size (by omega)).trans K4.all⟩
        go_wp2_with (refine wpList_load_any (by kernel_rfl) 25 (.tmp 2) rfl _ (rowW xs) 25 _ rfl (BlkAt.all (by first | (with_reducible assumption) | (refine BlkAt.below (by with_reducible assumption) ?_; exact (by repeat (first | assumption | exact Below.refl _ _ | exact below_beyond _ _ | refine Below.beyond ?_ (by (try simp [size_beyond]) <;> omega) _ | refine Below.drew ?_ | refine Go.Rw.below_drewN ?_ _ | refine Go.Rw.below_setRow ?_ (by (try simp [size_beyond]) <;> omega) _ | refine Below.alloc ?_ (by (try simp [size_beyond]) <;> omega) _ | refine Below.setCell ?_ (by (try simp [size_beyond]) <;> omega) _))))) Tryd.underlying25 rfl (by rw [HZ.out]; exact sInfo) ?_)
        go_at_call 38
        refine (HAl.out _).mono ?_
        rintro e w5 ⟨rfl, rfl⟩
        go_wp2
        have bM := Boxed.new W 3 (.int .i64 0)
        have hB5 : Below W.heap.size W ((W.alloc (.cells #[.int .i64 0] 3)).alloc (.cells (rowW xs) 25)) := ((Below.refl _ W).alloc (Nat.le_refl _) _).alloc (by simp) _
        have hTd := TZ.out.belowN h0 (B4.trans ((hB.mono (by omega)).trans (hB5.mono (by omega))))
        refine (wpIn_wide (n := 5)).1 ?_
        refine wpIn_rangeFunc_ownG rfl (by omega) (gf := 57) (lb := #[.pointer (some ⟨W.heap.size + 1, 0, none⟩)]) rfl trivial (enters_of Tryd.func57 (by kernel_rfl) rfl)
          (all_stops 4 (W.heap.size + 1) W.heap.size HX.out (by omega) _ (T := 25) (by simp) (by simp) (by simp [go_sem]) hTd) belowK_t (belowK_b (by simp; omega)) (Below.refl _ _) (fun _ => rfl)
          (fun pre X => Boxed X W.heap.size 3 (.int .i64 (pre.length : Nat)) ∧ Below W.heap.size W X)
          (fun _ _ _ => False)
          (OwnFrom.and (Own.from (boxed_own _ _ (fun pre : List Int => .int .i64 (pre.length : Nat))) _) (ownFrom_below (Nat.le_refl _) (by simp; omega)))
          (fun _ => ownFrom_pure _ _)
          ⟨bM.alloc _, hB5⟩ ?a1y ?assign2y ?body2y ?done2y ?stop2y
        case assign2y =>
          intro l x W K hK
          gi_wp2
          exact hK
        case body2y =>
          rintro l pre x X ⟨hm, hB6⟩ hlt
          have hc6 := hm.cell
          have hf6 := hm.frozen
          gi_wp2
          have e : (((pre ++ [x]).length : Nat) : Int) = (pre.length : Int) + 1 := by simp
          exact ⟨(KeepsOthers.setCell _ _ _).from _, (Below.refl W.heap.size X).setCell (p := ⟨W.heap.size, 0, none⟩) (Nat.le_refl _) _, by rw [e]; exact hm.set _, hB6.setCell (p := ⟨W.heap.size, 0, none⟩) (Nat.le_refl _) _⟩
        case stop2y =>
          rintro D2 c2 pre X _ _ h _
          exact h.elim
        case done2y =>
          rintro D2 ys X hD2 rfl ⟨hm, hB6⟩ hK2
          have hK1 := (hB6.block D (Array.getElem?_eq_some_iff.1 hK).1).trans hK
          have hBX : Below W0.heap.size W0 X := B4.trans ((hB.mono (by omega)).trans (hB6.mono (by omega)))
          have V6 := (hB6.block w1.heap.size (by omega)).trans ((hB.block w1.heap.size (by omega)).trans V4)
          have R6 := (hB6.block (W0.heap.size + 2) (by omega)).trans ((hB.block (W0.heap.size + 2) (by omega)).trans R4)
          go_wp2_with (fail)
          go_at_call 24
          refine (KK.out X hBX).mono ?_
          rintro e w6 ⟨rfl, hw6⟩
          have hB7 : Below X.heap.size X w6 := by obtain ⟨y, rfl⟩ := hw6; exact below_beyond _ _
          clear hw6
          have hsX := hB6.size
          have hsBX := hBX.size
          have hs67 := hB7.size
          rw [World.size_alloc, World.size_alloc] at hD hD2
          have hDX := (Array.getElem?_eq_some_iff.1 hK2).1
          have hDW := (Array.getElem?_eq_some_iff.1 hK).1
          have MC : w6.cell? ⟨W.heap.size, 0, none⟩ = some (.int .i64 ((elems xs).length : Nat)) := (hB7.cell (p := ⟨W.heap.size, 0, none⟩) hm.lt).trans hm.cell
          have VC6 : w6.cell? ⟨w1.heap.size, 0, none⟩ = some (.slice q1 (elems xs).length c1) := by
            have := (hB7.block w1.heap.size (by omega)).trans V6
            simp [World.cell?, this]
          have R7 : Boxed w6 (W0.heap.size + 1 + 1) 4 (.bool false) := (hB7.block (W0.heap.size + 2) (by omega)).trans R6
          have RC := R7.cell
          have RF := R7.frozen
          have hK2' := (hB7.block D2 hDX).trans hK2
          have hK1' := (hB7.block D (by omega)).trans hK1
          go_wp2
          have hY2 := (KeepsOthers.setCell w6 ⟨W0.heap.size + 1 + 1, 0, none⟩ (.bool true)).same D2 _ hK2' rfl
          have hY1 := (KeepsOthers.setCell w6 ⟨W0.heap.size + 1 + 1, 0, none⟩ (.bool true)).same D _ hK1' rfl
          have R8 := R7.set (.bool true)
          have BY : Below W0.heap.size W0 (w6.setCell ⟨W0.heap.size + 1 + 1, 0, none⟩ (.bool true)) := (hBX.trans (hB7.mono (by omega))).setCell (p := ⟨W0.heap.size + 1 + 1, 0, none⟩) (show W0.heap.size ≤ W0.heap.size + 1 + 1 by omega) _
          obtain ⟨Y, hY⟩ : ∃ Y, Y = w6.setCell ⟨W0.heap.size + 1 + 1, 0, none⟩ (.bool true) := ⟨_, rfl⟩
          rw [← hY] at hY2 hY1 R8 BY ⊢
          clear hY
          refine ⟨by simp, .inl ⟨_, _, rfl, run_takeDeferred hY2, ?_⟩⟩
          have hD1 := ((grownBy_putObj' Y D2 (.deferred none)).block D (Array.getElem?_eq_some_iff.1 hY1).1 (by intro e; cases e; omega)).trans hY1
          have R9 := R8.kept (grownBy_putObj' Y D2 (.deferred none)) (by intro e; cases e; omega)
          have BZ := BY.trans (belowK_b (w := W0) (Nat.le_refl _) Y D2 _ (.deferred none) (by omega) hY2 rfl rfl)
          refine ⟨by simp, .inl ⟨_, _, rfl, run_takeDeferred hD1, ?_⟩⟩
          have R10 := R9.kept (grownBy_putObj' _ D (.deferred none)) (by intro e; cases e; omega)
          have BQ := BZ.trans (belowK_b (w := W0) (Nat.le_refl _) _ D _ (.deferred none) (by omega) hD1 rfl rfl)
          exact ⟨_, results_box rfl _ _ _ _ _ rfl R10 Tryd.underlying4, rfl, beyond_of BQ⟩
      · have hc := hn.cell
        have VC : W.cell? ⟨w1.heap.size, 0, none⟩ = some (.slice q1 (elems xs).length c1) := by
          have := (hB.block w1.heap.size (by omega)).trans V4
          simp [World.cell?, this]
        have SC : W.cell? ⟨W0.heap.size + 1, 0, none⟩ = some (.int .u8 s) := by
          have := (hB.block (W0.heap.size + 1) (by omega)).trans S4
          simp [World.cell?, this]
        have hsz := hB.size
        have K5 : BlkAt W0.heap.size (rowW xs) 25 W := ⟨(hB.block W0.heap.size (by omega)).trans K4.all⟩
        go_wp2_with (refine wpList_load_any (by kernel_rfl) 25 (.tmp 2) rfl _ (rowW xs) 25 _ rfl (BlkAt.all (by first | (with_reducible assumption) | (refine BlkAt.below (by with_reducible assumption) ?_; exact (by repeat (first | assumption | exact Below.refl _ _ | exact below_beyond _ _ | refine Below.beyond ?_ (by (try simp [size_beyond]) <;> omega) _ | refine Below.drew ?_ | refine Go.Rw.below_drewN ?_ _ | refine Go.Rw.below_setRow ?_ (by (try simp [size_beyond]) <;> omega) _ | refine Below.alloc ?_ (by (try simp [size_beyond]) <;> omega) _ | refine Below.setCell ?_ (by (try simp [size_beyond]) <;> omega) _))))) Tryd.underlying25 rfl (by rw [HZ.out]; exact sInfo) ?_)
        go_at_call 38
        refine (HAl.out _).mono ?_
        rintro e w5 ⟨rfl, rfl⟩
        go_wp2
        have bM := Boxed.new W 3 (.int .i64 0)
        have hB5 : Below W.heap.size W ((W.alloc (.cells #[.int .i64 0] 3)).alloc (.cells (rowW xs) 25)) := ((Below.refl _ W).alloc (Nat.le_refl _) _).alloc (by simp) _
        have hTd := TZ.out.belowN h0 (B4.trans ((hB.mono (by omega)).trans (hB5.mono (by omega))))
        refine (wpIn_wide (n := 5)).1 ?_
        refine wpIn_rangeFunc_ownG rfl (by omega) (gf := 57) (lb := #[.pointer (some ⟨W.heap.size + 1, 0, none⟩)]) rfl trivial (enters_of Tryd.func57 (by kernel_rfl) rfl)
          (all_stops 4 (W.heap.size + 1) W.heap.size HX.out (by omega) _ (T := 25) (by simp) (by simp) (by simp [go_sem]) hTd) belowK_t (belowK_b (by simp; omega)) (Below.refl _ _) (fun _ => rfl)
          (fun pre X => Boxed X W.heap.size 3 (.int .i64 (pre.length : Nat)) ∧ Below W.heap.size W X)
          (fun _ _ _ => False)
          (OwnFrom.and (Own.from (boxed_own _ _ (fun pre : List Int => .int .i64 (pre.length : Nat))) _) (ownFrom_below (Nat.le_refl _) (by simp; omega)))
          (fun _ => ownFrom_pure _ _)
          ⟨bM.alloc _, hB5⟩ ?a1z ?assign2z ?body2z ?done2z ?stop2z
        case assign2z =>
          intro l x W K hK
          gi_wp2
          exact hK
        case body2z =>
          rintro l pre x X ⟨hm, hB6⟩ hlt
          have hc6 := hm.cell
          have hf6 := hm.frozen
          gi_wp2
          have e : (((pre ++ [x]).length : Nat) : Int) = (pre.length : Int) + 1 := by simp
          exact ⟨(KeepsOthers.setCell _ _ _).from _, (Below.refl W.heap.size X).setCell (p := ⟨W.heap.size, 0, none⟩) (Nat.le_refl _) _, by rw [e]; exact hm.set _, hB6.setCell (p := ⟨W.heap.size, 0, none⟩) (Nat.le_refl _) _⟩
        case stop2z =>
          rintro D2 c2 pre X _ _ h _
          exact h.elim
        case done2z =>
          rintro D2 ys X hD2 rfl ⟨hm, hB6⟩ hK2
          have hK1 := (hB6.block D (Array.getElem?_eq_some_iff.1 hK).1).trans hK
          have hBX : Below W0.heap.size W0 X := B4.trans ((hB.mono (by omega)).trans (hB6.mono (by omega)))
          have V6 := (hB6.block w1.heap.size (by omega)).trans ((hB.block w1.heap.size (by omega)).trans V4)
          have R6 := (hB6.block (W0.heap.size + 2) (by omega)).trans ((hB.block (W0.heap.size + 2) (by omega)).trans R4)
          go_wp2_with (fail)
          go_at_call 24
          refine (KK.out X hBX).mono ?_
          rintro e w6 ⟨rfl, hw6⟩
          have hB7 : Below X.heap.size X w6 := by obtain ⟨y, rfl⟩ := hw6; exact below_beyond _ _
          clear hw6
          have hsX := hB6.size
          have hsBX := hBX.size
          have hs67 := hB7.size
          rw [World.size_alloc, World.size_alloc] at hD hD2
          have hDX := (Array.getElem?_eq_some_iff.1 hK2).1
          have hDW := (Array.getElem?_eq_some_iff.1 hK).1
          have MC : w6.cell? ⟨W.heap.size, 0, none⟩ = some (.int .i64 ((elems xs).length : Nat)) := (hB7.cell (p := ⟨W.heap.size, 0, none⟩) hm.lt).trans hm.cell
          have VC6 : w6.cell? ⟨w1.heap.size, 0, none⟩ = some (.slice q1 (elems xs).length c1) := by
            have := (hB7.block w1.heap.size (by omega)).trans V6
            simp [World.cell?, this]
          have R7 : Boxed w6 (W0.heap.size + 1 + 1) 4 (.bool false) := (hB7.block (W0.heap.size + 2) (by omega)).trans R6
          have RC := R7.cell
          have RF := R7.frozen
          have hK2' := (hB7.block D2 hDX).trans hK2
          have hK1' := (hB7.block D (by omega)).trans hK1
          go_wp2
          have hY2 := (KeepsOthers.setCell w6 ⟨W0.heap.size + 1 + 1, 0, none⟩ (.bool true)).same D2 _ hK2' rfl
          have hY1 := (KeepsOthers.setCell w6 ⟨W0.heap.size + 1 + 1, 0, none⟩ (.bool true)).same D _ hK1' rfl
          have R8 := R7.set (.bool true)
          have BY : Below W0.heap.size W0 (w6.setCell ⟨W0.heap.size + 1 + 1, 0, none⟩ (.bool true)) := (hBX.trans (hB7.mono (by omega))).setCell (p := ⟨W0.heap.size + 1 + 1, 0, none⟩) (show W0.heap.size ≤ W0.heap.size + 1 + 1 by omega) _
          obtain ⟨Y, hY⟩ : ∃ Y, Y = w6.setCell ⟨W0.heap.size + 1 + 1, 0, none⟩ (.bool true) := ⟨_, rfl⟩
          rw [← hY] at hY2 hY1 R8 BY ⊢
          clear hY
          refine ⟨by simp, .inl ⟨_, _, rfl, run_takeDeferred hY2, ?_⟩⟩
          have hD1 := ((grownBy_putObj' Y D2 (.deferred none)).block D (Array.getElem?_eq_some_iff.1 hY1).1 (by intro e; cases e; omega)).trans hY1
          have R9 := R8.kept (grownBy_putObj' Y D2 (.deferred none)) (by intro e; cases e; omega)
          have BZ := BY.trans (belowK_b (w := W0) (Nat.le_refl _) Y D2 _ (.deferred none) (by omega) hY2 rfl rfl)
          refine ⟨by simp, .inl ⟨_, _, rfl, run_takeDeferred hD1, ?_⟩⟩
          have R10 := R9.kept (grownBy_putObj' _ D (.deferred none)) (by intro e; cases e; omega)
          have BQ := BZ.trans (belowK_b (w := W0) (Nat.le_refl _) _ D _ (.deferred none) (by omega) hD1 rfl rfl)
          exact ⟨_, results_box rfl _ _ _ _ _ rfl R10 Tryd.underlying4, rfl, beyond_of BQ⟩
    all_goals exact absurd hpre hI
end Go.Proofs.YtjneboajbmabbaaDoor.ref1

namespace Go.Proofs.YtjneboajbmabbaaDoor.bitsetElements
open Go.RowKit Go.Own Go.Rw Go.SetL Go.Bits Go.Proofs.YtjneboajbmabbaaDoor.ref1
set_option maxHeartbeats 1000000
set_option maxRecDepth 100000

theorem sumsS : Can.RecOk Tryd.prog [0, 1, 2] (Can.knownSm 24 tab [0, 1, 2]) := Can.knownSm_ok pc (Can.noSm_ok) tabAt tabPlain knownTrue
/-- the examples hold in every world that comes behind one where the tables are laid -/
theorem known_calls {W : World} (hL : laidMetH Tryd.prog Rows.bitsetElementsRow.laid W) (X : World) (hb : Below W.heap.size W X) : Calls Tryd.prog 24 #[] X fun e w' => e = .returned (.bool true) ∧ ∃ y, w' = beyond X y := by
  have hk : Can.Known (H0 (Can.tyAt W)) (Can.onG [0, 1, 2]) X := by
    refine Can.known_onG fun g hg => ?_
    have hg' := hg
    simp only [List.mem_cons, List.not_mem_nil, or_false] at hg
    rcases hg with rfl | rfl | rfl
    · have h0 : W.heap[0]? = some (.cells (tab 0) (Can.tyAt W 0) (0, 0)) := Can.laid_tab hL (by kernel_rfl) (List.mem_of_getElem? (i := 1) rfl) (by kernel_rfl) (by kernel_rfl) (by decide +kernel)
      exact ⟨tab 0, Can.tyAt W 0, rfl, (hb.block 0 (Array.getElem?_eq_some_iff.1 h0).1).trans h0, by kernel_rfl⟩
    · have h0 : W.heap[1]? = some (.cells (tab 1) (Can.tyAt W 1) (0, 0)) := Can.laid_tab hL (by kernel_rfl) (List.mem_of_getElem? (i := 2) rfl) (by kernel_rfl) (by kernel_rfl) (by decide +kernel)
      exact ⟨tab 1, Can.tyAt W 1, rfl, (hb.block 1 (Array.getElem?_eq_some_iff.1 h0).1).trans h0, by kernel_rfl⟩
    · have h0 : W.heap[2]? = some (.cells (tab 2) (Can.tyAt W 2) (0, 0)) := Can.laid_tab hL (by kernel_rfl) (List.mem_of_getElem? (i := 0) rfl) (by kernel_rfl) (by kernel_rfl) (by decide +kernel)
      exact ⟨tab 2, Can.tyAt W 2, rfl, (hb.block 2 (Array.getElem?_eq_some_iff.1 h0).1).trans h0, by kernel_rfl⟩
  exact Can.true_callsS pc sumsS (n := 5) (by kernel_rfl) hk (Can.gl_onG _) (Can.plain_args (by kernel_rfl))
theorem tzW {W : World} (hL : laidMetH Tryd.prog Rows.bitsetElementsRow.laid W) : TzW W :=
  tzW_of (T := Can.tyAt W 0) (Can.laid_tab hL (by kernel_rfl) (List.mem_of_getElem? (i := 1) rfl) (by kernel_rfl) (by kernel_rfl) (by decide +kernel))
theorem size_pos {W : World} (hL : laidMetH Tryd.prog Rows.bitsetElementsRow.laid W) : 0 < W.heap.size :=
  (Array.getElem?_eq_some_iff.1 (Can.laid_tab hL (g := 0) (by kernel_rfl) (List.mem_of_getElem? (i := 1) rfl) (by kernel_rfl) (by kernel_rfl) (by decide +kernel))).1
theorem walk {W : World} (hL : laidMetH Tryd.prog Rows.bitsetElementsRow.laid W) (x0_0 x0_1 x0_2 x0_3 x0_4 x0_5 x0_6 x0_7 x0_8 x0_9 x0_10 x0_11 x0_12 x0_13 x0_14 x0_15 x1_0 : Int) (w0_0 : IntKind.u64.has x0_0) (w0_1 : IntKind.u64.has x0_1) (w0_2 : IntKind.u64.has x0_2) (w0_3 : IntKind.u64.has x0_3) (w0_4 : IntKind.u64.has x0_4) (w0_5 : IntKind.u64.has x0_5) (w0_6 : IntKind.u64.has x0_6) (w0_7 : IntKind.u64.has x0_7) (w0_8 : IntKind.u64.has x0_8) (w0_9 : IntKind.u64.has x0_9) (w0_10 : IntKind.u64.has x0_10) (w0_11 : IntKind.u64.has x0_11) (w0_12 : IntKind.u64.has x0_12) (w0_13 : IntKind.u64.has x0_13) (w0_14 : IntKind.u64.has x0_14) (w0_15 : IntKind.u64.has x0_15) (w1_0 : IntKind.u8.has x1_0) :
    Calls Tryd.prog 5 #[.agg #[.int .u64 x0_0, .int .u64 x0_1, .int .u64 x0_2, .int .u64 x0_3, .int .u64 x0_4, .int .u64 x0_5, .int .u64 x0_6, .int .u64 x0_7, .int .u64 x0_8, .int .u64 x0_9, .int .u64 x0_10, .int .u64 x0_11, .int .u64 x0_12, .int .u64 x0_13, .int .u64 x0_14, .int .u64 x0_15], .int .u8 x1_0] W fun e w' => e = .returned (.bool true) ∧ ∃ x, w' = beyond W x := by
  obtain ⟨A0, rfl⟩ := toI_of w0_0
  obtain ⟨A1, rfl⟩ := toI_of w0_1
  obtain ⟨A2, rfl⟩ := toI_of w0_2
  obtain ⟨A3, rfl⟩ := toI_of w0_3
  obtain ⟨A4, rfl⟩ := toI_of w0_4
  obtain ⟨A5, rfl⟩ := toI_of w0_5
  obtain ⟨A6, rfl⟩ := toI_of w0_6
  obtain ⟨A7, rfl⟩ := toI_of w0_7
  obtain ⟨A8, rfl⟩ := toI_of w0_8
  obtain ⟨A9, rfl⟩ := toI_of w0_9
  obtain ⟨A10, rfl⟩ := toI_of w0_10
  obtain ⟨A11, rfl⟩ := toI_of w0_11
  obtain ⟨A12, rfl⟩ := toI_of w0_12
  obtain ⟨A13, rfl⟩ := toI_of w0_13
  obtain ⟨A14, rfl⟩ := toI_of w0_14
  obtain ⟨A15, rfl⟩ := toI_of w0_15
  exact elem_main (xs := [A0, A1, A2, A3, A4, A5, A6, A7, A8, A9, A10, A11, A12, A13, A14, A15]) rfl x1_0 w1_0 (fun X hb => known_calls hL X hb) (tzW hL) (size_pos hL)
end Go.Proofs.YtjneboajbmabbaaDoor.bitsetElements

namespace Go.Proofs.YtjneboajbmabbaaDoor.bitsetElements
open Go.ChangeShapes Go.WideShapes Go.ChangeAt Go.RowKit Go.Joins Go.Own

set_option maxRecDepth 100000 in
theorem contract (H : Type) (enc : TypeId × Value → H) (W : World) (base : Nat) (args : Array Value) (ds gs : List (DataW H)) (before : List MemPlace)
    (hval : ∀ (j : Nat) t v, Tryd.f5.params[j]? = some t → args[j]? = some v → Value.okWide Tryd.prog W .any base t v)
    (hW : DataW.Whole enc Tryd.prog Tryd.f5.params.toList Rows.bitsetElementsSpec.vars false W args.toList ds gs before) (hL : laidMetH Tryd.prog Rows.bitsetElementsRow.laid W) :
    Calls Tryd.prog 5 args W fun e W' => ∃ v, e = .returned v ∧ Rows.bitsetElementsSpec.post enc Tryd.prog Tryd.f5 false true false false W args v W' := by
  have hW' := hW
  obtain ⟨ha, hn⟩ := Can.whole_args (ks := [.row [.int .u64, .int .u64, .int .u64, .int .u64, .int .u64, .int .u64, .int .u64, .int .u64, .int .u64, .int .u64, .int .u64, .int .u64, .int .u64, .int .u64, .int .u64, .int .u64], .one (.int .u8)]) (by kernel_rfl) hval hW
  have hn : ds.length = 2 := hn.trans (by kernel_rfl)
  generalize ea : args.toList = al at ha
  obtain ⟨v0, al0, rfl, k0, ha0⟩ := Can.hasArgs_cons ha
  obtain ⟨r0_, rfl, k0_⟩ := k0
  obtain ⟨_, r0_0, rfl, ⟨x0_0, rfl, w0_0⟩, k0_0⟩ := Can.hasAll_cons k0_
  obtain ⟨_, r0_1, rfl, ⟨x0_1, rfl, w0_1⟩, k0_1⟩ := Can.hasAll_cons k0_0
  obtain ⟨_, r0_2, rfl, ⟨x0_2, rfl, w0_2⟩, k0_2⟩ := Can.hasAll_cons k0_1
  obtain ⟨_, r0_3, rfl, ⟨x0_3, rfl, w0_3⟩, k0_3⟩ := Can.hasAll_cons k0_2
  obtain ⟨_, r0_4, rfl, ⟨x0_4, rfl, w0_4⟩, k0_4⟩ := Can.hasAll_cons k0_3
  obtain ⟨_, r0_5, rfl, ⟨x0_5, rfl, w0_5⟩, k0_5⟩ := Can.hasAll_cons k0_4
  obtain ⟨_, r0_6, rfl, ⟨x0_6, rfl, w0_6⟩, k0_6⟩ := Can.hasAll_cons k0_5
  obtain ⟨_, r0_7, rfl, ⟨x0_7, rfl, w0_7⟩, k0_7⟩ := Can.hasAll_cons k0_6
  obtain ⟨_, r0_8, rfl, ⟨x0_8, rfl, w0_8⟩, k0_8⟩ := Can.hasAll_cons k0_7
  obtain ⟨_, r0_9, rfl, ⟨x0_9, rfl, w0_9⟩, k0_9⟩ := Can.hasAll_cons k0_8
  obtain ⟨_, r0_10, rfl, ⟨x0_10, rfl, w0_10⟩, k0_10⟩ := Can.hasAll_cons k0_9
  obtain ⟨_, r0_11, rfl, ⟨x0_11, rfl, w0_11⟩, k0_11⟩ := Can.hasAll_cons k0_10
  obtain ⟨_, r0_12, rfl, ⟨x0_12, rfl, w0_12⟩, k0_12⟩ := Can.hasAll_cons k0_11
  obtain ⟨_, r0_13, rfl, ⟨x0_13, rfl, w0_13⟩, k0_13⟩ := Can.hasAll_cons k0_12
  obtain ⟨_, r0_14, rfl, ⟨x0_14, rfl, w0_14⟩, k0_14⟩ := Can.hasAll_cons k0_13
  obtain ⟨_, r0_15, rfl, ⟨x0_15, rfl, w0_15⟩, k0_15⟩ := Can.hasAll_cons k0_14
  obtain rfl := Can.hasAll_nil k0_15
  obtain ⟨v1, al1, rfl, k1, ha1⟩ := Can.hasArgs_cons ha0
  obtain ⟨x1_0, rfl, w1_0⟩ := k1
  obtain rfl := Can.hasArgs_nil ha1
  obtain rfl := Can.arr_of ea
  obtain ⟨d0, ds0, rfl, hn0⟩ := Can.list_cons hn
  obtain ⟨d1, ds1, rfl, hn1⟩ := Can.list_cons hn0
  obtain rfl := Can.list_nil hn1
  refine ((walk hL x0_0 x0_1 x0_2 x0_3 x0_4 x0_5 x0_6 x0_7 x0_8 x0_9 x0_10 x0_11 x0_12 x0_13 x0_14 x0_15 x1_0 w0_0 w0_1 w0_2 w0_3 w0_4 w0_5 w0_6 w0_7 w0_8 w0_9 w0_10 w0_11 w0_12 w0_13 w0_14 w0_15 w1_0)).mono fun e W' ⟨he, x, hx⟩ => ?_
  subst he; subst hx
  exact ⟨_, rfl, law_post hW' rfl rfl (below_beyond _ _) rfl Tryd.underlying4 (by kernel_rfl) (by kernel_rfl)⟩

noncomputable def laid1 (cs : Array Value) : Obj → Obj
  | .cells _ t frozen => .cells cs t frozen
  | o => o
/-- A world for the witness: the settled one, the tables holding what their initialisers lay. -/
noncomputable def laidWorld (os : Os) : World := { World.holding Tryd.prog os ⟨#[], #[], []⟩ with heap := ((((World.holding Tryd.prog os ⟨#[], #[], []⟩).heap.modify 2 (laid1 (Can.tabCells Rows.laid_math_bits_deBruijn32tab))).modify 0 (laid1 (Can.tabCells Rows.laid_math_bits_deBruijn64tab))).modify 1 (laid1 (Can.tabCells Rows.laid_internal_strconv_uint64pow10))) }
theorem laid_met (os : Os) : laidMet Tryd.prog Rows.bitsetElementsRow.laid ((laidWorld os).forCall (fun _ _ => 0) ⟨#[], #[.agg #[.int .u64 0, .int .u64 0, .int .u64 0, .int .u64 0, .int .u64 0, .int .u64 0, .int .u64 0, .int .u64 0, .int .u64 0, .int .u64 0, .int .u64 0, .int .u64 0, .int .u64 0, .int .u64 0, .int .u64 0, .int .u64 0], .int .u8 0], []⟩).memory :=
  laidMet_of_run' 8 (by kernel_rfl) (by kernel_rfl)
theorem reads (os : Os) {H : Type} (enc : TypeId × Value → H) : ∃ places, DataW.whole enc Tryd.prog ((laidWorld os).forCall (fun _ _ => 0) ⟨#[], #[.agg #[.int .u64 0, .int .u64 0, .int .u64 0, .int .u64 0, .int .u64 0, .int .u64 0, .int .u64 0, .int .u64 0, .int .u64 0, .int .u64 0, .int .u64 0, .int .u64 0, .int .u64 0, .int .u64 0, .int .u64 0, .int .u64 0], .int .u8 0], []⟩).memory Tryd.f5.params.toList Rows.bitsetElementsSpec.vars false (#[.agg #[.int .u64 0, .int .u64 0, .int .u64 0, .int .u64 0, .int .u64 0, .int .u64 0, .int .u64 0, .int .u64 0, .int .u64 0, .int .u64 0, .int .u64 0, .int .u64 0, .int .u64 0, .int .u64 0, .int .u64 0, .int .u64 0], .int .u8 0] : Array Value).toList 8 = some ([.agg [.lit (.int .u64 0), .lit (.int .u64 0), .lit (.int .u64 0), .lit (.int .u64 0), .lit (.int .u64 0), .lit (.int .u64 0), .lit (.int .u64 0), .lit (.int .u64 0), .lit (.int .u64 0), .lit (.int .u64 0), .lit (.int .u64 0), .lit (.int .u64 0), .lit (.int .u64 0), .lit (.int .u64 0), .lit (.int .u64 0), .lit (.int .u64 0)], .lit (.int .u8 0)], [], places) :=
  ⟨[], by kernel_rfl⟩

set_option maxRecDepth 100000 in
theorem lifted (os : Os) (started : os.Started) (H : Type) (enc : TypeId × Value → H) (F : Stop.Interp) :
    ReturnsInHanded {} Tryd.checked os 5 .any ((OpenSpec.ofChange Rows.bitsetElementsSpec).preRow enc Tryd.prog Tryd.f5 Rows.bitsetElementsRow.domain false Rows.bitsetElementsRow.laid) (((OpenSpec.ofChange Rows.bitsetElementsSpec).at F).post enc Tryd.prog Tryd.f5 false true false false) := by
  obtain ⟨places, hx⟩ := reads os enc
  refine returnsInHanded_of_row (C := Tryd.checked) (s := OpenSpec.ofChange Rows.bitsetElementsSpec) own started (by kernel_rfl) Tryd.func5
    (witness_row_at (enc := enc) (C := Tryd.checked) false (laidWorld os) #[.agg #[.int .u64 0, .int .u64 0, .int .u64 0, .int .u64 0, .int .u64 0, .int .u64 0, .int .u64 0, .int .u64 0, .int .u64 0, .int .u64 0, .int .u64 0, .int .u64 0, .int .u64 0, .int .u64 0, .int .u64 0, .int .u64 0], .int .u8 0] rfl (by kernel_rfl) (by kernel_rfl) (by kernel_rfl)
      (OpenSpec.preRow_of_cond 8 hx (by kernel_rfl) (fun k hk => by cases hk) (by kernel_rfl) (laid_met os))) ?_
  intro W base args ds gs before hval hW _ _ _ hL _ _
  exact contract H enc W base args ds gs before hval hW hL

theorem said : Rows.BitsetElementsSaid :=
  OpenClaim.holds_of_cond 5 Tryd.f5 rfl rfl rfl rfl rfl rfl rfl ⟨rfl, rfl, rfl, rfl, rfl⟩ rfl rfl rfl rfl rfl (by kernel_rfl) Tryd.func5 (by kernel_rfl)
    (of_decide_eq_true (by kernel_rfl)) (by unfold Func.isWrapper; first | (rw [if_pos (by decide +kernel)]; kernel_rfl) | (rw [if_neg (by decide +kernel)]; exact ⟨rfl, rfl⟩))
    (fun os started H enc _ F => by rw [OpenClaim.pre_eq_preRow]; exact lifted os started H enc F)

theorem plain (f : FuncId) (fn : Func) (hf : Tryd.pinned.checked.prog.funcNamed "palmette/palmettelaw01.BitsetElements" = some f) (hfn : Tryd.pinned.checked.prog.funcs[f]? = some fn) :
    false = Tryd.pinned.checked.prog.looks [] ∧ ∀ (j : Nat) t, fn.params[j]? = some t → Tryd.pinned.checked.prog.wantsStandIn t = false := by
  obtain rfl : f = 5 := Option.some.inj ((show Tryd.prog.funcNamed "palmette/palmettelaw01.BitsetElements" = some 5 by kernel_rfl).symm.trans hf) |>.symm
  obtain rfl : fn = Tryd.f5 := (Option.some.inj (Tryd.func5.symm.trans hfn)).symm
  exact ⟨by kernel_rfl, fun j t ht => Can.wants_of (P := Tryd.pinned.checked.prog) (by kernel_rfl) j t ht⟩

theorem card : Rows.BitsetElementsCardSaid :=
  Claim7.holds_tied_plain_at .later [] _ _ _ _ said (fun _ h => by cases h) (by kernel_rfl) (fun _ h => by cases h) bitsetElements_row_tie rfl ⟨rfl, rfl⟩ (by kernel_rfl) rfl plain (by kernel_rfl)
end Go.Proofs.YtjneboajbmabbaaDoor.bitsetElements
