/-
  All's contract with numbers that are below 1024 (the body may use that).
-/
import Derived.Test.YtjneboajbmabbaaDoorMB1
import Derived.Test.YtjneboajbmabbaaDoorMB2
import Derived.Test.YtjneboajbmabbaaDoorMLP1
import Derived.Test.YtjneboajbmabbaaDoorMLP2
import Derived.Test.YtjneboajbmabbaaDoorMLP3
import Derived.Test.YtjneboajbmabbaaDoorMLP4
import Derived.Test.YtjneboajbmabbaaDoorMLP5
set_option linter.unusedSimpArgs false
set_option linter.unusedVariables false
namespace Go.Proofs.YtjneboajbmabbaaDoor.ref1
open Go.RowKit Go.Own Go.Rw Go.SetL Go.Bits Go.Tz Go.Shelf
set_option maxHeartbeats 1000000
set_option maxRecDepth 100000
attribute [local go_sem] Oper.semAt_some

theorem all1_fin (n : Nat) (l Bn n₀ : Nat) {xs : List W} (hx : xs.length = 16) (hn₀ : 0 < n₀) (J Jx : List Int → World → Prop)
    (hY : ∀ pre x w, J pre w → pre.length < 1025 → pre ++ [x] <+: elems xs → YieldAt Fence.wide (n - 1) Tryd.prog l #[.int .i64 x] w fun e w' =>
      (e = .returned (.bool true) ∧ J (pre ++ [x]) w' ∧ Below n₀ w w') ∨ (e = .returned (.bool false) ∧ Jx (pre ++ [x]) w'))
    (w0 : World) {T : TypeId} (hBn : blockOf w0 Bn = some (.cells (rowW xs) T (0, 0))) (hT : TzW w0) (h0 : J [] w0) :
    CallsIn Fence.wide n Tryd.prog 57 #[.func (.yield l) #[] #[], .pointer (some ⟨Bn, 0, none⟩)] w0 fun e w' => (∃ v, e = .returned v) ∧
      ((∃ ys, ys = elems xs ∧ J ys w') ∨ (∃ pre, pre <+: elems xs ∧ Jx pre w')) := by
  have HA := Lib.hid (fun (k : Nat) (h : k < 16) => rowW_at (xs := xs) (k := k) (by rw [hx]; omega))
  have HZ := Lib.hid (show (rowW xs).size = 16 by rw [rowW_size, hx])
  have HT := Lib.hid hT; clear hT
  have HY := Lib.hid hY; clear hY
  have HE : elems xs = ofN (bitAt xs) (64 * 16) := rfl
  rw [HE]
  refine callsIn_of_wp Tryd.func57 rfl trivial ?_ rfl
  simp only [Tryd.ntmps57, List.size_toArray, List.length_cons, List.length_nil, Nat.reduceAdd, Nat.reduceSub, Array.replicate_succ, Array.replicate_zero, List.push_toArray, List.append_toArray, List.nil_append, List.cons_append]
  gi_wp2_with (refine wpListIn_load_block rfl (fun _ => trivial) rfl 25 (.tmp 1) rfl Bn (rowW xs) T _ rfl hBn Tryd.underlying25 rfl (by rw [HZ.out]; exact sInfo) ?_)
  gi_loopw [6] (fun i wr => ∃ k : Nat, k ≤ 16 ∧ i = .int .i64 k ∧ Hid (J (ofN (bitAt xs) (64 * k)) wr) ∧ Hid (Below n₀ w0 wr)) (fun i _ => 16 - (intOf i).toNat)
  case atStart => exact ⟨0, Nat.zero_le _, rfl, Lib.hid h0, Lib.hid (Below.refl _ _)⟩
  case round =>
    obtain ⟨k, hk, rfl, HJ, HB⟩ := hrel
    by_cases hlt : k < 16
    · have ha := HA.out k hlt
      obtain ⟨x, hxk⟩ : ∃ x, x = xs.getD k 0 := ⟨_, rfl⟩
      rw [← hxk] at ha
      have HA2 := Lib.hid ha; clear ha
      have HX := Lib.hid hxk; clear hxk
      gi_wp2_with (refine wpListIn_indexRow rfl (fun _ => trivial) rfl (.tmp 5) (.tmp 6) rfl sU wU wI hlt HA2.out rfl rfl ?_)
      gi_loopw [4] (fun v wr => ∃ (y : W) (p : Nat), v = .int .u64 (toI y) ∧ p ≤ 64 ∧ Hid (Cut x p y) ∧ Hid (J (ofN (bitAt xs) (64 * k + p)) wr) ∧ Hid (Below n₀ w0 wr)) (fun v _ => (intOf v).toNat)
      case atStart => exact ⟨_, 0, rfl, by omega, Lib.hid (cut_start _), Lib.hid HJ.out, Lib.hid HB.out⟩
      case round =>
        rename_i wr0 _ _ _ _
        clear HJ HB
        obtain ⟨y, p, rfl, hp, HC, HJ, HB⟩ := hrel
        by_cases hy : y = 0#64
        · subst hy
          have e0 : toI 0#64 = 0 := rfl
          rw [e0]
          have HN := Lib.hid (come_end (xs := xs) (j := k) hp (HX.out ▸ HC.out))
          gi_wp2
          go_roundw
          case rel => exact ⟨k + 1, by omega, by go_num, Lib.hid (by rw [← HN.out]; exact HJ.out), HB⟩
          case measure => simp [intOf]; omega
        · obtain ⟨t, ht⟩ := low_of hy
          have htz := Lib.hid (tz_calls ht)
          have ht0 := ht.1
          have HN := Lib.hid (come_yes (xs := xs) (j := k) (HX.out ▸ HC.out) ht)
          have HC2 := Lib.hid (cut_step HC.out ht)
          have hlen := ofN_len (bitAt xs) (64 * k + p)
          obtain ⟨fn, tmps, assign, body, hyy, hR⟩ := HY.out _ (64 * (k : Int) + (t : Int)) _ HJ.out (by omega) (by
            have e1 : ofN (bitAt xs) (64 * k + p) ++ [64 * (k : Int) + (t : Int)] = ofN (bitAt xs) (64 * k + (t + 1)) := by rw [← HN.out]; simp
            rw [e1]; exact ofN_pre _ (by omega))
          have HP := Lib.hid (pred_word y hy)
          have HP' := Lib.hid (pred_word' y hy)
          have HL := Lib.hid (pred_lt y hy)
          have hu0 : 0 < toI y := by
            rcases Int.lt_or_eq_of_le (toI_nonneg y) with h1 | h1
            · exact h1
            · exact absurd (toI_inj.1 (h1.symm.trans (show (0 : Int) = toI 0#64 from rfl))) hy
          have hu1 := toI_lt y
          have HYE := Lib.hid (show ∃ u, u = toI y from ⟨_, rfl⟩)
          obtain ⟨u, hu⟩ := HYE.out
          rw [← hu] at hu0 hu1 htz ⊢
          have HU := Lib.hid hu; clear hu HYE
          clear ht hy
          gi_wp2_with (refine ⟨trivial, (fun h => by cases h), ?_⟩; refine (callsIn_wide.2 (htz.out _ (HT.out.belowN hn₀ HB.out))).mono ?_; rintro e w1 ⟨rfl, rfl⟩)
          refine ⟨(fun h => by cases h), hR.mono ?_⟩
          have e1 : ofN (bitAt xs) (64 * k + p) ++ [64 * (k : Int) + (t : Int)] = ofN (bitAt xs) (64 * k + (t + 1)) := by rw [← HN.out]; simp
          rw [e1]
          clear e1
          rintro e W3 (⟨rfl, hJ3, hk3⟩ | ⟨rfl, hJx3⟩)
          · have HJ3 := Lib.hid hJ3
            have HB3 := Lib.hid (HB.out.trans hk3)
            clear hJ3 hk3
            gi_wp2
            go_roundw
            case rel => exact ⟨_, t + 1, by rw [← HP'.out, ← HU.out], by omega, HC2, HJ3, HB3⟩
            case measure =>
              have h := HL.out
              rw [HU.out, HP'.out]
              show (toI _).toNat < (toI _).toNat
              unfold toI
              rw [Int.toNat_natCast, Int.toNat_natCast]
              exact h
          · gi_wp2
            refine bodyPost_ret (results_none rfl _ _ _) rfl ?_
            exact ⟨⟨_, rfl⟩, .inr ⟨_, ofN_pre _ (by omega), hJx3⟩⟩
    · obtain rfl : k = 16 := by omega
      gi_wp2
      go_end0
      exact ⟨⟨_, rfl⟩, .inl ⟨_, rfl, HJ.out⟩⟩
/-- the numbers below 1024, as integers -/
def finL (l : List (Fin 1024)) : List Int := l.map fun x => (x.val : Int)
theorem finL_snoc (l : List (Fin 1024)) (x : Fin 1024) : finL (l ++ [x]) = finL l ++ [(x.val : Int)] := by simp [finL]
theorem elems_range (xs : List W) {x : Int} (h : x ∈ elems xs) : 0 ≤ x ∧ x < 1024 := by
  have h : x ∈ ofN (bitAt xs) 1024 := h
  unfold ofN at h
  obtain ⟨m, hm, rfl⟩ := List.mem_map.1 h
  have := List.mem_range.1 (List.mem_filter.1 hm).1
  exact ⟨by simp, by show (m : Int) < 1024; omega⟩
theorem all_fin (n : Nat) (Bn n₀ : Nat) {xs : List W} (hx : xs.length = 16) (hn₀ : 0 < n₀) (w : World) {T : TypeId} (hB : Bn < w.heap.size) (h0 : 0 < w.heap.size) (hBn : blockOf w Bn = some (.cells (rowW xs) T (0, 0))) (hT : TzW w) :
    SeqStopsK Fence.wide n Tryd.prog 57 #[.pointer (some ⟨Bn, 0, none⟩)] (fun x : Fin 1024 => #[Value.int .i64 (x.val : Int)]) (Below n₀) (fun ys => finL ys = elems xs) (fun pre => finL pre <+: elems xs) 1025 w := fun l J Jx W hW _ _ hY h0' => by
  refine CallsIn.mono (all1_fin n l Bn n₀ hx hn₀ (fun pre w => ∃ fs, finL fs = pre ∧ J fs w) (fun pre w => ∃ fs, finL fs = pre ∧ Jx fs w) ?_ W ((hW.block Bn hB).trans hBn) (hT.belowN h0 hW) ⟨[], rfl, h0'⟩) ?_
  rotate_left
  · rintro e w' ⟨he, ⟨ys, hys, fs, hfs, hJ⟩ | ⟨pre, hpre, fs, hfs, hJ⟩⟩
    · exact ⟨he, .inl ⟨fs, hfs.trans hys, hJ⟩⟩
    · exact ⟨he, .inr ⟨fs, by show finL fs <+: elems xs; rw [hfs]; exact hpre, hJ⟩⟩
  · rintro pre x w1 ⟨fs, rfl, hJ⟩ hl hp
    obtain ⟨h1, h2⟩ := elems_range xs (x := x) (hp.subset (by simp))
    obtain ⟨m, rfl⟩ := Int.eq_ofNat_of_zero_le h1
    have hm : m < 1024 := by omega
    refine YieldAt.mono (hY fs ⟨m, hm⟩ w1 hJ (by simpa [finL] using hl)) ?_
    rintro e w' (⟨rfl, hJ', hb⟩ | ⟨rfl, hJ'⟩)
    · exact .inl ⟨rfl, ⟨_, finL_snoc _ _, hJ'⟩, hb⟩
    · exact .inr ⟨rfl, ⟨_, finL_snoc _ _, hJ'⟩⟩
end Go.Proofs.YtjneboajbmabbaaDoor.ref1
