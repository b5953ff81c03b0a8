/-
  The program's operations on sets of 64-bit words, by what they do to the set.
-/
import Derived.Test.YtjneboajbmabbaaDoorBitW
import Derived.Test.YtjneboajbmabbaaDoorBitSm
import Derived.Test.YtjneboajbmabbaaDoorEqRow
set_option linter.unusedSimpArgs false
set_option linter.unusedVariables false
namespace Go.Proofs.YtjneboajbmabbaaDoor.ref1
open Go.RowKit Go.Own Go.Rw Go.SetL Go.Bits
set_option maxHeartbeats 1000000
set_option maxRecDepth 100000

theorem wset_calls {xs : List W} (hx : xs.length = 16) (n : Int) (w : World) :
    Calls Tryd.prog 25 #[.agg (rowW xs), .int .i64 n] w fun e w' => e = .returned (.agg (rowW (withS xs n))) ∧ ∃ y, w' = beyond w y := by
  by_cases h : 0 ≤ n ∧ n < 1024
  · obtain ⟨k, rfl⟩ := Int.eq_ofNat_of_zero_le h.1
    have := with_in xs hx k (by omega) w
    rw [or_one _ (by omega), rowW_set] at this
    unfold withS; rw [if_pos h]; exact this
  · unfold withS; rw [if_neg h]; exact with_out xs hx n (by omega) w
theorem woset_calls {xs : List W} (hx : xs.length = 16) (n : Int) (w : World) :
    Calls Tryd.prog 27 #[.agg (rowW xs), .int .i64 n] w fun e w' => e = .returned (.agg (rowW (withoutS xs n))) ∧ ∃ y, w' = beyond w y := by
  by_cases h : 0 ≤ n ∧ n < 1024
  · obtain ⟨k, rfl⟩ := Int.eq_ofNat_of_zero_le h.1
    have := without_in xs hx k (by omega) w
    rw [sub_one _ (by omega), rowW_set] at this
    unfold withoutS; rw [if_pos h]; exact this
  · unfold withoutS; rw [if_neg h]; exact without_out xs hx n (by omega) w
theorem zip_or : ∀ xs ys : List W, List.zipWith orI (rowI xs) (rowI ys) = rowI (orR xs ys)
  | [], _ => by simp [rowI, orR]
  | _ :: _, [] => by simp [rowI, orR]
  | x :: xs, y :: ys => by have := zip_or xs ys; simp only [rowI, orR, List.map_cons, List.zipWith_cons_cons, orI_eq] at this ⊢; rw [this]
theorem zip_and : ∀ xs ys : List W, List.zipWith andI (rowI xs) (rowI ys) = rowI (andR xs ys)
  | [], _ => by simp [rowI, andR]
  | _ :: _, [] => by simp [rowI, andR]
  | x :: xs, y :: ys => by have := zip_and xs ys; simp only [rowI, andR, List.map_cons, List.zipWith_cons_cons, andI_eq] at this ⊢; rw [this]
theorem zip_sub : ∀ xs ys : List W, List.zipWith subI (rowI xs) (rowI ys) = rowI (subR xs ys)
  | [], _ => by simp [rowI, subR]
  | _ :: _, [] => by simp [rowI, subR]
  | x :: xs, y :: ys => by have := zip_sub xs ys; simp only [rowI, subR, List.map_cons, List.zipWith_cons_cons, subI_eq] at this ⊢; rw [this]
theorem orset_calls {xs ys : List W} (hx : xs.length = 16) (hy : ys.length = 16) (w : World) :
    Calls Tryd.prog 31 #[.agg (rowW xs), .agg (rowW ys)] w fun e w' => e = .returned (.agg (rowW (orR xs ys))) ∧ ∃ y, w' = beyond w y := by
  have := bits.union_calls (ps := rowI xs) (qs := rowI ys) (by rw [rowI_len]; exact hx) (by rw [rowI_len]; exact hy) w
  rwa [zip_or, rowV_rowW, rowV_rowW, rowV_rowW] at this
theorem andset_calls {xs ys : List W} (hx : xs.length = 16) (hy : ys.length = 16) (w : World) :
    Calls Tryd.prog 29 #[.agg (rowW xs), .agg (rowW ys)] w fun e w' => e = .returned (.agg (rowW (andR xs ys))) ∧ ∃ y, w' = beyond w y := by
  have := bits.inter_calls (ps := rowI xs) (qs := rowI ys) (by rw [rowI_len]; exact hx) (by rw [rowI_len]; exact hy) w
  rwa [zip_and, rowV_rowW, rowV_rowW, rowV_rowW] at this
theorem subset_calls {xs ys : List W} (hx : xs.length = 16) (hy : ys.length = 16) (w : World) :
    Calls Tryd.prog 33 #[.agg (rowW xs), .agg (rowW ys)] w fun e w' => e = .returned (.agg (rowW (subR xs ys))) ∧ ∃ y, w' = beyond w y := by
  have := bits.minus_calls (ps := rowI xs) (qs := rowI ys) (by rw [rowI_len]; exact hx) (by rw [rowI_len]; exact hy) w
  rwa [zip_sub, rowV_rowW, rowV_rowW, rowV_rowW] at this
theorem sU : Tryd.prog.underlying 25 = some (.array 16 23) := Tryd.underlying25
theorem wI : (Tryd.prog.info? 23).map (·.size) = some 1 := by kernel_rfl
theorem wU : Tryd.prog.underlying 23 = some (.int .u64) := Tryd.underlying23
theorem sG : Tryd.prog.eqGuardType Tryd.prog.depth 25 = false := by kernel_rfl
theorem zeros_len : zeros.length = 16 := by simp [zeros]
theorem rowW_zeros : rowW zeros = #[.int .u64 0, .int .u64 0, .int .u64 0, .int .u64 0, .int .u64 0, .int .u64 0, .int .u64 0, .int .u64 0, .int .u64 0, .int .u64 0, .int .u64 0, .int .u64 0, .int .u64 0, .int .u64 0, .int .u64 0, .int .u64 0] := rfl
theorem within_set {xs ys : List W} (hx : xs.length = 16) (hy : ys.length = 16) (w : World) :
    Calls Tryd.prog 35 #[.agg (rowW xs), .agg (rowW ys)] w fun e w' => e = .returned (.bool (decide (subR xs ys = zeros))) ∧ ∃ y, w' = beyond w y := by
  have HX := Lib.hid hx; clear hx
  have HY := Lib.hid hy; clear hy
  have HS := Lib.hid (subR_len HX.out HY.out)
  have HZ := Lib.hid (show (rowW xs).size = 16 by rw [rowW_size, HX.out])
  have HZ2 := Lib.hid (show (rowW ys).size = 16 by rw [rowW_size, HY.out])
  have HC := Lib.hid (fun w => subset_calls HX.out HY.out w)
  generalize rowW xs = cs at HZ HC ⊢
  generalize rowW ys = ds at HZ2 HC ⊢
  go_enter Tryd.func35, Tryd.ntmps35
  go_wp2_with (first
    | (refine wpList_load_block rfl 25 (.tmp 2) rfl w.heap.size cs 25 _ rfl (by simp [go_sem]) Tryd.underlying25 rfl (by rw [HZ.out]; exact sInfo) ?_)
    | (refine wpList_load_block rfl 25 (.tmp 3) rfl (w.heap.size + 1) ds 25 _ rfl (by simp [go_sem]) Tryd.underlying25 rfl (by rw [HZ2.out]; exact sInfo) ?_)
    | (go_at_call 33; refine (HC.out _).mono ?_; rintro e w1 ⟨rfl, x1, rfl⟩)
    | (refine wpList_eqRow rfl (.tmp 7) (.tmp 8) rfl sU wU wI sG HS.out zeros_len rfl rfl ?_))
  go_ret
  exact ⟨rfl, beyond_of (by repeat (first | assumption | exact Below.refl _ _ | exact below_beyond _ _ | refine Below.beyond ?_ (by (try simp [size_beyond]) <;> omega) _ | refine Below.drew ?_ | refine Go.Rw.below_drewN ?_ _ | refine Go.Rw.below_setRow ?_ (by (try simp [size_beyond]) <;> omega) _ | refine Below.alloc ?_ (by (try simp [size_beyond]) <;> omega) _ | refine Below.setCell ?_ (by (try simp [size_beyond]) <;> omega) _))⟩
end Go.Proofs.YtjneboajbmabbaaDoor.ref1
