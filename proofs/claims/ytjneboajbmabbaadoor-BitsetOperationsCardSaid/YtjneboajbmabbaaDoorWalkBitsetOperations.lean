/-
  BitsetOperations: the walk.
-/
import Derived.Test.YtjneboajbmabbaaDoorPreBitsetOperations
import Derived.Test.YtjneboajbmabbaaDoorAt
set_option linter.unusedSimpArgs false
set_option linter.unusedVariables false
namespace Go.Proofs.YtjneboajbmabbaaDoor.bitsetOperations
open Go.RowKit Go.Own Go.Rw Go.SetL Go.Bits Go.Proofs.YtjneboajbmabbaaDoor.ref1
set_option maxHeartbeats 1000000
set_option maxRecDepth 100000
attribute [local irreducible] beyond grow over

theorem sumsS : Can.RecOk Tryd.prog [0, 1, 2] (Can.knownSm 24 tab [0, 1, 2]) := Can.knownSm_ok pc (Can.noSm_ok) tabAt tabPlain knownTrue
/-- the examples hold in every world that comes behind one where the tables are laid -/
theorem known_calls {W : World} (hL : laidMetH Tryd.prog Rows.bitsetOperationsRow.laid W) (X : World) (hb : Below W.heap.size W X) : Calls Tryd.prog 24 #[] X fun e w' => e = .returned (.bool true) ∧ ∃ y, w' = beyond X y := by
  have hk : Can.Known (H0 (Can.tyAt W)) (Can.onG [0, 1, 2]) X := by
    refine Can.known_onG fun g hg => ?_
    have hg' := hg
    simp only [List.mem_cons, List.not_mem_nil, or_false] at hg
    rcases hg with rfl | rfl | rfl
    · have h0 : W.heap[0]? = some (.cells (tab 0) (Can.tyAt W 0) (0, 0)) := Can.laid_tab hL (by kernel_rfl) (List.mem_of_getElem? (i := 1) rfl) (by kernel_rfl) (by kernel_rfl) (by decide +kernel)
      exact ⟨tab 0, Can.tyAt W 0, rfl, (hb.block 0 (Array.getElem?_eq_some_iff.1 h0).1).trans h0, by kernel_rfl⟩
    · have h0 : W.heap[1]? = some (.cells (tab 1) (Can.tyAt W 1) (0, 0)) := Can.laid_tab hL (by kernel_rfl) (List.mem_of_getElem? (i := 2) rfl) (by kernel_rfl) (by kernel_rfl) (by decide +kernel)
      exact ⟨tab 1, Can.tyAt W 1, rfl, (hb.block 1 (Array.getElem?_eq_some_iff.1 h0).1).trans h0, by kernel_rfl⟩
    · have h0 : W.heap[2]? = some (.cells (tab 2) (Can.tyAt W 2) (0, 0)) := Can.laid_tab hL (by kernel_rfl) (List.mem_of_getElem? (i := 0) rfl) (by kernel_rfl) (by kernel_rfl) (by decide +kernel)
      exact ⟨tab 2, Can.tyAt W 2, rfl, (hb.block 2 (Array.getElem?_eq_some_iff.1 h0).1).trans h0, by kernel_rfl⟩
  exact Can.true_callsS pc sumsS (n := 5) (by kernel_rfl) hk (Can.gl_onG _) (Can.plain_args (by kernel_rfl))

theorem main {W : World} (hL : laidMetH Tryd.prog Rows.bitsetOperationsRow.laid W) {xs ys : List Bits.W} (hx : xs.length = 16) (hy : ys.length = 16) (n : Int) :
    Calls Tryd.prog 4 #[.agg (rowW xs), .agg (rowW ys), .int .i64 n] W fun e w' => e = .returned (.bool true) ∧ ∃ x, w' = beyond W x := by
  have HX := Lib.hid hx; clear hx
  have HY := Lib.hid hy; clear hy
  have KK := Lib.hid (fun X hb => known_calls hL X hb); clear hL
  have HZ := Lib.hid (show (rowW xs).size = 16 by rw [rowW_size, HX.out])
  have HZ2 := Lib.hid (show (rowW ys).size = 16 by rw [rowW_size, HY.out])
  go_enter Tryd.func4, Tryd.ntmps4
  go_wp2
  refine wp_region_plan (fun w' => ∃ x, w' = beyond ((W.alloc (.cells (rowW xs) 25)).alloc (.cells (rowW ys) 25)) x) [([0, 2], 1), ([], 3)] [4, 5] (by kernel_rfl) (by kernel_rfl) (by intro _ _ d _ _ h; cases d <;> exact h) (beyond_of (by repeat (first | assumption | exact Below.refl _ _ | exact below_beyond _ _ | refine Below.beyond ?_ (by (try simp [size_beyond]) <;> omega) _ | refine Below.drew ?_ | refine Go.Rw.below_drewN ?_ _ | refine Go.Rw.below_setRow ?_ (by (try simp [size_beyond]) <;> omega) _ | refine Below.alloc ?_ (by (try simp [size_beyond]) <;> omega) _ | refine Below.setCell ?_ (by (try simp [size_beyond]) <;> omega) _))) ?_
  simp only [wpSegs, pick, List.filterMap, List.size_toArray, List.getElem?_toArray, List.getElem?_cons_zero, List.getElem?_cons_succ]
  refine wpQuiet_load_row (by kernel_rfl) 25 (.tmp 3) rfl W.heap.size (rowW xs) 25 _ rfl (by rintro _ ⟨x, rfl⟩; simp [go_sem]) Tryd.underlying25 rfl (by rw [HZ.out]; exact sInfo) ?_
  refine wpQuiet_load_row (by kernel_rfl) 25 (.tmp 4) rfl (W.heap.size + 1) (rowW ys) 25 _ rfl (by rintro _ ⟨x, rfl⟩; simp [go_sem]) Tryd.underlying25 rfl (by rw [HZ2.out]; exact sInfo) ?_
  refine wpQuiet_nil ?_
  go_wp2_with (go_at_call 18; refine (to_at HX.out _).mono ?_; rintro e w1 ⟨q1, m1, c1, y1, rfl, rfl, H1⟩)
  refine ⟨beyond_of (by repeat (first | assumption | exact Below.refl _ _ | exact below_beyond _ _ | refine Below.beyond ?_ (by (try simp [size_beyond]) <;> omega) _ | refine Below.drew ?_ | refine Go.Rw.below_drewN ?_ _ | refine Go.Rw.below_setRow ?_ (by (try simp [size_beyond]) <;> omega) _ | refine Below.alloc ?_ (by (try simp [size_beyond]) <;> omega) _ | refine Below.setCell ?_ (by (try simp [size_beyond]) <;> omega) _)), wpQuiet_nil ?_⟩
  go_wp2_with (go_at_call 18; refine (to_at HY.out _).mono ?_; rintro e w1 ⟨q2, m2, c2, y2, rfl, rfl, H2⟩)
  refine ⟨beyond_of (by repeat (first | assumption | exact Below.refl _ _ | exact below_beyond _ _ | refine Below.beyond ?_ (by (try simp [size_beyond]) <;> omega) _ | refine Below.drew ?_ | refine Go.Rw.below_drewN ?_ _ | refine Go.Rw.below_setRow ?_ (by (try simp [size_beyond]) <;> omega) _ | refine Below.alloc ?_ (by (try simp [size_beyond]) <;> omega) _ | refine Below.setCell ?_ (by (try simp [size_beyond]) <;> omega) _)), ?_⟩
  repeat (go_big_quiet_step (fail))
  refine wpQuiet_nil ?_
  go_wp2_with (first | (refine wpList_load_any (by kernel_rfl) 25 (.tmp 3) rfl W.heap.size (rowW xs) 25 _ rfl (by simp [go_sem]) Tryd.underlying25 rfl (by rw [HZ.out]; exact sInfo) ?_) | (refine wpList_load_any (by kernel_rfl) 25 (.tmp 4) rfl (W.heap.size + 1) (rowW ys) 25 _ rfl (by simp [go_sem]) Tryd.underlying25 rfl (by rw [HZ2.out]; exact sInfo) ?_))
  go_at_call 25
  refine (wset_calls HX.out _ _).mono ?_; rintro e w1 ⟨rfl, y1, rfl⟩
  go_wp2_with (first | (refine wpList_load_any (by kernel_rfl) 25 (.tmp 3) rfl W.heap.size (rowW xs) 25 _ rfl (by simp [go_sem]) Tryd.underlying25 rfl (by rw [HZ.out]; exact sInfo) ?_) | (refine wpList_load_any (by kernel_rfl) 25 (.tmp 4) rfl (W.heap.size + 1) (rowW ys) 25 _ rfl (by simp [go_sem]) Tryd.underlying25 rfl (by rw [HZ2.out]; exact sInfo) ?_))
  go_at_call 18
  refine (to_at (by first | exact HX.out | exact HY.out | exact (withS_len _ _).trans HX.out | exact (withoutS_len _ _).trans HX.out | exact orR_len HX.out HY.out | exact andR_len HX.out HY.out | exact subR_len HX.out HY.out) _).mono ?_; rintro e w1 ⟨q1, m1, c1, y1, rfl, rfl, H1⟩
  go_wp2_with (first | (refine wpList_load_any (by kernel_rfl) 25 (.tmp 3) rfl W.heap.size (rowW xs) 25 _ rfl (by simp [go_sem]) Tryd.underlying25 rfl (by rw [HZ.out]; exact sInfo) ?_) | (refine wpList_load_any (by kernel_rfl) 25 (.tmp 4) rfl (W.heap.size + 1) (rowW ys) 25 _ rfl (by simp [go_sem]) Tryd.underlying25 rfl (by rw [HZ2.out]; exact sInfo) ?_))
  go_at_call 26
  refine (with_at HX.out _ (by first | (with_reducible assumption) | (refine IsAt.below (by with_reducible assumption) ?_; exact (by repeat (first | assumption | exact Below.refl _ _ | exact below_beyond _ _ | refine Below.beyond ?_ (by (try simp [size_beyond]) <;> omega) _ | refine Below.drew ?_ | refine Go.Rw.below_drewN ?_ _ | refine Go.Rw.below_setRow ?_ (by (try simp [size_beyond]) <;> omega) _ | refine Below.alloc ?_ (by (try simp [size_beyond]) <;> omega) _ | refine Below.setCell ?_ (by (try simp [size_beyond]) <;> omega) _))))).mono ?_; rintro e w1 ⟨q1, m1, c1, y1, rfl, rfl, H1⟩
  go_wp2_with (first | (refine wpList_load_any (by kernel_rfl) 25 (.tmp 3) rfl W.heap.size (rowW xs) 25 _ rfl (by simp [go_sem]) Tryd.underlying25 rfl (by rw [HZ.out]; exact sInfo) ?_) | (refine wpList_load_any (by kernel_rfl) 25 (.tmp 4) rfl (W.heap.size + 1) (rowW ys) 25 _ rfl (by simp [go_sem]) Tryd.underlying25 rfl (by rw [HZ2.out]; exact sInfo) ?_))
  go_at_call 17
  refine (same_at (by first | (with_reducible assumption) | (refine IsAt.below (by with_reducible assumption) ?_; exact (by repeat (first | assumption | exact Below.refl _ _ | exact below_beyond _ _ | refine Below.beyond ?_ (by (try simp [size_beyond]) <;> omega) _ | refine Below.drew ?_ | refine Go.Rw.below_drewN ?_ _ | refine Go.Rw.below_setRow ?_ (by (try simp [size_beyond]) <;> omega) _ | refine Below.alloc ?_ (by (try simp [size_beyond]) <;> omega) _ | refine Below.setCell ?_ (by (try simp [size_beyond]) <;> omega) _)))) (by first | (with_reducible assumption) | (refine IsAt.below (by with_reducible assumption) ?_; exact (by repeat (first | assumption | exact Below.refl _ _ | exact below_beyond _ _ | refine Below.beyond ?_ (by (try simp [size_beyond]) <;> omega) _ | refine Below.drew ?_ | refine Go.Rw.below_drewN ?_ _ | refine Go.Rw.below_setRow ?_ (by (try simp [size_beyond]) <;> omega) _ | refine Below.alloc ?_ (by (try simp [size_beyond]) <;> omega) _ | refine Below.setCell ?_ (by (try simp [size_beyond]) <;> omega) _))))).mono ?_; rintro e w1 ⟨rfl, y1, rfl⟩
  go_wp2_with (first | (refine wpList_load_any (by kernel_rfl) 25 (.tmp 3) rfl W.heap.size (rowW xs) 25 _ rfl (by simp [go_sem]) Tryd.underlying25 rfl (by rw [HZ.out]; exact sInfo) ?_) | (refine wpList_load_any (by kernel_rfl) 25 (.tmp 4) rfl (W.heap.size + 1) (rowW ys) 25 _ rfl (by simp [go_sem]) Tryd.underlying25 rfl (by rw [HZ2.out]; exact sInfo) ?_))
  go_at_call 27
  refine (woset_calls HX.out _ _).mono ?_; rintro e w1 ⟨rfl, y1, rfl⟩
  go_wp2_with (first | (refine wpList_load_any (by kernel_rfl) 25 (.tmp 3) rfl W.heap.size (rowW xs) 25 _ rfl (by simp [go_sem]) Tryd.underlying25 rfl (by rw [HZ.out]; exact sInfo) ?_) | (refine wpList_load_any (by kernel_rfl) 25 (.tmp 4) rfl (W.heap.size + 1) (rowW ys) 25 _ rfl (by simp [go_sem]) Tryd.underlying25 rfl (by rw [HZ2.out]; exact sInfo) ?_))
  go_at_call 18
  refine (to_at (by first | exact HX.out | exact HY.out | exact (withS_len _ _).trans HX.out | exact (withoutS_len _ _).trans HX.out | exact orR_len HX.out HY.out | exact andR_len HX.out HY.out | exact subR_len HX.out HY.out) _).mono ?_; rintro e w1 ⟨q1, m1, c1, y1, rfl, rfl, H1⟩
  go_wp2_with (first | (refine wpList_load_any (by kernel_rfl) 25 (.tmp 3) rfl W.heap.size (rowW xs) 25 _ rfl (by simp [go_sem]) Tryd.underlying25 rfl (by rw [HZ.out]; exact sInfo) ?_) | (refine wpList_load_any (by kernel_rfl) 25 (.tmp 4) rfl (W.heap.size + 1) (rowW ys) 25 _ rfl (by simp [go_sem]) Tryd.underlying25 rfl (by rw [HZ2.out]; exact sInfo) ?_))
  go_at_call 28
  refine (without_at HX.out _ (by first | (with_reducible assumption) | (refine IsAt.below (by with_reducible assumption) ?_; exact (by repeat (first | assumption | exact Below.refl _ _ | exact below_beyond _ _ | refine Below.beyond ?_ (by (try simp [size_beyond]) <;> omega) _ | refine Below.drew ?_ | refine Go.Rw.below_drewN ?_ _ | refine Go.Rw.below_setRow ?_ (by (try simp [size_beyond]) <;> omega) _ | refine Below.alloc ?_ (by (try simp [size_beyond]) <;> omega) _ | refine Below.setCell ?_ (by (try simp [size_beyond]) <;> omega) _))))).mono ?_; rintro e w1 ⟨q1, m1, c1, y1, rfl, rfl, H1⟩
  go_wp2_with (first | (refine wpList_load_any (by kernel_rfl) 25 (.tmp 3) rfl W.heap.size (rowW xs) 25 _ rfl (by simp [go_sem]) Tryd.underlying25 rfl (by rw [HZ.out]; exact sInfo) ?_) | (refine wpList_load_any (by kernel_rfl) 25 (.tmp 4) rfl (W.heap.size + 1) (rowW ys) 25 _ rfl (by simp [go_sem]) Tryd.underlying25 rfl (by rw [HZ2.out]; exact sInfo) ?_))
  go_at_call 17
  refine (same_at (by first | (with_reducible assumption) | (refine IsAt.below (by with_reducible assumption) ?_; exact (by repeat (first | assumption | exact Below.refl _ _ | exact below_beyond _ _ | refine Below.beyond ?_ (by (try simp [size_beyond]) <;> omega) _ | refine Below.drew ?_ | refine Go.Rw.below_drewN ?_ _ | refine Go.Rw.below_setRow ?_ (by (try simp [size_beyond]) <;> omega) _ | refine Below.alloc ?_ (by (try simp [size_beyond]) <;> omega) _ | refine Below.setCell ?_ (by (try simp [size_beyond]) <;> omega) _)))) (by first | (with_reducible assumption) | (refine IsAt.below (by with_reducible assumption) ?_; exact (by repeat (first | assumption | exact Below.refl _ _ | exact below_beyond _ _ | refine Below.beyond ?_ (by (try simp [size_beyond]) <;> omega) _ | refine Below.drew ?_ | refine Go.Rw.below_drewN ?_ _ | refine Go.Rw.below_setRow ?_ (by (try simp [size_beyond]) <;> omega) _ | refine Below.alloc ?_ (by (try simp [size_beyond]) <;> omega) _ | refine Below.setCell ?_ (by (try simp [size_beyond]) <;> omega) _))))).mono ?_; rintro e w1 ⟨rfl, y1, rfl⟩
  go_wp2_with (first | (refine wpList_load_any (by kernel_rfl) 25 (.tmp 3) rfl W.heap.size (rowW xs) 25 _ rfl (by simp [go_sem]) Tryd.underlying25 rfl (by rw [HZ.out]; exact sInfo) ?_) | (refine wpList_load_any (by kernel_rfl) 25 (.tmp 4) rfl (W.heap.size + 1) (rowW ys) 25 _ rfl (by simp [go_sem]) Tryd.underlying25 rfl (by rw [HZ2.out]; exact sInfo) ?_))
  go_at_call 29
  refine (andset_calls HX.out HY.out _).mono ?_; rintro e w1 ⟨rfl, y1, rfl⟩
  go_wp2_with (first | (refine wpList_load_any (by kernel_rfl) 25 (.tmp 3) rfl W.heap.size (rowW xs) 25 _ rfl (by simp [go_sem]) Tryd.underlying25 rfl (by rw [HZ.out]; exact sInfo) ?_) | (refine wpList_load_any (by kernel_rfl) 25 (.tmp 4) rfl (W.heap.size + 1) (rowW ys) 25 _ rfl (by simp [go_sem]) Tryd.underlying25 rfl (by rw [HZ2.out]; exact sInfo) ?_))
  go_at_call 18
  refine (to_at (by first | exact HX.out | exact HY.out | exact (withS_len _ _).trans HX.out | exact (withoutS_len _ _).trans HX.out | exact orR_len HX.out HY.out | exact andR_len HX.out HY.out | exact subR_len HX.out HY.out) _).mono ?_; rintro e w1 ⟨q1, m1, c1, y1, rfl, rfl, H1⟩
  go_wp2_with (first | (refine wpList_load_any (by kernel_rfl) 25 (.tmp 3) rfl W.heap.size (rowW xs) 25 _ rfl (by simp [go_sem]) Tryd.underlying25 rfl (by rw [HZ.out]; exact sInfo) ?_) | (refine wpList_load_any (by kernel_rfl) 25 (.tmp 4) rfl (W.heap.size + 1) (rowW ys) 25 _ rfl (by simp [go_sem]) Tryd.underlying25 rfl (by rw [HZ2.out]; exact sInfo) ?_))
  go_at_call 30
  refine (and_at HX.out HY.out (by first | (with_reducible assumption) | (refine IsAt.below (by with_reducible assumption) ?_; exact (by repeat (first | assumption | exact Below.refl _ _ | exact below_beyond _ _ | refine Below.beyond ?_ (by (try simp [size_beyond]) <;> omega) _ | refine Below.drew ?_ | refine Go.Rw.below_drewN ?_ _ | refine Go.Rw.below_setRow ?_ (by (try simp [size_beyond]) <;> omega) _ | refine Below.alloc ?_ (by (try simp [size_beyond]) <;> omega) _ | refine Below.setCell ?_ (by (try simp [size_beyond]) <;> omega) _)))) (by first | (with_reducible assumption) | (refine IsAt.below (by with_reducible assumption) ?_; exact (by repeat (first | assumption | exact Below.refl _ _ | exact below_beyond _ _ | refine Below.beyond ?_ (by (try simp [size_beyond]) <;> omega) _ | refine Below.drew ?_ | refine Go.Rw.below_drewN ?_ _ | refine Go.Rw.below_setRow ?_ (by (try simp [size_beyond]) <;> omega) _ | refine Below.alloc ?_ (by (try simp [size_beyond]) <;> omega) _ | refine Below.setCell ?_ (by (try simp [size_beyond]) <;> omega) _))))).mono ?_; rintro e w1 ⟨q1, m1, c1, y1, rfl, rfl, H1⟩
  go_wp2_with (first | (refine wpList_load_any (by kernel_rfl) 25 (.tmp 3) rfl W.heap.size (rowW xs) 25 _ rfl (by simp [go_sem]) Tryd.underlying25 rfl (by rw [HZ.out]; exact sInfo) ?_) | (refine wpList_load_any (by kernel_rfl) 25 (.tmp 4) rfl (W.heap.size + 1) (rowW ys) 25 _ rfl (by simp [go_sem]) Tryd.underlying25 rfl (by rw [HZ2.out]; exact sInfo) ?_))
  go_at_call 17
  refine (same_at (by first | (with_reducible assumption) | (refine IsAt.below (by with_reducible assumption) ?_; exact (by repeat (first | assumption | exact Below.refl _ _ | exact below_beyond _ _ | refine Below.beyond ?_ (by (try simp [size_beyond]) <;> omega) _ | refine Below.drew ?_ | refine Go.Rw.below_drewN ?_ _ | refine Go.Rw.below_setRow ?_ (by (try simp [size_beyond]) <;> omega) _ | refine Below.alloc ?_ (by (try simp [size_beyond]) <;> omega) _ | refine Below.setCell ?_ (by (try simp [size_beyond]) <;> omega) _)))) (by first | (with_reducible assumption) | (refine IsAt.below (by with_reducible assumption) ?_; exact (by repeat (first | assumption | exact Below.refl _ _ | exact below_beyond _ _ | refine Below.beyond ?_ (by (try simp [size_beyond]) <;> omega) _ | refine Below.drew ?_ | refine Go.Rw.below_drewN ?_ _ | refine Go.Rw.below_setRow ?_ (by (try simp [size_beyond]) <;> omega) _ | refine Below.alloc ?_ (by (try simp [size_beyond]) <;> omega) _ | refine Below.setCell ?_ (by (try simp [size_beyond]) <;> omega) _))))).mono ?_; rintro e w1 ⟨rfl, y1, rfl⟩
  go_wp2_with (first | (refine wpList_load_any (by kernel_rfl) 25 (.tmp 3) rfl W.heap.size (rowW xs) 25 _ rfl (by simp [go_sem]) Tryd.underlying25 rfl (by rw [HZ.out]; exact sInfo) ?_) | (refine wpList_load_any (by kernel_rfl) 25 (.tmp 4) rfl (W.heap.size + 1) (rowW ys) 25 _ rfl (by simp [go_sem]) Tryd.underlying25 rfl (by rw [HZ2.out]; exact sInfo) ?_))
  go_at_call 31
  refine (orset_calls HX.out HY.out _).mono ?_; rintro e w1 ⟨rfl, y1, rfl⟩
  go_wp2_with (first | (refine wpList_load_any (by kernel_rfl) 25 (.tmp 3) rfl W.heap.size (rowW xs) 25 _ rfl (by simp [go_sem]) Tryd.underlying25 rfl (by rw [HZ.out]; exact sInfo) ?_) | (refine wpList_load_any (by kernel_rfl) 25 (.tmp 4) rfl (W.heap.size + 1) (rowW ys) 25 _ rfl (by simp [go_sem]) Tryd.underlying25 rfl (by rw [HZ2.out]; exact sInfo) ?_))
  go_at_call 18
  refine (to_at (by first | exact HX.out | exact HY.out | exact (withS_len _ _).trans HX.out | exact (withoutS_len _ _).trans HX.out | exact orR_len HX.out HY.out | exact andR_len HX.out HY.out | exact subR_len HX.out HY.out) _).mono ?_; rintro e w1 ⟨q1, m1, c1, y1, rfl, rfl, H1⟩
  go_wp2_with (first | (refine wpList_load_any (by kernel_rfl) 25 (.tmp 3) rfl W.heap.size (rowW xs) 25 _ rfl (by simp [go_sem]) Tryd.underlying25 rfl (by rw [HZ.out]; exact sInfo) ?_) | (refine wpList_load_any (by kernel_rfl) 25 (.tmp 4) rfl (W.heap.size + 1) (rowW ys) 25 _ rfl (by simp [go_sem]) Tryd.underlying25 rfl (by rw [HZ2.out]; exact sInfo) ?_))
  go_at_call 32
  refine (or_at HX.out HY.out (by first | (with_reducible assumption) | (refine IsAt.below (by with_reducible assumption) ?_; exact (by repeat (first | assumption | exact Below.refl _ _ | exact below_beyond _ _ | refine Below.beyond ?_ (by (try simp [size_beyond]) <;> omega) _ | refine Below.drew ?_ | refine Go.Rw.below_drewN ?_ _ | refine Go.Rw.below_setRow ?_ (by (try simp [size_beyond]) <;> omega) _ | refine Below.alloc ?_ (by (try simp [size_beyond]) <;> omega) _ | refine Below.setCell ?_ (by (try simp [size_beyond]) <;> omega) _)))) (by first | (with_reducible assumption) | (refine IsAt.below (by with_reducible assumption) ?_; exact (by repeat (first | assumption | exact Below.refl _ _ | exact below_beyond _ _ | refine Below.beyond ?_ (by (try simp [size_beyond]) <;> omega) _ | refine Below.drew ?_ | refine Go.Rw.below_drewN ?_ _ | refine Go.Rw.below_setRow ?_ (by (try simp [size_beyond]) <;> omega) _ | refine Below.alloc ?_ (by (try simp [size_beyond]) <;> omega) _ | refine Below.setCell ?_ (by (try simp [size_beyond]) <;> omega) _))))).mono ?_; rintro e w1 ⟨q1, m1, c1, y1, rfl, rfl, H1⟩
  go_wp2_with (first | (refine wpList_load_any (by kernel_rfl) 25 (.tmp 3) rfl W.heap.size (rowW xs) 25 _ rfl (by simp [go_sem]) Tryd.underlying25 rfl (by rw [HZ.out]; exact sInfo) ?_) | (refine wpList_load_any (by kernel_rfl) 25 (.tmp 4) rfl (W.heap.size + 1) (rowW ys) 25 _ rfl (by simp [go_sem]) Tryd.underlying25 rfl (by rw [HZ2.out]; exact sInfo) ?_))
  go_at_call 17
  refine (same_at (by first | (with_reducible assumption) | (refine IsAt.below (by with_reducible assumption) ?_; exact (by repeat (first | assumption | exact Below.refl _ _ | exact below_beyond _ _ | refine Below.beyond ?_ (by (try simp [size_beyond]) <;> omega) _ | refine Below.drew ?_ | refine Go.Rw.below_drewN ?_ _ | refine Go.Rw.below_setRow ?_ (by (try simp [size_beyond]) <;> omega) _ | refine Below.alloc ?_ (by (try simp [size_beyond]) <;> omega) _ | refine Below.setCell ?_ (by (try simp [size_beyond]) <;> omega) _)))) (by first | (with_reducible assumption) | (refine IsAt.below (by with_reducible assumption) ?_; exact (by repeat (first | assumption | exact Below.refl _ _ | exact below_beyond _ _ | refine Below.beyond ?_ (by (try simp [size_beyond]) <;> omega) _ | refine Below.drew ?_ | refine Go.Rw.below_drewN ?_ _ | refine Go.Rw.below_setRow ?_ (by (try simp [size_beyond]) <;> omega) _ | refine Below.alloc ?_ (by (try simp [size_beyond]) <;> omega) _ | refine Below.setCell ?_ (by (try simp [size_beyond]) <;> omega) _))))).mono ?_; rintro e w1 ⟨rfl, y1, rfl⟩
  go_wp2_with (first | (refine wpList_load_any (by kernel_rfl) 25 (.tmp 3) rfl W.heap.size (rowW xs) 25 _ rfl (by simp [go_sem]) Tryd.underlying25 rfl (by rw [HZ.out]; exact sInfo) ?_) | (refine wpList_load_any (by kernel_rfl) 25 (.tmp 4) rfl (W.heap.size + 1) (rowW ys) 25 _ rfl (by simp [go_sem]) Tryd.underlying25 rfl (by rw [HZ2.out]; exact sInfo) ?_))
  go_at_call 33
  refine (subset_calls HX.out HY.out _).mono ?_; rintro e w1 ⟨rfl, y1, rfl⟩
  go_wp2_with (first | (refine wpList_load_any (by kernel_rfl) 25 (.tmp 3) rfl W.heap.size (rowW xs) 25 _ rfl (by simp [go_sem]) Tryd.underlying25 rfl (by rw [HZ.out]; exact sInfo) ?_) | (refine wpList_load_any (by kernel_rfl) 25 (.tmp 4) rfl (W.heap.size + 1) (rowW ys) 25 _ rfl (by simp [go_sem]) Tryd.underlying25 rfl (by rw [HZ2.out]; exact sInfo) ?_))
  go_at_call 18
  refine (to_at (by first | exact HX.out | exact HY.out | exact (withS_len _ _).trans HX.out | exact (withoutS_len _ _).trans HX.out | exact orR_len HX.out HY.out | exact andR_len HX.out HY.out | exact subR_len HX.out HY.out) _).mono ?_; rintro e w1 ⟨q1, m1, c1, y1, rfl, rfl, H1⟩
  go_wp2_with (first | (refine wpList_load_any (by kernel_rfl) 25 (.tmp 3) rfl W.heap.size (rowW xs) 25 _ rfl (by simp [go_sem]) Tryd.underlying25 rfl (by rw [HZ.out]; exact sInfo) ?_) | (refine wpList_load_any (by kernel_rfl) 25 (.tmp 4) rfl (W.heap.size + 1) (rowW ys) 25 _ rfl (by simp [go_sem]) Tryd.underlying25 rfl (by rw [HZ2.out]; exact sInfo) ?_))
  go_at_call 34
  refine (minus_at HX.out HY.out (by first | (with_reducible assumption) | (refine IsAt.below (by with_reducible assumption) ?_; exact (by repeat (first | assumption | exact Below.refl _ _ | exact below_beyond _ _ | refine Below.beyond ?_ (by (try simp [size_beyond]) <;> omega) _ | refine Below.drew ?_ | refine Go.Rw.below_drewN ?_ _ | refine Go.Rw.below_setRow ?_ (by (try simp [size_beyond]) <;> omega) _ | refine Below.alloc ?_ (by (try simp [size_beyond]) <;> omega) _ | refine Below.setCell ?_ (by (try simp [size_beyond]) <;> omega) _)))) (by first | (with_reducible assumption) | (refine IsAt.below (by with_reducible assumption) ?_; exact (by repeat (first | assumption | exact Below.refl _ _ | exact below_beyond _ _ | refine Below.beyond ?_ (by (try simp [size_beyond]) <;> omega) _ | refine Below.drew ?_ | refine Go.Rw.below_drewN ?_ _ | refine Go.Rw.below_setRow ?_ (by (try simp [size_beyond]) <;> omega) _ | refine Below.alloc ?_ (by (try simp [size_beyond]) <;> omega) _ | refine Below.setCell ?_ (by (try simp [size_beyond]) <;> omega) _))))).mono ?_; rintro e w1 ⟨q1, m1, c1, y1, rfl, rfl, H1⟩
  go_wp2_with (first | (refine wpList_load_any (by kernel_rfl) 25 (.tmp 3) rfl W.heap.size (rowW xs) 25 _ rfl (by simp [go_sem]) Tryd.underlying25 rfl (by rw [HZ.out]; exact sInfo) ?_) | (refine wpList_load_any (by kernel_rfl) 25 (.tmp 4) rfl (W.heap.size + 1) (rowW ys) 25 _ rfl (by simp [go_sem]) Tryd.underlying25 rfl (by rw [HZ2.out]; exact sInfo) ?_))
  go_at_call 17
  refine (same_at (by first | (with_reducible assumption) | (refine IsAt.below (by with_reducible assumption) ?_; exact (by repeat (first | assumption | exact Below.refl _ _ | exact below_beyond _ _ | refine Below.beyond ?_ (by (try simp [size_beyond]) <;> omega) _ | refine Below.drew ?_ | refine Go.Rw.below_drewN ?_ _ | refine Go.Rw.below_setRow ?_ (by (try simp [size_beyond]) <;> omega) _ | refine Below.alloc ?_ (by (try simp [size_beyond]) <;> omega) _ | refine Below.setCell ?_ (by (try simp [size_beyond]) <;> omega) _)))) (by first | (with_reducible assumption) | (refine IsAt.below (by with_reducible assumption) ?_; exact (by repeat (first | assumption | exact Below.refl _ _ | exact below_beyond _ _ | refine Below.beyond ?_ (by (try simp [size_beyond]) <;> omega) _ | refine Below.drew ?_ | refine Go.Rw.below_drewN ?_ _ | refine Go.Rw.below_setRow ?_ (by (try simp [size_beyond]) <;> omega) _ | refine Below.alloc ?_ (by (try simp [size_beyond]) <;> omega) _ | refine Below.setCell ?_ (by (try simp [size_beyond]) <;> omega) _))))).mono ?_; rintro e w1 ⟨rfl, y1, rfl⟩
  go_wp2_with (first | (refine wpList_load_any (by kernel_rfl) 25 (.tmp 3) rfl W.heap.size (rowW xs) 25 _ rfl (by simp [go_sem]) Tryd.underlying25 rfl (by rw [HZ.out]; exact sInfo) ?_) | (refine wpList_load_any (by kernel_rfl) 25 (.tmp 4) rfl (W.heap.size + 1) (rowW ys) 25 _ rfl (by simp [go_sem]) Tryd.underlying25 rfl (by rw [HZ2.out]; exact sInfo) ?_))
  go_at_call 24
  refine (KK.out _ (by repeat (first | assumption | exact Below.refl _ _ | exact below_beyond _ _ | refine Below.beyond ?_ (by (try simp [size_beyond]) <;> omega) _ | refine Below.drew ?_ | refine Go.Rw.below_drewN ?_ _ | refine Go.Rw.below_setRow ?_ (by (try simp [size_beyond]) <;> omega) _ | refine Below.alloc ?_ (by (try simp [size_beyond]) <;> omega) _ | refine Below.setCell ?_ (by (try simp [size_beyond]) <;> omega) _))).mono ?_; rintro e w1 ⟨rfl, y1, rfl⟩
  go_wp2_with (first | (refine wpList_load_any (by kernel_rfl) 25 (.tmp 3) rfl W.heap.size (rowW xs) 25 _ rfl (by simp [go_sem]) Tryd.underlying25 rfl (by rw [HZ.out]; exact sInfo) ?_) | (refine wpList_load_any (by kernel_rfl) 25 (.tmp 4) rfl (W.heap.size + 1) (rowW ys) 25 _ rfl (by simp [go_sem]) Tryd.underlying25 rfl (by rw [HZ2.out]; exact sInfo) ?_))
  go_at_call 35
  refine (within_set HX.out HY.out _).mono ?_; rintro e w1 ⟨rfl, y1, rfl⟩
  go_wp2_with (first | (refine wpList_load_any (by kernel_rfl) 25 (.tmp 3) rfl W.heap.size (rowW xs) 25 _ rfl (by simp [go_sem]) Tryd.underlying25 rfl (by rw [HZ.out]; exact sInfo) ?_) | (refine wpList_load_any (by kernel_rfl) 25 (.tmp 4) rfl (W.heap.size + 1) (rowW ys) 25 _ rfl (by simp [go_sem]) Tryd.underlying25 rfl (by rw [HZ2.out]; exact sInfo) ?_))
  go_at_call 36
  refine (within_at HX.out HY.out (by first | (with_reducible assumption) | (refine IsAt.below (by with_reducible assumption) ?_; exact (by repeat (first | assumption | exact Below.refl _ _ | exact below_beyond _ _ | refine Below.beyond ?_ (by (try simp [size_beyond]) <;> omega) _ | refine Below.drew ?_ | refine Go.Rw.below_drewN ?_ _ | refine Go.Rw.below_setRow ?_ (by (try simp [size_beyond]) <;> omega) _ | refine Below.alloc ?_ (by (try simp [size_beyond]) <;> omega) _ | refine Below.setCell ?_ (by (try simp [size_beyond]) <;> omega) _)))) (by first | (with_reducible assumption) | (refine IsAt.below (by with_reducible assumption) ?_; exact (by repeat (first | assumption | exact Below.refl _ _ | exact below_beyond _ _ | refine Below.beyond ?_ (by (try simp [size_beyond]) <;> omega) _ | refine Below.drew ?_ | refine Go.Rw.below_drewN ?_ _ | refine Go.Rw.below_setRow ?_ (by (try simp [size_beyond]) <;> omega) _ | refine Below.alloc ?_ (by (try simp [size_beyond]) <;> omega) _ | refine Below.setCell ?_ (by (try simp [size_beyond]) <;> omega) _))))).mono ?_; rintro e w1 ⟨rfl, y1, rfl⟩
  go_wp2
  go_ret
  exact ⟨ret_bool (by simp), beyond_of (by repeat (first | assumption | exact Below.refl _ _ | exact below_beyond _ _ | refine Below.beyond ?_ (by (try simp [size_beyond]) <;> omega) _ | refine Below.drew ?_ | refine Go.Rw.below_drewN ?_ _ | refine Go.Rw.below_setRow ?_ (by (try simp [size_beyond]) <;> omega) _ | refine Below.alloc ?_ (by (try simp [size_beyond]) <;> omega) _ | refine Below.setCell ?_ (by (try simp [size_beyond]) <;> omega) _))⟩
theorem walk {W : World} (hL : laidMetH Tryd.prog Rows.bitsetOperationsRow.laid W) (x0_0 x0_1 x0_2 x0_3 x0_4 x0_5 x0_6 x0_7 x0_8 x0_9 x0_10 x0_11 x0_12 x0_13 x0_14 x0_15 x1_0 x1_1 x1_2 x1_3 x1_4 x1_5 x1_6 x1_7 x1_8 x1_9 x1_10 x1_11 x1_12 x1_13 x1_14 x1_15 x2_0 : Int) (w0_0 : IntKind.u64.has x0_0) (w0_1 : IntKind.u64.has x0_1) (w0_2 : IntKind.u64.has x0_2) (w0_3 : IntKind.u64.has x0_3) (w0_4 : IntKind.u64.has x0_4) (w0_5 : IntKind.u64.has x0_5) (w0_6 : IntKind.u64.has x0_6) (w0_7 : IntKind.u64.has x0_7) (w0_8 : IntKind.u64.has x0_8) (w0_9 : IntKind.u64.has x0_9) (w0_10 : IntKind.u64.has x0_10) (w0_11 : IntKind.u64.has x0_11) (w0_12 : IntKind.u64.has x0_12) (w0_13 : IntKind.u64.has x0_13) (w0_14 : IntKind.u64.has x0_14) (w0_15 : IntKind.u64.has x0_15) (w1_0 : IntKind.u64.has x1_0) (w1_1 : IntKind.u64.has x1_1) (w1_2 : IntKind.u64.has x1_2) (w1_3 : IntKind.u64.has x1_3) (w1_4 : IntKind.u64.has x1_4) (w1_5 : IntKind.u64.has x1_5) (w1_6 : IntKind.u64.has x1_6) (w1_7 : IntKind.u64.has x1_7) (w1_8 : IntKind.u64.has x1_8) (w1_9 : IntKind.u64.has x1_9) (w1_10 : IntKind.u64.has x1_10) (w1_11 : IntKind.u64.has x1_11) (w1_12 : IntKind.u64.has x1_12) (w1_13 : IntKind.u64.has x1_13) (w1_14 : IntKind.u64.has x1_14) (w1_15 : IntKind.u64.has x1_15) (w2_0 : IntKind.i64.has x2_0) :
    Calls Tryd.prog 4 #[.agg #[.int .u64 x0_0, .int .u64 x0_1, .int .u64 x0_2, .int .u64 x0_3, .int .u64 x0_4, .int .u64 x0_5, .int .u64 x0_6, .int .u64 x0_7, .int .u64 x0_8, .int .u64 x0_9, .int .u64 x0_10, .int .u64 x0_11, .int .u64 x0_12, .int .u64 x0_13, .int .u64 x0_14, .int .u64 x0_15], .agg #[.int .u64 x1_0, .int .u64 x1_1, .int .u64 x1_2, .int .u64 x1_3, .int .u64 x1_4, .int .u64 x1_5, .int .u64 x1_6, .int .u64 x1_7, .int .u64 x1_8, .int .u64 x1_9, .int .u64 x1_10, .int .u64 x1_11, .int .u64 x1_12, .int .u64 x1_13, .int .u64 x1_14, .int .u64 x1_15], .int .i64 x2_0] W fun e w' => e = .returned (.bool true) ∧ ∃ x, w' = beyond W x := by
  obtain ⟨A0, rfl⟩ := toI_of w0_0
  obtain ⟨A1, rfl⟩ := toI_of w0_1
  obtain ⟨A2, rfl⟩ := toI_of w0_2
  obtain ⟨A3, rfl⟩ := toI_of w0_3
  obtain ⟨A4, rfl⟩ := toI_of w0_4
  obtain ⟨A5, rfl⟩ := toI_of w0_5
  obtain ⟨A6, rfl⟩ := toI_of w0_6
  obtain ⟨A7, rfl⟩ := toI_of w0_7
  obtain ⟨A8, rfl⟩ := toI_of w0_8
  obtain ⟨A9, rfl⟩ := toI_of w0_9
  obtain ⟨A10, rfl⟩ := toI_of w0_10
  obtain ⟨A11, rfl⟩ := toI_of w0_11
  obtain ⟨A12, rfl⟩ := toI_of w0_12
  obtain ⟨A13, rfl⟩ := toI_of w0_13
  obtain ⟨A14, rfl⟩ := toI_of w0_14
  obtain ⟨A15, rfl⟩ := toI_of w0_15
  obtain ⟨B0, rfl⟩ := toI_of w1_0
  obtain ⟨B1, rfl⟩ := toI_of w1_1
  obtain ⟨B2, rfl⟩ := toI_of w1_2
  obtain ⟨B3, rfl⟩ := toI_of w1_3
  obtain ⟨B4, rfl⟩ := toI_of w1_4
  obtain ⟨B5, rfl⟩ := toI_of w1_5
  obtain ⟨B6, rfl⟩ := toI_of w1_6
  obtain ⟨B7, rfl⟩ := toI_of w1_7
  obtain ⟨B8, rfl⟩ := toI_of w1_8
  obtain ⟨B9, rfl⟩ := toI_of w1_9
  obtain ⟨B10, rfl⟩ := toI_of w1_10
  obtain ⟨B11, rfl⟩ := toI_of w1_11
  obtain ⟨B12, rfl⟩ := toI_of w1_12
  obtain ⟨B13, rfl⟩ := toI_of w1_13
  obtain ⟨B14, rfl⟩ := toI_of w1_14
  obtain ⟨B15, rfl⟩ := toI_of w1_15
  exact main hL (xs := [A0, A1, A2, A3, A4, A5, A6, A7, A8, A9, A10, A11, A12, A13, A14, A15]) (ys := [B0, B1, B2, B3, B4, B5, B6, B7, B8, B9, B10, B11, B12, B13, B14, B15]) rfl rfl x2_0
end Go.Proofs.YtjneboajbmabbaaDoor.bitsetOperations
