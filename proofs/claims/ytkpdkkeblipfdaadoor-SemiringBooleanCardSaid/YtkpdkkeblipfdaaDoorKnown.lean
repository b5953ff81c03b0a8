/-
  The chapter's examples: known() returns true.
-/
import Derived.Test.YtkpdkkeblipfdaaDoorText
import Derived.Test.YtkpdkkeblipfdaaDoorTrop2
set_option linter.unusedSimpArgs false
set_option linter.unusedVariables false
namespace Go.Proofs.YtkpdkkeblipfdaaDoor.nat
open Go.RowKit Go.Own
set_option maxHeartbeats 400000
set_option maxRecDepth 100000

theorem fromUint64_one (w : World) :
    Calls Tryd.prog 17 #[.int .u64 1] w fun e w' => e = .returned (.agg #[.slice (some ⟨w.heap.size + 1, 0, none⟩) 1 1]) ∧
      ∃ x, w' = beyond ((w.alloc (.cells #[.slice (some ⟨w.heap.size + 1, 0, none⟩) 1 1] 30)).alloc (.cells #[.int .u32 1, .int .u32 0] 26)) x := by
  go_enter Tryd.func17, Tryd.ntmps17
  go_wp2_with fail
  refine (trimmed_calls _ 2 2 (fun i => if i = 0 then 1 else 0) _ ?dig).mono ?_
  case dig =>
    refine ⟨w.heap.size + 1, 0, by omega, by decide, fun _ => ⟨rfl, by simp⟩, fun i hi => ?_⟩
    match i, hi with
    | 0, _ => exact ⟨by simp [go_sem], by simp⟩
    | 1, _ => exact ⟨by simp [go_sem], by simp⟩
  rintro e w1 ⟨j, q', rfl, h1, h2, -, h3, h4, x, rfl⟩
  obtain rfl : j = 1 := by
    rcases j with _ | _ | _ | j
    · simp [val] at h4
    · rfl
    · exact absurd rfl (h3 (by omega))
    · omega
  obtain rfl := h2 (by omega)
  clear h1 h2 h3 h4
  go_wp2
  refine bodyPost_ret (results_block rfl _ _ _ 30 _ _ rfl (by simp [go_sem] <;> rfl) Tryd.underlying30 rfl (by kernel_rfl)) rfl ?_
  exact ⟨rfl, beyond_of (by repeat (first | assumption | exact Below.refl _ _ | exact below_beyond _ _ | refine Below.beyond ?_ (by (try simp [size_beyond]) <;> omega) _ | refine Below.drew ?_ | refine Below.alloc ?_ (by (try simp [size_beyond]) <;> omega) _ | refine Below.setCell ?_ (by (try simp [size_beyond]) <;> omega) _))⟩

theorem one_calls (w : World) :
    Calls Tryd.prog 20 #[.agg #[]] w fun e w' => ∃ b, e = .returned (.agg #[.slice (some ⟨b, 0, none⟩) 1 1]) ∧ b < w'.heap.size ∧ w'.cell? ⟨b, 0, none⟩ = some (.int .u32 1) ∧ ∃ x, w' = beyond w x := by
  go_enter Tryd.func20, Tryd.ntmps20
  go_wp2_with ((go_at_call 17; refine (fromUint64_one _).mono ?_; rintro e w1 ⟨rfl, x1, rfl⟩))
  refine bodyPost_ret (results_block rfl _ _ _ 30 _ _ rfl (by simp [go_sem] <;> rfl) Tryd.underlying30 rfl (by kernel_rfl)) rfl ?_
  exact ⟨_, rfl, by simp [size_beyond]; omega, by simp [go_sem], beyond_of (by repeat (first | assumption | exact Below.refl _ _ | exact below_beyond _ _ | refine Below.beyond ?_ (by (try simp [size_beyond]) <;> omega) _ | refine Below.drew ?_ | refine Below.alloc ?_ (by (try simp [size_beyond]) <;> omega) _ | refine Below.setCell ?_ (by (try simp [size_beyond]) <;> omega) _))⟩

theorem known_calls (w : World) :
    Calls Tryd.prog 16 #[] w fun e w' => e = .returned (.bool true) ∧ ∃ x, w' = beyond w x := by
  go_enter Tryd.func16, Tryd.ntmps16
  have minAdd1 : ∀ w, Calls Tryd.prog 29 #[.agg #[], .agg #[.bool true, .int .i64 3], .agg #[.bool true, .int .i64 5]] w fun e w' => e = .returned (.agg #[.bool true, .int .i64 3]) ∧ ∃ x, w' = beyond w x := fun w => semi.minAdd_calls true true 3 5 w
  have minMul1 : ∀ w, Calls Tryd.prog 32 #[.agg #[], .agg #[.bool true, .int .i64 3], .agg #[.bool true, .int .i64 5]] w fun e w' => e = .returned (.agg #[.bool true, .int .i64 8]) ∧ ∃ x, w' = beyond w x := fun w => by
    have h := semi.minMul_calls true true 3 5 w
    rw [show semi.mulV true 3 true 5 = 8 by decide +kernel] at h
    exact h
  have minAdd2 : ∀ w, Calls Tryd.prog 29 #[.agg #[], .agg #[.bool false, .int .i64 0], .agg #[.bool true, .int .i64 5]] w fun e w' => e = .returned (.agg #[.bool true, .int .i64 5]) ∧ ∃ x, w' = beyond w x := fun w => semi.minAdd_calls false true 0 5 w
  have minMul2 : ∀ w, Calls Tryd.prog 32 #[.agg #[], .agg #[.bool false, .int .i64 0], .agg #[.bool true, .int .i64 5]] w fun e w' => e = .returned (.agg #[.bool false, .int .i64 0]) ∧ ∃ x, w' = beyond w x := fun w => semi.minMul_calls false true 0 5 w
  have maxAdd1 : ∀ w, Calls Tryd.prog 31 #[.agg #[], .agg #[.bool true, .int .i64 3], .agg #[.bool true, .int .i64 5]] w fun e w' => e = .returned (.agg #[.bool true, .int .i64 5]) ∧ ∃ x, w' = beyond w x := fun w => semi.maxAdd_calls true true 3 5 w
  have HminAdd1 := Lib.hid minAdd1; clear minAdd1
  have HminMul1 := Lib.hid minMul1; clear minMul1
  have HminAdd2 := Lib.hid minAdd2; clear minAdd2
  have HminMul2 := Lib.hid minMul2; clear minMul2
  have HmaxAdd1 := Lib.hid maxAdd1; clear maxAdd1
  go_wp2
  refine wp_region_plan (fun w' => ∃ x, w' = beyond (((((w.alloc (.cells #[] 41)).alloc (.cells #[] 42)).alloc (.cells #[.bool true, .int .i64 3] 44)).alloc (.cells #[.bool true, .int .i64 5] 44)).alloc (.cells #[.bool false, .int .i64 0] 44)) x) [([0,1,2,4],3), ([5,6,7,8,9,11],10), ([12,13,14,15,16,17,19],18), ([20,21,22,23,24,25,27],26), ([28,29,30,31,32,33,35],34), ([36,37,38,39],40), ([],41)] [42,43,44] (by kernel_rfl) (by kernel_rfl) (by intro _ _ d _ _ h; cases d <;> exact h) (beyond_of (by repeat (first | assumption | exact Below.refl _ _ | exact below_beyond _ _ | refine Below.beyond ?_ (by (try simp [size_beyond]) <;> omega) _ | refine Below.drew ?_ | refine Below.alloc ?_ (by (try simp [size_beyond]) <;> omega) _ | refine Below.setCell ?_ (by (try simp [size_beyond]) <;> omega) _))) ?_
  simp only [wpSegs, pick, List.filterMap, List.size_toArray, List.getElem?_toArray, List.getElem?_cons_zero, List.getElem?_cons_succ]
  repeat (go_big_quiet_step (fail))
  refine wpQuiet_nil ?_
  go_wp2_with ((go_at_call 29; refine (HminAdd1.out _).mono ?_; rintro e w1 ⟨rfl, y1, rfl⟩))
  refine ⟨beyond_of (by repeat (first | assumption | exact Below.refl _ _ | exact below_beyond _ _ | refine Below.beyond ?_ (by (try simp [size_beyond]) <;> omega) _ | refine Below.drew ?_ | refine Below.alloc ?_ (by (try simp [size_beyond]) <;> omega) _ | refine Below.setCell ?_ (by (try simp [size_beyond]) <;> omega) _)), ?_⟩
  repeat (go_big_quiet_step (fail))
  refine wpQuiet_nil ?_
  go_wp2_with ((go_at_call 32; refine (HminMul1.out _).mono ?_; rintro e w2 ⟨rfl, y2, rfl⟩))
  refine ⟨beyond_of (by repeat (first | assumption | exact Below.refl _ _ | exact below_beyond _ _ | refine Below.beyond ?_ (by (try simp [size_beyond]) <;> omega) _ | refine Below.drew ?_ | refine Below.alloc ?_ (by (try simp [size_beyond]) <;> omega) _ | refine Below.setCell ?_ (by (try simp [size_beyond]) <;> omega) _)), ?_⟩
  repeat (go_big_quiet_step (fail))
  refine wpQuiet_nil ?_
  go_wp2_with ((go_at_call 29; refine (HminAdd2.out _).mono ?_; rintro e w3 ⟨rfl, y3, rfl⟩))
  refine ⟨beyond_of (by repeat (first | assumption | exact Below.refl _ _ | exact below_beyond _ _ | refine Below.beyond ?_ (by (try simp [size_beyond]) <;> omega) _ | refine Below.drew ?_ | refine Below.alloc ?_ (by (try simp [size_beyond]) <;> omega) _ | refine Below.setCell ?_ (by (try simp [size_beyond]) <;> omega) _)), ?_⟩
  repeat (go_big_quiet_step (fail))
  refine wpQuiet_nil ?_
  go_wp2_with ((go_at_call 32; refine (HminMul2.out _).mono ?_; rintro e w4 ⟨rfl, y4, rfl⟩))
  refine ⟨beyond_of (by repeat (first | assumption | exact Below.refl _ _ | exact below_beyond _ _ | refine Below.beyond ?_ (by (try simp [size_beyond]) <;> omega) _ | refine Below.drew ?_ | refine Below.alloc ?_ (by (try simp [size_beyond]) <;> omega) _ | refine Below.setCell ?_ (by (try simp [size_beyond]) <;> omega) _)), ?_⟩
  repeat (go_big_quiet_step (fail))
  refine wpQuiet_nil ?_
  go_wp2_with ((go_at_call 31; refine (HmaxAdd1.out _).mono ?_; rintro e w5 ⟨rfl, y5, rfl⟩))
  refine ⟨beyond_of (by repeat (first | assumption | exact Below.refl _ _ | exact below_beyond _ _ | refine Below.beyond ?_ (by (try simp [size_beyond]) <;> omega) _ | refine Below.drew ?_ | refine Below.alloc ?_ (by (try simp [size_beyond]) <;> omega) _ | refine Below.setCell ?_ (by (try simp [size_beyond]) <;> omega) _)), ?_⟩
  repeat (go_big_quiet_step (fail))
  refine wpQuiet_nil ?_
  go_wp2_with ((go_at_call 20; refine (one_calls _).mono ?_; rintro e w6 ⟨b, rfl, hb, hcb, y6, rfl⟩))
  refine ⟨beyond_of (by repeat (first | assumption | exact Below.refl _ _ | exact below_beyond _ _ | refine Below.beyond ?_ (by (try simp [size_beyond]) <;> omega) _ | refine Below.drew ?_ | refine Below.alloc ?_ (by (try simp [size_beyond]) <;> omega) _ | refine Below.setCell ?_ (by (try simp [size_beyond]) <;> omega) _)), wpQuiet_nil ?_⟩
  go_wp2_with ((go_at_call 64; refine (string_one (by omega) (by decide) hb hcb).mono ?_; rintro e w7 ⟨rfl, y7, rfl⟩))
  refine ⟨beyond_of (by repeat (first | assumption | exact Below.refl _ _ | exact below_beyond _ _ | refine Below.beyond ?_ (by (try simp [size_beyond]) <;> omega) _ | refine Below.drew ?_ | refine Below.alloc ?_ (by (try simp [size_beyond]) <;> omega) _ | refine Below.setCell ?_ (by (try simp [size_beyond]) <;> omega) _)), ?_⟩
  repeat (go_big_quiet_step (fail))
  refine wpQuiet_nil ?_
  go_wp2
  go_ret
  exact ⟨rfl, beyond_of (by repeat (first | assumption | exact Below.refl _ _ | exact below_beyond _ _ | refine Below.beyond ?_ (by (try simp [size_beyond]) <;> omega) _ | refine Below.drew ?_ | refine Below.alloc ?_ (by (try simp [size_beyond]) <;> omega) _ | refine Below.setCell ?_ (by (try simp [size_beyond]) <;> omega) _))⟩
end Go.Proofs.YtkpdkkeblipfdaaDoor.nat
