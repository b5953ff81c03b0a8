/-
  The tropical semirings' functions.
-/
import Derived.Test.YtmcfnnapgbgdeaaDoorProg
import Derived.Test.YtmcfnnapgbgdeaaDoorTail
import Derived.Test.YtmcfnnapgbgdeaaDoorPlan
set_option linter.unusedSimpArgs false
set_option linter.unusedVariables false
namespace Go.Proofs.YtmcfnnapgbgdeaaDoor.semi
open Go.RowKit Go.Own
set_option maxHeartbeats 400000

theorem less_calls (x y : Int) (w : World) :
    Calls Tryd.prog 31 #[.int .i64 x, .int .i64 y] w fun e w' => e = .returned (.bool (decide (x < y))) ∧ ∃ x, w' = beyond w x := by
  go_enter Tryd.func31, Tryd.ntmps31
  go_wp2
  go_ret
  exact ⟨rfl, beyond_of (by repeat (first | assumption | exact Below.refl _ _ | exact below_beyond _ _ | refine Below.beyond ?_ (by (try simp [size_beyond]) <;> omega) _ | refine Below.drew ?_ | refine Below.alloc ?_ (by (try simp [size_beyond]) <;> omega) _ | refine Below.setCell ?_ (by (try simp [size_beyond]) <;> omega) _))⟩

theorem more_calls (x y : Int) (w : World) :
    Calls Tryd.prog 32 #[.int .i64 x, .int .i64 y] w fun e w' => e = .returned (.bool (decide (y < x))) ∧ ∃ x, w' = beyond w x := by
  go_enter Tryd.func32, Tryd.ntmps32
  go_wp2
  go_ret
  exact ⟨rfl, beyond_of (by repeat (first | assumption | exact Below.refl _ _ | exact below_beyond _ _ | refine Below.beyond ?_ (by (try simp [size_beyond]) <;> omega) _ | refine Below.drew ?_ | refine Below.alloc ?_ (by (try simp [size_beyond]) <;> omega) _ | refine Below.setCell ?_ (by (try simp [size_beyond]) <;> omega) _))⟩

theorem sum_tt (x y : Int) (w : World) :
    Calls Tryd.prog 34 #[.agg #[.bool true, .int .i64 x], .agg #[.bool true, .int .i64 y]] w fun e w' => e = .returned (.agg #[.bool true, .int .i64 (wrap64 (x + y))]) ∧ ∃ x, w' = beyond w x := by
  go_enter Tryd.func34, Tryd.ntmps34
  go_wp2
  refine bodyPost_ret (results_block rfl _ _ _ 37 _ _ rfl (by simp [go_sem] <;> rfl) Tryd.underlying37 rfl (by kernel_rfl)) rfl ?_
  exact ⟨rfl, beyond_of (by repeat (first | assumption | exact Below.refl _ _ | exact below_beyond _ _ | refine Below.beyond ?_ (by (try simp [size_beyond]) <;> omega) _ | refine Below.drew ?_ | refine Below.alloc ?_ (by (try simp [size_beyond]) <;> omega) _ | refine Below.setCell ?_ (by (try simp [size_beyond]) <;> omega) _))⟩

theorem sum_f (fb : Bool) (x y : Int) (w : World) :
    Calls Tryd.prog 34 #[.agg #[.bool false, .int .i64 x], .agg #[.bool fb, .int .i64 y]] w fun e w' => e = .returned (.agg #[.bool false, .int .i64 0]) ∧ ∃ x, w' = beyond w x := by
  go_enter Tryd.func34, Tryd.ntmps34
  go_wp2
  refine bodyPost_ret (results_block rfl _ _ _ 37 _ _ rfl (by simp [go_sem] <;> rfl) Tryd.underlying37 rfl (by kernel_rfl)) rfl ?_
  exact ⟨rfl, beyond_of (by repeat (first | assumption | exact Below.refl _ _ | exact below_beyond _ _ | refine Below.beyond ?_ (by (try simp [size_beyond]) <;> omega) _ | refine Below.drew ?_ | refine Below.alloc ?_ (by (try simp [size_beyond]) <;> omega) _ | refine Below.setCell ?_ (by (try simp [size_beyond]) <;> omega) _))⟩

theorem sum_tf (x y : Int) (w : World) :
    Calls Tryd.prog 34 #[.agg #[.bool true, .int .i64 x], .agg #[.bool false, .int .i64 y]] w fun e w' => e = .returned (.agg #[.bool false, .int .i64 0]) ∧ ∃ x, w' = beyond w x := by
  go_enter Tryd.func34, Tryd.ntmps34
  go_wp2
  refine bodyPost_ret (results_block rfl _ _ _ 37 _ _ rfl (by simp [go_sem] <;> rfl) Tryd.underlying37 rfl (by kernel_rfl)) rfl ?_
  exact ⟨rfl, beyond_of (by repeat (first | assumption | exact Below.refl _ _ | exact below_beyond _ _ | refine Below.beyond ?_ (by (try simp [size_beyond]) <;> omega) _ | refine Below.drew ?_ | refine Below.alloc ?_ (by (try simp [size_beyond]) <;> omega) _ | refine Below.setCell ?_ (by (try simp [size_beyond]) <;> omega) _))⟩

theorem better_min_ff (x y : Int) (w : World) :
    Calls Tryd.prog 30 #[.agg #[.bool false, .int .i64 x], .agg #[.bool false, .int .i64 y], .func (.func 31) #[] #[]] w fun e w' => e = .returned (.agg #[.bool false, .int .i64 0]) ∧ ∃ x, w' = beyond w x := by
  go_enter Tryd.func30, Tryd.ntmps30
  go_wp2
  refine bodyPost_ret (results_block rfl _ _ _ 37 _ _ rfl (by simp [go_sem] <;> rfl) Tryd.underlying37 rfl (by kernel_rfl)) rfl ?_
  exact ⟨rfl, beyond_of (by repeat (first | assumption | exact Below.refl _ _ | exact below_beyond _ _ | refine Below.beyond ?_ (by (try simp [size_beyond]) <;> omega) _ | refine Below.drew ?_ | refine Below.alloc ?_ (by (try simp [size_beyond]) <;> omega) _ | refine Below.setCell ?_ (by (try simp [size_beyond]) <;> omega) _))⟩

theorem better_min_ft (x y : Int) (w : World) :
    Calls Tryd.prog 30 #[.agg #[.bool false, .int .i64 x], .agg #[.bool true, .int .i64 y], .func (.func 31) #[] #[]] w fun e w' => e = .returned (.agg #[.bool true, .int .i64 y]) ∧ ∃ x, w' = beyond w x := by
  go_enter Tryd.func30, Tryd.ntmps30
  go_wp2
  refine bodyPost_ret (results_block rfl _ _ _ 37 _ _ rfl (by simp [go_sem] <;> rfl) Tryd.underlying37 rfl (by kernel_rfl)) rfl ?_
  exact ⟨rfl, beyond_of (by repeat (first | assumption | exact Below.refl _ _ | exact below_beyond _ _ | refine Below.beyond ?_ (by (try simp [size_beyond]) <;> omega) _ | refine Below.drew ?_ | refine Below.alloc ?_ (by (try simp [size_beyond]) <;> omega) _ | refine Below.setCell ?_ (by (try simp [size_beyond]) <;> omega) _))⟩

theorem better_min_tf (x y : Int) (w : World) :
    Calls Tryd.prog 30 #[.agg #[.bool true, .int .i64 x], .agg #[.bool false, .int .i64 y], .func (.func 31) #[] #[]] w fun e w' => e = .returned (.agg #[.bool true, .int .i64 x]) ∧ ∃ x, w' = beyond w x := by
  go_enter Tryd.func30, Tryd.ntmps30
  go_wp2
  refine bodyPost_ret (results_block rfl _ _ _ 37 _ _ rfl (by simp [go_sem] <;> rfl) Tryd.underlying37 rfl (by kernel_rfl)) rfl ?_
  exact ⟨rfl, beyond_of (by repeat (first | assumption | exact Below.refl _ _ | exact below_beyond _ _ | refine Below.beyond ?_ (by (try simp [size_beyond]) <;> omega) _ | refine Below.drew ?_ | refine Below.alloc ?_ (by (try simp [size_beyond]) <;> omega) _ | refine Below.setCell ?_ (by (try simp [size_beyond]) <;> omega) _))⟩

theorem better_min_b (x y : Int) (w : World) (h : y < x) :
    Calls Tryd.prog 30 #[.agg #[.bool true, .int .i64 x], .agg #[.bool true, .int .i64 y], .func (.func 31) #[] #[]] w fun e w' => e = .returned (.agg #[.bool true, .int .i64 y]) ∧ ∃ x, w' = beyond w x := by
  have hc := fun w => less_calls y x w
  rw [show decide (y < x) = true by simp; omega] at hc
  have HC := Lib.hid hc; clear hc
  go_enter Tryd.func30, Tryd.ntmps30
  go_wp2_with ((go_at_call 31; refine (HC.out _).mono ?_; rintro e w1 ⟨rfl, x1, rfl⟩))
  refine bodyPost_ret (results_block rfl _ _ _ 37 _ _ rfl (by simp [go_sem] <;> rfl) Tryd.underlying37 rfl (by kernel_rfl)) rfl ?_
  exact ⟨rfl, beyond_of (by repeat (first | assumption | exact Below.refl _ _ | exact below_beyond _ _ | refine Below.beyond ?_ (by (try simp [size_beyond]) <;> omega) _ | refine Below.drew ?_ | refine Below.alloc ?_ (by (try simp [size_beyond]) <;> omega) _ | refine Below.setCell ?_ (by (try simp [size_beyond]) <;> omega) _))⟩

theorem better_min_a (x y : Int) (w : World) (h : ¬ y < x) :
    Calls Tryd.prog 30 #[.agg #[.bool true, .int .i64 x], .agg #[.bool true, .int .i64 y], .func (.func 31) #[] #[]] w fun e w' => e = .returned (.agg #[.bool true, .int .i64 x]) ∧ ∃ x, w' = beyond w x := by
  have hc := fun w => less_calls y x w
  rw [show decide (y < x) = false by simp; omega] at hc
  have HC := Lib.hid hc; clear hc
  go_enter Tryd.func30, Tryd.ntmps30
  go_wp2_with ((go_at_call 31; refine (HC.out _).mono ?_; rintro e w1 ⟨rfl, x1, rfl⟩))
  refine bodyPost_ret (results_block rfl _ _ _ 37 _ _ rfl (by simp [go_sem] <;> rfl) Tryd.underlying37 rfl (by kernel_rfl)) rfl ?_
  exact ⟨rfl, beyond_of (by repeat (first | assumption | exact Below.refl _ _ | exact below_beyond _ _ | refine Below.beyond ?_ (by (try simp [size_beyond]) <;> omega) _ | refine Below.drew ?_ | refine Below.alloc ?_ (by (try simp [size_beyond]) <;> omega) _ | refine Below.setCell ?_ (by (try simp [size_beyond]) <;> omega) _))⟩

theorem better_max_ff (x y : Int) (w : World) :
    Calls Tryd.prog 30 #[.agg #[.bool false, .int .i64 x], .agg #[.bool false, .int .i64 y], .func (.func 32) #[] #[]] w fun e w' => e = .returned (.agg #[.bool false, .int .i64 0]) ∧ ∃ x, w' = beyond w x := by
  go_enter Tryd.func30, Tryd.ntmps30
  go_wp2
  refine bodyPost_ret (results_block rfl _ _ _ 37 _ _ rfl (by simp [go_sem] <;> rfl) Tryd.underlying37 rfl (by kernel_rfl)) rfl ?_
  exact ⟨rfl, beyond_of (by repeat (first | assumption | exact Below.refl _ _ | exact below_beyond _ _ | refine Below.beyond ?_ (by (try simp [size_beyond]) <;> omega) _ | refine Below.drew ?_ | refine Below.alloc ?_ (by (try simp [size_beyond]) <;> omega) _ | refine Below.setCell ?_ (by (try simp [size_beyond]) <;> omega) _))⟩

theorem better_max_ft (x y : Int) (w : World) :
    Calls Tryd.prog 30 #[.agg #[.bool false, .int .i64 x], .agg #[.bool true, .int .i64 y], .func (.func 32) #[] #[]] w fun e w' => e = .returned (.agg #[.bool true, .int .i64 y]) ∧ ∃ x, w' = beyond w x := by
  go_enter Tryd.func30, Tryd.ntmps30
  go_wp2
  refine bodyPost_ret (results_block rfl _ _ _ 37 _ _ rfl (by simp [go_sem] <;> rfl) Tryd.underlying37 rfl (by kernel_rfl)) rfl ?_
  exact ⟨rfl, beyond_of (by repeat (first | assumption | exact Below.refl _ _ | exact below_beyond _ _ | refine Below.beyond ?_ (by (try simp [size_beyond]) <;> omega) _ | refine Below.drew ?_ | refine Below.alloc ?_ (by (try simp [size_beyond]) <;> omega) _ | refine Below.setCell ?_ (by (try simp [size_beyond]) <;> omega) _))⟩

theorem better_max_tf (x y : Int) (w : World) :
    Calls Tryd.prog 30 #[.agg #[.bool true, .int .i64 x], .agg #[.bool false, .int .i64 y], .func (.func 32) #[] #[]] w fun e w' => e = .returned (.agg #[.bool true, .int .i64 x]) ∧ ∃ x, w' = beyond w x := by
  go_enter Tryd.func30, Tryd.ntmps30
  go_wp2
  refine bodyPost_ret (results_block rfl _ _ _ 37 _ _ rfl (by simp [go_sem] <;> rfl) Tryd.underlying37 rfl (by kernel_rfl)) rfl ?_
  exact ⟨rfl, beyond_of (by repeat (first | assumption | exact Below.refl _ _ | exact below_beyond _ _ | refine Below.beyond ?_ (by (try simp [size_beyond]) <;> omega) _ | refine Below.drew ?_ | refine Below.alloc ?_ (by (try simp [size_beyond]) <;> omega) _ | refine Below.setCell ?_ (by (try simp [size_beyond]) <;> omega) _))⟩

theorem better_max_b (x y : Int) (w : World) (h : x < y) :
    Calls Tryd.prog 30 #[.agg #[.bool true, .int .i64 x], .agg #[.bool true, .int .i64 y], .func (.func 32) #[] #[]] w fun e w' => e = .returned (.agg #[.bool true, .int .i64 y]) ∧ ∃ x, w' = beyond w x := by
  have hc := fun w => more_calls y x w
  rw [show decide (x < y) = true by simp; omega] at hc
  have HC := Lib.hid hc; clear hc
  go_enter Tryd.func30, Tryd.ntmps30
  go_wp2_with ((go_at_call 32; refine (HC.out _).mono ?_; rintro e w1 ⟨rfl, x1, rfl⟩))
  refine bodyPost_ret (results_block rfl _ _ _ 37 _ _ rfl (by simp [go_sem] <;> rfl) Tryd.underlying37 rfl (by kernel_rfl)) rfl ?_
  exact ⟨rfl, beyond_of (by repeat (first | assumption | exact Below.refl _ _ | exact below_beyond _ _ | refine Below.beyond ?_ (by (try simp [size_beyond]) <;> omega) _ | refine Below.drew ?_ | refine Below.alloc ?_ (by (try simp [size_beyond]) <;> omega) _ | refine Below.setCell ?_ (by (try simp [size_beyond]) <;> omega) _))⟩

theorem better_max_a (x y : Int) (w : World) (h : ¬ x < y) :
    Calls Tryd.prog 30 #[.agg #[.bool true, .int .i64 x], .agg #[.bool true, .int .i64 y], .func (.func 32) #[] #[]] w fun e w' => e = .returned (.agg #[.bool true, .int .i64 x]) ∧ ∃ x, w' = beyond w x := by
  have hc := fun w => more_calls y x w
  rw [show decide (x < y) = false by simp; omega] at hc
  have HC := Lib.hid hc; clear hc
  go_enter Tryd.func30, Tryd.ntmps30
  go_wp2_with ((go_at_call 32; refine (HC.out _).mono ?_; rintro e w1 ⟨rfl, x1, rfl⟩))
  refine bodyPost_ret (results_block rfl _ _ _ 37 _ _ rfl (by simp [go_sem] <;> rfl) Tryd.underlying37 rfl (by kernel_rfl)) rfl ?_
  exact ⟨rfl, beyond_of (by repeat (first | assumption | exact Below.refl _ _ | exact below_beyond _ _ | refine Below.beyond ?_ (by (try simp [size_beyond]) <;> omega) _ | refine Below.drew ?_ | refine Below.alloc ?_ (by (try simp [size_beyond]) <;> omega) _ | refine Below.setCell ?_ (by (try simp [size_beyond]) <;> omega) _))⟩
end Go.Proofs.YtmcfnnapgbgdeaaDoor.semi
