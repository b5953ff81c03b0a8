/-
  The tropical semirings' methods, and the reference's functions.
-/
import Derived.Test.YtkpdkkeblipfdaaDoorTrop
set_option linter.unusedSimpArgs false
set_option linter.unusedVariables false
namespace Go.Proofs.YtkpdkkeblipfdaaDoor.semi
open Go.RowKit Go.Own
set_option maxHeartbeats 400000

def addV (c : Int → Int → Bool) (fa : Bool) (x : Int) (fb : Bool) (y : Int) : Int := if fa = true then (if fb = true then (if c y x = true then y else x) else x) else if fb = true then y else 0
def mulV (fa : Bool) (x : Int) (fb : Bool) (y : Int) : Int := if (fa && fb) = true then wrap64 (x + y) else 0
def lt' (a b : Int) : Bool := decide (a < b)
def gt' (a b : Int) : Bool := decide (b < a)
def same (fa : Bool) (x : Int) (fb : Bool) (y : Int) : Bool := (fa == fb) && (!fa || (x == y))

theorem better_min (fa fb : Bool) (x y : Int) (w : World) :
    Calls Tryd.prog 67 #[.agg #[.bool fa, .int .i64 x], .agg #[.bool fb, .int .i64 y], .func (.func 68) #[] #[]] w fun e w' => e = .returned (.agg #[.bool (fa || fb), .int .i64 (addV lt' fa x fb y)]) ∧ ∃ x, w' = beyond w x := by
  cases fa <;> cases fb
  · exact better_min_ff x y w
  · exact better_min_ft x y w
  · exact better_min_tf x y w
  · by_cases h : y < x
    · rw [show addV lt' true x true y = y by simp [addV, lt', gt', h]]
      exact better_min_b x y w h
    · rw [show addV lt' true x true y = x by simp [addV, lt', gt', h]]
      exact better_min_a x y w h

theorem better_max (fa fb : Bool) (x y : Int) (w : World) :
    Calls Tryd.prog 67 #[.agg #[.bool fa, .int .i64 x], .agg #[.bool fb, .int .i64 y], .func (.func 69) #[] #[]] w fun e w' => e = .returned (.agg #[.bool (fa || fb), .int .i64 (addV gt' fa x fb y)]) ∧ ∃ x, w' = beyond w x := by
  cases fa <;> cases fb
  · exact better_max_ff x y w
  · exact better_max_ft x y w
  · exact better_max_tf x y w
  · by_cases h : x < y
    · rw [show addV gt' true x true y = y by simp [addV, lt', gt', h]]
      exact better_max_b x y w h
    · rw [show addV gt' true x true y = x by simp [addV, lt', gt', h]]
      exact better_max_a x y w h

theorem sum_calls (fa fb : Bool) (x y : Int) (w : World) :
    Calls Tryd.prog 70 #[.agg #[.bool fa, .int .i64 x], .agg #[.bool fb, .int .i64 y]] w fun e w' => e = .returned (.agg #[.bool (fa && fb), .int .i64 (mulV fa x fb y)]) ∧ ∃ x, w' = beyond w x := by
  cases fa
  · exact sum_f fb x y w
  · cases fb
    · exact sum_tf x y w
    · exact sum_tt x y w

theorem minAdd_calls (fa fb : Bool) (x y : Int) (w : World) :
    Calls Tryd.prog 29 #[.agg #[], .agg #[.bool fa, .int .i64 x], .agg #[.bool fb, .int .i64 y]] w fun e w' => e = .returned (.agg #[.bool (fa || fb), .int .i64 (addV lt' fa x fb y)]) ∧ ∃ x, w' = beyond w x := by
  go_enter Tryd.func29, Tryd.ntmps29
  go_wp2_with ((go_at_call 67; refine (better_min fa fb x y _).mono ?_; rintro e w1 ⟨rfl, x1, rfl⟩))
  refine bodyPost_ret (results_block rfl _ _ _ 44 _ _ rfl (by simp [go_sem] <;> rfl) Tryd.underlying44 rfl (by kernel_rfl)) rfl ?_
  exact ⟨rfl, beyond_of (by repeat (first | assumption | exact Below.refl _ _ | exact below_beyond _ _ | refine Below.beyond ?_ (by (try simp [size_beyond]) <;> omega) _ | refine Below.drew ?_ | refine Below.alloc ?_ (by (try simp [size_beyond]) <;> omega) _ | refine Below.setCell ?_ (by (try simp [size_beyond]) <;> omega) _))⟩

theorem minMul_calls (fa fb : Bool) (x y : Int) (w : World) :
    Calls Tryd.prog 32 #[.agg #[], .agg #[.bool fa, .int .i64 x], .agg #[.bool fb, .int .i64 y]] w fun e w' => e = .returned (.agg #[.bool (fa && fb), .int .i64 (mulV fa x fb y)]) ∧ ∃ x, w' = beyond w x := by
  go_enter Tryd.func32, Tryd.ntmps32
  go_wp2_with ((go_at_call 70; refine (sum_calls fa fb x y _).mono ?_; rintro e w1 ⟨rfl, x1, rfl⟩))
  refine bodyPost_ret (results_block rfl _ _ _ 44 _ _ rfl (by simp [go_sem] <;> rfl) Tryd.underlying44 rfl (by kernel_rfl)) rfl ?_
  exact ⟨rfl, beyond_of (by repeat (first | assumption | exact Below.refl _ _ | exact below_beyond _ _ | refine Below.beyond ?_ (by (try simp [size_beyond]) <;> omega) _ | refine Below.drew ?_ | refine Below.alloc ?_ (by (try simp [size_beyond]) <;> omega) _ | refine Below.setCell ?_ (by (try simp [size_beyond]) <;> omega) _))⟩

theorem minZero_calls  (w : World) :
    Calls Tryd.prog 37 #[.agg #[]] w fun e w' => e = .returned (.agg #[.bool false, .int .i64 0]) ∧ ∃ x, w' = beyond w x := by
  go_enter Tryd.func37, Tryd.ntmps37
  go_wp2
  refine bodyPost_ret (results_block rfl _ _ _ 44 _ _ rfl (by simp [go_sem] <;> rfl) Tryd.underlying44 rfl (by kernel_rfl)) rfl ?_
  exact ⟨rfl, beyond_of (by repeat (first | assumption | exact Below.refl _ _ | exact below_beyond _ _ | refine Below.beyond ?_ (by (try simp [size_beyond]) <;> omega) _ | refine Below.drew ?_ | refine Below.alloc ?_ (by (try simp [size_beyond]) <;> omega) _ | refine Below.setCell ?_ (by (try simp [size_beyond]) <;> omega) _))⟩

theorem minOne_calls  (w : World) :
    Calls Tryd.prog 39 #[.agg #[]] w fun e w' => e = .returned (.agg #[.bool true, .int .i64 0]) ∧ ∃ x, w' = beyond w x := by
  go_enter Tryd.func39, Tryd.ntmps39
  go_wp2
  refine bodyPost_ret (results_block rfl _ _ _ 44 _ _ rfl (by simp [go_sem] <;> rfl) Tryd.underlying44 rfl (by kernel_rfl)) rfl ?_
  exact ⟨rfl, beyond_of (by repeat (first | assumption | exact Below.refl _ _ | exact below_beyond _ _ | refine Below.beyond ?_ (by (try simp [size_beyond]) <;> omega) _ | refine Below.drew ?_ | refine Below.alloc ?_ (by (try simp [size_beyond]) <;> omega) _ | refine Below.setCell ?_ (by (try simp [size_beyond]) <;> omega) _))⟩

theorem maxAdd_calls (fa fb : Bool) (x y : Int) (w : World) :
    Calls Tryd.prog 31 #[.agg #[], .agg #[.bool fa, .int .i64 x], .agg #[.bool fb, .int .i64 y]] w fun e w' => e = .returned (.agg #[.bool (fa || fb), .int .i64 (addV gt' fa x fb y)]) ∧ ∃ x, w' = beyond w x := by
  go_enter Tryd.func31, Tryd.ntmps31
  go_wp2_with ((go_at_call 67; refine (better_max fa fb x y _).mono ?_; rintro e w1 ⟨rfl, x1, rfl⟩))
  refine bodyPost_ret (results_block rfl _ _ _ 44 _ _ rfl (by simp [go_sem] <;> rfl) Tryd.underlying44 rfl (by kernel_rfl)) rfl ?_
  exact ⟨rfl, beyond_of (by repeat (first | assumption | exact Below.refl _ _ | exact below_beyond _ _ | refine Below.beyond ?_ (by (try simp [size_beyond]) <;> omega) _ | refine Below.drew ?_ | refine Below.alloc ?_ (by (try simp [size_beyond]) <;> omega) _ | refine Below.setCell ?_ (by (try simp [size_beyond]) <;> omega) _))⟩

theorem maxMul_calls (fa fb : Bool) (x y : Int) (w : World) :
    Calls Tryd.prog 34 #[.agg #[], .agg #[.bool fa, .int .i64 x], .agg #[.bool fb, .int .i64 y]] w fun e w' => e = .returned (.agg #[.bool (fa && fb), .int .i64 (mulV fa x fb y)]) ∧ ∃ x, w' = beyond w x := by
  go_enter Tryd.func34, Tryd.ntmps34
  go_wp2_with ((go_at_call 70; refine (sum_calls fa fb x y _).mono ?_; rintro e w1 ⟨rfl, x1, rfl⟩))
  refine bodyPost_ret (results_block rfl _ _ _ 44 _ _ rfl (by simp [go_sem] <;> rfl) Tryd.underlying44 rfl (by kernel_rfl)) rfl ?_
  exact ⟨rfl, beyond_of (by repeat (first | assumption | exact Below.refl _ _ | exact below_beyond _ _ | refine Below.beyond ?_ (by (try simp [size_beyond]) <;> omega) _ | refine Below.drew ?_ | refine Below.alloc ?_ (by (try simp [size_beyond]) <;> omega) _ | refine Below.setCell ?_ (by (try simp [size_beyond]) <;> omega) _))⟩

theorem maxZero_calls  (w : World) :
    Calls Tryd.prog 38 #[.agg #[]] w fun e w' => e = .returned (.agg #[.bool false, .int .i64 0]) ∧ ∃ x, w' = beyond w x := by
  go_enter Tryd.func38, Tryd.ntmps38
  go_wp2
  refine bodyPost_ret (results_block rfl _ _ _ 44 _ _ rfl (by simp [go_sem] <;> rfl) Tryd.underlying44 rfl (by kernel_rfl)) rfl ?_
  exact ⟨rfl, beyond_of (by repeat (first | assumption | exact Below.refl _ _ | exact below_beyond _ _ | refine Below.beyond ?_ (by (try simp [size_beyond]) <;> omega) _ | refine Below.drew ?_ | refine Below.alloc ?_ (by (try simp [size_beyond]) <;> omega) _ | refine Below.setCell ?_ (by (try simp [size_beyond]) <;> omega) _))⟩

theorem maxOne_calls  (w : World) :
    Calls Tryd.prog 40 #[.agg #[]] w fun e w' => e = .returned (.agg #[.bool true, .int .i64 0]) ∧ ∃ x, w' = beyond w x := by
  go_enter Tryd.func40, Tryd.ntmps40
  go_wp2
  refine bodyPost_ret (results_block rfl _ _ _ 44 _ _ rfl (by simp [go_sem] <;> rfl) Tryd.underlying44 rfl (by kernel_rfl)) rfl ?_
  exact ⟨rfl, beyond_of (by repeat (first | assumption | exact Below.refl _ _ | exact below_beyond _ _ | refine Below.beyond ?_ (by (try simp [size_beyond]) <;> omega) _ | refine Below.drew ?_ | refine Below.alloc ?_ (by (try simp [size_beyond]) <;> omega) _ | refine Below.setCell ?_ (by (try simp [size_beyond]) <;> omega) _))⟩

theorem sameCost_calls (fa fb : Bool) (x y : Int) (w : World) :
    Calls Tryd.prog 71 #[.agg #[.bool fa, .int .i64 x], .agg #[.bool fb, .int .i64 y]] w fun e w' => e = .returned (.bool (same fa x fb y)) ∧ ∃ x, w' = beyond w x := by
  cases fa <;> cases fb
  all_goals (
    go_enter Tryd.func71, Tryd.ntmps71
    go_wp2
    all_goals (try go_ret)
    all_goals exact ⟨by simp [same], beyond_of (by repeat (first | assumption | exact Below.refl _ _ | exact below_beyond _ _ | refine Below.beyond ?_ (by (try simp [size_beyond]) <;> omega) _ | refine Below.drew ?_ | refine Below.alloc ?_ (by (try simp [size_beyond]) <;> omega) _ | refine Below.setCell ?_ (by (try simp [size_beyond]) <;> omega) _))⟩)

theorem rsame_calls (fa fb : Bool) (x y : Int) (w : World) :
    Calls Tryd.prog 27 #[.agg #[.bool fa, .int .i64 x], .agg #[.bool fb, .int .i64 y]] w fun e w' => e = .returned (.bool (same fa x fb y)) ∧ ∃ x, w' = beyond w x := by
  cases fa <;> cases fb
  all_goals (
    go_enter Tryd.func27, Tryd.ntmps27
    go_wp2
    all_goals (try go_ret)
    all_goals exact ⟨by simp [same], beyond_of (by repeat (first | assumption | exact Below.refl _ _ | exact below_beyond _ _ | refine Below.beyond ?_ (by (try simp [size_beyond]) <;> omega) _ | refine Below.drew ?_ | refine Below.alloc ?_ (by (try simp [size_beyond]) <;> omega) _ | refine Below.setCell ?_ (by (try simp [size_beyond]) <;> omega) _))⟩)

theorem minSame_calls (fa fb : Bool) (x y : Int) (w : World) :
    Calls Tryd.prog 35 #[.agg #[], .agg #[.bool fa, .int .i64 x], .agg #[.bool fb, .int .i64 y]] w fun e w' => e = .returned (.bool (same fa x fb y)) ∧ ∃ x, w' = beyond w x := by
  go_enter Tryd.func35, Tryd.ntmps35
  go_wp2_with ((go_at_call 71; refine (sameCost_calls fa fb x y _).mono ?_; rintro e w1 ⟨rfl, x1, rfl⟩))
  go_ret
  exact ⟨rfl, beyond_of (by repeat (first | assumption | exact Below.refl _ _ | exact below_beyond _ _ | refine Below.beyond ?_ (by (try simp [size_beyond]) <;> omega) _ | refine Below.drew ?_ | refine Below.alloc ?_ (by (try simp [size_beyond]) <;> omega) _ | refine Below.setCell ?_ (by (try simp [size_beyond]) <;> omega) _))⟩

theorem maxSame_calls (fa fb : Bool) (x y : Int) (w : World) :
    Calls Tryd.prog 36 #[.agg #[], .agg #[.bool fa, .int .i64 x], .agg #[.bool fb, .int .i64 y]] w fun e w' => e = .returned (.bool (same fa x fb y)) ∧ ∃ x, w' = beyond w x := by
  go_enter Tryd.func36, Tryd.ntmps36
  go_wp2_with ((go_at_call 71; refine (sameCost_calls fa fb x y _).mono ?_; rintro e w1 ⟨rfl, x1, rfl⟩))
  go_ret
  exact ⟨rfl, beyond_of (by repeat (first | assumption | exact Below.refl _ _ | exact below_beyond _ _ | refine Below.beyond ?_ (by (try simp [size_beyond]) <;> omega) _ | refine Below.drew ?_ | refine Below.alloc ?_ (by (try simp [size_beyond]) <;> omega) _ | refine Below.setCell ?_ (by (try simp [size_beyond]) <;> omega) _))⟩

theorem own_calls (fa : Bool) (x : Int) (w : World) :
    Calls Tryd.prog 26 #[.agg #[.bool fa, .int .i64 x]] w fun e w' => e = .returned (.agg #[.bool fa, .int .i64 x]) ∧ ∃ x, w' = beyond w x := by
  go_enter Tryd.func26, Tryd.ntmps26
  go_wp2
  refine bodyPost_ret (results_block rfl _ _ _ 44 _ _ rfl (by simp [go_sem] <;> rfl) Tryd.underlying44 rfl (by kernel_rfl)) rfl ?_
  exact ⟨rfl, beyond_of (by repeat (first | assumption | exact Below.refl _ _ | exact below_beyond _ _ | refine Below.beyond ?_ (by (try simp [size_beyond]) <;> omega) _ | refine Below.drew ?_ | refine Below.alloc ?_ (by (try simp [size_beyond]) <;> omega) _ | refine Below.setCell ?_ (by (try simp [size_beyond]) <;> omega) _))⟩

theorem back_calls (fa : Bool) (x : Int) (w : World) :
    Calls Tryd.prog 28 #[.agg #[.bool fa, .int .i64 x]] w fun e w' => e = .returned (.agg #[.bool fa, .int .i64 x]) ∧ ∃ x, w' = beyond w x := by
  go_enter Tryd.func28, Tryd.ntmps28
  go_wp2
  refine bodyPost_ret (results_block rfl _ _ _ 39 _ _ rfl (by simp [go_sem] <;> rfl) Tryd.underlying39 rfl (by kernel_rfl)) rfl ?_
  exact ⟨rfl, beyond_of (by repeat (first | assumption | exact Below.refl _ _ | exact below_beyond _ _ | refine Below.beyond ?_ (by (try simp [size_beyond]) <;> omega) _ | refine Below.drew ?_ | refine Below.alloc ?_ (by (try simp [size_beyond]) <;> omega) _ | refine Below.setCell ?_ (by (try simp [size_beyond]) <;> omega) _))⟩
end Go.Proofs.YtkpdkkeblipfdaaDoor.semi
