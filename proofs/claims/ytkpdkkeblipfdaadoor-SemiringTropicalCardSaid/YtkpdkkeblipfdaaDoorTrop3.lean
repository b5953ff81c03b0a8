/-
  The tropical reference's functions.
-/
import Derived.Test.YtkpdkkeblipfdaaDoorTrop2
set_option linter.unusedSimpArgs false
set_option linter.unusedVariables false
namespace Go.Proofs.YtkpdkkeblipfdaaDoor.semi
open Go.RowKit Go.Own
set_option maxHeartbeats 400000

def rgt (fa : Bool) (x : Int) : Bool := !fa || (decide (-1099511627776 ≤ x) && decide (x ≤ 1099511627776))
def lt2 (dear : Bool) (a b : Int) : Bool := (decide (a < b) != dear)

theorem rmul_calls (fa fb : Bool) (x y : Int) (w : World) :
    Calls Tryd.prog 33 #[.agg #[.bool fa, .int .i64 x], .agg #[.bool fb, .int .i64 y]] w fun e w' => e = .returned (.agg #[.bool (fa && fb), .int .i64 (mulV fa x fb y)]) ∧ ∃ x, w' = beyond w x := by
  cases fa <;> cases fb
  all_goals (
    go_enter Tryd.func33, Tryd.ntmps33
    go_wp2
    refine bodyPost_ret (results_block rfl _ _ _ 39 _ _ rfl (by simp [go_sem] <;> rfl) Tryd.underlying39 rfl (by kernel_rfl)) rfl ?_
    exact ⟨rfl, beyond_of (by repeat (first | assumption | exact Below.refl _ _ | exact below_beyond _ _ | refine Below.beyond ?_ (by (try simp [size_beyond]) <;> omega) _ | refine Below.drew ?_ | refine Below.alloc ?_ (by (try simp [size_beyond]) <;> omega) _ | refine Below.setCell ?_ (by (try simp [size_beyond]) <;> omega) _))⟩)

theorem radd_calls (dear : Bool) (fa fb : Bool) (x y : Int) (w : World) :
    Calls Tryd.prog 30 #[.bool dear, .agg #[.bool fa, .int .i64 x], .agg #[.bool fb, .int .i64 y]] w fun e w' => e = .returned (.agg #[.bool (fa || fb), .int .i64 (addV (lt2 dear) fa x fb y)]) ∧ ∃ x, w' = beyond w x := by
  by_cases h : y < x
  · have e : addV (lt2 dear) true x true y = if dear = true then x else y := by cases dear <;> simp [addV, lt2, h]
    cases fa <;> cases fb <;> cases dear
    all_goals (try rw [e])
    all_goals (
      go_enter Tryd.func30, Tryd.ntmps30
      go_wp2
      refine bodyPost_ret (results_block rfl _ _ _ 39 _ _ rfl (by simp [go_sem] <;> rfl) Tryd.underlying39 rfl (by kernel_rfl)) rfl ?_
      exact ⟨rfl, beyond_of (by repeat (first | assumption | exact Below.refl _ _ | exact below_beyond _ _ | refine Below.beyond ?_ (by (try simp [size_beyond]) <;> omega) _ | refine Below.drew ?_ | refine Below.alloc ?_ (by (try simp [size_beyond]) <;> omega) _ | refine Below.setCell ?_ (by (try simp [size_beyond]) <;> omega) _))⟩)
  · have e : addV (lt2 dear) true x true y = if dear = true then y else x := by cases dear <;> simp [addV, lt2, h]
    cases fa <;> cases fb <;> cases dear
    all_goals (try rw [e])
    all_goals (
      go_enter Tryd.func30, Tryd.ntmps30
      go_wp2
      refine bodyPost_ret (results_block rfl _ _ _ 39 _ _ rfl (by simp [go_sem] <;> rfl) Tryd.underlying39 rfl (by kernel_rfl)) rfl ?_
      exact ⟨rfl, beyond_of (by repeat (first | assumption | exact Below.refl _ _ | exact below_beyond _ _ | refine Below.beyond ?_ (by (try simp [size_beyond]) <;> omega) _ | refine Below.drew ?_ | refine Below.alloc ?_ (by (try simp [size_beyond]) <;> omega) _ | refine Below.setCell ?_ (by (try simp [size_beyond]) <;> omega) _))⟩)

theorem right_calls (fa : Bool) (x : Int) (w : World) :
    Calls Tryd.prog 25 #[.agg #[.bool fa, .int .i64 x]] w fun e w' => e = .returned (.bool (rgt fa x)) ∧ ∃ x, w' = beyond w x := by
  cases fa
  all_goals (
    go_enter Tryd.func25, Tryd.ntmps25
    go_wp2
    all_goals (try go_ret)
    all_goals exact ⟨by simp [rgt] <;> omega, beyond_of (by repeat (first | assumption | exact Below.refl _ _ | exact below_beyond _ _ | refine Below.beyond ?_ (by (try simp [size_beyond]) <;> omega) _ | refine Below.drew ?_ | refine Below.alloc ?_ (by (try simp [size_beyond]) <;> omega) _ | refine Below.setCell ?_ (by (try simp [size_beyond]) <;> omega) _))⟩)
end Go.Proofs.YtkpdkkeblipfdaaDoor.semi
