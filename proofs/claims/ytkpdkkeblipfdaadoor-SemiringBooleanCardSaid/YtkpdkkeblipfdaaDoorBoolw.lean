/-
  SemiringBoolean: the walk.
-/
import Derived.Test.YtkpdkkeblipfdaaDoorKnown
set_option linter.unusedSimpArgs false
set_option linter.unusedVariables false
namespace Go.Proofs.YtkpdkkeblipfdaaDoor.semi
open Go.RowKit Go.Own
set_option maxHeartbeats 1000000
set_option maxRecDepth 100000

theorem boolean_walk (a b : Bool) (w : World) :
    Calls Tryd.prog 3 #[.bool a, .bool b] w fun e w' => e = .returned (.bool true) ∧ ∃ x, w' = beyond w x := by
  cases a <;> cases b
  all_goals (
    go_enter Tryd.func3, Tryd.ntmps3
    go_wp2_with (first | (go_at_call 16; refine (nat.known_calls _).mono ?_; rintro e w1 ⟨rfl, x1, rfl⟩) | go_in)
    go_ret
    exact ⟨rfl, beyond_of (by repeat (first | assumption | exact Below.refl _ _ | exact below_beyond _ _ | refine Below.beyond ?_ (by (try simp [size_beyond]) <;> omega) _ | refine Below.drew ?_ | refine Below.alloc ?_ (by (try simp [size_beyond]) <;> omega) _ | refine Below.setCell ?_ (by (try simp [size_beyond]) <;> omega) _))⟩)
end Go.Proofs.YtkpdkkeblipfdaaDoor.semi
