/-
  The first fifty bytes of a key, as a contract that is looked up.
-/
import Derived.Test.YtkilcccpcngifaaDoorProg
import Derived.Test.YtkilcccpcngifaaDoorCanAF
set_option linter.unusedSimpArgs false
set_option linter.unusedVariables false
namespace Go.Proofs.YtkilcccpcngifaaDoor.pools
open Go.Can Go.RowKit Go.Own
set_option maxHeartbeats 400000
def fewS (s : ByteArray) : ByteArray := if s.size ≤ 50 then s else s.extract 0 50
theorem few_calls (s : ByteArray) (w : World) :
    Calls Tryd.prog 8 #[.string s] w fun e w' => e = .returned (.string (fewS s)) ∧ ∃ x, w' = beyond w x := by
  by_cases h : s.size ≤ 50
  · rw [show fewS s = s from if_pos h]
    go_enter Tryd.func8, Tryd.ntmps8
    go_wp2
    go_ret
    exact ⟨rfl, beyond_of (by repeat (first | assumption | exact Below.refl _ _ | exact below_beyond _ _ | refine Below.beyond ?_ (by (try simp [size_beyond]) <;> omega) _ | refine Below.drew ?_ | refine Below.alloc ?_ (by (try simp [size_beyond]) <;> omega) _ | refine Below.setCell ?_ (by (try simp [size_beyond]) <;> omega) _))⟩
  · rw [show fewS s = s.extract 0 50 from if_neg h]
    go_enter Tryd.func8, Tryd.ntmps8
    go_wp2
    go_ret
    exact ⟨rfl, beyond_of (by repeat (first | assumption | exact Below.refl _ _ | exact below_beyond _ _ | refine Below.beyond ?_ (by (try simp [size_beyond]) <;> omega) _ | refine Below.drew ?_ | refine Below.alloc ?_ (by (try simp [size_beyond]) <;> omega) _ | refine Below.setCell ?_ (by (try simp [size_beyond]) <;> omega) _))⟩
noncomputable def fewF (x : Array Value) : Option Value := match x.toList with
  | [.string s] => some (.string (fewS s))
  | _ => none
noncomputable def fewSm : Rec := fnSm 8 fewF
theorem fewSm_ok (G : List Nat) : RecOk Tryd.prog G fewSm := fnSm_ok fun x v h => by
  unfold fewF at h
  split at h
  case h_2 => cases h
  rename_i s hx
  cases h
  obtain rfl : x = #[.string s] := by cases x; simp_all
  exact ⟨by kernel_rfl, rfl, fun w => few_calls s w⟩
end Go.Proofs.YtkilcccpcngifaaDoor.pools
