/-
  The reference's range check, as a contract that is looked up.
-/
import Derived.Test.YtkpdkkeblipfdaaDoorCanAE
import Derived.Test.YtkpdkkeblipfdaaDoorTrop3
set_option linter.unusedSimpArgs false
set_option linter.unusedVariables false
namespace Go.Proofs.YtkpdkkeblipfdaaDoor.semi
open Go.Can Go.RowKit
noncomputable def rightF (x : Array Value) : Option Value := match x.toList with
  | [.agg c] => match c.toList with
    | [.bool f, .int .i64 n] => some (.bool (rgt f n))
    | _ => none
  | _ => none
noncomputable def rightSm : Rec := fnSm 25 rightF
theorem rightSm_ok (G : List Nat) : RecOk Tryd.prog G rightSm := fnSm_ok fun x v h => by
  unfold rightF at h
  split at h
  case h_2 => cases h
  rename_i c hx
  split at h
  case h_2 => cases h
  rename_i f n hc
  cases h
  obtain rfl : x = #[.agg c] := by cases x; simp_all
  obtain rfl : c = #[.bool f, .int .i64 n] := by cases c; simp_all
  exact ⟨by kernel_rfl, by kernel_rfl, fun w => right_calls f n w⟩
end Go.Proofs.YtkpdkkeblipfdaaDoor.semi
