/-
  The table of kinds, looked up.
-/
import Derived.Test.YtdljpdejgplhmaaDoorCanAE
import Derived.Test.YtdljpdejgplhmaaDoorKinds
set_option linter.unusedSimpArgs false
set_option linter.unusedVariables false
namespace Go.Proofs.YtdljpdejgplhmaaDoor.mono
open Go.Can Go.RowKit
theorem pc : PC2 Tryd.prog := .of_bool (by kernel_rfl)
noncomputable def kindsSm : Rec := memoSm 22 #[] (.agg kAllCells) (fun _ => #[]) []
theorem kindsSm_ok (G : List Nat) : RecOk Tryd.prog G kindsSm :=
  memoSm_ok pc (sm := noSm) (n := 300) (H := fun _ => #[]) rfl noSm_ok (fun _ g hg => by cases hg) (fun g hg => by cases hg) (by kernel_rfl) (by kernel_rfl) (fun _ => by kernel_rfl)
end Go.Proofs.YtdljpdejgplhmaaDoor.mono
