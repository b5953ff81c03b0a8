/-
  MonoidTexts: the call answers true whatever its arguments: found by the evaluator of canonical runs.
-/
import Derived.Test.YtdljpdejgplhmaaDoorCards
import Derived.Test.YtdljpdejgplhmaaDoorTie
import Derived.Test.YtdljpdejgplhmaaDoorCanAE
import Derived.Test.YtdljpdejgplhmaaDoorItoaSm
import Derived.WalkKit
import Derived.ProofKit
import Derived.OpenShut
import Derived.Deep.DeepHandedRow
set_option linter.unusedSimpArgs false
set_option linter.unusedVariables false
namespace Go.Proofs.YtdljpdejgplhmaaDoor.monoidTexts
open Go.ChangeShapes Go.WideShapes Go.ChangeAt Go.RowKit Go.Joins Go.Own

theorem own : ownKnob Tryd.prog.godebug = none := by kernel_rfl
theorem pc : Can.PC2 Tryd.prog := .of_bool (by kernel_rfl)
noncomputable def tab : Nat → Array Value
  | _ => #[]
noncomputable def H0 (T : Nat → TypeId) : Array Obj := #[]
theorem tabAt (T : Nat → TypeId) (g : Nat) (hg : g ∈ ([] : List Nat)) : (H0 T)[g]? = some (.cells (tab g) (T g) (0, 0)) := by
  cases hg
theorem tabPlain (g : Nat) (hg : g ∈ ([] : List Nat)) : (tab g).all (Can.plainV 60) = true := by
  cases hg
set_option maxRecDepth 100000 in
theorem knownTrue (T : Nat → TypeId) : Can.evTrue (Can.evS Tryd.prog [] mono.kindsSm 3000 (.call 7 #[]) (Can.AW.start (H0 T))) = true := by kernel_rfl
noncomputable def sm : Can.RecD := Can.orSmD (Can.liftSm (Can.knownSm 7 tab [])) (mono.textSm)
theorem sums : Can.RecOkD Tryd.prog [] sm := Can.orSmD_ok (Can.liftSm_ok (Can.knownSm_ok pc (mono.kindsSm_ok _) tabAt tabPlain knownTrue)) (mono.textSm_ok _)
theorem known {W : World} (hL : laidMetH Tryd.prog Rows.monoidTextsRow.laid W) : Can.Known (H0 (Can.tyAt W)) (Can.onG []) W := by
  refine Can.known_onG fun g hg => ?_
  cases hg
end Go.Proofs.YtdljpdejgplhmaaDoor.monoidTexts
