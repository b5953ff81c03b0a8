/-
  SemiringHomomorphisms: the call answers true whatever its arguments: found by the evaluator of canonical runs.
-/
import Derived.Test.YtmcfnnapgbgdeaaDoorCards
import Derived.Test.YtmcfnnapgbgdeaaDoorTie
import Derived.Test.YtmcfnnapgbgdeaaDoorCanAG
import Derived.Test.YtmcfnnapgbgdeaaDoorHomSm
import Derived.WalkKit
import Derived.ProofKit
import Derived.OpenShut
import Derived.Deep.DeepHandedRow
set_option linter.unusedSimpArgs false
set_option linter.unusedVariables false
namespace Go.Proofs.YtmcfnnapgbgdeaaDoor.semiringHomomorphisms
open Go.ChangeShapes Go.WideShapes Go.ChangeAt Go.RowKit Go.Joins Go.Own

theorem own : ownKnob Tryd.prog.godebug = none := by kernel_rfl
theorem pc : Can.PC2 Tryd.prog := .of_bool (by kernel_rfl)
noncomputable def tab : Nat → Array Value
  | 1 => Can.tabCells Rows.laid_internal_strconv_uint64pow10
  | 2 => Can.tabCells Rows.laid_math_bits_deBruijn32tab
  | 3 => Can.tabCells Rows.laid_math_bits_deBruijn64tab
  | _ => #[]
noncomputable def H0 (T : Nat → TypeId) : Array Obj := #[Can.deadObj, .cells (tab 1) (T 1), .cells (tab 2) (T 2), .cells (tab 3) (T 3)]
theorem tabAt (T : Nat → TypeId) (g : Nat) (hg : g ∈ ([1, 2, 3] : List Nat)) : (H0 T)[g]? = some (.cells (tab g) (T g) (0, 0)) := by
  simp only [List.mem_cons, List.not_mem_nil, or_false] at hg
  rcases hg with rfl | rfl | rfl
  all_goals rfl
theorem tabPlain (g : Nat) (hg : g ∈ ([1, 2, 3] : List Nat)) : (tab g).all (Can.plainV 60) = true := by
  simp only [List.mem_cons, List.not_mem_nil, or_false] at hg
  rcases hg with rfl | rfl | rfl
  all_goals kernel_rfl
set_option maxRecDepth 100000 in
theorem knownTrue (T : Nat → TypeId) : Can.evTrue (Can.evS Tryd.prog [1, 2, 3] (semi.homSm) 3000 (.call 6 #[]) (Can.AW.start (H0 T))) = true := by kernel_rfl
noncomputable def sm : Can.RecD := Can.orSmD (Can.liftSm (Can.knownSm 6 tab [1, 2, 3])) (Can.liftSm (semi.homSm))
theorem sums : Can.RecOkD Tryd.prog [1, 2, 3] sm := Can.orSmD_ok (Can.liftSm_ok (Can.knownSm_ok pc (semi.homSm_ok _) tabAt tabPlain knownTrue)) (Can.liftSm_ok (semi.homSm_ok _))
theorem known {W : World} (hL : laidMetH Tryd.prog Rows.semiringHomomorphismsRow.laid W) : Can.Known (H0 (Can.tyAt W)) (Can.onG [1, 2, 3]) W := by
  refine Can.known_onG fun g hg => ?_
  simp only [List.mem_cons, List.not_mem_nil, or_false] at hg
  rcases hg with rfl | rfl | rfl
  · exact ⟨tab 1, Can.tyAt W 1, rfl, Can.laid_tab hL (by kernel_rfl) (List.mem_of_getElem? (i := 2) rfl) (by kernel_rfl) (by kernel_rfl) (by decide +kernel), by kernel_rfl⟩
  · exact ⟨tab 2, Can.tyAt W 2, rfl, Can.laid_tab hL (by kernel_rfl) (List.mem_of_getElem? (i := 0) rfl) (by kernel_rfl) (by kernel_rfl) (by decide +kernel), by kernel_rfl⟩
  · exact ⟨tab 3, Can.tyAt W 3, rfl, Can.laid_tab hL (by kernel_rfl) (List.mem_of_getElem? (i := 1) rfl) (by kernel_rfl) (by kernel_rfl) (by decide +kernel), by kernel_rfl⟩
end Go.Proofs.YtmcfnnapgbgdeaaDoor.semiringHomomorphisms
