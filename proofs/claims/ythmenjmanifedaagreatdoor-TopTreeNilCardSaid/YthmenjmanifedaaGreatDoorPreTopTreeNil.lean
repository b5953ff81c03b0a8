/-
  TopTreeNil: the call answers true whatever its arguments: found by the evaluator of canonical runs.
-/
import Derived.Test.YthmenjmanifedaaGreatDoorCards
import Derived.Test.YthmenjmanifedaaGreatDoorTie
import Derived.Test.YthmenjmanifedaaGreatDoorCanQD
import Derived.WalkKit
import Derived.ProofKit
import Derived.OpenShut
import Derived.Deep.DeepHandedRow
set_option linter.unusedSimpArgs false
set_option linter.unusedVariables false
namespace Go.Proofs.YthmenjmanifedaaGreatDoor.topTreeNil
open Go.ChangeShapes Go.WideShapes Go.ChangeAt Go.RowKit Go.Joins Go.Own

theorem own : ownKnob Tryz.prog.godebug = none := by kernel_rfl
theorem pc : Can.PC2 Tryz.prog := .of_bool (by kernel_rfl)
noncomputable def tab : Nat → Array Value
  | 0 => Can.tabCells Rows.laid_math_bits_deBruijn64tab
  | 1 => Can.tabCells Rows.laid_math_bits_deBruijn32tab
  | _ => #[]
noncomputable def H0 (T : Nat → TypeId) : Array Obj := #[.cells (tab 0) (T 0), .cells (tab 1) (T 1)]
theorem tabAt (T : Nat → TypeId) (g : Nat) (hg : g ∈ ([0, 1] : List Nat)) : (H0 T)[g]? = some (.cells (tab g) (T g) (0, 0)) := by
  simp only [List.mem_cons, List.not_mem_nil, or_false] at hg
  rcases hg with rfl | rfl
  all_goals rfl
theorem tabPlain (g : Nat) (hg : g ∈ ([0, 1] : List Nat)) : (tab g).all (Can.plainV 60) = true := by
  simp only [List.mem_cons, List.not_mem_nil, or_false] at hg
  rcases hg with rfl | rfl
  all_goals kernel_rfl
noncomputable def how (f : FuncId) : Nat := Bool.rec (Bool.rec 0 2 (Can.memQ f [63, 62])) 1 (Can.memQ f [55, 57, 58, 60, 34, 35, 37, 38, 43, 44, 54, 22, 19, 99, 29, 64, 65, 86, 88, 66, 72])
set_option maxRecDepth 100000 in
theorem knownTrue (T : Nat → TypeId) : Can.evTrue (Can.evU Tryz.prog [0, 1] (Can.noSm) how 3000 (.call 12 #[]) (Can.AW.start (H0 T))) = true := by kernel_rfl
noncomputable def sm : Can.RecD := Can.orSmD (Can.liftSm (Can.knownSm 12 tab [0, 1])) (Can.liftSm (Can.noSm))
theorem sums : Can.RecOkD Tryz.prog [0, 1] sm := Can.orSmD_ok (Can.liftSm_ok (Can.knownSm_okR (Can.evU_ok pc (Can.noSm_ok) _ _) tabAt tabPlain knownTrue)) (Can.liftSm_ok (Can.noSm_ok))
theorem known {W : World} (hL : laidMetH Tryz.prog Rows.topTreeNilRow.laid W) : Can.Known (H0 (Can.tyAt W)) (Can.onG [0, 1]) W := by
  refine Can.known_onG fun g hg => ?_
  simp only [List.mem_cons, List.not_mem_nil, or_false] at hg
  rcases hg with rfl | rfl
  · exact ⟨tab 0, Can.tyAt W 0, rfl, Can.laid_tab hL (by kernel_rfl) (List.mem_of_getElem? (i := 1) rfl) (by kernel_rfl) (by kernel_rfl) (by decide +kernel), by kernel_rfl⟩
  · exact ⟨tab 1, Can.tyAt W 1, rfl, Can.laid_tab hL (by kernel_rfl) (List.mem_of_getElem? (i := 0) rfl) (by kernel_rfl) (by kernel_rfl) (by decide +kernel), by kernel_rfl⟩
end Go.Proofs.YthmenjmanifedaaGreatDoor.topTreeNil
