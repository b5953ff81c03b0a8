/-
  TopTreeNil: cases found by the evaluator that is told what symbolic values are.
-/
import Derived.Test.YthmenjmanifedaaGreatDoorPreTopTreeNil
set_option linter.unusedSimpArgs false
set_option linter.unusedVariables false
namespace Go.Proofs.YthmenjmanifedaaGreatDoor.topTreeNil
open Go.Can Go.RowKit Go.Own 
set_option maxRecDepth 100000
theorem c_neg (T : Nat → TypeId) (n : Int) : Can.evDTrue (Can.evD Tryz.prog [0, 1] (sm) (Can.orcOf [([], 24, 6, [], 1, .bool false)]) 3000 [] (.call 3 #[.int .i64 n]) (Can.AW.start (H0 T))) = some (Can.Obl.tab [(1, decide (n ≥ 0), false)] [1,1,1,0]) := by kernel_rfl
theorem c_pos (T : Nat → TypeId) (n : Int) : Can.evDTrue (Can.evD Tryz.prog [0, 1] (sm) (Can.orcOf [([], 24, 6, [], 1, .bool true), ([], 24, 11, [], 2, .bool false)]) 3000 [] (.call 3 #[.int .i64 n]) (Can.AW.start (H0 T))) = some (Can.Obl.tab [(1, decide (n ≥ 0), true), (2, decide (n < 0), false)] [2,1,2,1,2,1,0]) := by kernel_rfl
end Go.Proofs.YthmenjmanifedaaGreatDoor.topTreeNil
