/-
  InternConstructors: cases found by the evaluator that is told what symbolic values are.
-/
import Derived.Test.YtkilcccpcngifaaDoorPreInternConstructors
set_option linter.unusedSimpArgs false
set_option linter.unusedVariables false
namespace Go.Proofs.YtkilcccpcngifaaDoor.internConstructors
open Go.Can Go.RowKit Go.Own 
set_option maxRecDepth 100000
theorem c_neg (T : Nat → TypeId) (n : Int) (s : ByteArray) : Can.evDTrue (Can.evD Tryd.prog [0, 1, 2] (sm) (Can.orcOf [([], 5, 5, [], 1, .bool true), ([], 3, 37, [], 3, .bool false)]) 3000 [] (.call 3 #[.int .i64 n, .string s]) (Can.AW.start (H0 T))) = some (Can.Obl.tab [(1, decide (n < 0), true), (3, decide (n ≥ 0), false)] [1,1,3,0]) := by kernel_rfl
theorem c_big (T : Nat → TypeId) (n : Int) (s : ByteArray) : Can.evDTrue (Can.evD Tryd.prog [0, 1, 2] (sm) (Can.orcOf [([], 5, 5, [], 1, .bool false), ([], 5, 8, [], 2, .bool true), ([], 3, 37, [], 3, .bool true), ([], 3, 40, [], 4, .bool false)]) 3000 [] (.call 3 #[.int .i64 n, .string s]) (Can.AW.start (H0 T))) = some (Can.Obl.tab [(1, decide (n < 0), false), (2, decide (n > 1048576), true), (3, decide (n ≥ 0), true), (4, decide (n ≤ 1048576), false)] [2,1,2,1,4,3,0]) := by kernel_rfl
theorem c_ok (T : Nat → TypeId) (n : Int) (s : ByteArray) : Can.evDTrue (Can.evD Tryd.prog [0, 1, 2] (sm) (Can.orcOf [([], 5, 5, [], 1, .bool false), ([], 5, 8, [], 2, .bool false), ([], 3, 37, [], 3, .bool true), ([], 3, 40, [], 4, .bool true)]) 3000 [] (.call 3 #[.int .i64 n, .string s]) (Can.AW.start (H0 T))) = some (Can.Obl.tab [(1, decide (n < 0), false), (2, decide (n > 1048576), false), (3, decide (n ≥ 0), true), (4, decide (n ≤ 1048576), true)] [2,1,2,1,4,3,0]) := by kernel_rfl
end Go.Proofs.YtkilcccpcngifaaDoor.internConstructors
