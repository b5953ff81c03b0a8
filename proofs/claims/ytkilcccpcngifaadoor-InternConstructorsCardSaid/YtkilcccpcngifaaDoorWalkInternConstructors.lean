/-
  InternConstructors: the cases put together: the call answers true whatever its arguments.
-/
import Derived.Test.YtkilcccpcngifaaDoorCaseInternConstructors
set_option linter.unusedSimpArgs false
set_option linter.unusedVariables false
namespace Go.Proofs.YtkilcccpcngifaaDoor.internConstructors
open Go.ChangeShapes Go.WideShapes Go.ChangeAt Go.RowKit Go.Joins Go.Own

theorem walk {W : World} (hL : laidMetH Tryd.prog Rows.internConstructorsRow.laid W) (n : Int) (s : ByteArray) (_ : IntKind.i64.has n) (_ : (s.size : Int) ≤ IntKind.i64.max) :
    Calls Tryd.prog 3 #[.int .i64 n, .string s] W fun e w' => e = .returned (.bool true) ∧ ∃ x, w' = beyond W x := by
  have go : ∀ {orc : List Can.Site → FuncId → Can.Orc} {args : Array Value} {l : Can.Obl} {tags : List Nat}, Can.evDTrue (Can.evD Tryd.prog [0, 1, 2] sm orc 3000 [] (.call 3 args) (Can.AW.start (H0 (Can.tyAt W)))) = some (Can.Obl.tab l tags) → args.all (Can.plainV 60) = true → l.Ok →
      Calls Tryd.prog 3 args W fun e w' => e = .returned (.bool true) ∧ ∃ x, w' = beyond W x :=
    fun h ha ok => Can.true_callsD pc sums h (Can.Obl.tab_ok ok) (known hL) (Can.gl_onG _) (Can.plain_args ha)
  by_cases h0 : n < 0
  · exact go (c_neg (Can.tyAt W) n s) (by kernel_rfl) (Can.Obl.ok_more (decide_eq_true h0) (Can.Obl.ok_more (decide_eq_false (by omega)) Can.Obl.ok_nil))
  by_cases h1 : n > 1048576
  · exact go (c_big (Can.tyAt W) n s) (by kernel_rfl) (Can.Obl.ok_more (decide_eq_false h0) (Can.Obl.ok_more (decide_eq_true h1) (Can.Obl.ok_more (decide_eq_true (by omega)) (Can.Obl.ok_more (decide_eq_false (by omega)) Can.Obl.ok_nil))))
  · exact go (c_ok (Can.tyAt W) n s) (by kernel_rfl) (Can.Obl.ok_more (decide_eq_false h0) (Can.Obl.ok_more (decide_eq_false h1) (Can.Obl.ok_more (decide_eq_true (by omega)) (Can.Obl.ok_more (decide_eq_true (by omega)) Can.Obl.ok_nil))))
end Go.Proofs.YtkilcccpcngifaaDoor.internConstructors
