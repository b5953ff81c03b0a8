/-
  TopTreeNil: the cases put together: the call answers true whatever its argument.
-/
import Derived.Test.YthmenjmanifedaaGreatDoorCaseTopTreeNil
set_option linter.unusedSimpArgs false
set_option linter.unusedVariables false
namespace Go.Proofs.YthmenjmanifedaaGreatDoor.topTreeNil
open Go.ChangeShapes Go.WideShapes Go.ChangeAt Go.RowKit Go.Joins Go.Own

theorem walk {W : World} (hL : laidMetH Tryz.prog Rows.topTreeNilRow.laid W) (n : Int) (_ : IntKind.i64.has n) :
    Calls Tryz.prog 3 #[.int .i64 n] W fun e w' => e = .returned (.bool true) ∧ ∃ x, w' = beyond W x := by
  have go : ∀ {orc : List Can.Site → FuncId → Can.Orc} {args : Array Value} {l : Can.Obl} {tags : List Nat}, Can.evDTrue (Can.evD Tryz.prog [0, 1] sm orc 3000 [] (.call 3 args) (Can.AW.start (H0 (Can.tyAt W)))) = some (Can.Obl.tab l tags) → args.all (Can.plainV 60) = true → l.Ok →
      Calls Tryz.prog 3 args W fun e w' => e = .returned (.bool true) ∧ ∃ x, w' = beyond W x :=
    fun h ha ok => Can.true_callsD pc sums h (Can.Obl.tab_ok ok) (known hL) (Can.gl_onG _) (Can.plain_args ha)
  by_cases h0 : n ≥ 0
  · exact go (c_pos (Can.tyAt W) n) (by kernel_rfl) (by repeat (first | exact Can.Obl.ok_nil | refine Can.Obl.ok_more (by first | assumption | rfl | exact decide_eq_true (by omega) | exact decide_eq_false (by omega) | exact beq_eq_false_iff_ne.2 (by omega) | exact bne_iff_ne.2 (by omega) | exact beq_iff_eq.2 (by omega) | (simp; done) | (simp; omega)) ?_))
  · exact go (c_neg (Can.tyAt W) n) (by kernel_rfl) (by repeat (first | exact Can.Obl.ok_nil | refine Can.Obl.ok_more (by first | assumption | rfl | exact decide_eq_true (by omega) | exact decide_eq_false (by omega) | exact beq_eq_false_iff_ne.2 (by omega) | exact bne_iff_ne.2 (by omega) | exact beq_iff_eq.2 (by omega) | (simp; done) | (simp; omega)) ?_))
end Go.Proofs.YthmenjmanifedaaGreatDoor.topTreeNil
