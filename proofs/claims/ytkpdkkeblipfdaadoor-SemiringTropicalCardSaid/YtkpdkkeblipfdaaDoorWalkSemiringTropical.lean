/-
  SemiringTropical: the cases put together: the call answers true whatever its arguments.
-/
import Derived.Test.YtkpdkkeblipfdaaDoorCaseSemiringTropical
set_option linter.unusedSimpArgs false
set_option linter.unusedVariables false
namespace Go.Proofs.YtkpdkkeblipfdaaDoor.semiringTropical
open Go.ChangeShapes Go.WideShapes Go.ChangeAt Go.RowKit Go.Joins Go.Own

theorem walk {W : World} (hL : laidMetH Tryd.prog Rows.semiringTropicalRow.laid W) (fa : Bool) (x : Int) (fb : Bool) (y : Int) (_ : IntKind.i64.has x) (_ : IntKind.i64.has y) :
    Calls Tryd.prog 5 #[.agg #[.bool fa, .int .i64 x], .agg #[.bool fb, .int .i64 y]] W fun e w' => e = .returned (.bool true) ∧ ∃ x, w' = beyond W x := by
  have go : ∀ {orc : FuncId → Can.Orc} {args : Array Value} {l : Can.Obl} {tags : List Nat}, Can.evDTrue (Can.evD Tryd.prog [1, 2, 3] sm orc 3000 (.call 5 args) (Can.AW.start (H0 (Can.tyAt W)))) = some (Can.Obl.tab l tags) → args.all (Can.plainV 60) = true → l.Ok →
      Calls Tryd.prog 5 args W fun e w' => e = .returned (.bool true) ∧ ∃ x, w' = beyond W x :=
    fun h ha ok => Can.true_callsD pc sums h (Can.Obl.tab_ok ok) (known hL) (Can.gl_onG _) (Can.plain_args ha)
  have rf : ∀ z, semi.rgt false z = true := fun z => rfl
  by_cases ha : semi.rgt fa x = true
  · by_cases hb : semi.rgt fb y = true
    · cases fa <;> cases fb
      · exact go (ff (Can.tyAt W) x y) (by kernel_rfl) (by repeat (first | exact Can.Obl.ok_nil | refine Can.Obl.ok_more (by first | assumption | rfl | exact decide_eq_true (by omega) | exact decide_eq_false (by omega) | exact beq_eq_false_iff_ne.2 (by omega) | exact bne_iff_ne.2 (by omega) | exact beq_iff_eq.2 (by omega) | (simp; done) | (simp; omega)) ?_))
      · exact go (ft (Can.tyAt W) x y) (by kernel_rfl) (by repeat (first | exact Can.Obl.ok_nil | refine Can.Obl.ok_more (by first | assumption | rfl | exact decide_eq_true (by omega) | exact decide_eq_false (by omega) | exact beq_eq_false_iff_ne.2 (by omega) | exact bne_iff_ne.2 (by omega) | exact beq_iff_eq.2 (by omega) | (simp; done) | (simp; omega)) ?_))
      · exact go (tf (Can.tyAt W) x y) (by kernel_rfl) (by repeat (first | exact Can.Obl.ok_nil | refine Can.Obl.ok_more (by first | assumption | rfl | exact decide_eq_true (by omega) | exact decide_eq_false (by omega) | exact beq_eq_false_iff_ne.2 (by omega) | exact bne_iff_ne.2 (by omega) | exact beq_iff_eq.2 (by omega) | (simp; done) | (simp; omega)) ?_))
      · rcases Int.lt_trichotomy y x with h | h | h
        · exact go (lt (Can.tyAt W) x y) (by kernel_rfl) (by repeat (first | exact Can.Obl.ok_nil | refine Can.Obl.ok_more (by first | assumption | rfl | exact decide_eq_true (by omega) | exact decide_eq_false (by omega) | exact beq_eq_false_iff_ne.2 (by omega) | exact bne_iff_ne.2 (by omega) | exact beq_iff_eq.2 (by omega) | (simp; done) | (simp; omega)) ?_))
        · subst h; exact go (eq (Can.tyAt W) y) (by kernel_rfl) (by repeat (first | exact Can.Obl.ok_nil | refine Can.Obl.ok_more (by first | assumption | rfl | exact decide_eq_true (by omega) | exact decide_eq_false (by omega) | exact beq_eq_false_iff_ne.2 (by omega) | exact bne_iff_ne.2 (by omega) | exact beq_iff_eq.2 (by omega) | (simp; done) | (simp; omega)) ?_))
        · exact go (gt (Can.tyAt W) x y) (by kernel_rfl) (by repeat (first | exact Can.Obl.ok_nil | refine Can.Obl.ok_more (by first | assumption | rfl | exact decide_eq_true (by omega) | exact decide_eq_false (by omega) | exact beq_eq_false_iff_ne.2 (by omega) | exact bne_iff_ne.2 (by omega) | exact beq_iff_eq.2 (by omega) | (simp; done) | (simp; omega)) ?_))
    · have hb := Bool.eq_false_iff.2 hb
      cases fb with
      | false => exact absurd (rf y) (by rw [hb]; decide)
      | true =>
        cases fa
        · exact go (outB0 (Can.tyAt W) x y) (by kernel_rfl) (by repeat (first | exact Can.Obl.ok_nil | refine Can.Obl.ok_more (by first | assumption | rfl | exact decide_eq_true (by omega) | exact decide_eq_false (by omega) | exact beq_eq_false_iff_ne.2 (by omega) | exact bne_iff_ne.2 (by omega) | exact beq_iff_eq.2 (by omega) | (simp; done) | (simp; omega)) ?_))
        · exact go (outB1 (Can.tyAt W) x y) (by kernel_rfl) (by repeat (first | exact Can.Obl.ok_nil | refine Can.Obl.ok_more (by first | assumption | rfl | exact decide_eq_true (by omega) | exact decide_eq_false (by omega) | exact beq_eq_false_iff_ne.2 (by omega) | exact bne_iff_ne.2 (by omega) | exact beq_iff_eq.2 (by omega) | (simp; done) | (simp; omega)) ?_))
  · have ha := Bool.eq_false_iff.2 ha
    cases fa with
    | false => exact absurd (rf x) (by rw [ha]; decide)
    | true => exact go (outA (Can.tyAt W) x fb y) (by kernel_rfl) (by repeat (first | exact Can.Obl.ok_nil | refine Can.Obl.ok_more (by first | assumption | rfl | exact decide_eq_true (by omega) | exact decide_eq_false (by omega) | exact beq_eq_false_iff_ne.2 (by omega) | exact bne_iff_ne.2 (by omega) | exact beq_iff_eq.2 (by omega) | (simp; done) | (simp; omega)) ?_))
end Go.Proofs.YtkpdkkeblipfdaaDoor.semiringTropical
