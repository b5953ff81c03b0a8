/-
  MonoidValidity: the cases put together: the call answers true whatever its arguments.
-/
import Derived.Test.YtdljpdejgplhmaaDoorCaseMonoidValidity
set_option linter.unusedSimpArgs false
set_option linter.unusedVariables false
namespace Go.Proofs.YtdljpdejgplhmaaDoor.monoidValidity
open Go.ChangeShapes Go.WideShapes Go.ChangeAt Go.RowKit Go.Joins Go.Own

theorem walk {W : World} (hL : laidMetH Tryd.prog Rows.monoidValidityRow.laid W) (k n m a b : Int) (_ : IntKind.i64.has k) (_ : IntKind.i64.has n) (_ : IntKind.i64.has m) (_ : IntKind.i64.has a) (_ : IntKind.i64.has b) :
    Calls Tryd.prog 3 #[.agg #[.int .i64 k, .int .i64 n, .int .i64 m], .int .i64 a, .int .i64 b] W fun e w' => e = .returned (.bool true) ∧ ∃ x, w' = beyond W x := by
  have go : ∀ {orc : FuncId → Can.Orc} {args : Array Value} {l : Can.Obl} {tags : List Nat}, Can.evDTrue (Can.evD Tryd.prog [] sm orc 3000 (.call 3 args) (Can.AW.start (H0 (Can.tyAt W)))) = some (Can.Obl.tab l tags) → args.all (Can.plainV 60) = true → l.Ok →
      Calls Tryd.prog 3 args W fun e w' => e = .returned (.bool true) ∧ ∃ x, w' = beyond W x :=
    fun h ha ok => Can.true_callsD pc sums h (Can.Obl.tab_ok ok) (known hL) (Can.gl_onG _) (Can.plain_args ha)
  by_cases h0 : k < 0
  · exact go (neg (Can.tyAt W) k n m a b) (by kernel_rfl) (by repeat (first | exact Can.Obl.ok_nil | refine Can.Obl.ok_more (by first | rfl | exact decide_eq_true (by omega) | exact decide_eq_false (by omega) | exact beq_eq_false_iff_ne.2 (by omega) | exact bne_iff_ne.2 (by omega) | exact beq_iff_eq.2 (by omega) | (simp; done) | (simp; omega)) ?_))
  by_cases h1 : k > 3
  · exact go (big (Can.tyAt W) k n m a b) (by kernel_rfl) (by repeat (first | exact Can.Obl.ok_nil | refine Can.Obl.ok_more (by first | rfl | exact decide_eq_true (by omega) | exact decide_eq_false (by omega) | exact beq_eq_false_iff_ne.2 (by omega) | exact bne_iff_ne.2 (by omega) | exact beq_iff_eq.2 (by omega) | (simp; done) | (simp; omega)) ?_))
  have hk : k = 0 ∨ k = 1 ∨ k = 2 ∨ k = 3 := by omega
  rcases hk with rfl | rfl | rfl | rfl
  · by_cases hn : n = 0
    · subst hn
      by_cases hm : m = 0
      · subst hm; exact go (ok0 (Can.tyAt W) a b) (by kernel_rfl) (by repeat (first | exact Can.Obl.ok_nil | refine Can.Obl.ok_more (by first | rfl | exact decide_eq_true (by omega) | exact decide_eq_false (by omega) | exact beq_eq_false_iff_ne.2 (by omega) | exact bne_iff_ne.2 (by omega) | exact beq_iff_eq.2 (by omega) | (simp; done) | (simp; omega)) ?_))
      · exact go (m0 (Can.tyAt W) m a b) (by kernel_rfl) (by repeat (first | exact Can.Obl.ok_nil | refine Can.Obl.ok_more (by first | rfl | exact decide_eq_true (by omega) | exact decide_eq_false (by omega) | exact beq_eq_false_iff_ne.2 (by omega) | exact bne_iff_ne.2 (by omega) | exact beq_iff_eq.2 (by omega) | (simp; done) | (simp; omega)) ?_))
    · exact go (n0 (Can.tyAt W) n m a b) (by kernel_rfl) (by repeat (first | exact Can.Obl.ok_nil | refine Can.Obl.ok_more (by first | rfl | exact decide_eq_true (by omega) | exact decide_eq_false (by omega) | exact beq_eq_false_iff_ne.2 (by omega) | exact bne_iff_ne.2 (by omega) | exact beq_iff_eq.2 (by omega) | (simp; done) | (simp; omega)) ?_))
  · by_cases hn : n = 0
    · subst hn
      by_cases hm : m = 0
      · subst hm; exact go (ok1 (Can.tyAt W) a b) (by kernel_rfl) (by repeat (first | exact Can.Obl.ok_nil | refine Can.Obl.ok_more (by first | rfl | exact decide_eq_true (by omega) | exact decide_eq_false (by omega) | exact beq_eq_false_iff_ne.2 (by omega) | exact bne_iff_ne.2 (by omega) | exact beq_iff_eq.2 (by omega) | (simp; done) | (simp; omega)) ?_))
      · exact go (m1 (Can.tyAt W) m a b) (by kernel_rfl) (by repeat (first | exact Can.Obl.ok_nil | refine Can.Obl.ok_more (by first | rfl | exact decide_eq_true (by omega) | exact decide_eq_false (by omega) | exact beq_eq_false_iff_ne.2 (by omega) | exact bne_iff_ne.2 (by omega) | exact beq_iff_eq.2 (by omega) | (simp; done) | (simp; omega)) ?_))
    · exact go (n1 (Can.tyAt W) n m a b) (by kernel_rfl) (by repeat (first | exact Can.Obl.ok_nil | refine Can.Obl.ok_more (by first | rfl | exact decide_eq_true (by omega) | exact decide_eq_false (by omega) | exact beq_eq_false_iff_ne.2 (by omega) | exact bne_iff_ne.2 (by omega) | exact beq_iff_eq.2 (by omega) | (simp; done) | (simp; omega)) ?_))
  · by_cases hn : n < 0
    · exact go (neg2 (Can.tyAt W) n m a b) (by kernel_rfl) (by repeat (first | exact Can.Obl.ok_nil | refine Can.Obl.ok_more (by first | rfl | exact decide_eq_true (by omega) | exact decide_eq_false (by omega) | exact beq_eq_false_iff_ne.2 (by omega) | exact bne_iff_ne.2 (by omega) | exact beq_iff_eq.2 (by omega) | (simp; done) | (simp; omega)) ?_))
    by_cases hn2 : n > 62
    · exact go (big2 (Can.tyAt W) n m a b) (by kernel_rfl) (by repeat (first | exact Can.Obl.ok_nil | refine Can.Obl.ok_more (by first | rfl | exact decide_eq_true (by omega) | exact decide_eq_false (by omega) | exact beq_eq_false_iff_ne.2 (by omega) | exact bne_iff_ne.2 (by omega) | exact beq_iff_eq.2 (by omega) | (simp; done) | (simp; omega)) ?_))
    by_cases hm : m = 0
    · subst hm; exact go (ok2 (Can.tyAt W) n a b) (by kernel_rfl) (by repeat (first | exact Can.Obl.ok_nil | refine Can.Obl.ok_more (by first | rfl | exact decide_eq_true (by omega) | exact decide_eq_false (by omega) | exact beq_eq_false_iff_ne.2 (by omega) | exact bne_iff_ne.2 (by omega) | exact beq_iff_eq.2 (by omega) | (simp; done) | (simp; omega)) ?_))
    · exact go (m2 (Can.tyAt W) n m a b) (by kernel_rfl) (by repeat (first | exact Can.Obl.ok_nil | refine Can.Obl.ok_more (by first | rfl | exact decide_eq_true (by omega) | exact decide_eq_false (by omega) | exact beq_eq_false_iff_ne.2 (by omega) | exact bne_iff_ne.2 (by omega) | exact beq_iff_eq.2 (by omega) | (simp; done) | (simp; omega)) ?_))
  · by_cases hm : m < 1
    · exact go (neg3 (Can.tyAt W) n m a b) (by kernel_rfl) (by repeat (first | exact Can.Obl.ok_nil | refine Can.Obl.ok_more (by first | rfl | exact decide_eq_true (by omega) | exact decide_eq_false (by omega) | exact beq_eq_false_iff_ne.2 (by omega) | exact bne_iff_ne.2 (by omega) | exact beq_iff_eq.2 (by omega) | (simp; done) | (simp; omega)) ?_))
    by_cases hm2 : m > 64
    · exact go (big3 (Can.tyAt W) n m a b) (by kernel_rfl) (by repeat (first | exact Can.Obl.ok_nil | refine Can.Obl.ok_more (by first | rfl | exact decide_eq_true (by omega) | exact decide_eq_false (by omega) | exact beq_eq_false_iff_ne.2 (by omega) | exact bne_iff_ne.2 (by omega) | exact beq_iff_eq.2 (by omega) | (simp; done) | (simp; omega)) ?_))
    by_cases hn : n < 0
    · exact go (nn3 (Can.tyAt W) n m a b) (by kernel_rfl) (by repeat (first | exact Can.Obl.ok_nil | refine Can.Obl.ok_more (by first | rfl | exact decide_eq_true (by omega) | exact decide_eq_false (by omega) | exact beq_eq_false_iff_ne.2 (by omega) | exact bne_iff_ne.2 (by omega) | exact beq_iff_eq.2 (by omega) | (simp; done) | (simp; omega)) ?_))
    by_cases hn2 : n ≥ m
    · exact go (nm3 (Can.tyAt W) n m a b) (by kernel_rfl) (by repeat (first | exact Can.Obl.ok_nil | refine Can.Obl.ok_more (by first | rfl | exact decide_eq_true (by omega) | exact decide_eq_false (by omega) | exact beq_eq_false_iff_ne.2 (by omega) | exact bne_iff_ne.2 (by omega) | exact beq_iff_eq.2 (by omega) | (simp; done) | (simp; omega)) ?_))
    · exact go (ok3 (Can.tyAt W) n m a b) (by kernel_rfl) (by repeat (first | exact Can.Obl.ok_nil | refine Can.Obl.ok_more (by first | rfl | exact decide_eq_true (by omega) | exact decide_eq_false (by omega) | exact beq_eq_false_iff_ne.2 (by omega) | exact bne_iff_ne.2 (by omega) | exact beq_iff_eq.2 (by omega) | (simp; done) | (simp; omega)) ?_))
end Go.Proofs.YtdljpdejgplhmaaDoor.monoidValidity
