/-
  SemiringNatural: the cases put together: the call answers true whatever its arguments.
-/
import Derived.Test.YtkpdkkeblipfdaaDoorCaseSemiringNatural
set_option linter.unusedSimpArgs false
set_option linter.unusedVariables false
namespace Go.Proofs.YtkpdkkeblipfdaaDoor.semiringNatural
open Go.ChangeShapes Go.WideShapes Go.ChangeAt Go.RowKit Go.Joins Go.Own nat32

theorem cmp_same (a b : Int) : ((cmpV a b == 0) == (a == b)) = true := by
  rw [show (cmpV a b == 0) = (a == b) from by rw [Bool.eq_iff_iff]; simp [cmpV_zero]]; simp
theorem cmp_no {x y : Int} (h : x = y) : (cmpV x y != 0) = false := bne_eq_false_iff_eq.2 (cmpV_zero.2 h)
theorem cmp_yes {x y : Int} (h : x ≠ y) : (cmpV x y != 0) = true := bne_iff_ne.2 fun k => h (cmpV_zero.1 k)
theorem u64_zero : u64 0 = 0 := rfl

theorem walk {W : World} (hL : laidMetH Tryd.prog Rows.semiringNaturalRow.laid W) (a b : Int) (wa : IntKind.u32.has a) (wb : IntKind.u32.has b) :
    Calls Tryd.prog 4 #[.int .u32 a, .int .u32 b] W fun e w' => e = .returned (.bool true) ∧ ∃ x, w' = beyond W x := by
  have go : ∀ {orc : List Can.Site → FuncId → Can.Orc} {args : Array Value} {l : Can.Obl} {tags : List Nat}, Can.evDTrue (Can.evD Tryd.prog [1, 2, 3] sm orc 3000 [] (.call 4 args) (Can.AW.start (H0 (Can.tyAt W)))) = some (Can.Obl.tab l tags) → args.all (Can.plainV 60) = true → l.Ok →
      Calls Tryd.prog 4 args W fun e w' => e = .returned (.bool true) ∧ ∃ x, w' = beyond W x :=
    fun h ha ok => Can.true_callsD pc sums h (Can.Obl.tab_ok ok) (known hL) (Can.gl_onG _) (Can.plain_args ha)
  have ha0 : 0 ≤ a := wa.1
  have ha1 : a < 4294967296 := Int.lt_of_le_of_lt wa.2 (by decide)
  have hb0 : 0 ≤ b := wb.1
  have hb1 : b < 4294967296 := Int.lt_of_le_of_lt wb.2 (by decide)
  clear wa wb
  have A1 := d0_id ha0 ha1
  have A2 := d1_zero ha0 ha1
  have B1 := d0_id hb0 hb1
  have B2 := d1_zero hb0 hb1
  have S := sumOf_id ha0 ha1 hb0 hb1
  have S0 := s0_id ha0 ha1 hb0 hb1
  have S1 := s1_id ha0 ha1 hb0 hb1
  have P := mulC_id ha0 ha1 hb0 hb1
  have M := mulOf_id ha0 ha1 hb0 hb1
  obtain ⟨_, m1⟩ := mul_lt ha0 ha1 hb0 hb1
  by_cases za : a = 0
  · subst za
    by_cases zb : b = 0
    · subst zb
      exact go (c00 (Can.tyAt W)) (by kernel_rfl) (by repeat (first | exact Can.Obl.ok_nil | refine Can.Obl.ok_more (by first | assumption | rfl | exact decide_eq_true (by omega) | exact decide_eq_false (by omega) | exact beq_eq_false_iff_ne.2 (by omega) | exact bne_iff_ne.2 (by omega) | exact beq_iff_eq.2 (by omega) | (simp; done) | (simp; omega)) ?_))
    · rw [Int.zero_mul] at M
      exact go (c0b (Can.tyAt W) b) (by kernel_rfl) (by repeat (first | exact Can.Obl.ok_nil | refine Can.Obl.ok_more (by ((try simp only [A1, A2, B1, B2]); (try simp only [S, S0, S1, P, M]); (try simp only [d0, d1, u32_eq, hi_eq]); first | rfl | exact cmp_same _ _ | exact beq_iff_eq.2 (by omega) | exact beq_eq_false_iff_ne.2 (by omega) | exact cmp_no (by omega) | exact cmp_yes (by omega) | (simp; done) | (simp; omega))) ?_))
  by_cases zb : b = 0
  · subst zb
    rw [Int.mul_zero] at M
    exact go (ca0 (Can.tyAt W) a) (by kernel_rfl) (by repeat (first | exact Can.Obl.ok_nil | refine Can.Obl.ok_more (by ((try simp only [A1, A2, B1, B2]); (try simp only [S, S0, S1, P, M]); (try simp only [d0, d1, u32_eq, hi_eq]); first | rfl | exact cmp_same _ _ | exact beq_iff_eq.2 (by omega) | exact beq_eq_false_iff_ne.2 (by omega) | exact cmp_no (by omega) | exact cmp_yes (by omega) | (simp; done) | (simp; omega))) ?_))
  have m0 : 0 < a * b := Int.mul_pos (by omega) (by omega)
  by_cases hab : a = b
  · subst hab
    generalize a * a = m at P M m0 m1
    by_cases hc : a + a < 4294967296
    · by_cases hm : m < 4294967296
      · exact go (eq00 (Can.tyAt W) a) (by kernel_rfl) (by repeat (first | exact Can.Obl.ok_nil | refine Can.Obl.ok_more (by ((try simp only [A1, A2, B1, B2]); (try simp only [S, S0, S1, P, M]); (try simp only [d0, d1, u32_eq, hi_eq]); first | rfl | exact cmp_same _ _ | exact beq_iff_eq.2 (by omega) | exact beq_eq_false_iff_ne.2 (by omega) | exact cmp_no (by omega) | exact cmp_yes (by omega) | (simp; done) | (simp; omega))) ?_))
      · exact go (eq01 (Can.tyAt W) a) (by kernel_rfl) (by repeat (first | exact Can.Obl.ok_nil | refine Can.Obl.ok_more (by ((try simp only [A1, A2, B1, B2]); (try simp only [S, S0, S1, P, M]); (try simp only [d0, d1, u32_eq, hi_eq]); first | rfl | exact cmp_same _ _ | exact beq_iff_eq.2 (by omega) | exact beq_eq_false_iff_ne.2 (by omega) | exact cmp_no (by omega) | exact cmp_yes (by omega) | (simp; done) | (simp; omega))) ?_))
    · by_cases hm : m < 4294967296
      · exact go (eq10 (Can.tyAt W) a) (by kernel_rfl) (by repeat (first | exact Can.Obl.ok_nil | refine Can.Obl.ok_more (by ((try simp only [A1, A2, B1, B2]); (try simp only [S, S0, S1, P, M]); (try simp only [d0, d1, u32_eq, hi_eq]); first | rfl | exact cmp_same _ _ | exact beq_iff_eq.2 (by omega) | exact beq_eq_false_iff_ne.2 (by omega) | exact cmp_no (by omega) | exact cmp_yes (by omega) | (simp; done) | (simp; omega))) ?_))
      · exact go (eq11 (Can.tyAt W) a) (by kernel_rfl) (by repeat (first | exact Can.Obl.ok_nil | refine Can.Obl.ok_more (by ((try simp only [A1, A2, B1, B2]); (try simp only [S, S0, S1, P, M]); (try simp only [d0, d1, u32_eq, hi_eq]); first | rfl | exact cmp_same _ _ | exact beq_iff_eq.2 (by omega) | exact beq_eq_false_iff_ne.2 (by omega) | exact cmp_no (by omega) | exact cmp_yes (by omega) | (simp; done) | (simp; omega))) ?_))
  · generalize a * b = m at P M m0 m1
    by_cases hc : a + b < 4294967296
    · by_cases hm : m < 4294967296
      · exact go (ne00 (Can.tyAt W) a b) (by kernel_rfl) (by repeat (first | exact Can.Obl.ok_nil | refine Can.Obl.ok_more (by ((try simp only [A1, A2, B1, B2]); (try simp only [S, S0, S1, P, M]); (try simp only [d0, d1, u32_eq, hi_eq]); first | rfl | exact cmp_same _ _ | exact beq_iff_eq.2 (by omega) | exact beq_eq_false_iff_ne.2 (by omega) | exact cmp_no (by omega) | exact cmp_yes (by omega) | (simp; done) | (simp; omega))) ?_))
      · exact go (ne01 (Can.tyAt W) a b) (by kernel_rfl) (by repeat (first | exact Can.Obl.ok_nil | refine Can.Obl.ok_more (by ((try simp only [A1, A2, B1, B2]); (try simp only [S, S0, S1, P, M]); (try simp only [d0, d1, u32_eq, hi_eq]); first | rfl | exact cmp_same _ _ | exact beq_iff_eq.2 (by omega) | exact beq_eq_false_iff_ne.2 (by omega) | exact cmp_no (by omega) | exact cmp_yes (by omega) | (simp; done) | (simp; omega))) ?_))
    · by_cases hm : m < 4294967296
      · exact go (ne10 (Can.tyAt W) a b) (by kernel_rfl) (by repeat (first | exact Can.Obl.ok_nil | refine Can.Obl.ok_more (by ((try simp only [A1, A2, B1, B2]); (try simp only [S, S0, S1, P, M]); (try simp only [d0, d1, u32_eq, hi_eq]); first | rfl | exact cmp_same _ _ | exact beq_iff_eq.2 (by omega) | exact beq_eq_false_iff_ne.2 (by omega) | exact cmp_no (by omega) | exact cmp_yes (by omega) | (simp; done) | (simp; omega))) ?_))
      · exact go (ne11 (Can.tyAt W) a b) (by kernel_rfl) (by repeat (first | exact Can.Obl.ok_nil | refine Can.Obl.ok_more (by ((try simp only [A1, A2, B1, B2]); (try simp only [S, S0, S1, P, M]); (try simp only [d0, d1, u32_eq, hi_eq]); first | rfl | exact cmp_same _ _ | exact beq_iff_eq.2 (by omega) | exact beq_eq_false_iff_ne.2 (by omega) | exact cmp_no (by omega) | exact cmp_yes (by omega) | (simp; done) | (simp; omega))) ?_))
end Go.Proofs.YtkpdkkeblipfdaaDoor.semiringNatural
