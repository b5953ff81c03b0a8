/-
  SemiringHomomorphisms: the cases put together: the call answers true whatever its arguments.
-/
import Derived.Test.YtmcfnnapgbgdeaaDoorCaseSemiringHomomorphismsA
import Derived.Test.YtmcfnnapgbgdeaaDoorCaseSemiringHomomorphismsB
import Derived.Test.YtmcfnnapgbgdeaaDoorCaseSemiringHomomorphismsC
import Derived.Test.YtmcfnnapgbgdeaaDoorCaseSemiringHomomorphismsD
set_option linter.unusedSimpArgs false
set_option linter.unusedVariables false
namespace Go.Proofs.YtmcfnnapgbgdeaaDoor.semiringHomomorphisms
open Go.ChangeShapes Go.WideShapes Go.ChangeAt Go.RowKit Go.Joins Go.Own nat32
set_option maxHeartbeats 4000000

theorem d0_range (b : Int) : 0 ≤ d0 b ∧ d0 b < 4294967296 := u32_range b
theorem d1_range (b : Int) : 0 ≤ d1 b ∧ d1 b < 4294967296 := u32_range (hi b)
theorem sum_oneL1 {b : Int} (h0 : 0 ≤ b) (h1 : b < 4294967296) : u32 (hi (addS 0 0 (d0 b))) = 0 := by
  rw [addS_id zero_range zero_range (d0_range _), hi_eq, u32_eq]
  have := u32_range b
  show (0 + u32 b + 0) / 4294967296 % 4294967296 = 0
  omega
theorem sum_oneR1 {a : Int} (h0 : 0 ≤ a) (h1 : a < 4294967296) : u32 (hi (addS 0 (d0 a) 0)) = 0 := by
  rw [addS_id zero_range (d0_range _) zero_range, hi_eq, u32_eq]
  have := u32_range a
  show (u32 a + 0 + 0) / 4294967296 % 4294967296 = 0
  omega
theorem sum_oneL2 {b : Int} (h0 : 0 ≤ b) (h1 : b < 18446744073709551616) : u32 (hi (addS (u32 (hi (addS 0 0 (d0 b)))) 0 (d1 b))) = 0 := by
  have e : u32 (hi (addS 0 0 (d0 b))) = 0 := by
    rw [addS_id zero_range zero_range (d0_range _), hi_eq, u32_eq]
    have := u32_range b
    show (0 + u32 b + 0) / 4294967296 % 4294967296 = 0
    omega
  rw [e, addS_id zero_range zero_range (d1_range _), hi_eq, u32_eq]
  have := u32_range (hi b)
  show (0 + u32 (hi b) + 0) / 4294967296 % 4294967296 = 0
  omega
theorem sum_oneR2 {a : Int} (h0 : 0 ≤ a) (h1 : a < 18446744073709551616) : u32 (hi (addS (u32 (hi (addS 0 (d0 a) 0))) (d1 a) 0)) = 0 := by
  have e : u32 (hi (addS 0 (d0 a) 0)) = 0 := by
    rw [addS_id zero_range (d0_range _) zero_range, hi_eq, u32_eq]
    have := u32_range a
    show (u32 a + 0 + 0) / 4294967296 % 4294967296 = 0
    omega
  rw [e, addS_id zero_range (d1_range _) zero_range, hi_eq, u32_eq]
  have := u32_range (hi a)
  show (u32 (hi a) + 0 + 0) / 4294967296 % 4294967296 = 0
  omega

theorem walk {W : World} (hL : laidMetH Tryd.prog Rows.semiringHomomorphismsRow.laid W) (a b : Int) (fp : Bool) (x : Int) (fq : Bool) (y : Int) (wa : IntKind.u64.has a) (wb : IntKind.u64.has b) (_ : IntKind.i64.has x) (_ : IntKind.i64.has y) :
    Calls Tryd.prog 3 #[.int .u64 a, .int .u64 b, .agg #[.bool fp, .int .i64 x], .agg #[.bool fq, .int .i64 y]] W fun e w' => e = .returned (.bool true) ∧ ∃ x, w' = beyond W x := by
  have go : ∀ {orc : List Can.Site → FuncId → Can.Orc} {args : Array Value} {l : Can.Obl} {tags : List Nat}, Can.evDTrue (Can.evD Tryd.prog [1, 2, 3] sm orc 3000 [] (.call 3 args) (Can.AW.start (H0 (Can.tyAt W)))) = some (Can.Obl.tab l tags) → args.all (Can.plainV 60) = true → l.Ok →
      Calls Tryd.prog 3 args W fun e w' => e = .returned (.bool true) ∧ ∃ x, w' = beyond W x :=
    fun h ha ok => Can.true_callsD pc sums h (Can.Obl.tab_ok ok) (known hL) (Can.gl_onG _) (Can.plain_args ha)
  have ha0 : 0 ≤ a := wa.1
  have ha1 : a < 18446744073709551616 := Int.lt_of_le_of_lt wa.2 (by decide)
  have hb0 : 0 ≤ b := wb.1
  have hb1 : b < 18446744073709551616 := Int.lt_of_le_of_lt wb.2 (by decide)
  clear wa wb
  by_cases hp : semi.rgt fp x = true
  case neg => exact go (outP (Can.tyAt W) a b fp x fq y) (by kernel_rfl) (Can.Obl.ok_more (Bool.eq_false_iff.2 hp) Can.Obl.ok_nil)
  by_cases hq : semi.rgt fq y = true
  case neg => exact go (outQ (Can.tyAt W) a b fp x fq y) (by kernel_rfl) (Can.Obl.ok_more hp (Can.Obl.ok_more (Bool.eq_false_iff.2 hq) Can.Obl.ok_nil))
  have cost := cost_ok fp fq x y hp hq
  have eqs : ((fp || fq) == (fp || fq)) = true := beq_self_eq_true _
  have late := lateE_true fq y
  by_cases za : a = 0
  · subst za
    by_cases zb : b = 0
    · subst zb
      exact go (zz (Can.tyAt W) fp x fq y) (by kernel_rfl) (by repeat (first | exact Can.Obl.ok_nil | refine Can.Obl.ok_more (by first | assumption | rfl | exact decide_eq_true (by omega) | exact decide_eq_false (by omega) | exact beq_eq_false_iff_ne.2 (by omega) | exact bne_iff_ne.2 (by omega) | exact beq_iff_eq.2 (by omega) | (simp; done) | (simp; omega)) ?_))
    by_cases hbs : b < 4294967296
    · have B1 : (d1 b == 0) = true := beq_iff_eq.2 (d1_small hb0 hbs)
      have LB : 1 ≤ d0 b := d0_small (by omega) hbs
      have B0 : (d0 b == 0) = false := beq_eq_false_iff_ne.2 (by omega)
      have t1 : u32 (addS (u32 (hi (addS 0 0 (d0 b)))) 0 0) = 0 := by rw [addS_top]; exact sum_oneL1 hb0 hbs
      have t1 : (u32 (addS (u32 (hi (addS 0 0 (d0 b)))) 0 0) == 0) = true := beq_iff_eq.2 t1
      have ps : u32 (hi (addS 0 0 (d0 b))) = 0 → u32 (addS 0 0 (d0 b)) ≠ 0 := addS_pos zero_range zero_range (u32_range _) (.inr LB)
      have t2 : (u32 (addS 0 0 (d0 b)) == 0) = false := beq_eq_false_iff_ne.2 (ps (by rw [← addS_top]; exact beq_iff_eq.1 t1))
      exact go (z1 (Can.tyAt W) b fp x fq y) (by kernel_rfl) (by repeat (first | exact Can.Obl.ok_nil | refine Can.Obl.ok_more (by first | assumption | rfl | exact decide_eq_true (by omega) | exact decide_eq_false (by omega) | exact beq_eq_false_iff_ne.2 (by omega) | exact bne_iff_ne.2 (by omega) | exact beq_iff_eq.2 (by omega) | (simp; done) | (simp; omega)) ?_))
    · have LB : 1 ≤ d1 b := d1_big (by omega) hb1
      have B1 : (d1 b == 0) = false := beq_eq_false_iff_ne.2 (by omega)
      have t1 : u32 (addS (u32 (hi (addS (u32 (hi (addS 0 0 (d0 b)))) 0 (d1 b)))) 0 0) = 0 := by rw [addS_top]; exact sum_oneL2 hb0 hb1
      have t1 : (u32 (addS (u32 (hi (addS (u32 (hi (addS 0 0 (d0 b)))) 0 (d1 b)))) 0 0) == 0) = true := beq_iff_eq.2 t1
      have ps : u32 (hi (addS (u32 (hi (addS 0 0 (d0 b)))) 0 (d1 b))) = 0 → u32 (addS (u32 (hi (addS 0 0 (d0 b)))) 0 (d1 b)) ≠ 0 := addS_pos (u32_range _) zero_range (u32_range _) (.inr LB)
      have t2 : (u32 (addS (u32 (hi (addS 0 0 (d0 b)))) 0 (d1 b)) == 0) = false := beq_eq_false_iff_ne.2 (ps (by rw [← addS_top]; exact beq_iff_eq.1 t1))
      exact go (z2 (Can.tyAt W) b fp x fq y) (by kernel_rfl) (by repeat (first | exact Can.Obl.ok_nil | refine Can.Obl.ok_more (by first | assumption | rfl | exact decide_eq_true (by omega) | exact decide_eq_false (by omega) | exact beq_eq_false_iff_ne.2 (by omega) | exact bne_iff_ne.2 (by omega) | exact beq_iff_eq.2 (by omega) | (simp; done) | (simp; omega)) ?_))
  by_cases has : a < 4294967296
  · have A1 : (d1 a == 0) = true := beq_iff_eq.2 (d1_small ha0 has)
    have LA : 1 ≤ d0 a := d0_small (by omega) has
    have A0 : (d0 a == 0) = false := beq_eq_false_iff_ne.2 (by omega)
    by_cases zb : b = 0
    · subst zb
      have t1 : u32 (addS (u32 (hi (addS 0 (d0 a) 0))) 0 0) = 0 := by rw [addS_top]; exact sum_oneR1 ha0 has
      have t1 : (u32 (addS (u32 (hi (addS 0 (d0 a) 0))) 0 0) == 0) = true := beq_iff_eq.2 t1
      have ps : u32 (hi (addS 0 (d0 a) 0)) = 0 → u32 (addS 0 (d0 a) 0) ≠ 0 := addS_pos zero_range (u32_range _) zero_range (.inl LA)
      have t2 : (u32 (addS 0 (d0 a) 0) == 0) = false := beq_eq_false_iff_ne.2 (ps (by rw [← addS_top]; exact beq_iff_eq.1 t1))
      exact go (s1z (Can.tyAt W) a fp x fq y) (by kernel_rfl) (by repeat (first | exact Can.Obl.ok_nil | refine Can.Obl.ok_more (by first | assumption | rfl | exact decide_eq_true (by omega) | exact decide_eq_false (by omega) | exact beq_eq_false_iff_ne.2 (by omega) | exact bne_iff_ne.2 (by omega) | exact beq_iff_eq.2 (by omega) | (simp; done) | (simp; omega)) ?_))
    by_cases hbs : b < 4294967296
    · have B1 : (d1 b == 0) = true := beq_iff_eq.2 (d1_small hb0 hbs)
      have LB : 1 ≤ d0 b := d0_small (by omega) hbs
      have B0 : (d0 b == 0) = false := beq_eq_false_iff_ne.2 (by omega)
      have ps : u32 (hi (addS 0 (d0 a) (d0 b))) = 0 → u32 (addS 0 (d0 a) (d0 b)) ≠ 0 := addS_pos zero_range (u32_range _) (u32_range _) (.inl LA)
      have pm : u32 (hi (mulS 0 (d0 a) (d0 b) 0)) = 0 → u32 (mulS 0 (d0 a) (d0 b) 0) ≠ 0 := mulS_pos zero_range ⟨LA, (u32_range _).2⟩ ⟨LB, (u32_range _).2⟩ zero_range
      by_cases hs : u32 (hi (addS 0 (d0 a) (d0 b))) = 0
      · have t1 : (u32 (addS (u32 (hi (addS 0 (d0 a) (d0 b)))) 0 0) == 0) = true := by rw [addS_top]; exact beq_iff_eq.2 hs
        have t2 : (u32 (addS 0 (d0 a) (d0 b)) == 0) = false := beq_eq_false_iff_ne.2 (ps hs)
        by_cases hm : u32 (hi (mulS 0 (d0 a) (d0 b) 0)) = 0
        · have t3 : (u32 (hi (mulS 0 (d0 a) (d0 b) 0)) == 0) = true := beq_iff_eq.2 hm
          have t4 : (u32 (mulS 0 (d0 a) (d0 b) 0) == 0) = false := beq_eq_false_iff_ne.2 (pm hm)
          exact go (s11_00 (Can.tyAt W) a b fp x fq y) (by kernel_rfl) (by repeat (first | exact Can.Obl.ok_nil | refine Can.Obl.ok_more (by first | assumption | rfl | exact decide_eq_true (by omega) | exact decide_eq_false (by omega) | exact beq_eq_false_iff_ne.2 (by omega) | exact bne_iff_ne.2 (by omega) | exact beq_iff_eq.2 (by omega) | (simp; done) | (simp; omega)) ?_))
        · have t3 : (u32 (hi (mulS 0 (d0 a) (d0 b) 0)) == 0) = false := beq_eq_false_iff_ne.2 hm
          exact go (s11_01 (Can.tyAt W) a b fp x fq y) (by kernel_rfl) (by repeat (first | exact Can.Obl.ok_nil | refine Can.Obl.ok_more (by first | assumption | rfl | exact decide_eq_true (by omega) | exact decide_eq_false (by omega) | exact beq_eq_false_iff_ne.2 (by omega) | exact bne_iff_ne.2 (by omega) | exact beq_iff_eq.2 (by omega) | (simp; done) | (simp; omega)) ?_))
      · have t1 : (u32 (addS (u32 (hi (addS 0 (d0 a) (d0 b)))) 0 0) == 0) = false := by rw [addS_top]; exact beq_eq_false_iff_ne.2 hs
        by_cases hm : u32 (hi (mulS 0 (d0 a) (d0 b) 0)) = 0
        · have t3 : (u32 (hi (mulS 0 (d0 a) (d0 b) 0)) == 0) = true := beq_iff_eq.2 hm
          have t4 : (u32 (mulS 0 (d0 a) (d0 b) 0) == 0) = false := beq_eq_false_iff_ne.2 (pm hm)
          exact go (s11_10 (Can.tyAt W) a b fp x fq y) (by kernel_rfl) (by repeat (first | exact Can.Obl.ok_nil | refine Can.Obl.ok_more (by first | assumption | rfl | exact decide_eq_true (by omega) | exact decide_eq_false (by omega) | exact beq_eq_false_iff_ne.2 (by omega) | exact bne_iff_ne.2 (by omega) | exact beq_iff_eq.2 (by omega) | (simp; done) | (simp; omega)) ?_))
        · have t3 : (u32 (hi (mulS 0 (d0 a) (d0 b) 0)) == 0) = false := beq_eq_false_iff_ne.2 hm
          exact go (s11_11 (Can.tyAt W) a b fp x fq y) (by kernel_rfl) (by repeat (first | exact Can.Obl.ok_nil | refine Can.Obl.ok_more (by first | assumption | rfl | exact decide_eq_true (by omega) | exact decide_eq_false (by omega) | exact beq_eq_false_iff_ne.2 (by omega) | exact bne_iff_ne.2 (by omega) | exact beq_iff_eq.2 (by omega) | (simp; done) | (simp; omega)) ?_))
    · have LB : 1 ≤ d1 b := d1_big (by omega) hb1
      have B1 : (d1 b == 0) = false := beq_eq_false_iff_ne.2 (by omega)
      have ps : u32 (hi (addS (u32 (hi (addS 0 (d0 a) (d0 b)))) 0 (d1 b))) = 0 → u32 (addS (u32 (hi (addS 0 (d0 a) (d0 b)))) 0 (d1 b)) ≠ 0 := addS_pos (u32_range _) zero_range (u32_range _) (.inr LB)
      have pm : u32 (hi (mulS (hi (mulS 0 (d0 a) (d0 b) 0)) (d0 a) (d1 b) 0)) = 0 → u32 (mulS (hi (mulS 0 (d0 a) (d0 b) 0)) (d0 a) (d1 b) 0) ≠ 0 := mulS_pos (hi_mulS _ _ _ _) ⟨LA, (u32_range _).2⟩ ⟨LB, (u32_range _).2⟩ zero_range
      by_cases hs : u32 (hi (addS (u32 (hi (addS 0 (d0 a) (d0 b)))) 0 (d1 b))) = 0
      · have t1 : (u32 (addS (u32 (hi (addS (u32 (hi (addS 0 (d0 a) (d0 b)))) 0 (d1 b)))) 0 0) == 0) = true := by rw [addS_top]; exact beq_iff_eq.2 hs
        have t2 : (u32 (addS (u32 (hi (addS 0 (d0 a) (d0 b)))) 0 (d1 b)) == 0) = false := beq_eq_false_iff_ne.2 (ps hs)
        by_cases hm : u32 (hi (mulS (hi (mulS 0 (d0 a) (d0 b) 0)) (d0 a) (d1 b) 0)) = 0
        · have t3 : (u32 (hi (mulS (hi (mulS 0 (d0 a) (d0 b) 0)) (d0 a) (d1 b) 0)) == 0) = true := beq_iff_eq.2 hm
          have t4 : (u32 (mulS (hi (mulS 0 (d0 a) (d0 b) 0)) (d0 a) (d1 b) 0) == 0) = false := beq_eq_false_iff_ne.2 (pm hm)
          exact go (s12_00 (Can.tyAt W) a b fp x fq y) (by kernel_rfl) (by repeat (first | exact Can.Obl.ok_nil | refine Can.Obl.ok_more (by first | assumption | rfl | exact decide_eq_true (by omega) | exact decide_eq_false (by omega) | exact beq_eq_false_iff_ne.2 (by omega) | exact bne_iff_ne.2 (by omega) | exact beq_iff_eq.2 (by omega) | (simp; done) | (simp; omega)) ?_))
        · have t3 : (u32 (hi (mulS (hi (mulS 0 (d0 a) (d0 b) 0)) (d0 a) (d1 b) 0)) == 0) = false := beq_eq_false_iff_ne.2 hm
          exact go (s12_01 (Can.tyAt W) a b fp x fq y) (by kernel_rfl) (by repeat (first | exact Can.Obl.ok_nil | refine Can.Obl.ok_more (by first | assumption | rfl | exact decide_eq_true (by omega) | exact decide_eq_false (by omega) | exact beq_eq_false_iff_ne.2 (by omega) | exact bne_iff_ne.2 (by omega) | exact beq_iff_eq.2 (by omega) | (simp; done) | (simp; omega)) ?_))
      · have t1 : (u32 (addS (u32 (hi (addS (u32 (hi (addS 0 (d0 a) (d0 b)))) 0 (d1 b)))) 0 0) == 0) = false := by rw [addS_top]; exact beq_eq_false_iff_ne.2 hs
        by_cases hm : u32 (hi (mulS (hi (mulS 0 (d0 a) (d0 b) 0)) (d0 a) (d1 b) 0)) = 0
        · have t3 : (u32 (hi (mulS (hi (mulS 0 (d0 a) (d0 b) 0)) (d0 a) (d1 b) 0)) == 0) = true := beq_iff_eq.2 hm
          have t4 : (u32 (mulS (hi (mulS 0 (d0 a) (d0 b) 0)) (d0 a) (d1 b) 0) == 0) = false := beq_eq_false_iff_ne.2 (pm hm)
          exact go (s12_10 (Can.tyAt W) a b fp x fq y) (by kernel_rfl) (by repeat (first | exact Can.Obl.ok_nil | refine Can.Obl.ok_more (by first | assumption | rfl | exact decide_eq_true (by omega) | exact decide_eq_false (by omega) | exact beq_eq_false_iff_ne.2 (by omega) | exact bne_iff_ne.2 (by omega) | exact beq_iff_eq.2 (by omega) | (simp; done) | (simp; omega)) ?_))
        · have t3 : (u32 (hi (mulS (hi (mulS 0 (d0 a) (d0 b) 0)) (d0 a) (d1 b) 0)) == 0) = false := beq_eq_false_iff_ne.2 hm
          exact go (s12_11 (Can.tyAt W) a b fp x fq y) (by kernel_rfl) (by repeat (first | exact Can.Obl.ok_nil | refine Can.Obl.ok_more (by first | assumption | rfl | exact decide_eq_true (by omega) | exact decide_eq_false (by omega) | exact beq_eq_false_iff_ne.2 (by omega) | exact bne_iff_ne.2 (by omega) | exact beq_iff_eq.2 (by omega) | (simp; done) | (simp; omega)) ?_))
  · have LA : 1 ≤ d1 a := d1_big (by omega) ha1
    have A1 : (d1 a == 0) = false := beq_eq_false_iff_ne.2 (by omega)
    by_cases zb : b = 0
    · subst zb
      have t1 : u32 (addS (u32 (hi (addS (u32 (hi (addS 0 (d0 a) 0))) (d1 a) 0))) 0 0) = 0 := by rw [addS_top]; exact sum_oneR2 ha0 ha1
      have t1 : (u32 (addS (u32 (hi (addS (u32 (hi (addS 0 (d0 a) 0))) (d1 a) 0))) 0 0) == 0) = true := beq_iff_eq.2 t1
      have ps : u32 (hi (addS (u32 (hi (addS 0 (d0 a) 0))) (d1 a) 0)) = 0 → u32 (addS (u32 (hi (addS 0 (d0 a) 0))) (d1 a) 0) ≠ 0 := addS_pos (u32_range _) (u32_range _) zero_range (.inl LA)
      have t2 : (u32 (addS (u32 (hi (addS 0 (d0 a) 0))) (d1 a) 0) == 0) = false := beq_eq_false_iff_ne.2 (ps (by rw [← addS_top]; exact beq_iff_eq.1 t1))
      exact go (s2z (Can.tyAt W) a fp x fq y) (by kernel_rfl) (by repeat (first | exact Can.Obl.ok_nil | refine Can.Obl.ok_more (by first | assumption | rfl | exact decide_eq_true (by omega) | exact decide_eq_false (by omega) | exact beq_eq_false_iff_ne.2 (by omega) | exact bne_iff_ne.2 (by omega) | exact beq_iff_eq.2 (by omega) | (simp; done) | (simp; omega)) ?_))
    by_cases hbs : b < 4294967296
    · have B1 : (d1 b == 0) = true := beq_iff_eq.2 (d1_small hb0 hbs)
      have LB : 1 ≤ d0 b := d0_small (by omega) hbs
      have B0 : (d0 b == 0) = false := beq_eq_false_iff_ne.2 (by omega)
      have ps : u32 (hi (addS (u32 (hi (addS 0 (d0 a) (d0 b)))) (d1 a) 0)) = 0 → u32 (addS (u32 (hi (addS 0 (d0 a) (d0 b)))) (d1 a) 0) ≠ 0 := addS_pos (u32_range _) (u32_range _) zero_range (.inl LA)
      have pm : u32 (hi (mulS 0 (d1 a) (d0 b) (u32 (hi (mulS 0 (d0 a) (d0 b) 0))))) = 0 → u32 (mulS 0 (d1 a) (d0 b) (u32 (hi (mulS 0 (d0 a) (d0 b) 0)))) ≠ 0 := mulS_pos zero_range ⟨LA, (u32_range _).2⟩ ⟨LB, (u32_range _).2⟩ (u32_range _)
      by_cases hs : u32 (hi (addS (u32 (hi (addS 0 (d0 a) (d0 b)))) (d1 a) 0)) = 0
      · have t1 : (u32 (addS (u32 (hi (addS (u32 (hi (addS 0 (d0 a) (d0 b)))) (d1 a) 0))) 0 0) == 0) = true := by rw [addS_top]; exact beq_iff_eq.2 hs
        have t2 : (u32 (addS (u32 (hi (addS 0 (d0 a) (d0 b)))) (d1 a) 0) == 0) = false := beq_eq_false_iff_ne.2 (ps hs)
        by_cases hm : u32 (hi (mulS 0 (d1 a) (d0 b) (u32 (hi (mulS 0 (d0 a) (d0 b) 0))))) = 0
        · have t3 : (u32 (hi (mulS 0 (d1 a) (d0 b) (u32 (hi (mulS 0 (d0 a) (d0 b) 0))))) == 0) = true := beq_iff_eq.2 hm
          have t4 : (u32 (mulS 0 (d1 a) (d0 b) (u32 (hi (mulS 0 (d0 a) (d0 b) 0)))) == 0) = false := beq_eq_false_iff_ne.2 (pm hm)
          exact go (s21_00 (Can.tyAt W) a b fp x fq y) (by kernel_rfl) (by repeat (first | exact Can.Obl.ok_nil | refine Can.Obl.ok_more (by first | assumption | rfl | exact decide_eq_true (by omega) | exact decide_eq_false (by omega) | exact beq_eq_false_iff_ne.2 (by omega) | exact bne_iff_ne.2 (by omega) | exact beq_iff_eq.2 (by omega) | (simp; done) | (simp; omega)) ?_))
        · have t3 : (u32 (hi (mulS 0 (d1 a) (d0 b) (u32 (hi (mulS 0 (d0 a) (d0 b) 0))))) == 0) = false := beq_eq_false_iff_ne.2 hm
          exact go (s21_01 (Can.tyAt W) a b fp x fq y) (by kernel_rfl) (by repeat (first | exact Can.Obl.ok_nil | refine Can.Obl.ok_more (by first | assumption | rfl | exact decide_eq_true (by omega) | exact decide_eq_false (by omega) | exact beq_eq_false_iff_ne.2 (by omega) | exact bne_iff_ne.2 (by omega) | exact beq_iff_eq.2 (by omega) | (simp; done) | (simp; omega)) ?_))
      · have t1 : (u32 (addS (u32 (hi (addS (u32 (hi (addS 0 (d0 a) (d0 b)))) (d1 a) 0))) 0 0) == 0) = false := by rw [addS_top]; exact beq_eq_false_iff_ne.2 hs
        by_cases hm : u32 (hi (mulS 0 (d1 a) (d0 b) (u32 (hi (mulS 0 (d0 a) (d0 b) 0))))) = 0
        · have t3 : (u32 (hi (mulS 0 (d1 a) (d0 b) (u32 (hi (mulS 0 (d0 a) (d0 b) 0))))) == 0) = true := beq_iff_eq.2 hm
          have t4 : (u32 (mulS 0 (d1 a) (d0 b) (u32 (hi (mulS 0 (d0 a) (d0 b) 0)))) == 0) = false := beq_eq_false_iff_ne.2 (pm hm)
          exact go (s21_10 (Can.tyAt W) a b fp x fq y) (by kernel_rfl) (by repeat (first | exact Can.Obl.ok_nil | refine Can.Obl.ok_more (by first | assumption | rfl | exact decide_eq_true (by omega) | exact decide_eq_false (by omega) | exact beq_eq_false_iff_ne.2 (by omega) | exact bne_iff_ne.2 (by omega) | exact beq_iff_eq.2 (by omega) | (simp; done) | (simp; omega)) ?_))
        · have t3 : (u32 (hi (mulS 0 (d1 a) (d0 b) (u32 (hi (mulS 0 (d0 a) (d0 b) 0))))) == 0) = false := beq_eq_false_iff_ne.2 hm
          exact go (s21_11 (Can.tyAt W) a b fp x fq y) (by kernel_rfl) (by repeat (first | exact Can.Obl.ok_nil | refine Can.Obl.ok_more (by first | assumption | rfl | exact decide_eq_true (by omega) | exact decide_eq_false (by omega) | exact beq_eq_false_iff_ne.2 (by omega) | exact bne_iff_ne.2 (by omega) | exact beq_iff_eq.2 (by omega) | (simp; done) | (simp; omega)) ?_))
    · have LB : 1 ≤ d1 b := d1_big (by omega) hb1
      have B1 : (d1 b == 0) = false := beq_eq_false_iff_ne.2 (by omega)
      have ps : u32 (hi (addS (u32 (hi (addS 0 (d0 a) (d0 b)))) (d1 a) (d1 b))) = 0 → u32 (addS (u32 (hi (addS 0 (d0 a) (d0 b)))) (d1 a) (d1 b)) ≠ 0 := addS_pos (u32_range _) (u32_range _) (u32_range _) (.inl LA)
      have pm : u32 (hi (mulS (hi (mulS 0 (d1 a) (d0 b) (u32 (mulS (hi (mulS 0 (d0 a) (d0 b) 0)) (d0 a) (d1 b) 0)))) (d1 a) (d1 b) (u32 (hi (mulS (hi (mulS 0 (d0 a) (d0 b) 0)) (d0 a) (d1 b) 0))))) = 0 → u32 (mulS (hi (mulS 0 (d1 a) (d0 b) (u32 (mulS (hi (mulS 0 (d0 a) (d0 b) 0)) (d0 a) (d1 b) 0)))) (d1 a) (d1 b) (u32 (hi (mulS (hi (mulS 0 (d0 a) (d0 b) 0)) (d0 a) (d1 b) 0)))) ≠ 0 := mulS_pos (hi_mulS _ _ _ _) ⟨LA, (u32_range _).2⟩ ⟨LB, (u32_range _).2⟩ (u32_range _)
      by_cases hs : u32 (hi (addS (u32 (hi (addS 0 (d0 a) (d0 b)))) (d1 a) (d1 b))) = 0
      · have t1 : (u32 (addS (u32 (hi (addS (u32 (hi (addS 0 (d0 a) (d0 b)))) (d1 a) (d1 b)))) 0 0) == 0) = true := by rw [addS_top]; exact beq_iff_eq.2 hs
        have t2 : (u32 (addS (u32 (hi (addS 0 (d0 a) (d0 b)))) (d1 a) (d1 b)) == 0) = false := beq_eq_false_iff_ne.2 (ps hs)
        by_cases hm : u32 (hi (mulS (hi (mulS 0 (d1 a) (d0 b) (u32 (mulS (hi (mulS 0 (d0 a) (d0 b) 0)) (d0 a) (d1 b) 0)))) (d1 a) (d1 b) (u32 (hi (mulS (hi (mulS 0 (d0 a) (d0 b) 0)) (d0 a) (d1 b) 0))))) = 0
        · have t3 : (u32 (hi (mulS (hi (mulS 0 (d1 a) (d0 b) (u32 (mulS (hi (mulS 0 (d0 a) (d0 b) 0)) (d0 a) (d1 b) 0)))) (d1 a) (d1 b) (u32 (hi (mulS (hi (mulS 0 (d0 a) (d0 b) 0)) (d0 a) (d1 b) 0))))) == 0) = true := beq_iff_eq.2 hm
          have t4 : (u32 (mulS (hi (mulS 0 (d1 a) (d0 b) (u32 (mulS (hi (mulS 0 (d0 a) (d0 b) 0)) (d0 a) (d1 b) 0)))) (d1 a) (d1 b) (u32 (hi (mulS (hi (mulS 0 (d0 a) (d0 b) 0)) (d0 a) (d1 b) 0)))) == 0) = false := beq_eq_false_iff_ne.2 (pm hm)
          exact go (s22_00 (Can.tyAt W) a b fp x fq y) (by kernel_rfl) (by repeat (first | exact Can.Obl.ok_nil | refine Can.Obl.ok_more (by first | assumption | rfl | exact decide_eq_true (by omega) | exact decide_eq_false (by omega) | exact beq_eq_false_iff_ne.2 (by omega) | exact bne_iff_ne.2 (by omega) | exact beq_iff_eq.2 (by omega) | (simp; done) | (simp; omega)) ?_))
        · have t3 : (u32 (hi (mulS (hi (mulS 0 (d1 a) (d0 b) (u32 (mulS (hi (mulS 0 (d0 a) (d0 b) 0)) (d0 a) (d1 b) 0)))) (d1 a) (d1 b) (u32 (hi (mulS (hi (mulS 0 (d0 a) (d0 b) 0)) (d0 a) (d1 b) 0))))) == 0) = false := beq_eq_false_iff_ne.2 hm
          exact go (s22_01 (Can.tyAt W) a b fp x fq y) (by kernel_rfl) (by repeat (first | exact Can.Obl.ok_nil | refine Can.Obl.ok_more (by first | assumption | rfl | exact decide_eq_true (by omega) | exact decide_eq_false (by omega) | exact beq_eq_false_iff_ne.2 (by omega) | exact bne_iff_ne.2 (by omega) | exact beq_iff_eq.2 (by omega) | (simp; done) | (simp; omega)) ?_))
      · have t1 : (u32 (addS (u32 (hi (addS (u32 (hi (addS 0 (d0 a) (d0 b)))) (d1 a) (d1 b)))) 0 0) == 0) = false := by rw [addS_top]; exact beq_eq_false_iff_ne.2 hs
        by_cases hm : u32 (hi (mulS (hi (mulS 0 (d1 a) (d0 b) (u32 (mulS (hi (mulS 0 (d0 a) (d0 b) 0)) (d0 a) (d1 b) 0)))) (d1 a) (d1 b) (u32 (hi (mulS (hi (mulS 0 (d0 a) (d0 b) 0)) (d0 a) (d1 b) 0))))) = 0
        · have t3 : (u32 (hi (mulS (hi (mulS 0 (d1 a) (d0 b) (u32 (mulS (hi (mulS 0 (d0 a) (d0 b) 0)) (d0 a) (d1 b) 0)))) (d1 a) (d1 b) (u32 (hi (mulS (hi (mulS 0 (d0 a) (d0 b) 0)) (d0 a) (d1 b) 0))))) == 0) = true := beq_iff_eq.2 hm
          have t4 : (u32 (mulS (hi (mulS 0 (d1 a) (d0 b) (u32 (mulS (hi (mulS 0 (d0 a) (d0 b) 0)) (d0 a) (d1 b) 0)))) (d1 a) (d1 b) (u32 (hi (mulS (hi (mulS 0 (d0 a) (d0 b) 0)) (d0 a) (d1 b) 0)))) == 0) = false := beq_eq_false_iff_ne.2 (pm hm)
          exact go (s22_10 (Can.tyAt W) a b fp x fq y) (by kernel_rfl) (by repeat (first | exact Can.Obl.ok_nil | refine Can.Obl.ok_more (by first | assumption | rfl | exact decide_eq_true (by omega) | exact decide_eq_false (by omega) | exact beq_eq_false_iff_ne.2 (by omega) | exact bne_iff_ne.2 (by omega) | exact beq_iff_eq.2 (by omega) | (simp; done) | (simp; omega)) ?_))
        · have t3 : (u32 (hi (mulS (hi (mulS 0 (d1 a) (d0 b) (u32 (mulS (hi (mulS 0 (d0 a) (d0 b) 0)) (d0 a) (d1 b) 0)))) (d1 a) (d1 b) (u32 (hi (mulS (hi (mulS 0 (d0 a) (d0 b) 0)) (d0 a) (d1 b) 0))))) == 0) = false := beq_eq_false_iff_ne.2 hm
          exact go (s22_11 (Can.tyAt W) a b fp x fq y) (by kernel_rfl) (by repeat (first | exact Can.Obl.ok_nil | refine Can.Obl.ok_more (by first | assumption | rfl | exact decide_eq_true (by omega) | exact decide_eq_false (by omega) | exact beq_eq_false_iff_ne.2 (by omega) | exact bne_iff_ne.2 (by omega) | exact beq_iff_eq.2 (by omega) | (simp; done) | (simp; omega)) ?_))
end Go.Proofs.YtmcfnnapgbgdeaaDoor.semiringHomomorphisms
