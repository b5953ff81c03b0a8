/-
  SemiringNil: the cases put together: the call answers true whatever its arguments.
-/
import Derived.Test.YtmcfnnapgbgdeaaDoorCaseSemiringNil
set_option linter.unusedSimpArgs false
set_option linter.unusedVariables false
namespace Go.Proofs.YtmcfnnapgbgdeaaDoor.semiringNil
open Go.ChangeShapes Go.WideShapes Go.ChangeAt Go.RowKit Go.Joins Go.Own rep

theorem d0_pos {n : Int} (h0 : 0 < n) (h1 : n < 4294967296) : (d0 n == 0) = false := by
  have : d0 n = n % 4294967296 := rfl
  rw [this]; simp; omega
theorem d1_zero {n : Int} (h0 : 0 < n) (h1 : n < 4294967296) : (d1 n == 0) = true := by
  have : d1 n = (n.fdiv (2 ^ 32)) % 4294967296 := rfl
  rw [this, Int.fdiv_eq_ediv_of_nonneg _ (by decide)]; simp; omega
theorem d1_pos {n : Int} (h0 : 4294967296 ≤ n) (h1 : n < 18446744073709551616) : (d1 n == 0) = false := by
  have : d1 n = (n.fdiv (2 ^ 32)) % 4294967296 := rfl
  rw [this, Int.fdiv_eq_ediv_of_nonneg _ (by decide)]; simp; omega

theorem walk {W : World} (hL : laidMetH Tryd.prog Rows.semiringNilRow.laid W) (a : Bool) (n t : Int) (wn : IntKind.u64.has n) (_ : IntKind.i64.has t) :
    Calls Tryd.prog 4 #[.bool a, .int .u64 n, .int .i64 t] W fun e w' => e = .returned (.bool true) ∧ ∃ x, w' = beyond W x := by
  have go : ∀ {orc : List Can.Site → FuncId → Can.Orc} {args : Array Value} {l : Can.Obl} {tags : List Nat}, Can.evDTrue (Can.evD Tryd.prog [1, 2, 3] sm orc 3000 [] (.call 4 args) (Can.AW.start (H0 (Can.tyAt W)))) = some (Can.Obl.tab l tags) → args.all (Can.plainV 60) = true → l.Ok →
      Calls Tryd.prog 4 args W fun e w' => e = .returned (.bool true) ∧ ∃ x, w' = beyond W x :=
    fun h ha ok => Can.true_callsD pc sums h (Can.Obl.tab_ok ok) (known hL) (Can.gl_onG _) (Can.plain_args ha)
  have hn0 : 0 ≤ n := wn.1
  have hn1 : n < 18446744073709551616 := Int.lt_of_le_of_lt wn.2 (by decide)
  clear wn
  cases a with
  | true =>
    by_cases hp : 0 < t
    · by_cases z : n = 0
      · subst z
        exact go (c110 (Can.tyAt W) t) (by kernel_rfl) (Can.Obl.ok_more (by simp; omega) (Can.Obl.ok_more (by simp; omega) (Can.Obl.ok_nil)))
      have h0 : 0 < n := by omega
      by_cases h1 : n < 4294967296
      · exact go (c111 (Can.tyAt W) n t) (by kernel_rfl) (Can.Obl.ok_more (d1_zero h0 h1) (Can.Obl.ok_more (d0_pos h0 h1) (Can.Obl.ok_more (by simp; omega) (Can.Obl.ok_more (by simp; omega) (Can.Obl.ok_nil)))))
      · exact go (c112 (Can.tyAt W) n t) (by kernel_rfl) (Can.Obl.ok_more (d1_pos (by omega) hn1) (Can.Obl.ok_more (by simp; omega) (Can.Obl.ok_more (by simp; omega) (Can.Obl.ok_nil))))
    · by_cases z : n = 0
      · subst z
        exact go (c100 (Can.tyAt W) t) (by kernel_rfl) (Can.Obl.ok_more (by simp; omega) (Can.Obl.ok_more (by simp; omega) (Can.Obl.ok_nil)))
      have h0 : 0 < n := by omega
      by_cases h1 : n < 4294967296
      · exact go (c101 (Can.tyAt W) n t) (by kernel_rfl) (Can.Obl.ok_more (d1_zero h0 h1) (Can.Obl.ok_more (d0_pos h0 h1) (Can.Obl.ok_more (by simp; omega) (Can.Obl.ok_more (by simp; omega) (Can.Obl.ok_nil)))))
      · exact go (c102 (Can.tyAt W) n t) (by kernel_rfl) (Can.Obl.ok_more (d1_pos (by omega) hn1) (Can.Obl.ok_more (by simp; omega) (Can.Obl.ok_more (by simp; omega) (Can.Obl.ok_nil))))
  | false =>
    by_cases hp : 0 < t
    · by_cases z : n = 0
      · subst z
        exact go (c010 (Can.tyAt W) t) (by kernel_rfl) (Can.Obl.ok_more (by simp; omega) (Can.Obl.ok_more (by simp; omega) (Can.Obl.ok_nil)))
      have h0 : 0 < n := by omega
      by_cases h1 : n < 4294967296
      · exact go (c011 (Can.tyAt W) n t) (by kernel_rfl) (Can.Obl.ok_more (d1_zero h0 h1) (Can.Obl.ok_more (d0_pos h0 h1) (Can.Obl.ok_more (by simp; omega) (Can.Obl.ok_more (by simp; omega) (Can.Obl.ok_nil)))))
      · exact go (c012 (Can.tyAt W) n t) (by kernel_rfl) (Can.Obl.ok_more (d1_pos (by omega) hn1) (Can.Obl.ok_more (by simp; omega) (Can.Obl.ok_more (by simp; omega) (Can.Obl.ok_nil))))
    · by_cases z : n = 0
      · subst z
        exact go (c000 (Can.tyAt W) t) (by kernel_rfl) (Can.Obl.ok_more (by simp; omega) (Can.Obl.ok_more (by simp; omega) (Can.Obl.ok_nil)))
      have h0 : 0 < n := by omega
      by_cases h1 : n < 4294967296
      · exact go (c001 (Can.tyAt W) n t) (by kernel_rfl) (Can.Obl.ok_more (d1_zero h0 h1) (Can.Obl.ok_more (d0_pos h0 h1) (Can.Obl.ok_more (by simp; omega) (Can.Obl.ok_more (by simp; omega) (Can.Obl.ok_nil)))))
      · exact go (c002 (Can.tyAt W) n t) (by kernel_rfl) (Can.Obl.ok_more (d1_pos (by omega) hn1) (Can.Obl.ok_more (by simp; omega) (Can.Obl.ok_more (by simp; omega) (Can.Obl.ok_nil))))
end Go.Proofs.YtmcfnnapgbgdeaaDoor.semiringNil
