/-
  The tropical sums as contracts that are looked up; sums and products of numbers of up to two digits, digit by digit.
-/
import Derived.Test.YtmcfnnapgbgdeaaDoorTropH
import Derived.Test.YtmcfnnapgbgdeaaDoorNatSm
set_option linter.unusedSimpArgs false
set_option linter.unusedVariables false
namespace Go.Proofs.YtmcfnnapgbgdeaaDoor.semi
open Go.Can Go.RowKit
noncomputable def addF (c : Int → Int → Bool) (x : Array Value) : Option Value := match x.toList with
  | [.agg e, .agg a, .agg b] => match e.toList, a.toList, b.toList with
    | [], [.bool f, .int .i64 n], [.bool g, .int .i64 m] => some (.agg #[.bool (f || g), .int .i64 (addV c f n g m)])
    | _, _, _ => none
  | _ => none
noncomputable def minSm : Rec := fnSm 13 (addF lt')
noncomputable def maxSm : Rec := fnSm 15 (addF gt')
theorem addF_some {c : Int → Int → Bool} {x : Array Value} {v : Value} (h : addF c x = some v) : ∃ f n g m, x = #[.agg #[], .agg #[.bool f, .int .i64 n], .agg #[.bool g, .int .i64 m]] ∧ v = .agg #[.bool (f || g), .int .i64 (addV c f n g m)] := by
  unfold addF at h
  split at h
  case h_2 => cases h
  rename_i e a b hx
  split at h
  case h_2 => cases h
  rename_i f n g m he ha hb
  cases h
  obtain rfl : x = #[.agg e, .agg a, .agg b] := by cases x; simp_all
  obtain rfl : e = #[] := by cases e; simp_all
  obtain rfl : a = #[.bool f, .int .i64 n] := by cases a; simp_all
  obtain rfl : b = #[.bool g, .int .i64 m] := by cases b; simp_all
  exact ⟨f, n, g, m, rfl, rfl⟩
theorem minSm_ok (G : List Nat) : RecOk Tryd.prog G minSm := fnSm_ok fun x v h => by
  obtain ⟨f, n, g, m, rfl, rfl⟩ := addF_some h
  exact ⟨by kernel_rfl, by kernel_rfl, fun w => minAdd_calls f g n m w⟩
theorem maxSm_ok (G : List Nat) : RecOk Tryd.prog G maxSm := fnSm_ok fun x v h => by
  obtain ⟨f, n, g, m, rfl, rfl⟩ := addF_some h
  exact ⟨by kernel_rfl, by kernel_rfl, fun w => maxAdd_calls f g n m w⟩
noncomputable def homSm : Rec := orSm rightSm (orSm minSm maxSm)
theorem homSm_ok (G : List Nat) : RecOk Tryd.prog G homSm := orSm_ok (rightSm_ok G) (orSm_ok (minSm_ok G) (maxSm_ok G))
end Go.Proofs.YtmcfnnapgbgdeaaDoor.semi
namespace Go.Proofs.YtmcfnnapgbgdeaaDoor.nat32
/-- a digit's step of a sum, of a product -/
def addS (c x y : Int) : Int := u64 (u64 (u64 x + u64 y) + u64 c)
def mulS (c x y d : Int) : Int := u64 (c + u64 (u64 (u64 x * u64 y) + u64 d))
def neg (z : Int) : Int := IntKind.i64.wrap (0 - z)
theorem addS_id {c x y : Int} (hc : 0 ≤ c ∧ c < 4294967296) (hx : 0 ≤ x ∧ x < 4294967296) (hy : 0 ≤ y ∧ y < 4294967296) : addS c x y = x + y + c := by
  simp only [addS, u64_eq]; omega
theorem mulS_id {c x y d : Int} (hc : 0 ≤ c ∧ c < 4294967296) (hx : 0 ≤ x ∧ x < 4294967296) (hy : 0 ≤ y ∧ y < 4294967296) (hd : 0 ≤ d ∧ d < 4294967296) : mulS c x y d = c + x * y + d := by
  have e1 : x * y ≤ 4294967295 * y := Int.mul_le_mul_of_nonneg_right (by omega) hy.1
  have e0 : 0 ≤ x * y := Int.mul_nonneg hx.1 hy.1
  have ea : u64 x = x := by rw [u64_eq]; omega
  have eb : u64 y = y := by rw [u64_eq]; omega
  simp only [mulS, ea, eb]
  generalize x * y = m at e0 e1 ⊢
  simp only [u64_eq]; omega
theorem u32_range (x : Int) : 0 ≤ u32 x ∧ u32 x < 4294967296 := by rw [u32_eq]; omega
theorem hi_range (x : Int) : 0 ≤ hi (u64 x) ∧ hi (u64 x) < 4294967296 := by rw [hi_eq, u64_eq]; omega
theorem hi_mulS (c x y d : Int) : 0 ≤ hi (mulS c x y d) ∧ hi (mulS c x y d) < 4294967296 := hi_range _
theorem zero_range : (0 : Int) ≤ 0 ∧ (0 : Int) < 4294967296 := by decide
/-- what a last step leaves is not nothing -/
theorem mulS_pos {c x y d : Int} (hc : 0 ≤ c ∧ c < 4294967296) (hx : 1 ≤ x ∧ x < 4294967296) (hy : 1 ≤ y ∧ y < 4294967296) (hd : 0 ≤ d ∧ d < 4294967296) (h : u32 (hi (mulS c x y d)) = 0) : u32 (mulS c x y d) ≠ 0 := by
  have e := mulS_id hc ⟨by omega, hx.2⟩ ⟨by omega, hy.2⟩ hd
  have e1 : 0 < x * y := Int.mul_pos (by omega) (by omega)
  have e2 : x * y ≤ 4294967295 * y := Int.mul_le_mul_of_nonneg_right (by omega) (by omega)
  rw [e] at h ⊢
  generalize x * y = m at e1 e2 h ⊢
  rw [u32_eq, hi_eq] at h
  rw [u32_eq]
  omega
theorem addS_pos {c x y : Int} (hc : 0 ≤ c ∧ c < 4294967296) (hx : 0 ≤ x ∧ x < 4294967296) (hy : 0 ≤ y ∧ y < 4294967296) (hp : 1 ≤ x ∨ 1 ≤ y) (h : u32 (hi (addS c x y)) = 0) : u32 (addS c x y) ≠ 0 := by
  have e := addS_id hc hx hy
  rw [e] at h ⊢
  rw [u32_eq, hi_eq] at h
  rw [u32_eq]
  omega
theorem addS_top (s : Int) : u32 (addS (u32 (hi s)) 0 0) = u32 (hi s) := by
  rw [addS_id (u32_range _) zero_range zero_range]
  have := u32_range (hi s)
  generalize u32 (hi s) = t at this ⊢
  rw [u32_eq]; omega
theorem d1_small {a : Int} (h0 : 0 ≤ a) (h1 : a < 4294967296) : d1 a = 0 := by rw [d1, u32_eq, hi_eq]; omega
theorem d0_small {a : Int} (h0 : 0 < a) (h1 : a < 4294967296) : 1 ≤ d0 a := by rw [d0, u32_eq]; omega
theorem d1_big {a : Int} (h0 : 4294967296 ≤ a) (h1 : a < 18446744073709551616) : 1 ≤ d1 a := by rw [d1, u32_eq, hi_eq]; omega
theorem cost_ok (fp fq : Bool) (x y : Int) (hp : semi.rgt fp x = true) (hq : semi.rgt fq y = true) : (semi.addV semi.lt' fp x fq y == neg (semi.addV semi.gt' fp (neg x) fq (neg y))) = true := by
  have hn : ∀ z : Int, -1099511627776 ≤ z → z ≤ 1099511627776 → neg z = -z := fun z h1 h2 => by
    show (if (true && decide ((0 - z) % (18446744073709551616 : Int) ≥ 9223372036854775808)) = true then (0 - z) % 18446744073709551616 - 18446744073709551616 else (0 - z) % 18446744073709551616) = -z
    simp only [Bool.true_and, decide_eq_true_eq]
    split <;> omega
  have h0 : neg 0 = 0 := by decide
  have hh : ∀ z : Int, -1099511627776 ≤ z → z ≤ 1099511627776 → neg (-z) = z := fun z h1 h2 => by rw [hn (-z) (by omega) (by omega)]; omega
  cases fp <;> cases fq
  · simp [semi.addV, h0]
  · simp only [semi.rgt, Bool.not_true, Bool.false_or, Bool.and_eq_true, decide_eq_true_eq] at hq
    simp [semi.addV, hn y hq.1 hq.2, hh y hq.1 hq.2]
  · simp only [semi.rgt, Bool.not_true, Bool.false_or, Bool.and_eq_true, decide_eq_true_eq] at hp
    simp [semi.addV, hn x hp.1 hp.2, hh x hp.1 hp.2]
  · simp only [semi.rgt, Bool.not_true, Bool.false_or, Bool.and_eq_true, decide_eq_true_eq] at hp hq
    rw [hn x hp.1 hp.2, hn y hq.1 hq.2]
    simp only [semi.addV, if_true, semi.lt', semi.gt', decide_eq_true_eq, beq_iff_eq]
    by_cases h : y < x
    · rw [if_pos h, if_pos (by omega), hh y hq.1 hq.2]
    · rw [if_neg h, if_neg (by omega), hh x hp.1 hp.2]
/-- what the late looks of region 7 show, they have shown before -/
def lateE (fq : Bool) (y : Int) : Bool := Can.sameV (.agg #[.bool fq, .int .i64 (neg y)]) (.agg #[.bool fq, .int .i64 (neg y)]) && (Can.sameV (.int .i64 (neg y)) (.int .i64 (neg y)) && (Can.sameV (.int .i64 y) (.int .i64 y) && (Can.sameV (.bool fq) (.bool fq) && true)))
theorem lateE_true (fq : Bool) (y : Int) : lateE fq y = true := by simp [lateE, Can.sameV, Can.sameL, Can.sameC]
end Go.Proofs.YtmcfnnapgbgdeaaDoor.nat32
