/-
  The words of a row, bit by bit from below: what is left of a word, what has come.
-/
import Derived.Test.YtjneboajbmabbaaDoorMB1
import Derived.Test.YtjneboajbmabbaaDoorMB2
set_option linter.unusedSimpArgs false
set_option linter.unusedVariables false
namespace Go.Tz
/-- what is left of x from its bit p on -/
def Cut (x : BitVec 64) (p : Nat) (y : BitVec 64) : Prop := ∀ i, i < 64 → y.getLsbD i = (x.getLsbD i && decide (p ≤ i))
theorem cut_start (x : BitVec 64) : Cut x 0 x := fun i _ => by simp
theorem pred_eq (x : BitVec 64) : x - 1#64 = ~~~(-x) := by
  apply BitVec.eq_of_toNat_eq
  rw [BitVec.toNat_not, BitVec.toNat_neg, BitVec.toNat_sub]
  have := x.isLt
  have e : (1#64 : BitVec 64).toNat = 1 := rfl
  rw [e]
  generalize x.toNat = n at this ⊢
  have e : (2 : Nat) ^ 64 = 18446744073709551616 := rfl
  rw [e] at this ⊢
  omega
theorem pred_bits {x : BitVec 64} {t : Nat} (h : Low x t) (i : Nat) (hi : i < 64) : (x &&& (x - 1#64)).getLsbD i = (x.getLsbD i && !decide (i = t)) := by
  have h1 : (x &&& -x).getLsbD i = decide (i = t) := by
    rw [and_neg h, BitVec.getLsbD_shiftLeft, BitVec.getLsbD_one]
    by_cases h2 : i = t
    · subst h2; simp [hi]
    · simp [h2, hi]; omega
  rw [BitVec.getLsbD_and] at h1
  rw [pred_eq, BitVec.getLsbD_and, BitVec.getLsbD_not, ← h1]
  cases x.getLsbD i <;> simp [hi]
theorem cut_low {x y : BitVec 64} {p t : Nat} (hc : Cut x p y) (h : Low y t) : p ≤ t ∧ x.getLsbD t = true ∧ ∀ i, p ≤ i → i < t → x.getLsbD i = false := by
  have h1 := hc t h.1
  rw [h.2.1] at h1
  have h2 := (Bool.and_eq_true _ _).mp h1.symm
  refine ⟨by simpa using h2.2, h2.1, fun i hi ht => ?_⟩
  have h3 := hc i (by have := h.1; omega)
  rw [h.2.2 i ht] at h3
  simpa [hi] using h3.symm
theorem cut_step {x y : BitVec 64} {p t : Nat} (hc : Cut x p y) (h : Low y t) : Cut x (t + 1) (y &&& (y - 1#64)) := fun i hi => by
  rw [pred_bits h i hi, hc i hi]
  obtain ⟨h1, h2, h3⟩ := cut_low hc h
  by_cases hp : p ≤ i
  · by_cases ht : i < t
    · rw [h3 i hp ht]; simp
    · by_cases he : i = t
      · subst he; simp
      · have : t + 1 ≤ i := by omega
        simp [hp, he, this]
  · have : ¬ t + 1 ≤ i := by omega
    simp [hp, this]
theorem cut_end {x : BitVec 64} {p : Nat} (hc : Cut x p 0#64) (i : Nat) (hi : i < 64) (hp : p ≤ i) : x.getLsbD i = false := by
  have := hc i hi
  rw [BitVec.getLsbD_zero] at this
  simpa [hp] using this.symm
end Go.Tz
namespace Go.SetL
open Go.Tz Go.Bits
theorem ofN_skip {p : Nat → Bool} {k : Nat} : ∀ d, (∀ i, k ≤ i → i < k + d → p i = false) → ofN p (k + d) = ofN p k
  | 0, _ => rfl
  | d + 1, h => by rw [show k + (d + 1) = (k + d) + 1 from rfl, ofN_no (h (k + d) (by omega) (by omega))]; exact ofN_skip d fun i h1 h2 => h i h1 (by omega)
theorem come_yes {xs : List (BitVec 64)} {j p t : Nat} {y : BitVec 64} (hc : Cut (xs.getD j 0) p y) (h : Low y t) : ofN (bitAt xs) (64 * j + p) ++ [((64 * j + t : Nat) : Int)] = ofN (bitAt xs) (64 * j + (t + 1)) := by
  obtain ⟨h1, h2, h3⟩ := cut_low hc h
  have ht := h.1
  have e := ofN_skip (p := bitAt xs) (k := 64 * j + p) (t - p) (fun i h4 h5 => by
    have : i = 64 * j + (i - 64 * j) := by omega
    rw [this, bitAt_word xs j _ (by omega)]
    exact h3 _ (by omega) (by omega))
  rw [← e, show 64 * j + p + (t - p) = 64 * j + t by omega, show 64 * j + (t + 1) = (64 * j + t) + 1 from rfl]
  exact (ofN_yes (by rw [bitAt_word xs j t ht]; exact h2)).symm
theorem come_end {xs : List (BitVec 64)} {j p : Nat} (hp : p ≤ 64) (hc : Cut (xs.getD j 0) p 0#64) : ofN (bitAt xs) (64 * j + p) = ofN (bitAt xs) (64 * (j + 1)) := by
  have e := ofN_skip (p := bitAt xs) (k := 64 * j + p) (64 - p) (fun i h4 h5 => by
    have : i = 64 * j + (i - 64 * j) := by omega
    rw [this, bitAt_word xs j _ (by omega)]
    exact cut_end hc _ (by omega) (by omega))
  rw [← e]; congr 1; omega
theorem ofN_pre (p : Nat → Bool) {k m : Nat} (h : k ≤ m) : ofN p k <+: ofN p m := by
  obtain ⟨d, rfl⟩ : ∃ d, m = k + d := ⟨m - k, by omega⟩
  clear h
  induction d with
  | zero => exact List.prefix_refl _
  | succ d ih =>
    cases hb : p (k + d) with
    | false => rw [show k + (d + 1) = (k + d) + 1 from rfl, ofN_no hb]; exact ih
    | true => rw [show k + (d + 1) = (k + d) + 1 from rfl, ofN_yes hb]; exact ih.trans (List.prefix_append _ _)
end Go.SetL
