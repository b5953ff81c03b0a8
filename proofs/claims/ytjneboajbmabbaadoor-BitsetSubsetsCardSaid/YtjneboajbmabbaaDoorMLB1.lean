/-
  The order of rows of words is the order of their lists, from the largest number down.
-/
import Derived.Test.YtjneboajbmabbaaDoorMB1
import Derived.Test.YtjneboajbmabbaaDoorMB2
set_option linter.unusedSimpArgs false
set_option linter.unusedVariables false
namespace Go.Tz
/-- what is left of x from its bit p on -/
def Cut (x : BitVec 64) (p : Nat) (y : BitVec 64) : Prop := ∀ i, i < 64 → y.getLsbD i = (x.getLsbD i && decide (p ≤ i))
theorem cut_start (x : BitVec 64) : Cut x 0 x := fun i _ => by simp
theorem pred_eq (x : BitVec 64) : x - 1#64 = ~~~(-x) := by
  apply BitVec.eq_of_toNat_eq
  rw [BitVec.toNat_not, BitVec.toNat_neg, BitVec.toNat_sub]
  have := x.isLt
  have e : (1#64 : BitVec 64).toNat = 1 := rfl
  rw [e]
  generalize x.toNat = n at this ⊢
  have e : (2 : Nat) ^ 64 = 18446744073709551616 := rfl
  rw [e] at this ⊢
  omega
theorem pred_bits {x : BitVec 64} {t : Nat} (h : Low x t) (i : Nat) (hi : i < 64) : (x &&& (x - 1#64)).getLsbD i = (x.getLsbD i && !decide (i = t)) := by
  have h1 : (x &&& -x).getLsbD i = decide (i = t) := by
    rw [and_neg h, BitVec.getLsbD_shiftLeft, BitVec.getLsbD_one]
    by_cases h2 : i = t
    · subst h2; simp [hi]
    · simp [h2, hi]; omega
  rw [BitVec.getLsbD_and] at h1
  rw [pred_eq, BitVec.getLsbD_and, BitVec.getLsbD_not, ← h1]
  cases x.getLsbD i <;> simp [hi]
theorem cut_low {x y : BitVec 64} {p t : Nat} (hc : Cut x p y) (h : Low y t) : p ≤ t ∧ x.getLsbD t = true ∧ ∀ i, p ≤ i → i < t → x.getLsbD i = false := by
  have h1 := hc t h.1
  rw [h.2.1] at h1
  have h2 := (Bool.and_eq_true _ _).mp h1.symm
  refine ⟨by simpa using h2.2, h2.1, fun i hi ht => ?_⟩
  have h3 := hc i (by have := h.1; omega)
  rw [h.2.2 i ht] at h3
  simpa [hi] using h3.symm
theorem cut_step {x y : BitVec 64} {p t : Nat} (hc : Cut x p y) (h : Low y t) : Cut x (t + 1) (y &&& (y - 1#64)) := fun i hi => by
  rw [pred_bits h i hi, hc i hi]
  obtain ⟨h1, h2, h3⟩ := cut_low hc h
  by_cases hp : p ≤ i
  · by_cases ht : i < t
    · rw [h3 i hp ht]; simp
    · by_cases he : i = t
      · subst he; simp
      · have : t + 1 ≤ i := by omega
        simp [hp, he, this]
  · have : ¬ t + 1 ≤ i := by omega
    simp [hp, this]
theorem cut_end {x : BitVec 64} {p : Nat} (hc : Cut x p 0#64) (i : Nat) (hi : i < 64) (hp : p ≤ i) : x.getLsbD i = false := by
  have := hc i hi
  rw [BitVec.getLsbD_zero] at this
  simpa [hp] using this.symm
end Go.Tz
namespace Go.SetL
open Go.Tz Go.Bits
theorem ofN_skip {p : Nat → Bool} {k : Nat} : ∀ d, (∀ i, k ≤ i → i < k + d → p i = false) → ofN p (k + d) = ofN p k
  | 0, _ => rfl
  | d + 1, h => by rw [show k + (d + 1) = (k + d) + 1 from rfl, ofN_no (h (k + d) (by omega) (by omega))]; exact ofN_skip d fun i h1 h2 => h i h1 (by omega)
theorem come_yes {xs : List (BitVec 64)} {j p t : Nat} {y : BitVec 64} (hc : Cut (xs.getD j 0) p y) (h : Low y t) : ofN (bitAt xs) (64 * j + p) ++ [((64 * j + t : Nat) : Int)] = ofN (bitAt xs) (64 * j + (t + 1)) := by
  obtain ⟨h1, h2, h3⟩ := cut_low hc h
  have ht := h.1
  have e := ofN_skip (p := bitAt xs) (k := 64 * j + p) (t - p) (fun i h4 h5 => by
    have : i = 64 * j + (i - 64 * j) := by omega
    rw [this, bitAt_word xs j _ (by omega)]
    exact h3 _ (by omega) (by omega))
  rw [← e, show 64 * j + p + (t - p) = 64 * j + t by omega, show 64 * j + (t + 1) = (64 * j + t) + 1 from rfl]
  exact (ofN_yes (by rw [bitAt_word xs j t ht]; exact h2)).symm
theorem come_end {xs : List (BitVec 64)} {j p : Nat} (hp : p ≤ 64) (hc : Cut (xs.getD j 0) p 0#64) : ofN (bitAt xs) (64 * j + p) = ofN (bitAt xs) (64 * (j + 1)) := by
  have e := ofN_skip (p := bitAt xs) (k := 64 * j + p) (64 - p) (fun i h4 h5 => by
    have : i = 64 * j + (i - 64 * j) := by omega
    rw [this, bitAt_word xs j _ (by omega)]
    exact cut_end hc _ (by omega) (by omega))
  rw [← e]; congr 1; omega
theorem ofN_pre (p : Nat → Bool) {k m : Nat} (h : k ≤ m) : ofN p k <+: ofN p m := by
  obtain ⟨d, rfl⟩ : ∃ d, m = k + d := ⟨m - k, by omega⟩
  clear h
  induction d with
  | zero => exact List.prefix_refl _
  | succ d ih =>
    cases hb : p (k + d) with
    | false => rw [show k + (d + 1) = (k + d) + 1 from rfl, ofN_no hb]; exact ih
    | true => rw [show k + (d + 1) = (k + d) + 1 from rfl, ofN_yes hb]; exact ih.trans (List.prefix_append _ _)
end Go.SetL

namespace Go.Bits
open Go.SetL
theorem cmpL_snoc2 (a b : List Int) (x : Int) : cmpL (a ++ [x]) (b ++ [x]) = cmpL a b := by
  unfold cmpL; rw [List.reverse_append, List.reverse_append]; simp [cmpR]
theorem cmpL_gt {a b : List Int} {x : Int} (h : ∀ y ∈ b, y < x) : cmpL (a ++ [x]) b = 1 := by
  unfold cmpL; rw [List.reverse_append]
  cases hb : b.reverse with
  | nil => simp [cmpR]
  | cons y t =>
    have : y < x := h y (List.mem_reverse.1 (by rw [hb]; simp))
    simp [cmpR, this]
theorem cmpL_lt {a b : List Int} {x : Int} (h : ∀ y ∈ a, y < x) : cmpL a (b ++ [x]) = -1 := by
  unfold cmpL; rw [List.reverse_append]
  cases ha : a.reverse with
  | nil => simp [cmpR]
  | cons y t =>
    have : y < x := h y (List.mem_reverse.1 (by rw [ha]; simp))
    simp [cmpR, this]
    omega
theorem ofN_lt {p : Nat → Bool} {k : Nat} {y : Int} (h : y ∈ ofN p k) : y < k := by
  obtain ⟨i, rfl, h1, _⟩ := mem_ofN.1 h; omega
/-- bit by bit -/
theorem cmp_bit (p q : Nat → Bool) (k : Nat) : cmpL (ofN p (k + 1)) (ofN q (k + 1)) = if p k = q k then cmpL (ofN p k) (ofN q k) else if p k = true then 1 else -1 := by
  cases hp : p k <;> cases hq : q k
  · rw [ofN_no hp, ofN_no hq]; simp
  · rw [ofN_no hp, ofN_yes hq, cmpL_lt fun y hy => ofN_lt hy]; simp
  · rw [ofN_yes hp, ofN_no hq, cmpL_gt fun y hy => ofN_lt hy]; simp
  · rw [ofN_yes hp, ofN_yes hq, cmpL_snoc2]; simp
def cmpN (x y : Nat) : Int := if x < y then -1 else if y < x then 1 else 0
theorem cmpN_bit (x y t : Nat) : cmpN (x % 2 ^ (t + 1)) (y % 2 ^ (t + 1)) = if x.testBit t = y.testBit t then cmpN (x % 2 ^ t) (y % 2 ^ t) else if x.testBit t = true then 1 else -1 := by
  have e : ∀ z : Nat, z % 2 ^ (t + 1) = z % 2 ^ t + 2 ^ t * (z.testBit t).toNat := fun z => by rw [Nat.toNat_testBit]; exact Nat.mod_pow_succ
  have hx := Nat.mod_lt x (Nat.two_pow_pos t)
  have hy := Nat.mod_lt y (Nat.two_pow_pos t)
  rw [e x, e y]
  generalize x % 2 ^ t = a at hx ⊢
  generalize y % 2 ^ t = b at hy ⊢
  generalize 2 ^ t = P at hx hy ⊢
  unfold cmpN
  cases x.testBit t <;> cases y.testBit t
  · simp
  · simp; omega
  · simp; omega
  · simp
/-- one word more -/
theorem cmp_words {p q : Nat → Bool} {j : Nat} {x y : W} (hp : ∀ t, t < 64 → p (64 * j + t) = x.getLsbD t) (hq : ∀ t, t < 64 → q (64 * j + t) = y.getLsbD t) : ∀ t, t ≤ 64 →
    cmpL (ofN p (64 * j + t)) (ofN q (64 * j + t)) = if cmpN (x.toNat % 2 ^ t) (y.toNat % 2 ^ t) = 0 then cmpL (ofN p (64 * j)) (ofN q (64 * j)) else cmpN (x.toNat % 2 ^ t) (y.toNat % 2 ^ t)
  | 0, _ => by simp [cmpN, Nat.mod_one]
  | t + 1, ht => by
    rw [← Nat.add_assoc, cmp_bit, hp t (by omega), hq t (by omega), cmpN_bit, cmp_words hp hq t (by omega)]
    rw [show x.getLsbD t = x.toNat.testBit t from rfl, show y.getLsbD t = y.toNat.testBit t from rfl]
    by_cases h : x.toNat.testBit t = y.toNat.testBit t
    · simp [h]
    · simp only [h, if_false]
      cases x.toNat.testBit t <;> simp
theorem cmpN_word (x y : W) : cmpN (x.toNat % 2 ^ 64) (y.toNat % 2 ^ 64) = if toI x < toI y then -1 else if toI y < toI x then 1 else 0 := by
  rw [Nat.mod_eq_of_lt x.isLt, Nat.mod_eq_of_lt y.isLt]
  unfold cmpN toI
  simp only [Int.ofNat_lt]
theorem cmpT_append (l : List (Int × Int)) (a b : Int) : cmpT (l ++ [(a, b)]).reverse = if a < b then -1 else if b < a then 1 else cmpT l.reverse := by
  rw [List.reverse_append]; rfl
theorem cmp_rows (xs ys : List W) (h : xs.length = ys.length) : ∀ k, k ≤ xs.length → cmpL (ofN (bitAt xs) (64 * k)) (ofN (bitAt ys) (64 * k)) = cmpT (((rowI xs).zip (rowI ys)).take k).reverse
  | 0, _ => rfl
  | k + 1, hk => by
    have hx : k < xs.length := hk
    have hy : k < ys.length := by omega
    have e := cmp_words (p := bitAt xs) (q := bitAt ys) (j := k) (x := xs[k]) (y := ys[k])
      (fun t ht => by rw [bitAt_word xs k t ht, List.getD_eq_getElem?_getD, List.getElem?_eq_getElem hx]; rfl)
      (fun t ht => by rw [bitAt_word ys k t ht, List.getD_eq_getElem?_getD, List.getElem?_eq_getElem hy]; rfl) 64 (Nat.le_refl _)
    have ht : ((rowI xs).zip (rowI ys)).take (k + 1) = ((rowI xs).zip (rowI ys)).take k ++ [(toI xs[k], toI ys[k])] := by
      rw [List.take_add_one, show ((rowI xs).zip (rowI ys))[k]? = some (toI xs[k], toI ys[k]) from List.getElem?_zip_eq_some.2 ⟨by simp [rowI, hx], by simp [rowI, hy]⟩]; rfl
    rw [show 64 * (k + 1) = 64 * k + 64 by omega, e, ht, cmpT_append, cmp_rows xs ys h k (by omega), cmpN_word]
    by_cases h1 : toI xs[k] < toI ys[k]
    · simp [h1]
    · by_cases h2 : toI ys[k] < toI xs[k]
      · simp [h1, h2]
      · simp [h1, h2]
theorem cmpV_elems {xs ys : List W} (hx : xs.length = 16) (hy : ys.length = 16) : cmpV (rowI xs) (rowI ys) = cmpL (elems xs) (elems ys) := by
  have := cmp_rows xs ys (hx.trans hy.symm) 16 (by omega)
  rw [List.take_of_length_le (by simp [rowI, hx, hy])] at this
  unfold cmpV
  rw [← this]
  rfl
end Go.Bits
