/-
  The order of rows of words is the order of their lists, from the largest number down.
-/
import Derived.Test.YtjneboajbmabbaaDoorMB1
import Derived.Test.YtjneboajbmabbaaDoorMB2
set_option linter.unusedSimpArgs false
set_option linter.unusedVariables false
namespace Go.Bits
open Go.SetL
theorem cmpL_snoc2 (a b : List Int) (x : Int) : cmpL (a ++ [x]) (b ++ [x]) = cmpL a b := by
  unfold cmpL; rw [List.reverse_append, List.reverse_append]; simp [cmpR]
theorem cmpL_gt {a b : List Int} {x : Int} (h : ∀ y ∈ b, y < x) : cmpL (a ++ [x]) b = 1 := by
  unfold cmpL; rw [List.reverse_append]
  cases hb : b.reverse with
  | nil => simp [cmpR]
  | cons y t =>
    have : y < x := h y (List.mem_reverse.1 (by rw [hb]; simp))
    simp [cmpR, this]
theorem cmpL_lt {a b : List Int} {x : Int} (h : ∀ y ∈ a, y < x) : cmpL a (b ++ [x]) = -1 := by
  unfold cmpL; rw [List.reverse_append]
  cases ha : a.reverse with
  | nil => simp [cmpR]
  | cons y t =>
    have : y < x := h y (List.mem_reverse.1 (by rw [ha]; simp))
    simp [cmpR, this]
    omega
theorem ofN_lt {p : Nat → Bool} {k : Nat} {y : Int} (h : y ∈ ofN p k) : y < k := by
  obtain ⟨i, rfl, h1, _⟩ := mem_ofN.1 h; omega
/-- bit by bit -/
theorem cmp_bit (p q : Nat → Bool) (k : Nat) : cmpL (ofN p (k + 1)) (ofN q (k + 1)) = if p k = q k then cmpL (ofN p k) (ofN q k) else if p k = true then 1 else -1 := by
  cases hp : p k <;> cases hq : q k
  · rw [ofN_no hp, ofN_no hq]; simp
  · rw [ofN_no hp, ofN_yes hq, cmpL_lt fun y hy => ofN_lt hy]; simp
  · rw [ofN_yes hp, ofN_no hq, cmpL_gt fun y hy => ofN_lt hy]; simp
  · rw [ofN_yes hp, ofN_yes hq, cmpL_snoc2]; simp
def cmpN (x y : Nat) : Int := if x < y then -1 else if y < x then 1 else 0
theorem cmpN_bit (x y t : Nat) : cmpN (x % 2 ^ (t + 1)) (y % 2 ^ (t + 1)) = if x.testBit t = y.testBit t then cmpN (x % 2 ^ t) (y % 2 ^ t) else if x.testBit t = true then 1 else -1 := by
  have e : ∀ z : Nat, z % 2 ^ (t + 1) = z % 2 ^ t + 2 ^ t * (z.testBit t).toNat := fun z => by rw [Nat.toNat_testBit]; exact Nat.mod_pow_succ
  have hx := Nat.mod_lt x (Nat.two_pow_pos t)
  have hy := Nat.mod_lt y (Nat.two_pow_pos t)
  rw [e x, e y]
  generalize x % 2 ^ t = a at hx ⊢
  generalize y % 2 ^ t = b at hy ⊢
  generalize 2 ^ t = P at hx hy ⊢
  unfold cmpN
  cases x.testBit t <;> cases y.testBit t
  · simp
  · simp; omega
  · simp; omega
  · simp
/-- one word more -/
theorem cmp_words {p q : Nat → Bool} {j : Nat} {x y : W} (hp : ∀ t, t < 64 → p (64 * j + t) = x.getLsbD t) (hq : ∀ t, t < 64 → q (64 * j + t) = y.getLsbD t) : ∀ t, t ≤ 64 →
    cmpL (ofN p (64 * j + t)) (ofN q (64 * j + t)) = if cmpN (x.toNat % 2 ^ t) (y.toNat % 2 ^ t) = 0 then cmpL (ofN p (64 * j)) (ofN q (64 * j)) else cmpN (x.toNat % 2 ^ t) (y.toNat % 2 ^ t)
  | 0, _ => by simp [cmpN, Nat.mod_one]
  | t + 1, ht => by
    rw [← Nat.add_assoc, cmp_bit, hp t (by omega), hq t (by omega), cmpN_bit, cmp_words hp hq t (by omega)]
    rw [show x.getLsbD t = x.toNat.testBit t from rfl, show y.getLsbD t = y.toNat.testBit t from rfl]
    by_cases h : x.toNat.testBit t = y.toNat.testBit t
    · simp [h]
    · simp only [h, if_false]
      cases x.toNat.testBit t <;> simp
theorem cmpN_word (x y : W) : cmpN (x.toNat % 2 ^ 64) (y.toNat % 2 ^ 64) = if toI x < toI y then -1 else if toI y < toI x then 1 else 0 := by
  rw [Nat.mod_eq_of_lt x.isLt, Nat.mod_eq_of_lt y.isLt]
  unfold cmpN toI
  simp only [Int.ofNat_lt]
theorem cmpT_append (l : List (Int × Int)) (a b : Int) : cmpT (l ++ [(a, b)]).reverse = if a < b then -1 else if b < a then 1 else cmpT l.reverse := by
  rw [List.reverse_append]; rfl
theorem cmp_rows (xs ys : List W) (h : xs.length = ys.length) : ∀ k, k ≤ xs.length → cmpL (ofN (bitAt xs) (64 * k)) (ofN (bitAt ys) (64 * k)) = cmpT (((rowI xs).zip (rowI ys)).take k).reverse
  | 0, _ => rfl
  | k + 1, hk => by
    have hx : k < xs.length := hk
    have hy : k < ys.length := by omega
    have e := cmp_words (p := bitAt xs) (q := bitAt ys) (j := k) (x := xs[k]) (y := ys[k])
      (fun t ht => by rw [bitAt_word xs k t ht, List.getD_eq_getElem?_getD, List.getElem?_eq_getElem hx]; rfl)
      (fun t ht => by rw [bitAt_word ys k t ht, List.getD_eq_getElem?_getD, List.getElem?_eq_getElem hy]; rfl) 64 (Nat.le_refl _)
    have ht : ((rowI xs).zip (rowI ys)).take (k + 1) = ((rowI xs).zip (rowI ys)).take k ++ [(toI xs[k], toI ys[k])] := by
      rw [List.take_add_one, show ((rowI xs).zip (rowI ys))[k]? = some (toI xs[k], toI ys[k]) from List.getElem?_zip_eq_some.2 ⟨by simp [rowI, hx], by simp [rowI, hy]⟩]; rfl
    rw [show 64 * (k + 1) = 64 * k + 64 by omega, e, ht, cmpT_append, cmp_rows xs ys h k (by omega), cmpN_word]
    by_cases h1 : toI xs[k] < toI ys[k]
    · simp [h1]
    · by_cases h2 : toI ys[k] < toI xs[k]
      · simp [h1, h2]
      · simp [h1, h2]
theorem cmpV_elems {xs ys : List W} (hx : xs.length = 16) (hy : ys.length = 16) : cmpV (rowI xs) (rowI ys) = cmpL (elems xs) (elems ys) := by
  have := cmp_rows xs ys (hx.trans hy.symm) 16 (by omega)
  rw [List.take_of_length_le (by simp [rowI, hx, hy])] at this
  unfold cmpV
  rw [← this]
  rfl
end Go.Bits
