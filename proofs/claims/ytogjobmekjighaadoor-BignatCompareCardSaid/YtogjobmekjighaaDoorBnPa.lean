/-
  Decimal forms and their numbers.
-/
import Derived.Lib.ParseIntB
import Derived.Lib.ItoaNum
import Derived.PlainAid
set_option linter.unusedSimpArgs false
set_option linter.unusedVariables false
namespace Go.Bn
open Go.PlainAid
/-- a decimal digit -/
def isDg (c : UInt8) : Bool := decide (48 ≤ c.toNat ∧ c.toNat ≤ 57)
/-- a decimal form -/
def isD (l : List UInt8) : Bool := !l.isEmpty && !(l.head? == some 48 && decide (1 < l.length)) && l.all isDg
/-- the number of a row of digits -/
def dval (l : List UInt8) : Nat := l.foldl (fun a c => 10 * a + (c.toNat - 48)) 0
theorem dval_from (l : List UInt8) : ∀ a, l.foldl (fun a c => 10 * a + (c.toNat - 48)) a = a * 10 ^ l.length + dval l := by
  unfold dval
  induction l with
  | nil => intro a; simp
  | cons c r ih =>
    intro a
    simp only [List.foldl_cons, List.length_cons]
    rw [ih, ih (10 * 0 + (c.toNat - 48)), Nat.pow_succ, Nat.add_mul, Nat.mul_zero, Nat.zero_add, Nat.add_assoc, Nat.mul_comm (10 ^ r.length) 10, ← Nat.mul_assoc, Nat.mul_comm 10 a]
theorem dval_cons (c : UInt8) (r : List UInt8) : dval (c :: r) = (c.toNat - 48) * 10 ^ r.length + dval r := by
  show List.foldl _ (10 * 0 + (c.toNat - 48)) r = _
  rw [dval_from, Nat.mul_zero, Nat.zero_add]
theorem dval_append (a b : List UInt8) : dval (a ++ b) = dval a * 10 ^ b.length + dval b := by
  have h := dval_from b (dval a)
  rw [← h]
  unfold dval
  rw [List.foldl_append]
theorem dval_lt : ∀ {l : List UInt8}, l.all isDg = true → dval l < 10 ^ l.length := by
  intro l
  induction l with
  | nil => intro _; simp [dval]
  | cons c r ih =>
    intro h
    simp only [List.all_cons, Bool.and_eq_true] at h
    have h1 := ih h.2
    have h2 := h.1
    unfold isDg at h2
    have h3 := of_decide_eq_true h2
    have e : dval (c :: r) = (c.toNat - 48) * 10 ^ r.length + dval r := dval_cons c r
    rw [e, List.length_cons, Nat.pow_succ, Nat.mul_comm (10 ^ r.length) 10]
    have : (c.toNat - 48) * 10 ^ r.length ≤ 9 * 10 ^ r.length := Nat.mul_le_mul_right _ (by omega)
    omega
theorem parseM_ok (mx : Nat) : ∀ (l : List UInt8) (acc : Nat), mx < 18446744073709551616 → l.all isDg = true → acc * 10 ^ l.length + dval l ≤ mx → Lib.parseUintM mx acc l = .ok (acc * 10 ^ l.length + dval l)
  | [], acc, _, _, _ => by simp [Lib.parseUintM, dval]
  | c :: r, acc, hx, h, hm => by
    simp only [List.all_cons, Bool.and_eq_true] at h
    have h3 := of_decide_eq_true h.1
    have e : acc * 10 ^ (c :: r).length + dval (c :: r) = (acc * 10 + (c.toNat - 48)) * 10 ^ r.length + dval r := by
      rw [dval_cons, List.length_cons, Nat.pow_succ, Nat.add_mul, Nat.mul_comm (10 ^ r.length) 10, ← Nat.mul_assoc, Nat.add_assoc]
    rw [e] at hm ⊢
    have h4 : acc * 10 + (c.toNat - 48) ≤ (acc * 10 + (c.toNat - 48)) * 10 ^ r.length := Nat.le_mul_of_pos_right _ (Nat.pow_pos (by decide))
    have ih := parseM_ok mx r (acc * 10 + (c.toNat - 48)) hx h.2 hm
    unfold Lib.parseUintM
    rw [if_pos h3, if_neg (by omega), if_neg (by omega)]
    exact ih
/-- a chunk of at most nine digits -/
theorem parse32 {l : List UInt8} (h : l.all isDg = true) (hne : l ≠ []) (hl : l.length ≤ 9) : Lib.parseUintB 32 l = .ok (dval l) := by
  have h1 := dval_lt h
  have h2 : 10 ^ l.length ≤ 10 ^ 9 := Nat.pow_le_pow_right (by decide) hl
  have h3 := parseM_ok (2 ^ 32 - 1) l 0 (by decide) h (by omega)
  unfold Lib.parseUintB
  rw [if_neg hne, h3]
  simp
theorem all_take {l : List UInt8} (h : l.all isDg = true) (k : Nat) : (l.take k).all isDg = true := by
  rw [List.all_eq_true] at h ⊢
  exact fun x hx => h x (List.mem_of_mem_take hx)
theorem all_drop {l : List UInt8} (h : l.all isDg = true) (k : Nat) : (l.drop k).all isDg = true := by
  rw [List.all_eq_true] at h ⊢
  exact fun x hx => h x (List.mem_of_mem_drop hx)
/-- the next chunk -/
theorem dval_chunk {l : List UInt8} {k n : Nat} (hk : k = 0 ∨ n = 9) (hn : k + n ≤ l.length) : dval (l.take (k + n)) = 1000000000 * dval (l.take k) + dval ((l.drop k).take n) := by
  rw [List.take_add, dval_append]
  rcases hk with rfl | rfl
  · simp [dval]
  · rw [List.length_take, List.length_drop, Nat.min_eq_left (by omega), Nat.mul_comm]
theorem isD_iff {l : List UInt8} : isD l = true ↔ l ≠ [] ∧ ¬ (l.head? = some 48 ∧ 1 < l.length) ∧ l.all isDg = true := by
  unfold isD
  rw [Bool.and_eq_true, Bool.and_eq_true, Bool.not_eq_true', Bool.not_eq_true', Bool.and_eq_false_iff]
  simp only [List.isEmpty_eq_false_iff, beq_eq_false_iff_ne, decide_eq_false_iff_not, and_assoc]
  constructor
  · rintro ⟨h1, h2, h3⟩
    exact ⟨h1, fun h => h2.elim (fun h4 => h4 h.1) (fun h4 => h4 h.2), h3⟩
  · rintro ⟨h1, h2, h3⟩
    refine ⟨h1, ?_, h3⟩
    by_cases h4 : l.head? = some 48
    · exact .inr fun h5 => h2 ⟨h4, h5⟩
    · exact .inl h4
theorem bt_list (s : ByteArray) (k : Nat) (h : k < s.size) : ∃ c, s.data.toList[k]? = some c ∧ bt s k = (c.toNat : Int) := by
  refine ⟨s[k], ?_, ?_⟩
  · have : k < s.data.toList.length := by simpa using h
    rw [List.getElem?_eq_getElem this]; rfl
  · unfold bt; rw [dif_pos h]
end Go.Bn
