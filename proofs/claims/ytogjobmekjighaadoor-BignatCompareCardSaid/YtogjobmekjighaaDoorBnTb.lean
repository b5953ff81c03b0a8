/-
  Decimal forms are the texts of their numbers; the law's known.
-/
import Derived.Test.YtogjobmekjighaaDoorBnT
import Derived.Test.YtogjobmekjighaaDoorTreeK
set_option linter.unusedSimpArgs false
set_option linter.unusedVariables false
namespace Go.Proofs.YtogjobmekjighaaDoor.bn
open Go.RowKit Go.Own Go.Bn
open bd (RefN Text_calls)
set_option maxHeartbeats 4000000
set_option maxRecDepth 100000

theorem three_blocks (W : World) (a b c : Value) : NB W.heap.size a (((W.alloc (.cells #[a] 27)).alloc (.cells #[b] 27)).alloc (.cells #[c] 27)) ∧ NB (W.heap.size + 1) b (((W.alloc (.cells #[a] 27)).alloc (.cells #[b] 27)).alloc (.cells #[c] 27)) ∧
    NB (W.heap.size + 1 + 1) c (((W.alloc (.cells #[a] 27)).alloc (.cells #[b] 27)).alloc (.cells #[c] 27)) := by
  have h := three_allocs W (.cells #[a] 27) (.cells #[b] 27) (.cells #[c] 27)
  exact ⟨⟨h.2.1⟩, ⟨h.2.2.1⟩, ⟨h.2.2.2⟩⟩
theorem Equal_t {v v2 : Value} {n n2 : Nat} {W : World} (h : NatAt v n W) (h2 : NatAt v2 n2 W) (e : n = n2) : Calls Tryd.prog 28 #[v, v2] W fun e w' => e = .returned (.bool true) ∧ Below W.heap.size W w' := by
  have := Equal_calls h h2; rw [decide_eq_true e] at this; exact this
theorem Equal_f {v v2 : Value} {n n2 : Nat} {W : World} (h : NatAt v n W) (h2 : NatAt v2 n2 W) (e : ¬ n = n2) : Calls Tryd.prog 28 #[v, v2] W fun e w' => e = .returned (.bool false) ∧ Below W.heap.size W w' := by
  have := Equal_calls h h2; rw [decide_eq_false e] at this; exact this
theorem IsZero_t {v : Value} {n : Nat} {W : World} (h : NatAt v n W) (e : n = 0) : Calls Tryd.prog 21 #[v] W fun e w' => e = .returned (.bool true) ∧ Below W.heap.size W w' := by
  have := isZero_calls h; rw [decide_eq_true e] at this; exact this
theorem IsZero_f {v : Value} {n : Nat} {W : World} (h : NatAt v n W) (e : ¬ n = 0) : Calls Tryd.prog 21 #[v] W fun e w' => e = .returned (.bool false) ∧ Below W.heap.size W w' := by
  have := isZero_calls h; rw [decide_eq_false e] at this; exact this
theorem String_tx {v : Value} {n : Nat} {W : World} (h : NatAt v n W) (M : Nat) (hM : n < B ^ M) (hMM : M ≤ 450000) (hD : DecW W) (ht : tabB ≤ W.heap.size) {tx : ByteArray} (e : ByteArray.mk (Lib.decDigits n).toArray = tx) :
    Calls Tryd.prog 18 #[v] W fun e w' => e = .returned (.string tx) ∧ Below W.heap.size W w' := e ▸ String_calls h M hM hMM hD ht
theorem Text_tx {q : Option Addr} {m c n : Nat} {W : World} (h : RefN q m c n W) {tx : ByteArray} (e : ByteArray.mk (Lib.decDigits n).toArray = tx) : Calls Tryd.prog 19 #[.slice q m c] W fun e w' => e = .returned (.string tx) ∧ Below W.heap.size W w' := e ▸ Text_calls h
theorem Gcd_eq {Pd : Nat → Nat → Prop} (hP : DivOk Pd) {v v2 : Value} {n n2 g : Nat} {W : World} (h : NatAt v n W) (h2 : NatAt v2 n2 W) (hp : Pd n n2) (e : Nat.gcd n n2 = g) : Calls Tryd.prog 27 #[v, v2] W (RetN W g) := e ▸ gcd_calls hP h h2 hp
theorem dec_of_rev : ∀ (r : List UInt8), r.all isDg = true → r ≠ [] → (r.getLast? ≠ some 48 ∨ r.length = 1) → Lib.decDigits (dval r.reverse) = r.reverse
  | [], _, h, _ => absurd rfl h
  | [c], h, _, _ => by
    simp only [List.all_cons, List.all_nil, Bool.and_true] at h
    have h3 := of_decide_eq_true h
    simp only [List.reverse_singleton]
    rw [show dval [c] = c.toNat - 48 by simp [dval], dec_small (by omega), show 48 + (c.toNat - 48) = c.toNat by omega]
    simp
  | c :: d :: r, h, _, hl => by
    have hc : isDg c = true := by have := List.all_eq_true.1 h c (by simp); exact this
    have hr : (d :: r).all isDg = true := by simp only [List.all_cons, Bool.and_eq_true] at h ⊢; exact h.2
    have h3 := of_decide_eq_true hc
    have hl2 : (d :: r).getLast? ≠ some 48 := by
      rcases hl with hl | hl
      · simpa [List.getLast?_cons_cons] using hl
      · simp at hl
    have ih := dec_of_rev (d :: r) hr (by simp) (.inl hl2)
    rw [List.reverse_cons, dval_append, show dval [c] = c.toNat - 48 by simp [dval], List.length_singleton, Nat.pow_one]
    have hpos : 0 < dval (d :: r).reverse := by
      rcases Nat.eq_zero_or_pos (dval (d :: r).reverse) with h0 | h0
      · rw [h0, dec_small (by decide)] at ih
        exfalso
        have e := congrArg List.reverse ih
        rw [List.reverse_reverse] at e
        rw [← e] at hl2
        exact hl2 rfl
      · exact h0
    generalize dval (d :: r).reverse = n at *
    rw [dec_big (by omega), show (n * 10 + (c.toNat - 48)) / 10 = n by omega, show (n * 10 + (c.toNat - 48)) % 10 = c.toNat - 48 by omega, ih, show 48 + (c.toNat - 48) = c.toNat by omega]
    simp
theorem dec_of_isD {l : List UInt8} (h : isD l = true) : Lib.decDigits (dval l) = l := by
  obtain ⟨h1, h2, h3⟩ := isD_iff.1 h
  have := dec_of_rev l.reverse (by rw [List.all_eq_true] at h3 ⊢; intro x hx; exact h3 x (List.mem_reverse.1 hx)) (by simpa using h1) (by
    rw [List.getLast?_reverse, List.length_reverse]
    by_cases hh : l.head? = some 48
    · right
      have : ¬ 1 < l.length := fun h4 => h2 ⟨hh, h4⟩
      have : l.length ≠ 0 := fun h4 => h1 (List.length_eq_zero_iff.1 h4)
      omega
    · exact .inl hh)
  rwa [List.reverse_reverse] at this
theorem dec_270 : Lib.decDigits (2 ^ 70) = [49, 49, 56, 48, 53, 57, 49, 54, 50, 48, 55, 49, 55, 52, 49, 49, 51, 48, 51, 52, 50, 52] :=
  dec_of_isD (l := [49, 49, 56, 48, 53, 57, 49, 54, 50, 48, 55, 49, 55, 52, 49, 49, 51, 48, 51, 52, 50, 52]) (by decide)
end Go.Proofs.YtogjobmekjighaaDoor.bn
