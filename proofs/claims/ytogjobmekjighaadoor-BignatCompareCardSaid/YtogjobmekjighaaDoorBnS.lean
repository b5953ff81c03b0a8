/-
  Decimal digits in chunks of nine.
-/
import Derived.Lib.ItoaNum
set_option linter.unusedSimpArgs false
set_option linter.unusedVariables false
namespace Go.Bn
open Go.Lib (decDigits)
/-- k decimal digits of r, zeros in front -/
def padD : Nat → Nat → List UInt8
  | 0, _ => []
  | k + 1, r => padD k (r / 10) ++ [UInt8.ofNat (48 + r % 10)]
theorem dec_small {u : Nat} (h : u < 10) : decDigits u = [UInt8.ofNat (48 + u)] := by rw [decDigits, dif_pos h]
theorem dec_big {u : Nat} (h : ¬ u < 10) : decDigits u = decDigits (u / 10) ++ [UInt8.ofNat (48 + u % 10)] := by rw [decDigits, dif_neg h]
theorem dec_pad : ∀ (k n r : Nat), 0 < n → r < 10 ^ k → decDigits (n * 10 ^ k + r) = decDigits n ++ padD k r
  | 0, n, r, _, hr => by
    have : r = 0 := by simpa using hr
    subst this
    simp [padD]
  | k + 1, n, r, hn, hr => by
    have e1 : n * 10 ^ (k + 1) + r = 10 * (n * 10 ^ k + r / 10) + r % 10 := by
      have := Nat.div_add_mod r 10
      rw [Nat.pow_succ, ← Nat.mul_assoc, Nat.mul_add]
      omega
    have hpos : 0 < n * 10 ^ k := Nat.mul_pos hn (Nat.pow_pos (by decide))
    rw [e1, dec_big (by omega), show (10 * (n * 10 ^ k + r / 10) + r % 10) / 10 = n * 10 ^ k + r / 10 by omega, show (10 * (n * 10 ^ k + r / 10) + r % 10) % 10 = r % 10 by omega,
      dec_pad k n (r / 10) hn (by rw [Nat.pow_succ] at hr; omega)]
    simp [padD]
theorem pad_len : ∀ (k r : Nat), (padD k r).length = k
  | 0, _ => rfl
  | k + 1, r => by simp [padD, pad_len k]
/-- a chunk with a one in front -/
theorem dec_one {r : Nat} (h : r < 1000000000) : decDigits (r + 1000000000) = 49 :: padD 9 r := by
  have := dec_pad 9 1 r (by decide) (by simpa using h)
  rw [Nat.add_comm r, show 1000000000 + r = 1 * 10 ^ 9 + r by omega, this, dec_small (by decide)]
  rfl
/-- the number that the chunks from i on stand for -/
def hc : List Nat → Nat
  | [] => 0
  | c :: r => c + 1000000000 * hc r
def hcF (cs : List Nat) (i : Nat) : Nat := hc (cs.drop i)
theorem hcF_step {cs : List Nat} {i c : Nat} (h : cs[i]? = some c) : hcF cs i = c + 1000000000 * hcF cs (i + 1) := by
  obtain ⟨hi, e⟩ := List.getElem?_eq_some_iff.1 h
  unfold hcF
  rw [List.drop_eq_getElem_cons hi, e]; rfl
theorem hcF_end (cs : List Nat) : hcF cs cs.length = 0 := by simp [hcF, hc]
theorem dec_step {cs : List Nat} {i c : Nat} (h : cs[i]? = some c) (hc9 : c < 1000000000) (hp : 0 < hcF cs (i + 1)) : decDigits (hcF cs i) = decDigits (hcF cs (i + 1)) ++ padD 9 c := by
  rw [hcF_step h, ← dec_pad 9 _ c hp (by simpa using hc9)]
  congr 1
  omega
theorem hc_snoc : ∀ (cs : List Nat) (c : Nat), hc (cs ++ [c]) = hc cs + 1000000000 ^ cs.length * c
  | [], c => by simp [hc]
  | x :: r, c => by
    rw [List.cons_append, hc, hc_snoc r c, hc, List.length_cons, Nat.pow_succ, Nat.mul_add, Nat.add_assoc, ← Nat.mul_assoc, Nat.mul_comm 1000000000 (1000000000 ^ r.length)]
end Go.Bn
