/-
  What the laws of powers ask.
-/
import Derived.Test.YtogjobmekjighaaDoorBnTc
set_option linter.unusedSimpArgs false
set_option linter.unusedVariables false
namespace Go.Proofs.YtogjobmekjighaaDoor.bn
open Go.RowKit Go.Own Go.Bn
open bd (U8At RefN RefR dnum Digits_calls Text_calls)
set_option maxHeartbeats 4000000
set_option maxRecDepth 100000

theorem nb_B {n k : Nat} (h : n < B ^ k) : nb n ≤ 32 * k := nb_le.2 (by rw [← B_pow]; exact h)
theorem pow_lt {x k i M : Nat} (h : x < B ^ k) (hM : k * i ≤ M) (hM0 : 0 < M) : x ^ i < B ^ M := by
  rcases Nat.eq_zero_or_pos i with rfl | hi
  · rw [Nat.pow_zero]; exact Nat.one_lt_pow (by omega) (by decide)
  · refine lt_up (k := k * i) ?_ hM
    rw [Nat.pow_mul]
    exact Nat.pow_lt_pow_left h (by omega)
theorem two_lt {n M : Nat} (h : n < 32 * M) : 2 ^ n < B ^ M := by rw [B_pow]; exact Nat.pow_lt_pow_right (by decide) h
theorem pow_any {v : Value} {x : Nat} {W : World} (h : NatAt v x W) (hx : x < B ^ 3) (z : Int) (i : Nat) (hz : z = (i : Int)) (hi : i ≤ 78) : Calls Tryd.prog 34 #[v, .int .i64 z] W (YesR W (x ^ i)) := by
  subst hz
  have hnb := nb_B hx
  rcases Nat.eq_zero_or_pos i with rfl | hi0
  · exact pow_zero h
  · by_cases h2 : nb x < 2
    · have h3 := pow_one h h2 (i : Int) (by omega)
      have e : x ^ i = x := by
        have h4 : x < 2 ^ 1 := nb_le.1 (by omega)
        rcases (show x = 0 ∨ x = 1 by omega) with rfl | rfl
        · exact Nat.zero_pow hi0
        · exact Nat.one_pow i
      rw [e]; exact h3
    · have hfit : (nb x - 1) * i < 65536 := Nat.lt_of_le_of_lt (Nat.mul_le_mul (show nb x - 1 ≤ 96 by omega) hi) (by decide)
      refine (pow_go h i (by omega) ⟨by omega, hi0, hfit⟩).mono ?_
      rintro e w' (⟨v', -, h5, h6, h7⟩ | ⟨hbig, -⟩)
      · exact ⟨v', h5, h6, h7⟩
      · have h8 := nb_B (pow_lt (i := i) hx (show 3 * i ≤ 234 by omega) (by decide))
        omega
theorem pow2_any {b : Int} {n : Nat} (hb : b = (n : Int)) (hn : n < 65536) (W : World) : Calls Tryd.prog 31 #[.int .i64 b] W (YesR W (2 ^ n)) := by
  subst hb; exact pow_yes n hn W
theorem Cmp_lt {v v2 : Value} {n n2 : Nat} {W : World} (h : NatAt v n W) (h2 : NatAt v2 n2 W) (e : n < n2) : Calls Tryd.prog 39 #[v, v2] W fun e w' => e = .returned (.int .i64 (-1)) ∧ Below W.heap.size W w' := by
  have := Cmp_calls h h2; rw [cmpV_lt e] at this; exact this
def GeR (W : World) (e : Ending) (w' : World) : Prop := ∃ z : Int, e = .returned (.int .i64 z) ∧ 0 ≤ z ∧ Below W.heap.size W w'
theorem Cmp_ge {v v2 : Value} {n n2 : Nat} {W : World} (h : NatAt v n W) (h2 : NatAt v2 n2 W) (e : n2 ≤ n) : Calls Tryd.prog 39 #[v, v2] W (GeR W) := by
  refine (Cmp_calls h h2).mono ?_
  rintro e' w' ⟨h1, h3⟩
  refine ⟨_, h1, ?_, h3⟩
  rcases Nat.lt_or_eq_of_le e with h | rfl
  · rw [cmpV_gt h]; decide
  · rw [cmpV_eq]; decide
theorem Bit_eq {v : Value} {n : Nat} {W : World} (h : NatAt v n W) {i : Int} {k : Nat} (hk : i = (k : Int)) (hi : (k : Int) ≤ 9223372036854775807) {b : Bool} (e : n.testBit k = b) : Calls Tryd.prog 33 #[v, .int .i64 i] W fun e w' => e = .returned (.bool b) ∧ Below W.heap.size W w' := by
  subst hk; subst e; exact bit_yes h k hi
theorem BitLen_eq {v : Value} {n : Nat} {W : World} (h : NatAt v n W) {b : Nat} (e : nb n = b) : Calls Tryd.prog 32 #[v] W fun e w' => e = .returned (.int .i64 (b : Int)) ∧ Below W.heap.size W w' := e ▸ BitLen_calls h
theorem bit_top {n b : Nat} (h : nb n = b) : n.testBit b = false := by
  have h1 : n < 2 ^ b := nb_le.1 (by omega)
  exact Nat.testBit_lt_two_pow h1
theorem bit_last {n b : Nat} (h : nb n = b + 1) : n.testBit b = true := by
  have h1 : n < 2 ^ (b + 1) := nb_le.1 (by omega)
  have h2 : 2 ^ b ≤ n := nb_lt.1 (by omega)
  rw [Nat.testBit_eq_decide_div_mod_eq]
  have h3 : n / 2 ^ b = 1 := by
    have h4 : n / 2 ^ b < 2 := (Nat.div_lt_iff_lt_mul (Nat.pow_pos (by decide))).2 (by rw [Nat.pow_succ] at h1; omega)
    have h5 : 1 ≤ n / 2 ^ b := (Nat.le_div_iff_mul_le (Nat.pow_pos (by decide))).2 (by omega)
    omega
  rw [h3]; rfl
theorem Uint64_eq {v : Value} {n : Nat} {W : World} (h : NatAt v n W) (e : n < U64) {z : Int} (hz : (n : Int) = z) : Calls Tryd.prog 37 #[v] W fun e w' => e = .returned (.tuple #[.int .u64 z, .bool true]) ∧ Below W.heap.size W w' := by
  have := Uint64_calls h
  rw [if_pos e, decide_eq_true e, hz] at this
  exact this
theorem DivMod_digit {v v2 : Value} {n n2 : Nat} {W : World} (h : NatAt v n W) (h2 : NatAt v2 n2 W) (h0 : n2 ≠ 0) (hb : n2 < B) : Calls Tryd.prog 26 #[v, v2] W (DivR W n n2) := divOk_digit.calls hb h0 h h2
theorem known_any {W X : World} (h : DecW W ∧ tabB ≤ W.heap.size) (hb : Below W.heap.size W X) : Calls Tryd.prog 12 #[] X fun e w' => e = .returned (.bool true) ∧ Below X.heap.size X w' :=
  known_calls (h.1.below h.2 hb) (Nat.le_trans h.2 hb.size)
end Go.Proofs.YtogjobmekjighaaDoor.bn
