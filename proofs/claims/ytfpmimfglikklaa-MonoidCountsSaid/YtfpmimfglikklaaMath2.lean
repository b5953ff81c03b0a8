/-
  Plain arithmetic: what becomes of a value when others are added.
-/
import Derived.Test.YtfpmimfglikklaaMath
set_option linter.unusedSimpArgs false
set_option linter.unusedVariables false
namespace Go.Proofs.Ytfpmimfglikklaa.mono
variable {K N M : Int}

/-- how many of the first values, added to a, are accepting -/
def cnt (K N M a : Int) : Nat → Nat
  | 0 => 0
  | j + 1 => cnt K N M a j + (if accB K N M (add K N M a j) = true then 1 else 0)
def fate (K N M a : Int) : Int :=
  if 0 ≤ a ∧ a < sz K N M then (if cnt K N M a (sz K N M).toNat = (sz K N M).toNat then 1 else if cnt K N M a (sz K N M).toNat = 0 then -1 else 0) else 0

theorem cnt_le (a : Int) (n : Nat) : cnt K N M a n ≤ n := by
  induction n with
  | zero => exact Nat.le_refl _
  | succ n ih => simp only [cnt]; split <;> omega
theorem cnt_all (a : Int) (n : Nat) : cnt K N M a n = n ↔ ∀ j : Nat, j < n → accB K N M (add K N M a j) = true := by
  induction n with
  | zero => simp [cnt]
  | succ n ih =>
    have := cnt_le (K := K) (N := N) (M := M) a n
    simp only [cnt]
    constructor
    · intro h j hj
      split at h
      · by_cases hjn : j = n
        · subst hjn; assumption
        · exact ih.1 (by omega) j (by omega)
      · omega
    · intro h
      rw [if_pos (h n (by omega)), ih.2 (fun j hj => h j (by omega))]
theorem cnt_none (a : Int) (n : Nat) : cnt K N M a n = 0 ↔ ∀ j : Nat, j < n → accB K N M (add K N M a j) = false := by
  induction n with
  | zero => simp [cnt]
  | succ n ih =>
    simp only [cnt]
    constructor
    · intro h j hj
      split at h
      · omega
      · rename_i hx
        by_cases hjn : j = n
        · subst hjn; exact Bool.eq_false_iff.2 hx
        · exact ih.1 (by omega) j (by omega)
    · intro h
      rw [if_neg (by rw [h n (by omega)]; decide), ih.2 (fun j hj => h j (by omega))]

/-- the sum of two values, in range -/
theorem acc_add (h : V K N M) {a b : Int} (ha : 0 ≤ a ∧ a < sz K N M) (hb : 0 ≤ b ∧ b < sz K N M) : accB K N M (add K N M a b) = (plus K N M a b == acc K N) := by
  unfold accB
  rw [decide_eq_true (add_in h a b), Bool.true_and]
  unfold add
  rw [near_of ha.1 ha.2, near_of hb.1 hb.2]

theorem all_iff (h : V K N M) {a : Int} (ha : 0 ≤ a ∧ a < sz K N M) : (∀ j : Nat, j < (sz K N M).toNat → accB K N M (add K N M a j) = true) ↔ uniB K N M a = true := by
  have hs := sz_pos h
  have e : ∀ j : Nat, j < (sz K N M).toNat → accB K N M (add K N M a j) = (plus K N M a j == acc K N) := fun j hj => acc_add h ha ⟨by omega, by omega⟩
  have e' : (∀ j : Nat, j < (sz K N M).toNat → accB K N M (add K N M a j) = true) ↔ ∀ j : Nat, j < (sz K N M).toNat → plus K N M a j = acc K N := by
    constructor
    · intro hh j hj; have := hh j hj; rw [e j hj] at this; simpa using this
    · intro hh j hj; rw [e j hj]; simpa using hh j hj
  rw [e']
  unfold uniB
  rw [decide_eq_true ha, Bool.true_and]
  clear e e'
  rcases h with ⟨rfl, rfl, rfl⟩ | ⟨rfl, rfl, rfl⟩ | ⟨rfl, rfl, h1, h2⟩ | ⟨rfl, h1, h2, h3, h4⟩ <;> simp [sz, plus, acc] at *
  · exact ⟨0, by omega, by omega⟩
  · constructor
    · intro hh; have := hh 0 (by omega); omega
    · intro hh j hj; omega
  · exact ⟨(N + 1).toNat, by omega, by omega⟩
  · constructor
    · intro hh
      by_cases hM : M = 1
      · exact hM
      · exfalso
        have q0 : a % M = N := by simpa using hh 0 (by omega)
        have q1 : (a + 1) % M = N := by simpa using hh 1 (by omega)
        have e0 : a % M = a := Int.emod_eq_of_lt ha.1 ha.2
        by_cases ha1 : a + 1 < M
        · rw [Int.emod_eq_of_lt (by omega) ha1] at q1
          omega
        · have : a + 1 = M := by omega
          rw [this, Int.emod_self] at q1
          omega
    · intro hM j hj
      subst hM
      omega

theorem none_iff (h : V K N M) {a : Int} (ha : 0 ≤ a ∧ a < sz K N M) : (∀ j : Nat, j < (sz K N M).toNat → accB K N M (add K N M a j) = false) ↔ deadB K N M a = true := by
  have hs := sz_pos h
  have e : ∀ j : Nat, j < (sz K N M).toNat → accB K N M (add K N M a j) = (plus K N M a j == acc K N) := fun j hj => acc_add h ha ⟨by omega, by omega⟩
  have e' : (∀ j : Nat, j < (sz K N M).toNat → accB K N M (add K N M a j) = false) ↔ ∀ j : Nat, j < (sz K N M).toNat → ¬ plus K N M a j = acc K N := by
    constructor
    · intro hh j hj; have := hh j hj; rw [e j hj] at this; simpa using this
    · intro hh j hj; rw [e j hj]; simpa using hh j hj
  rw [e']
  unfold deadB
  rw [decide_eq_true ha, Bool.true_and]
  clear e e'
  rcases h with ⟨rfl, rfl, rfl⟩ | ⟨rfl, rfl, rfl⟩ | ⟨rfl, rfl, h1, h2⟩ | ⟨rfl, h1, h2, h3, h4⟩ <;> simp [sz, plus, acc] at *
  · constructor
    · intro hh; have := hh 1 (by omega); omega
    · intro hh j hj; omega
  · exact ⟨1, by omega, by omega⟩
  · constructor
    · intro hh
      by_cases haN : a = N + 1
      · exact haN
      · exfalso; exact hh (N - a).toNat (by omega) (by omega)
    · intro hh j hj; omega
  · by_cases hle : a ≤ N
    · refine ⟨(N - a).toNat, by omega, ?_⟩
      rw [show a + ((N - a).toNat : Int) = N from by omega]
      exact Int.emod_eq_of_lt h3 h4
    · refine ⟨(M + N - a).toNat, by omega, ?_⟩
      rw [show a + ((M + N - a).toNat : Int) = N + M from by omega, Int.add_emod_right]
      exact Int.emod_eq_of_lt h3 h4

theorem fate_dead (h : V K N M) (a : Int) : deadB K N M a = decide (fate K N M a < 0) := by
  have hs := sz_pos h
  by_cases ha : 0 ≤ a ∧ a < sz K N M
  · rw [Bool.eq_iff_iff, ← none_iff h ha, ← cnt_none]
    unfold fate
    rw [if_pos ha]
    have hz : (sz K N M).toNat ≠ 0 := by omega
    split
    · simp; omega
    · split <;> simp [*]
  · unfold deadB fate
    rw [decide_eq_false ha, if_neg ha]; simp
theorem fate_uni (h : V K N M) (a : Int) : uniB K N M a = decide (0 < fate K N M a) := by
  have hs := sz_pos h
  by_cases ha : 0 ≤ a ∧ a < sz K N M
  · rw [Bool.eq_iff_iff, ← all_iff h ha, ← cnt_all]
    unfold fate
    rw [if_pos ha]
    split
    · simp [*]
    · split <;> (simp [*]; try omega)
  · unfold uniB fate
    rw [decide_eq_false ha, if_neg ha]; simp
end Go.Proofs.Ytfpmimfglikklaa.mono
