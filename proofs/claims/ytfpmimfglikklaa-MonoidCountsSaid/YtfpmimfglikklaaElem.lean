/-
  Single elements, and what dead and universal values become.
-/
import Derived.Test.YtfpmimfglikklaaMath2
import Derived.Test.YtfpmimfglikklaaUni
set_option linter.unusedSimpArgs false
set_option linter.unusedVariables false
namespace Go.Proofs.Ytfpmimfglikklaa.mono
open Go.RowKit Go.Own
set_option maxHeartbeats 400000
variable {K N M : Int}

def valB (K M : Int) (b : Bool) : Int := if b = true then one K M else 0
theorem value_calls {K N M : Int} (hV : V K N M) (b : Bool) (w : World) :
    Calls Try.prog 15 #[.agg #[.int .i64 K, .int .i64 N, .int .i64 M], .bool b] w fun e w' => e = .returned (.int .i64 (valB K M b)) ∧ ∃ x, w' = beyond w x := by
  cases b
  · exact valueF_calls hV w
  · exact valueT_calls hV w

theorem dead_acc (h : V K N M) {a : Int} (hd : deadB K N M a = true) : accB K N M a = false := by
  unfold deadB at hd; unfold accB
  simp only [Bool.and_eq_true, decide_eq_true_eq] at hd
  obtain ⟨h0, hd⟩ := hd
  rw [decide_eq_true h0, Bool.true_and]
  rcases h with ⟨rfl, rfl, rfl⟩ | ⟨rfl, rfl, rfl⟩ | ⟨rfl, rfl, h1, h2⟩ | ⟨rfl, h1, h2, h3, h4⟩ <;> simp [acc] at * <;> omega
theorem dead_uni (h : V K N M) {a : Int} (hd : deadB K N M a = true) : uniB K N M a = false := by
  unfold deadB at hd; unfold uniB
  simp only [Bool.and_eq_true, decide_eq_true_eq] at hd
  obtain ⟨h0, hd⟩ := hd
  rw [decide_eq_true h0, Bool.true_and]
  rcases h with ⟨rfl, rfl, rfl⟩ | ⟨rfl, rfl, rfl⟩ | ⟨rfl, rfl, h1, h2⟩ | ⟨rfl, h1, h2, h3, h4⟩ <;> simp at *
theorem uni_acc (h : V K N M) {a : Int} (hd : uniB K N M a = true) : accB K N M a = true := by
  unfold uniB at hd; unfold accB
  simp only [Bool.and_eq_true, decide_eq_true_eq] at hd
  obtain ⟨h0, hd⟩ := hd
  rw [decide_eq_true h0, Bool.true_and]
  rcases h with ⟨rfl, rfl, rfl⟩ | ⟨rfl, rfl, rfl⟩ | ⟨rfl, rfl, h1, h2⟩ | ⟨rfl, h1, h2, h3, h4⟩ <;> simp [acc, sz] at * <;> omega
theorem dead_add (h : V K N M) {a : Int} (hd : deadB K N M a = true) (b : Int) : deadB K N M (add K N M a b) = true := by
  have hi := add_in h a b
  have hb := near_in h b
  unfold deadB at hd ⊢
  simp only [Bool.and_eq_true, decide_eq_true_eq] at hd
  obtain ⟨h0, hd⟩ := hd
  rw [decide_eq_true hi, Bool.true_and]
  unfold add
  rw [near_of h0.1 h0.2]
  generalize near K N M b = y at hb
  rcases h with ⟨rfl, rfl, rfl⟩ | ⟨rfl, rfl, rfl⟩ | ⟨rfl, rfl, h1, h2⟩ | ⟨rfl, h1, h2, h3, h4⟩ <;> simp [plus, sz] at * <;> omega
theorem uni_add (h : V K N M) {a : Int} (hd : uniB K N M a = true) (b : Int) : uniB K N M (add K N M a b) = true := by
  have hi := add_in h a b
  have hb := near_in h b
  unfold uniB at hd ⊢
  simp only [Bool.and_eq_true, decide_eq_true_eq] at hd
  obtain ⟨h0, hd⟩ := hd
  rw [decide_eq_true hi, Bool.true_and]
  unfold add
  rw [near_of h0.1 h0.2]
  generalize near K N M b = y at hb
  rcases h with ⟨rfl, rfl, rfl⟩ | ⟨rfl, rfl, rfl⟩ | ⟨rfl, rfl, h1, h2⟩ | ⟨rfl, h1, h2, h3, h4⟩ <;> simp [plus, sz] at * <;> omega
end Go.Proofs.Ytfpmimfglikklaa.mono
