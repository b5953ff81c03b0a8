/-
  One digit of a sum, in a row that is being filled.
-/
import Derived.Test.YtogjobmekjighaaDoorBnH
set_option linter.unusedSimpArgs false
set_option linter.unusedVariables false
namespace Go.Proofs.YtogjobmekjighaaDoor.bn
open Go.RowKit Go.Own Go.Bn
set_option maxHeartbeats 4000000
set_option maxRecDepth 100000

theorem add_in {g n k c : Nat} {d a b : List Nat} {w : World} (h : Mrow g n k d w) (hk : k < n) (e : val d + B ^ k * c = valTo a k + valTo b k) :
    Mrow g n (k + 1) (d.set k ((dg a k + dg b k + c) % B)) (w.setCell ⟨g, k, none⟩ (.int .u32 (((dg a k + dg b k + c) % B : Nat) : Int))) ∧ val (d.set k ((dg a k + dg b k + c) % B)) + B ^ (k + 1) * ((dg a k + dg b k + c) / B) = valTo a (k + 1) + valTo b (k + 1) := by
  have hl : k < d.length := by rw [h.2.1]; exact hk
  have h1 := val_set (d := d) ((dg a k + dg b k + c) % B) hl
  rw [h.2.2.2 k (Nat.le_refl _), Nat.mul_zero, Nat.add_zero] at h1
  refine ⟨⟨h.1.set hl _, by rw [List.length_set]; exact h.2.1, dig_set h.2.2.1 (Nat.mod_lt _ (by decide)), fun j hj => by rw [dg_set hl, if_neg (by omega)]; exact h.2.2.2 j (by omega)⟩, ?_⟩
  rw [h1]
  exact add_step a b e
end Go.Proofs.YtogjobmekjighaaDoor.bn
