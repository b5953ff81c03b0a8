/-
  What MonoidTexts computes: ranges, and texts byte by byte.
-/
import Derived.Test.YtdljpdejgplhmaaDoorItoaSm
set_option linter.unusedSimpArgs false
set_option linter.unusedVariables false
namespace Go.Proofs.YtdljpdejgplhmaaDoor.mono
open Go.Can Go.RowKit
theorem wu (x : Int) : IntKind.u64.wrap x = x % 18446744073709551616 := rfl
theorem wi {x : Int} (h0 : 0 ≤ x) (h1 : x < 9223372036854775808) : IntKind.i64.wrap x = x := by
  show (if (true && decide (x % (18446744073709551616 : Int) ≥ 9223372036854775808)) = true then x % 18446744073709551616 - 18446744073709551616 else x % 18446744073709551616) = x
  simp only [Bool.true_and, decide_eq_true_eq]
  split <;> omega
theorem tm {x y : Int} (h : 0 ≤ x) : x.tmod y = x % y := Int.tmod_eq_emod_of_nonneg h
theorem kd_range (K : Int) : 0 ≤ IntKind.i64.wrap ((IntKind.u64.wrap K).tmod 4) ∧ IntKind.i64.wrap ((IntKind.u64.wrap K).tmod 4) ≤ 3 := by
  rw [tm (by rw [wu]; omega), wi (by omega) (by omega)]; omega
theorem n1_range (N : Int) : 0 ≤ n1 N ∧ n1 N ≤ 62 := by
  unfold n1; rw [tm (by rw [wu]; omega), wi (by omega) (by omega)]; omega
theorem m1_range (M : Int) : 1 ≤ m1 M ∧ m1 M ≤ 64 := by
  unfold m1
  rw [tm (by rw [wu]; omega), wi (x := IntKind.u64.wrap M % 64) (by omega) (by omega), wi (by omega) (by omega)]; omega
theorem u64_small {s : Int} (h0 : 0 ≤ s) (h1 : s ≤ 64) : IntKind.u64.wrap s = s := by rw [wu]; omega
theorem n3_range (N M : Int) : 0 ≤ n3 N M ∧ n3 N M < m1 M := by
  have h := m1_range M
  unfold n3
  rw [u64_small (by omega) h.2, tm (by rw [wu]; omega)]
  have h1 := Int.emod_nonneg (IntKind.u64.wrap N) (show m1 M ≠ 0 by omega)
  have h2 := Int.emod_lt_of_pos (IntKind.u64.wrap N) (show 0 < m1 M by omega)
  rw [wi h1 (by omega)]
  exact ⟨h1, h2⟩
theorem sz2_range (N : Int) : 2 ≤ sz2 N ∧ sz2 N ≤ 64 := by
  have h := n1_range N
  unfold sz2; rw [wi (by omega) (by omega)]; omega
theorem pick_range (v : Int) {s : Int} (h0 : 1 ≤ s) (h1 : s ≤ 64) : 0 ≤ pickV v s ∧ pickV v s < s := by
  unfold pickV
  rw [u64_small (by omega) h1, tm (by rw [wu]; omega)]
  have h1 := Int.emod_nonneg (IntKind.u64.wrap v) (show s ≠ 0 by omega)
  have h2 := Int.emod_lt_of_pos (IntKind.u64.wrap v) (show 0 < s by omega)
  rw [wi h1 (by omega)]
  exact ⟨h1, h2⟩
theorem inR_of {v : Int} (h0 : 0 ≤ v) (h1 : v < 64) : inR v = true := by
  unfold inR; rw [decide_eq_true h0, decide_eq_true h1]; rfl
theorem itoa_size (v : Int) : (itoaS v).size ≤ 2 := by
  unfold itoaS; split
  · show 1 ≤ 2; omega
  · show 2 ≤ 2; omega
theorem sz_ok (k : Nat) (v : Int) (hk : k ≤ 10) : decide (((k + (itoaS v).size : Nat) : Int) > IntKind.i64.max) = false := by
  have h := itoa_size v
  have e : IntKind.i64.max = 9223372036854775807 := rfl
  exact decide_eq_false (by rw [e]; omega)
theorem it_lo {v : Int} (h : v < 10) : decide (itoaS v = ⟨#[byt (b0 v)]⟩) = true := decide_eq_true (by unfold itoaS; rw [if_pos h])
theorem it_hi {v : Int} (h : ¬ v < 10) : decide (itoaS v = ⟨#[byt (b1 v), byt (b0 v)]⟩) = true := decide_eq_true (by unfold itoaS; rw [if_neg h])
theorem eNe (k : Nat) (l : UInt8) (m : List UInt8) : (!((pre k ++ l :: m) == [])) = true := by
  cases pre k <;> rfl
theorem digAll : (List.range 64).all (fun i => (List.range 64).all fun j => ((byt (b1 (i : Nat)) == byt (b1 (j : Nat))) && (byt (b0 (i : Nat)) == byt (b0 (j : Nat)))) == Nat.beq i j) = true := by kernel_rfl
theorem dig_inj {x y : Int} (hx : 0 ≤ x ∧ x < 64) (hy : 0 ≤ y ∧ y < 64) (h1 : byt (b1 x) = byt (b1 y)) (h0 : byt (b0 x) = byt (b0 y)) : x = y := by
  obtain ⟨i, rfl⟩ : ∃ k : Nat, x = (k : Int) := ⟨x.toNat, by omega⟩
  obtain ⟨j, rfl⟩ : ∃ k : Nat, y = (k : Int) := ⟨y.toNat, by omega⟩
  have h := List.all_eq_true.1 (List.all_eq_true.1 digAll i (List.mem_range.2 (by omega))) j (List.mem_range.2 (by omega))
  rw [h1, h0] at h
  simp only [beq_self_eq_true, Bool.and_self, beq_iff_eq] at h
  rw [Nat.eq_of_beq_eq_true h.symm]
theorem b1_lo {v : Int} (h0 : 0 ≤ v) (h : v < 10) : byt (b1 v) = 48 := by
  obtain ⟨i, rfl⟩ : ∃ k : Nat, v = (k : Int) := ⟨v.toNat, by omega⟩
  have hi : i < 10 := by omega
  have := List.all_eq_true.1 (show (List.range 10).all (fun i => byt (b1 (i : Nat)) == 48) = true by kernel_rfl) i (List.mem_range.2 hi)
  simpa using this
theorem eq_ll (k : Nat) {x y : Int} (hx : 0 ≤ x ∧ x < 64) (hy : 0 ≤ y ∧ y < 64) (h1 : x < 10) (h2 : y < 10) : (((pre k ++ [byt (b0 x)]) == (pre k ++ [byt (b0 y)])) == (x == y)) = true := by
  rw [beq_iff_eq, Bool.eq_iff_iff, beq_iff_eq, beq_iff_eq]
  constructor
  · intro h
    have h := List.append_cancel_left h
    simp only [List.cons.injEq, and_true] at h
    exact dig_inj hx hy (by rw [b1_lo hx.1 h1, b1_lo hy.1 h2]) h
  · rintro rfl; rfl
theorem eq_hh (k : Nat) {x y : Int} (hx : 0 ≤ x ∧ x < 64) (hy : 0 ≤ y ∧ y < 64) : (((pre k ++ [byt (b1 x), byt (b0 x)]) == (pre k ++ [byt (b1 y), byt (b0 y)])) == (x == y)) = true := by
  rw [beq_iff_eq, Bool.eq_iff_iff, beq_iff_eq, beq_iff_eq]
  constructor
  · intro h
    have h := List.append_cancel_left h
    simp only [List.cons.injEq, and_true] at h
    exact dig_inj hx hy h.1 h.2
  · rintro rfl; rfl
theorem eq_lh (k : Nat) {x y : Int} (h1 : x < 10) (h2 : ¬ y < 10) : (((pre k ++ [byt (b0 x)]) == (pre k ++ [byt (b1 y), byt (b0 y)])) == (x == y)) = true := by
  rw [beq_iff_eq, Bool.eq_iff_iff, beq_iff_eq, beq_iff_eq]
  constructor
  · intro h
    have h := List.append_cancel_left h
    simp at h
  · rintro rfl; exact absurd h1 h2
theorem eq_hl (k : Nat) {x y : Int} (h1 : ¬ x < 10) (h2 : y < 10) : (((pre k ++ [byt (b1 x), byt (b0 x)]) == (pre k ++ [byt (b0 y)])) == (x == y)) = true := by
  rw [beq_iff_eq, Bool.eq_iff_iff, beq_iff_eq, beq_iff_eq]
  constructor
  · intro h
    have h := List.append_cancel_left h
    simp at h
  · rintro rfl; exact absurd h2 h1
end Go.Proofs.YtdljpdejgplhmaaDoor.mono
