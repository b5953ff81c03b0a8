/-
  Sum over a slice of values, and how sums split.
-/
import Derived.Test.YtfpmimfglikklaaElem
import Derived.Test.YtfpmimfglikklaaFix
import Derived.Test.YtfpmimfglikklaaValues
import Derived.OwnWalk
import Derived.Below
set_option linter.unusedSimpArgs false
set_option linter.unusedVariables false
namespace Go.Proofs.Ytfpmimfglikklaa.mono
open Go.RowKit Go.Own
set_option maxHeartbeats 1000000
variable {K N M : Int}

def sumF (K N M : Int) (X : Nat → Int) : Nat → Int
  | 0 => idn K
  | n + 1 => add K N M (sumF K N M X n) (X n)

theorem sumF_in (h : V K N M) (X : Nat → Int) (n : Nat) : 0 ≤ sumF K N M X n ∧ sumF K N M X n < sz K N M := by
  cases n with
  | zero => exact idn_in h
  | succ n => exact add_in h _ _

theorem sumF_split (h : V K N M) (X : Nat → Int) (k j : Nat) : add K N M (sumF K N M (fun i => X (k + i)) j) (sumF K N M X k) = sumF K N M X (k + j) := by
  induction j with
  | zero =>
    show add K N M (idn K) _ = _
    rw [add_comm]
    exact add_id h (sumF_in h X k).1 (sumF_in h X k).2
  | succ j ih =>
    show add K N M (add K N M _ (X (k + j))) _ = add K N M (sumF K N M X (k + j)) (X (k + j))
    rw [add_assoc h, add_comm (X (k + j)), ← add_assoc h, ih]

theorem ofF_yes (h : V K N M) {y n : Int} (hy : 0 ≤ y) (hn : 0 ≤ n) : add K N M (ofF K N M y n) (valB K M true) = ofF K N M (y + 1) n := by
  unfold add plus near ofF valB one sz
  rcases h with ⟨rfl, rfl, rfl⟩ | ⟨rfl, rfl, rfl⟩ | ⟨rfl, rfl, h1, h2⟩ | ⟨rfl, h1, h2, h3, h4⟩
  · simp; split <;> omega
  · simp; omega
  · simp; omega
  · have e := Int.emod_nonneg y (show M ≠ 0 by omega)
    have e' := Int.emod_lt_of_pos y (show 0 < M by omega)
    have f := Int.emod_nonneg 1 (show M ≠ 0 by omega)
    have f' := Int.emod_lt_of_pos 1 (show 0 < M by omega)
    simp
    rw [show min (max (y % M) 0) (M - 1) = y % M by omega, show min (max (1 % M) 0) (M - 1) = 1 % M by omega, ← Int.add_emod]

theorem ofF_no (h : V K N M) {y n : Int} (hy : 0 ≤ y) (hn : 0 ≤ n) : add K N M (ofF K N M y n) (valB K M false) = ofF K N M y (n + 1) := by
  unfold add plus near ofF valB sz
  rcases h with ⟨rfl, rfl, rfl⟩ | ⟨rfl, rfl, rfl⟩ | ⟨rfl, rfl, h1, h2⟩ | ⟨rfl, h1, h2, h3, h4⟩
  · simp; split <;> omega
  · simp; omega
  · simp; omega
  · have e := Int.emod_nonneg y (show M ≠ 0 by omega)
    have e' := Int.emod_lt_of_pos y (show 0 < M by omega)
    simp
    rw [show min (max (y % M) 0) (M - 1) = y % M by omega, show min 0 (M - 1) = 0 by omega]
    simp

theorem sum_calls (hV : V K N M) (q : Option Addr) (n cap b off : Nat) (X : Nat → Int) (w : World) (hn : n ≤ 9223372036854775807)
    (hq : 0 < n → q = some ⟨b, off, none⟩ ∧ b < w.heap.size) (hx : ∀ i, i < n → w.cell? ⟨b, off + i, none⟩ = some (.int .i64 (X i))) :
    Calls Try.prog 18 #[.agg #[.int .i64 K, .int .i64 N, .int .i64 M], .slice q n cap] w fun e w' => e = .returned (.int .i64 (sumF K N M X n)) ∧ ∃ x, w' = beyond w x := by
  have HX := Lib.hid hx; clear hx
  have HQ := Lib.hid hq; clear hq
  go_enter Try.func18, Try.ntmps18
  go_wp2_with ((go_at_call 13; refine (identity_calls hV _).mono ?_; rintro e w2 ⟨rfl, x2, rfl⟩))
  go_loopw [5, 12] (fun t i wr => ∃ j : Nat, i = .int .i64 j ∧ t = .int .i64 (sumF K N M X j) ∧ j ≤ n ∧ ∃ y, wr = beyond (w.alloc (.cells #[.int .i64 K, .int .i64 N, .int .i64 M] 23)) y)
    (fun _ i _ => n - (intOf i).toNat)
  case atStart => exact ⟨0, rfl, rfl, by omega, beyond_of (by repeat (first | assumption | exact Below.refl _ _ | exact below_beyond _ _ | refine Below.beyond ?_ (by (try simp [size_beyond]) <;> omega) _ | refine Below.drew ?_ | refine Below.alloc ?_ (by (try simp [size_beyond]) <;> omega) _ | refine Below.setCell ?_ (by (try simp [size_beyond]) <;> omega) _))⟩
  case round =>
    obtain ⟨j, rfl, rfl, hj, y, rfl⟩ := hrel
    by_cases hlt : j < n
    · obtain ⟨rfl, hb⟩ := HQ.out (by omega)
      have hin : inW b w = true := inW_iff.2 hb
      have hxk := HX.out j hlt
      go_wp2_with ((go_at_call 16; refine (add_calls hV _ _ _).mono ?_; rintro e w2 ⟨rfl, x4, rfl⟩))
      go_roundw
      case rel => exact ⟨j + 1, by go_num, rfl, by omega, beyond_of (by repeat (first | assumption | exact Below.refl _ _ | exact below_beyond _ _ | refine Below.beyond ?_ (by (try simp [size_beyond]) <;> omega) _ | refine Below.drew ?_ | refine Below.alloc ?_ (by (try simp [size_beyond]) <;> omega) _ | refine Below.setCell ?_ (by (try simp [size_beyond]) <;> omega) _))⟩
      case measure => simp [intOf]; omega
    · obtain rfl : j = n := by omega
      go_wp2
      go_ret
      exact ⟨rfl, beyond_of (by repeat (first | assumption | exact Below.refl _ _ | exact below_beyond _ _ | refine Below.beyond ?_ (by (try simp [size_beyond]) <;> omega) _ | refine Below.drew ?_ | refine Below.alloc ?_ (by (try simp [size_beyond]) <;> omega) _ | refine Below.setCell ?_ (by (try simp [size_beyond]) <;> omega) _))⟩
end Go.Proofs.Ytfpmimfglikklaa.mono
