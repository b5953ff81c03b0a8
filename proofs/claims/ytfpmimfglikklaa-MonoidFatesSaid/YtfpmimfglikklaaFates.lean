/-
  MonoidFates: the walk.
-/
import Derived.Test.YtfpmimfglikklaaRef2
set_option linter.unusedSimpArgs false
set_option linter.unusedVariables false
namespace Go.Proofs.Ytfpmimfglikklaa.mono
open Go.RowKit Go.Own
set_option maxHeartbeats 1000000

theorem fates_walk (K N M a : Int) (w : World) :
    Calls Try.prog 8 #[.agg #[.int .i64 K, .int .i64 N, .int .i64 M], .int .i64 a] w fun e w' => e = .returned (.bool true) ∧ ∃ x, w' = beyond w x := by
  go_enter Try.func8, Try.ntmps8
  go_wp2_with ((go_at_call 10; refine (fix_calls _ _ _ _).mono ?_; rintro e w1 ⟨K', N', M', hV, rfl, x1, rfl⟩))
  obtain ⟨hs1, hs2⟩ := sz_pos hV
  go_wp2_with ((go_at_call 11; refine (plain_law _ _ _ _).mono ?_; rintro e w1 ⟨rfl, x2, rfl⟩))
  generalize hX : beyond (beyond _ _) _ = X
  have hXb : Below w.heap.size w X := by rw [← hX]; exact (by repeat (first | assumption | exact Below.refl _ _ | exact below_beyond _ _ | refine Below.beyond ?_ (by (try simp [size_beyond]) <;> omega) _ | refine Below.drew ?_ | refine Below.alloc ?_ (by (try simp [size_beyond]) <;> omega) _ | refine Below.setCell ?_ (by (try simp [size_beyond]) <;> omega) _))
  have hXs : w.heap.size < X.heap.size := by rw [← hX]; simp [size_beyond]; omega
  have hin : inW w.heap.size X = true := inW_iff.2 hXs
  have hc0 : X.cell? ⟨w.heap.size, 0, none⟩ = some (.int .i64 K') := by rw [← hX]; simp [go_sem]
  have hc1 : X.cell? ⟨w.heap.size, 1, none⟩ = some (.int .i64 N') := by rw [← hX]; simp [go_sem]
  have hc2 : X.cell? ⟨w.heap.size, 2, none⟩ = some (.int .i64 M') := by rw [← hX]; simp [go_sem]
  clear hX
  go_loopw [6] (fun i wr => ∃ j : Int, i = .int .i64 j ∧ -1 ≤ j ∧ j ≤ sz K' N' M' + 1 ∧ ∃ y, wr = beyond (X.alloc (.cells #[.int .i64 K', .int .i64 N', .int .i64 M'] 25)) y)
    (fun i _ => (sz K' N' M' + 1 - intOf i).toNat)
  case atStart => exact ⟨-1, rfl, by omega, by omega, beyond_of (by repeat (first | assumption | exact Below.refl _ _ | exact below_beyond _ _ | refine Below.beyond ?_ (by (try simp [size_beyond]) <;> omega) _ | refine Below.drew ?_ | refine Below.alloc ?_ (by (try simp [size_beyond]) <;> omega) _ | refine Below.setCell ?_ (by (try simp [size_beyond]) <;> omega) _))⟩
  case round =>
    obtain ⟨j, rfl, hj0, hj1, y, rfl⟩ := hrel
    by_cases hle : j ≤ sz K' N' M'
    · have q1 : (deadB K' N' M' j == decide (fate K' N' M' j < 0)) = true := by rw [fate_dead hV]; simp
      have q2 : (uniB K' N' M' j == decide (0 < fate K' N' M' j)) = true := by rw [fate_uni hV]; simp
      go_wp2_with ((go_at_call 19; refine (size_calls hV _).mono ?_; rintro e w1 ⟨rfl, x1, rfl⟩))
      refine wp_region_beyond (by kernel_rfl) (by kernel_rfl) ?_
      repeat (go_big_quiet_step (first | (go_at_call 12; exact quiet_beyond (known_calls _)) | (go_at_call 22; exact quiet_beyond (accepts_calls hV _ _)) | (go_at_call 23; exact quiet_beyond (rholds_calls hV _ _)) | (go_at_call 24; exact quiet_beyond (dead_calls hV _ _)) | (go_at_call 25; exact quiet_beyond (rfate_calls hV _ _)) | (go_at_call 26; exact quiet_beyond (universal_calls hV _ _))))
      refine wpQuiet_nil ?_
      rintro _ ⟨x5, rfl⟩
      go_wp2
      go_roundw
      case rel => exact ⟨j + 1, rfl, by omega, by omega, beyond_of (by repeat (first | assumption | exact Below.refl _ _ | exact below_beyond _ _ | refine Below.beyond ?_ (by (try simp [size_beyond]) <;> omega) _ | refine Below.drew ?_ | refine Below.alloc ?_ (by (try simp [size_beyond]) <;> omega) _ | refine Below.setCell ?_ (by (try simp [size_beyond]) <;> omega) _))⟩
      case measure => simp [intOf]; omega
    · have q1 : (deadB K' N' M' a == decide (fate K' N' M' a < 0)) = true := by rw [fate_dead hV]; simp
      have q2 : (uniB K' N' M' a == decide (0 < fate K' N' M' a)) = true := by rw [fate_uni hV]; simp
      go_wp2_with ((go_at_call 19; refine (size_calls hV _).mono ?_; rintro e w1 ⟨rfl, x1, rfl⟩))
      refine wp_region_beyond (by kernel_rfl) (by kernel_rfl) ?_
      repeat (go_big_quiet_step (first | (go_at_call 12; exact quiet_beyond (known_calls _)) | (go_at_call 22; exact quiet_beyond (accepts_calls hV _ _)) | (go_at_call 23; exact quiet_beyond (rholds_calls hV _ _)) | (go_at_call 24; exact quiet_beyond (dead_calls hV _ _)) | (go_at_call 25; exact quiet_beyond (rfate_calls hV _ _)) | (go_at_call 26; exact quiet_beyond (universal_calls hV _ _))))
      refine wpQuiet_nil ?_
      rintro _ ⟨x5, rfl⟩
      go_wp2
      go_ret
      exact ⟨rfl, beyond_of (by repeat (first | assumption | exact Below.refl _ _ | exact below_beyond _ _ | refine Below.beyond ?_ (by (try simp [size_beyond]) <;> omega) _ | refine Below.drew ?_ | refine Below.alloc ?_ (by (try simp [size_beyond]) <;> omega) _ | refine Below.setCell ?_ (by (try simp [size_beyond]) <;> omega) _))⟩
end Go.Proofs.Ytfpmimfglikklaa.mono
