/-
  MonoidTimes: the walk.
-/
import Derived.Test.YtfpmimfglikklaaFix
set_option linter.unusedSimpArgs false
set_option linter.unusedVariables false
namespace Go.Proofs.Ytfpmimfglikklaa.mono
open Go.RowKit Go.Own
set_option maxHeartbeats 1000000

theorem timesLaw_walk (K N M a n : Int) (w : World) :
    Calls Try.prog 6 #[.agg #[.int .i64 K, .int .i64 N, .int .i64 M], .int .i64 a, .int .i64 n] w fun e w' => e = .returned (.bool true) ∧ ∃ x, w' = beyond w x := by
  obtain ⟨u, hu⟩ : ∃ u, IntKind.u64.wrap n = u := ⟨_, rfl⟩
  have bu := (u64_range n).1
  rw [hu] at bu
  obtain ⟨k, hk⟩ : ∃ k, k = u % 300 := ⟨_, rfl⟩
  have hk0 : 0 ≤ u % 300 := by omega
  have hk1 : u % 300 < 300 := by omega
  go_enter Try.func6, Try.ntmps6
  go_wp2_with ((go_at_call 10; refine (fix_calls _ _ _ _).mono ?_; rintro e w1 ⟨K', N', M', hV, rfl, x1, rfl⟩))
  go_wp2_with ((go_at_call 13; refine (identity_calls hV _).mono ?_; rintro e w2 ⟨rfl, x2, rfl⟩))
  go_loopw [8, 9] (fun t i wr => ∃ j : Int, i = .int .i64 j ∧ t = .int .i64 (rep K' N' M' a j.toNat) ∧ 0 ≤ j ∧ j ≤ u % 300 ∧ ∃ y, wr = beyond (w.alloc (.cells #[.int .i64 K', .int .i64 N', .int .i64 M'] 23)) y)
    (fun _ i _ => (u % 300 - intOf i).toNat)
  case atStart => exact ⟨0, rfl, rfl, by omega, by omega, beyond_of (by repeat (first | exact Below.refl _ _ | exact below_beyond _ _ | refine Below.beyond ?_ (by simp [size_beyond] <;> omega) _ | refine Below.drew ?_ | refine Below.alloc ?_ (by simp [size_beyond] <;> omega) _ | refine Below.setCell ?_ (by simp [size_beyond] <;> omega) _))⟩
  case round =>
    obtain ⟨j, rfl, rfl, hj0, hj1, y, rfl⟩ := hrel
    by_cases hlt : j < u % 300
    · go_wp2_with ((go_at_call 16; refine (add_calls hV _ _ _).mono ?_; rintro e w2 ⟨rfl, x4, rfl⟩))
      go_roundw
      case rel => exact ⟨j + 1, rfl, by rw [show (j + 1).toNat = j.toNat + 1 from by omega]; rfl, by omega, by omega, beyond_of (by repeat (first | exact Below.refl _ _ | exact below_beyond _ _ | refine Below.beyond ?_ (by simp [size_beyond] <;> omega) _ | refine Below.drew ?_ | refine Below.alloc ?_ (by simp [size_beyond] <;> omega) _ | refine Below.setCell ?_ (by simp [size_beyond] <;> omega) _))⟩
      case measure => simp [intOf]; omega
    · have q1 : (rep K' N' M' (near K' N' M' a) (u % 300).toNat == rep K' N' M' a j.toNat) = true := by
        rw [rep_near hV, show j = u % 300 from by omega]; exact beq_self_eq_true _
      have q2 : (rep K' N' M' (near K' N' M' a) (-(u % 300)).toNat == idn K') = true := by
        rw [show (-(u % 300)).toNat = 0 from by omega]; exact beq_self_eq_true _
      have q3 : (rep K' N' M' (near K' N' M' a) 0 == idn K') = true := beq_self_eq_true _
      go_wp2
      refine wp_region_beyond (by kernel_rfl) (by kernel_rfl) ?_
      repeat (go_big_quiet_step (first | (go_at_call 12; exact quiet_beyond (known_calls _)) | (go_at_call 20; exact quiet_beyond (times_calls hV _ _ (by omega) _)) | (go_at_call 13; exact quiet_beyond (identity_calls hV _))))
      refine wpQuiet_nil ?_
      rintro _ ⟨x5, rfl⟩
      go_wp2
      go_ret
      exact ⟨rfl, beyond_of (by repeat (first | exact Below.refl _ _ | exact below_beyond _ _ | refine Below.beyond ?_ (by simp [size_beyond] <;> omega) _ | refine Below.drew ?_ | refine Below.alloc ?_ (by simp [size_beyond] <;> omega) _ | refine Below.setCell ?_ (by simp [size_beyond] <;> omega) _))⟩
end Go.Proofs.Ytfpmimfglikklaa.mono
