/-
  MonoidLaws: the walk.
-/
import Derived.Test.YtfpmimfglikklaaFix
set_option linter.unusedSimpArgs false
set_option linter.unusedVariables false
namespace Go.Proofs.Ytfpmimfglikklaa.mono
open Go.RowKit Go.Own
set_option maxHeartbeats 1000000

theorem laws_walk (K N M a b c : Int) (w : World) :
    Calls Try.prog 5 #[.agg #[.int .i64 K, .int .i64 N, .int .i64 M], .agg #[.int .i64 a, .int .i64 b, .int .i64 c]] w fun e w' => e = .returned (.bool true) ∧ ∃ x, w' = beyond w x := by
  obtain ⟨uA, hA⟩ : ∃ u, IntKind.u64.wrap a = u := ⟨_, rfl⟩
  obtain ⟨uB, hB⟩ : ∃ u, IntKind.u64.wrap b = u := ⟨_, rfl⟩
  obtain ⟨uC, hC⟩ : ∃ u, IntKind.u64.wrap c = u := ⟨_, rfl⟩
  have bA := (u64_range a).1
  have bB := (u64_range b).1
  have bC := (u64_range c).1
  rw [hA] at bA; rw [hB] at bB; rw [hC] at bC
  go_enter Try.func5, Try.ntmps5
  go_wp2_with ((go_at_call 10; refine (fix_calls _ _ _ _).mono ?_; rintro e w1 ⟨K', N', M', hV, rfl, x1, rfl⟩))
  have hs := sz_pos hV
  obtain ⟨hs1, hs2⟩ := hs
  have hz : (sz K' N' M' == 0) = false := by simp; omega
  have hx := Int.emod_nonneg uA (show sz K' N' M' ≠ 0 by omega)
  have hy := Int.emod_nonneg uB (show sz K' N' M' ≠ 0 by omega)
  have hc := Int.emod_nonneg uC (show sz K' N' M' ≠ 0 by omega)
  have hx' := Int.emod_lt_of_pos uA (show 0 < sz K' N' M' by omega)
  have hy' := Int.emod_lt_of_pos uB (show 0 < sz K' N' M' by omega)
  have hc' := Int.emod_lt_of_pos uC (show 0 < sz K' N' M' by omega)
  go_wp2_with ((go_at_call 19; refine (size_calls hV _).mono ?_; rintro e w2 ⟨rfl, x2, rfl⟩))
  refine wp_region_beyond (by kernel_rfl) (by kernel_rfl) ?_
  repeat (go_big_quiet_step (fail))
  refine wpQuiet_nil ?_
  rintro _ ⟨x3, rfl⟩
  go_wp2_with ((go_at_call 16; refine (add_calls hV _ _ _).mono ?_; rintro e w2 ⟨rfl, x4, rfl⟩))
  have q1 := (add_in hV (uA % sz K' N' M') (uB % sz K' N' M')).1
  have q2 := (add_in hV (uA % sz K' N' M') (uB % sz K' N' M')).2
  have q3 : (add K' N' M' (uA % sz K' N' M') (uB % sz K' N' M') == add K' N' M' (uB % sz K' N' M') (uA % sz K' N' M')) = true := beq_iff_eq.2 (add_comm _ _)
  have q4 : (add K' N' M' (add K' N' M' (uA % sz K' N' M') (uB % sz K' N' M')) (uC % sz K' N' M') == add K' N' M' (uA % sz K' N' M') (add K' N' M' (uB % sz K' N' M') (uC % sz K' N' M'))) = true := beq_iff_eq.2 (add_assoc hV _ _ _)
  have q5 : (add K' N' M' (uA % sz K' N' M') (idn K') == uA % sz K' N' M') = true := beq_iff_eq.2 (add_id hV hx hx')
  refine wp_region_beyond (by kernel_rfl) (by kernel_rfl) ?_
  repeat (go_big_quiet_step (first | (go_at_call 12; exact quiet_beyond (known_calls _)) | (go_at_call 19; exact quiet_beyond (size_calls hV _)) | (go_at_call 16; exact quiet_beyond (add_calls hV _ _ _)) | (go_at_call 13; exact quiet_beyond (identity_calls hV _))))
  refine wpQuiet_nil ?_
  rintro _ ⟨x5, rfl⟩
  go_wp2
  go_ret
  exact ⟨rfl, beyond_of (by repeat (first | exact Below.refl _ _ | exact below_beyond _ _ | refine Below.beyond ?_ (by simp [size_beyond] <;> omega) _ | refine Below.drew ?_ | refine Below.alloc ?_ (by simp [size_beyond] <;> omega) _ | refine Below.setCell ?_ (by simp [size_beyond] <;> omega) _))⟩
end Go.Proofs.Ytfpmimfglikklaa.mono
