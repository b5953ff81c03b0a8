/-
  MonoidValues: the walk.
-/
import Derived.Test.YtfpmimfglikklaaRef2
set_option linter.unusedSimpArgs false
set_option linter.unusedVariables false
namespace Go.Proofs.Ytfpmimfglikklaa.mono
open Go.RowKit Go.Own
set_option maxHeartbeats 1000000

theorem ofF_00 {K N M : Int} (h : V K N M) : (idn K == ofF K N M 0 0) = true := by
  rcases h with ⟨rfl, rfl, rfl⟩ | ⟨rfl, rfl, rfl⟩ | ⟨rfl, rfl, h1, h2⟩ | ⟨rfl, h1, h2, h3, h4⟩ <;> simp [idn, ofF] <;> omega
theorem ofF_10 {K N M : Int} (h : V K N M) : (one K M == ofF K N M 1 0) = true := by
  rcases h with ⟨rfl, rfl, rfl⟩ | ⟨rfl, rfl, rfl⟩ | ⟨rfl, rfl, h1, h2⟩ | ⟨rfl, h1, h2, h3, h4⟩ <;> simp [one, ofF] <;> omega
theorem ofF_01 {K N M : Int} (h : V K N M) : ((0 : Int) == ofF K N M 0 1) = true := by
  rcases h with ⟨rfl, rfl, rfl⟩ | ⟨rfl, rfl, rfl⟩ | ⟨rfl, rfl, h1, h2⟩ | ⟨rfl, h1, h2, h3, h4⟩ <;> simp [ofF] <;> omega

theorem values_walk (K N M a b : Int) (w : World) :
    Calls Try.prog 3 #[.agg #[.int .i64 K, .int .i64 N, .int .i64 M], .int .i64 a, .int .i64 b] w fun e w' => e = .returned (.bool true) ∧ ∃ x, w' = beyond w x := by
  go_enter Try.func3, Try.ntmps3
  go_wp2_with ((go_at_call 10; refine (fix_calls _ _ _ _).mono ?_; rintro e w1 ⟨K', N', M', hV, rfl, x1, rfl⟩))
  have q1 := ofF_00 hV
  have q2 := ofF_10 hV
  have q3 := ofF_01 hV
  go_wp2_with ((go_at_call 11; refine (plain_law _ _ _ _).mono ?_; rintro e w1 ⟨rfl, x2, rfl⟩))
  refine wp_region_beyond (by kernel_rfl) (by kernel_rfl) ?_
  repeat (go_big_quiet_step (first | (go_at_call 12; exact quiet_beyond (known_calls _)) | (go_at_call 13; exact quiet_beyond (identity_calls hV _)) | (go_at_call 14; exact quiet_beyond (rof_calls hV _ _ (by omega) (by omega) _)) | (go_at_call 15; first | (with_reducible exact quiet_beyond (valueT_calls hV _)) | (with_reducible exact quiet_beyond (valueF_calls hV _))) | (go_at_call 16; exact quiet_beyond (add_calls hV _ _ _)) | (go_at_call 17; exact quiet_beyond (radd_calls hV _ _ _))))
  refine wpQuiet_nil ?_
  rintro _ ⟨x5, rfl⟩
  go_wp2
  go_ret
  exact ⟨rfl, beyond_of (by repeat (first | exact Below.refl _ _ | exact below_beyond _ _ | refine Below.beyond ?_ (by simp [size_beyond] <;> omega) _ | refine Below.drew ?_ | refine Below.alloc ?_ (by simp [size_beyond] <;> omega) _ | refine Below.setCell ?_ (by simp [size_beyond] <;> omega) _))⟩
end Go.Proofs.Ytfpmimfglikklaa.mono
