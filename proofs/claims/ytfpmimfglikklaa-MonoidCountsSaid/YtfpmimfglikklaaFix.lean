/-
  The law's own helpers: fix (any monoid made a valid one) and known (the document's examples).
-/
import Derived.Test.YtfpmimfglikklaaUni
set_option linter.unusedSimpArgs false
set_option linter.unusedVariables false
namespace Go.Proofs.Ytfpmimfglikklaa.mono
open Go.RowKit Go.Own
set_option maxHeartbeats 400000

theorem u64_range (n : Int) : 0 ≤ IntKind.u64.wrap n ∧ IntKind.u64.wrap n ≤ 18446744073709551615 := by
  simp [IntKind.wrap, IntKind.bits, IntKind.signed]; omega

theorem fix_calls (K N M : Int) (w : World) :
    Calls Try.prog 10 #[.agg #[.int .i64 K, .int .i64 N, .int .i64 M]] w fun e w' => ∃ K' N' M', V K' N' M' ∧ e = .returned (.agg #[.int .i64 K', .int .i64 N', .int .i64 M']) ∧ ∃ x, w' = beyond w x := by
  obtain ⟨uK, hK⟩ : ∃ u, IntKind.u64.wrap K = u := ⟨_, rfl⟩
  obtain ⟨uN, hN⟩ : ∃ u, IntKind.u64.wrap N = u := ⟨_, rfl⟩
  obtain ⟨uM, hM⟩ : ∃ u, IntKind.u64.wrap M = u := ⟨_, rfl⟩
  have bK := u64_range K
  have bN := u64_range N
  have bM := u64_range M
  rw [hK] at bK; rw [hN] at bN; rw [hM] at bM
  obtain ⟨bK1, bK2⟩ := bK
  obtain ⟨bN1, bN2⟩ := bN
  obtain ⟨bM1, bM2⟩ := bM
  have hr : uK % 4 = 0 ∨ uK % 4 = 1 ∨ uK % 4 = 2 ∨ uK % 4 = 3 := by omega
  rcases hr with hr | hr | hr | hr
  · go_enter Try.func10, Try.ntmps10
    go_wp2
    refine bodyPost_ret (results_block rfl _ _ (w.heap.size + 1) 23 _ _ rfl (by simp [go_sem]; rfl) Try.underlying23 rfl (by kernel_rfl)) rfl ?_
    refine ⟨_, _, _, ?_, rfl, beyond_of (by repeat (first | exact Below.refl _ _ | exact below_beyond _ _ | refine Below.beyond ?_ (by simp [size_beyond] <;> omega) _ | refine Below.drew ?_ | refine Below.alloc ?_ (by simp [size_beyond] <;> omega) _ | refine Below.setCell ?_ (by simp [size_beyond] <;> omega) _))⟩
    exact Or.inl ⟨rfl, rfl, rfl⟩
  · go_enter Try.func10, Try.ntmps10
    go_wp2
    refine bodyPost_ret (results_block rfl _ _ (w.heap.size + 1) 23 _ _ rfl (by simp [go_sem]; rfl) Try.underlying23 rfl (by kernel_rfl)) rfl ?_
    refine ⟨_, _, _, ?_, rfl, beyond_of (by repeat (first | exact Below.refl _ _ | exact below_beyond _ _ | refine Below.beyond ?_ (by simp [size_beyond] <;> omega) _ | refine Below.drew ?_ | refine Below.alloc ?_ (by simp [size_beyond] <;> omega) _ | refine Below.setCell ?_ (by simp [size_beyond] <;> omega) _))⟩
    exact Or.inr (Or.inl ⟨rfl, rfl, rfl⟩)
  · go_enter Try.func10, Try.ntmps10
    go_wp2
    refine bodyPost_ret (results_block rfl _ _ (w.heap.size + 1) 23 _ _ rfl (by simp [go_sem]; rfl) Try.underlying23 rfl (by kernel_rfl)) rfl ?_
    refine ⟨_, _, _, ?_, rfl, beyond_of (by repeat (first | exact Below.refl _ _ | exact below_beyond _ _ | refine Below.beyond ?_ (by simp [size_beyond] <;> omega) _ | refine Below.drew ?_ | refine Below.alloc ?_ (by simp [size_beyond] <;> omega) _ | refine Below.setCell ?_ (by simp [size_beyond] <;> omega) _))⟩
    exact Or.inr (Or.inr (Or.inl ⟨rfl, rfl, by omega, by omega⟩))
  · have hm : 1 ≤ 1 + uM % 64 ∧ 1 + uM % 64 ≤ 64 := by omega
    obtain ⟨hm1, hm2⟩ := hm
    have hn1 : 0 ≤ uN % (1 + uM % 64) := Int.emod_nonneg uN (by omega : 1 + uM % 64 ≠ 0)
    have hn2 : uN % (1 + uM % 64) < 1 + uM % 64 := Int.emod_lt_of_pos uN (by omega : 0 < 1 + uM % 64)
    go_enter Try.func10, Try.ntmps10
    go_wp2
    refine bodyPost_ret (results_block rfl _ _ (w.heap.size + 1) 23 _ _ rfl (by simp [go_sem]; rfl) Try.underlying23 rfl (by kernel_rfl)) rfl ?_
    refine ⟨_, _, _, ?_, rfl, beyond_of (by repeat (first | exact Below.refl _ _ | exact below_beyond _ _ | refine Below.beyond ?_ (by simp [size_beyond] <;> omega) _ | refine Below.drew ?_ | refine Below.alloc ?_ (by simp [size_beyond] <;> omega) _ | refine Below.setCell ?_ (by simp [size_beyond] <;> omega) _))⟩
    exact Or.inr (Or.inr (Or.inr ⟨rfl, hm1, hm2, hn1, hn2⟩))

theorem known_calls (w : World) : Calls Try.prog 12 #[] w fun e w' => e = .returned (.bool true) ∧ ∃ x, w' = beyond w x := by
  have hV0 : Hid (V 0 0 0) := Or.inl ⟨rfl, rfl, rfl⟩
  have hV2 : Hid (V 2 1 0) := Or.inr (Or.inr (Or.inl ⟨rfl, rfl, by decide, by decide⟩))
  have hV3 : Hid (V 3 1 3) := Or.inr (Or.inr (Or.inr ⟨rfl, by decide, by decide, by decide, by decide⟩))
  have e1 : one 2 0 = 1 := by decide
  have e2 : add 2 1 0 1 1 = 2 := by decide
  have e3 : deadB 2 1 0 2 = true := by decide
  have e4 : accB 2 1 0 1 = true := by decide
  have e5 : rep 3 1 3 (near 3 1 3 1) 4 = 1 := by decide
  have e6 : accB 3 1 3 1 = true := by decide
  have e7 : idn 0 = 1 := by decide
  go_enter Try.func12, Try.ntmps12
  go_wp2
  refine wp_region_beyond (by kernel_rfl) (by kernel_rfl) ?_
  repeat (go_big_quiet_step (first | (go_at_call 15; exact quiet_beyond (valueT_calls hV2.out _)) | (go_at_call 16; exact quiet_beyond (add_calls hV2.out _ _ _))))
  refine wpQuiet_nil ?_
  rintro _ ⟨x, rfl⟩
  go_wp2_with (first | (go_at_call 24; refine (dead_calls hV2.out _ _).mono ?_; rintro e w1 ⟨rfl, x1, rfl⟩) | (go_at_call 22; (first | (with_reducible refine (accepts_calls hV2.out _ _).mono ?_) | (with_reducible refine (accepts_calls hV3.out _ _).mono ?_)); rintro e w1 ⟨rfl, x1, rfl⟩) | (go_at_call 20; refine (times_calls hV3.out _ _ (by omega) _).mono ?_; rintro e w1 ⟨rfl, x1, rfl⟩) | (go_at_call 13; refine (identity_calls hV0.out _).mono ?_; rintro e w1 ⟨rfl, x1, rfl⟩))
  go_ret
  exact ⟨rfl, beyond_of (by repeat (first | exact Below.refl _ _ | exact below_beyond _ _ | refine Below.beyond ?_ (by simp [size_beyond] <;> omega) _ | refine Below.drew ?_ | refine Below.alloc ?_ (by simp [size_beyond] <;> omega) _ | refine Below.setCell ?_ (by simp [size_beyond] <;> omega) _))⟩

end Go.Proofs.Ytfpmimfglikklaa.mono
