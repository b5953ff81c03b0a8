/-
  The reference's functions on a valid monoid.
-/
import Derived.Test.YtfpmimfglikklaaFix
set_option linter.unusedSimpArgs false
set_option linter.unusedVariables false
namespace Go.Proofs.Ytfpmimfglikklaa.mono
open Go.RowKit Go.Own
set_option maxHeartbeats 400000

theorem plain_law (K N M : Int) (w : World) :
    Calls Try.prog 11 #[.agg #[.int .i64 K, .int .i64 N, .int .i64 M]] w fun e w' => e = .returned (.agg #[.int .i64 K, .int .i64 N, .int .i64 M]) ∧ ∃ x, w' = beyond w x := by
  go_enter Try.func11, Try.ntmps11
  go_wp2
  refine bodyPost_ret (results_block rfl _ _ (w.heap.size + 1) 25 _ _ rfl (by simp [go_sem]; rfl) Try.underlying25 rfl (by kernel_rfl)) rfl ?_
  exact ⟨rfl, beyond_of (by repeat (first | exact Below.refl _ _ | exact below_beyond _ _ | refine Below.beyond ?_ (by simp [size_beyond] <;> omega) _ | refine Below.drew ?_ | refine Below.alloc ?_ (by simp [size_beyond] <;> omega) _ | refine Below.setCell ?_ (by simp [size_beyond] <;> omega) _))⟩

theorem rcheck_All (w : World) :
    Calls Try.prog 34 #[.agg #[.int .i64 0, .int .i64 0, .int .i64 0]] w fun e w' => e = .returned (.int .i64 0) ∧ ∃ x, w' = beyond w x := by
  go_enter Try.func34, Try.ntmps34
  go_wp2
  go_ret
  exact ⟨rfl, beyond_of (by repeat (first | exact Below.refl _ _ | exact below_beyond _ _ | refine Below.beyond ?_ (by simp [size_beyond] <;> omega) _ | refine Below.drew ?_ | refine Below.alloc ?_ (by simp [size_beyond] <;> omega) _ | refine Below.setCell ?_ (by simp [size_beyond] <;> omega) _))⟩

theorem rsize_All (w : World) :
    Calls Try.prog 31 #[.agg #[.int .i64 0, .int .i64 0, .int .i64 0]] w fun e w' => e = .returned (.int .i64 2) ∧ ∃ x, w' = beyond w x := by
  go_enter Try.func31, Try.ntmps31
  go_wp2_with ((go_at_call 34; refine (rcheck_All _).mono ?_; rintro e w1 ⟨rfl, x1, rfl⟩))
  go_ret
  exact ⟨rfl, beyond_of (by repeat (first | exact Below.refl _ _ | exact below_beyond _ _ | refine Below.beyond ?_ (by simp [size_beyond] <;> omega) _ | refine Below.drew ?_ | refine Below.alloc ?_ (by simp [size_beyond] <;> omega) _ | refine Below.setCell ?_ (by simp [size_beyond] <;> omega) _))⟩

theorem rcheck_Any (w : World) :
    Calls Try.prog 34 #[.agg #[.int .i64 1, .int .i64 0, .int .i64 0]] w fun e w' => e = .returned (.int .i64 0) ∧ ∃ x, w' = beyond w x := by
  go_enter Try.func34, Try.ntmps34
  go_wp2
  go_ret
  exact ⟨rfl, beyond_of (by repeat (first | exact Below.refl _ _ | exact below_beyond _ _ | refine Below.beyond ?_ (by simp [size_beyond] <;> omega) _ | refine Below.drew ?_ | refine Below.alloc ?_ (by simp [size_beyond] <;> omega) _ | refine Below.setCell ?_ (by simp [size_beyond] <;> omega) _))⟩

theorem rsize_Any (w : World) :
    Calls Try.prog 31 #[.agg #[.int .i64 1, .int .i64 0, .int .i64 0]] w fun e w' => e = .returned (.int .i64 2) ∧ ∃ x, w' = beyond w x := by
  go_enter Try.func31, Try.ntmps31
  go_wp2_with ((go_at_call 34; refine (rcheck_Any _).mono ?_; rintro e w1 ⟨rfl, x1, rfl⟩))
  go_ret
  exact ⟨rfl, beyond_of (by repeat (first | exact Below.refl _ _ | exact below_beyond _ _ | refine Below.beyond ?_ (by simp [size_beyond] <;> omega) _ | refine Below.drew ?_ | refine Below.alloc ?_ (by simp [size_beyond] <;> omega) _ | refine Below.setCell ?_ (by simp [size_beyond] <;> omega) _))⟩

theorem rcheck_Exactly (N : Int) (h1 : 0 ≤ N) (h2 : N ≤ 62) (w : World) :
    Calls Try.prog 34 #[.agg #[.int .i64 2, .int .i64 N, .int .i64 0]] w fun e w' => e = .returned (.int .i64 0) ∧ ∃ x, w' = beyond w x := by
  go_enter Try.func34, Try.ntmps34
  go_wp2
  go_ret
  exact ⟨rfl, beyond_of (by repeat (first | exact Below.refl _ _ | exact below_beyond _ _ | refine Below.beyond ?_ (by simp [size_beyond] <;> omega) _ | refine Below.drew ?_ | refine Below.alloc ?_ (by simp [size_beyond] <;> omega) _ | refine Below.setCell ?_ (by simp [size_beyond] <;> omega) _))⟩

theorem rsize_Exactly (N : Int) (h1 : 0 ≤ N) (h2 : N ≤ 62) (w : World) :
    Calls Try.prog 31 #[.agg #[.int .i64 2, .int .i64 N, .int .i64 0]] w fun e w' => e = .returned (.int .i64 (N + 2)) ∧ ∃ x, w' = beyond w x := by
  go_enter Try.func31, Try.ntmps31
  go_wp2_with ((go_at_call 34; refine (rcheck_Exactly N h1 h2 _).mono ?_; rintro e w1 ⟨rfl, x1, rfl⟩))
  go_ret
  exact ⟨rfl, beyond_of (by repeat (first | exact Below.refl _ _ | exact below_beyond _ _ | refine Below.beyond ?_ (by simp [size_beyond] <;> omega) _ | refine Below.drew ?_ | refine Below.alloc ?_ (by simp [size_beyond] <;> omega) _ | refine Below.setCell ?_ (by simp [size_beyond] <;> omega) _))⟩

theorem rcheck_Modulo (N M : Int) (h1 : 1 ≤ M) (h2 : M ≤ 64) (h3 : 0 ≤ N) (h4 : N < M) (w : World) :
    Calls Try.prog 34 #[.agg #[.int .i64 3, .int .i64 N, .int .i64 M]] w fun e w' => e = .returned (.int .i64 0) ∧ ∃ x, w' = beyond w x := by
  go_enter Try.func34, Try.ntmps34
  go_wp2
  go_ret
  exact ⟨rfl, beyond_of (by repeat (first | exact Below.refl _ _ | exact below_beyond _ _ | refine Below.beyond ?_ (by simp [size_beyond] <;> omega) _ | refine Below.drew ?_ | refine Below.alloc ?_ (by simp [size_beyond] <;> omega) _ | refine Below.setCell ?_ (by simp [size_beyond] <;> omega) _))⟩

theorem rsize_Modulo (N M : Int) (h1 : 1 ≤ M) (h2 : M ≤ 64) (h3 : 0 ≤ N) (h4 : N < M) (w : World) :
    Calls Try.prog 31 #[.agg #[.int .i64 3, .int .i64 N, .int .i64 M]] w fun e w' => e = .returned (.int .i64 M) ∧ ∃ x, w' = beyond w x := by
  go_enter Try.func31, Try.ntmps31
  go_wp2_with ((go_at_call 34; refine (rcheck_Modulo N M h1 h2 h3 h4 _).mono ?_; rintro e w1 ⟨rfl, x1, rfl⟩))
  go_ret
  exact ⟨rfl, beyond_of (by repeat (first | exact Below.refl _ _ | exact below_beyond _ _ | refine Below.beyond ?_ (by simp [size_beyond] <;> omega) _ | refine Below.drew ?_ | refine Below.alloc ?_ (by simp [size_beyond] <;> omega) _ | refine Below.setCell ?_ (by simp [size_beyond] <;> omega) _))⟩

theorem rsize_calls {K N M : Int} (hV : V K N M) (w : World) :
    Calls Try.prog 31 #[.agg #[.int .i64 K, .int .i64 N, .int .i64 M]] w fun e w' => e = .returned (.int .i64 (sz K N M)) ∧ ∃ x, w' = beyond w x := by
  rcases hV with ⟨rfl, rfl, rfl⟩ | ⟨rfl, rfl, rfl⟩ | ⟨rfl, rfl, h1, h2⟩ | ⟨rfl, h1, h2, h3, h4⟩
  · exact (rsize_All _).mono fun e w' ⟨he, hx⟩ => ⟨by rw [he]; simp [sz], hx⟩
  · exact (rsize_Any _).mono fun e w' ⟨he, hx⟩ => ⟨by rw [he]; simp [sz], hx⟩
  · exact (rsize_Exactly _ h1 h2 _).mono fun e w' ⟨he, hx⟩ => ⟨by rw [he]; simp [sz], hx⟩
  · exact (rsize_Modulo _ _ h1 h2 h3 h4 _).mono fun e w' ⟨he, hx⟩ => ⟨by rw [he]; simp [sz], hx⟩

theorem rvalue_calls {K N M : Int} (hV : V K N M) (a : Int) (w : World) :
    Calls Try.prog 21 #[.agg #[.int .i64 K, .int .i64 N, .int .i64 M], .int .i64 a] w fun e w' => e = .returned (.int .i64 (near K N M a)) ∧ ∃ x, w' = beyond w x := by
  obtain ⟨hs1, hs2⟩ := sz_pos hV
  go_enter Try.func21, Try.ntmps21
  go_wp2_with ((go_at_call 31; refine (rsize_calls hV _).mono ?_; rintro e w1 ⟨rfl, x1, rfl⟩))
  all_goals go_ret
  all_goals (refine ⟨ret_int ?_, beyond_of (by repeat (first | exact Below.refl _ _ | exact below_beyond _ _ | refine Below.beyond ?_ (by simp [size_beyond] <;> omega) _ | refine Below.drew ?_ | refine Below.alloc ?_ (by simp [size_beyond] <;> omega) _ | refine Below.setCell ?_ (by simp [size_beyond] <;> omega) _))⟩; unfold near; omega)

/-- what the reference makes of numbers of true and false elements -/
def ofF (K N M y n : Int) : Int := if K = 0 then (if 0 < n then 0 else 1) else if K = 1 then min y 1 else if K = 2 then min y (N + 1) else y % M

theorem rof_All (y n : Int) (hy0 : 0 ≤ y) (hy1 : y ≤ 1000000) (w : World) :
    Calls Try.prog 14 #[.agg #[.int .i64 0, .int .i64 0, .int .i64 0], .int .i64 y, .int .i64 n] w fun e w' => e = .returned (.int .i64 (if 0 < n then 0 else 1)) ∧ ∃ x, w' = beyond w x := by
  go_enter Try.func14, Try.ntmps14
  go_wp2
  all_goals go_ret
  all_goals (refine ⟨ret_int ?_, beyond_of (by repeat (first | exact Below.refl _ _ | exact below_beyond _ _ | refine Below.beyond ?_ (by simp [size_beyond] <;> omega) _ | refine Below.drew ?_ | refine Below.alloc ?_ (by simp [size_beyond] <;> omega) _ | refine Below.setCell ?_ (by simp [size_beyond] <;> omega) _))⟩; first | rfl | omega)

theorem rof_Any (y n : Int) (hy0 : 0 ≤ y) (hy1 : y ≤ 1000000) (w : World) :
    Calls Try.prog 14 #[.agg #[.int .i64 1, .int .i64 0, .int .i64 0], .int .i64 y, .int .i64 n] w fun e w' => e = .returned (.int .i64 (min y 1)) ∧ ∃ x, w' = beyond w x := by
  go_enter Try.func14, Try.ntmps14
  go_wp2
  all_goals go_ret
  all_goals (refine ⟨ret_int ?_, beyond_of (by repeat (first | exact Below.refl _ _ | exact below_beyond _ _ | refine Below.beyond ?_ (by simp [size_beyond] <;> omega) _ | refine Below.drew ?_ | refine Below.alloc ?_ (by simp [size_beyond] <;> omega) _ | refine Below.setCell ?_ (by simp [size_beyond] <;> omega) _))⟩; first | rfl | omega)

theorem rof_Exactly (N : Int) (h1 : 0 ≤ N) (h2 : N ≤ 62) (y n : Int) (hy0 : 0 ≤ y) (hy1 : y ≤ 1000000) (w : World) :
    Calls Try.prog 14 #[.agg #[.int .i64 2, .int .i64 N, .int .i64 0], .int .i64 y, .int .i64 n] w fun e w' => e = .returned (.int .i64 (min y (N + 1))) ∧ ∃ x, w' = beyond w x := by
  go_enter Try.func14, Try.ntmps14
  go_wp2
  all_goals go_ret
  all_goals (refine ⟨ret_int ?_, beyond_of (by repeat (first | exact Below.refl _ _ | exact below_beyond _ _ | refine Below.beyond ?_ (by simp [size_beyond] <;> omega) _ | refine Below.drew ?_ | refine Below.alloc ?_ (by simp [size_beyond] <;> omega) _ | refine Below.setCell ?_ (by simp [size_beyond] <;> omega) _))⟩; first | rfl | omega)

theorem rof_Modulo (N M : Int) (h1 : 1 ≤ M) (h2 : M ≤ 64) (h3 : 0 ≤ N) (h4 : N < M) (y n : Int) (hy0 : 0 ≤ y) (hy1 : y ≤ 1000000) (w : World) :
    Calls Try.prog 14 #[.agg #[.int .i64 3, .int .i64 N, .int .i64 M], .int .i64 y, .int .i64 n] w fun e w' => e = .returned (.int .i64 (y % M)) ∧ ∃ x, w' = beyond w x := by
  go_enter Try.func14, Try.ntmps14
  go_wp2
  all_goals go_ret
  all_goals (refine ⟨ret_int ?_, beyond_of (by repeat (first | exact Below.refl _ _ | exact below_beyond _ _ | refine Below.beyond ?_ (by simp [size_beyond] <;> omega) _ | refine Below.drew ?_ | refine Below.alloc ?_ (by simp [size_beyond] <;> omega) _ | refine Below.setCell ?_ (by simp [size_beyond] <;> omega) _))⟩; first | rfl | omega)

theorem rof_calls {K N M : Int} (hV : V K N M) (y n : Int) (hy0 : 0 ≤ y) (hy1 : y ≤ 1000000) (w : World) :
    Calls Try.prog 14 #[.agg #[.int .i64 K, .int .i64 N, .int .i64 M], .int .i64 y, .int .i64 n] w fun e w' => e = .returned (.int .i64 (ofF K N M y n)) ∧ ∃ x, w' = beyond w x := by
  rcases hV with ⟨rfl, rfl, rfl⟩ | ⟨rfl, rfl, rfl⟩ | ⟨rfl, rfl, h1, h2⟩ | ⟨rfl, h1, h2, h3, h4⟩
  · exact (rof_All _ _ hy0 hy1 _).mono fun e w' ⟨he, hx⟩ => ⟨by rw [he]; simp [ofF], hx⟩
  · exact (rof_Any _ _ hy0 hy1 _).mono fun e w' ⟨he, hx⟩ => ⟨by rw [he]; simp [ofF], hx⟩
  · exact (rof_Exactly _ h1 h2 _ _ hy0 hy1 _).mono fun e w' ⟨he, hx⟩ => ⟨by rw [he]; simp [ofF], hx⟩
  · exact (rof_Modulo _ _ h1 h2 h3 h4 _ _ hy0 hy1 _).mono fun e w' ⟨he, hx⟩ => ⟨by rw [he]; simp [ofF], hx⟩

theorem rthings0_calls (N M a : Int) (ha : 0 ≤ a) (ha' : a ≤ 100) (w : World) :
    Calls Try.prog 29 #[.agg #[.int .i64 0, .int .i64 N, .int .i64 M], .int .i64 a] w fun e w' => e = .returned (.tuple #[.int .i64 0, .int .i64 (1 - a)]) ∧ ∃ x, w' = beyond w x := by
  go_enter Try.func29, Try.ntmps29
  go_wp2
  go_ret2
  exact ⟨rfl, beyond_of (by repeat (first | exact Below.refl _ _ | exact below_beyond _ _ | refine Below.beyond ?_ (by simp [size_beyond] <;> omega) _ | refine Below.drew ?_ | refine Below.alloc ?_ (by simp [size_beyond] <;> omega) _ | refine Below.setCell ?_ (by simp [size_beyond] <;> omega) _))⟩

theorem rthings1_calls (K N M a : Int) (hK : (K == 0) = false) (w : World) :
    Calls Try.prog 29 #[.agg #[.int .i64 K, .int .i64 N, .int .i64 M], .int .i64 a] w fun e w' => e = .returned (.tuple #[.int .i64 a, .int .i64 0]) ∧ ∃ x, w' = beyond w x := by
  go_enter Try.func29, Try.ntmps29
  go_wp2
  go_ret2
  exact ⟨rfl, beyond_of (by repeat (first | exact Below.refl _ _ | exact below_beyond _ _ | refine Below.beyond ?_ (by simp [size_beyond] <;> omega) _ | refine Below.drew ?_ | refine Below.alloc ?_ (by simp [size_beyond] <;> omega) _ | refine Below.setCell ?_ (by simp [size_beyond] <;> omega) _))⟩

theorem radd_calls {K N M : Int} (hV : V K N M) (a b : Int) (w : World) :
    Calls Try.prog 17 #[.agg #[.int .i64 K, .int .i64 N, .int .i64 M], .int .i64 a, .int .i64 b] w fun e w' => e = .returned (.int .i64 (add K N M a b)) ∧ ∃ x, w' = beyond w x := by
  obtain ⟨hs1, hs2⟩ := sz_pos hV
  obtain ⟨ha1, ha2⟩ := near_in hV a
  obtain ⟨hb1, hb2⟩ := near_in hV b
  have HS := Lib.hid (And.intro ha2 hb2)
  have ha3 : near K N M a ≤ 100 := by omega
  have hb3 : near K N M b ≤ 100 := by omega
  clear ha2 hb2 hs1 hs2
  by_cases hK : K = 0
  · subst hK
    go_enter Try.func17, Try.ntmps17
    go_wp2
    refine wp_region_beyond (by kernel_rfl) (by kernel_rfl) ?_
    repeat (go_big_quiet_step (first | (go_at_call 21; exact quiet_beyond (rvalue_calls hV _ _)) | (go_at_call 29; exact quiet_beyond (rthings0_calls _ _ _ ha1 ha3 _))))
    refine wpQuiet_nil ?_
    rintro _ ⟨x, rfl⟩
    go_wp2
    refine wp_region_beyond (by kernel_rfl) (by kernel_rfl) ?_
    repeat (go_big_quiet_step (first | (go_at_call 21; exact quiet_beyond (rvalue_calls hV _ _)) | (go_at_call 29; exact quiet_beyond (rthings0_calls _ _ _ hb1 hb3 _))))
    refine wpQuiet_nil ?_
    rintro _ ⟨x2, rfl⟩
    go_wp2_with ((go_at_call 14; refine (rof_calls hV _ _ (by omega) (by omega) _).mono ?_; rintro e w1 ⟨rfl, x1, rfl⟩))
    go_ret
    refine ⟨ret_int ?_, beyond_of (by repeat (first | exact Below.refl _ _ | exact below_beyond _ _ | refine Below.beyond ?_ (by simp [size_beyond] <;> omega) _ | refine Below.drew ?_ | refine Below.alloc ?_ (by simp [size_beyond] <;> omega) _ | refine Below.setCell ?_ (by simp [size_beyond] <;> omega) _))⟩
    obtain ⟨q1, q2⟩ := HS.out
    simp [sz] at q1 q2
    simp [ofF, add, plus]
    omega
  · have hb : (K == 0) = false := by simpa using hK
    have HK := Lib.hid hK; clear hK
    go_enter Try.func17, Try.ntmps17
    go_wp2
    refine wp_region_beyond (by kernel_rfl) (by kernel_rfl) ?_
    repeat (go_big_quiet_step (first | (go_at_call 21; exact quiet_beyond (rvalue_calls hV _ _)) | (go_at_call 29; exact quiet_beyond (rthings1_calls _ _ _ _ hb _))))
    refine wpQuiet_nil ?_
    rintro _ ⟨x, rfl⟩
    go_wp2
    refine wp_region_beyond (by kernel_rfl) (by kernel_rfl) ?_
    repeat (go_big_quiet_step (first | (go_at_call 21; exact quiet_beyond (rvalue_calls hV _ _)) | (go_at_call 29; exact quiet_beyond (rthings1_calls _ _ _ _ hb _))))
    refine wpQuiet_nil ?_
    rintro _ ⟨x2, rfl⟩
    go_wp2_with ((go_at_call 14; refine (rof_calls hV _ _ (by omega) (by omega) _).mono ?_; rintro e w1 ⟨rfl, x1, rfl⟩))
    go_ret
    refine ⟨ret_int ?_, beyond_of (by repeat (first | exact Below.refl _ _ | exact below_beyond _ _ | refine Below.beyond ?_ (by simp [size_beyond] <;> omega) _ | refine Below.drew ?_ | refine Below.alloc ?_ (by simp [size_beyond] <;> omega) _ | refine Below.setCell ?_ (by simp [size_beyond] <;> omega) _))⟩
    obtain ⟨q1, q2⟩ := HS.out
    have hK := HK.out
    rcases hV with ⟨rfl, rfl, rfl⟩ | ⟨rfl, rfl, rfl⟩ | ⟨rfl, rfl, h1, h2⟩ | ⟨rfl, h1, h2, h3, h4⟩
    · exact absurd rfl hK
    · simp [sz] at q1 q2
      simp [ofF, add, plus]
      omega
    · simp [ofF, add, plus]
    · simp [ofF, add, plus]

end Go.Proofs.Ytfpmimfglikklaa.mono
