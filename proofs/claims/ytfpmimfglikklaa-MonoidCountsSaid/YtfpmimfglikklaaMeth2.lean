/-
  Size, Identity, Value, nearest of a valid monoid.
-/
import Derived.Test.YtfpmimfglikklaaMeth
set_option linter.unusedSimpArgs false
set_option linter.unusedVariables false
namespace Go.Proofs.Ytfpmimfglikklaa.mono
open Go.RowKit Go.Own
set_option maxHeartbeats 400000
theorem size_All (w : World) :
    Calls Try.prog 19 #[.agg #[.int .i64 0, .int .i64 0, .int .i64 0]] w fun e w' => e = .returned (.int .i64 2) ∧ ∃ x, w' = beyond w x := by
  have hf2 := kAll_2
  go_enter Try.func19, Try.ntmps19
  go_wp2_with (first | (go_at_call 27; refine (kind_All _).mono ?_; rintro e w1 ⟨rfl, x1, rfl⟩) | (go_at_call 35; refine (two_calls _ _ _ _).mono ?_; rintro e w1 ⟨rfl, x1, rfl⟩) | (refine wpList_store_block rfl 50 _ _ rfl _ _ 50 _ rfl rfl (by simp [go_sem] <;> rfl) (by kernel_rfl) (by kernel_rfl) (by kernel_rfl) ?_))
  all_goals go_ret
  all_goals exact ⟨rfl, beyond_of (by repeat (first | exact Below.refl _ _ | exact below_beyond _ _ | refine Below.beyond ?_ (by simp [size_beyond] <;> omega) _ | refine Below.drew ?_ | refine Below.alloc ?_ (by simp [size_beyond] <;> omega) _ | refine Below.setCell ?_ (by simp [size_beyond] <;> omega) _))⟩

theorem identity_All (w : World) :
    Calls Try.prog 13 #[.agg #[.int .i64 0, .int .i64 0, .int .i64 0]] w fun e w' => e = .returned (.int .i64 1) ∧ ∃ x, w' = beyond w x := by
  have hf3 := kAll_3
  go_enter Try.func13, Try.ntmps13
  go_wp2_with (first | (go_at_call 27; refine (kind_All _).mono ?_; rintro e w1 ⟨rfl, x1, rfl⟩) | (refine wpList_store_block rfl 50 _ _ rfl _ _ 50 _ rfl rfl (by simp [go_sem] <;> rfl) (by kernel_rfl) (by kernel_rfl) (by kernel_rfl) ?_))
  all_goals go_ret
  all_goals exact ⟨rfl, beyond_of (by repeat (first | exact Below.refl _ _ | exact below_beyond _ _ | refine Below.beyond ?_ (by simp [size_beyond] <;> omega) _ | refine Below.drew ?_ | refine Below.alloc ?_ (by simp [size_beyond] <;> omega) _ | refine Below.setCell ?_ (by simp [size_beyond] <;> omega) _))⟩

theorem valueT_All (w : World) :
    Calls Try.prog 15 #[.agg #[.int .i64 0, .int .i64 0, .int .i64 0], .bool true] w fun e w' => e = .returned (.int .i64 1) ∧ ∃ x, w' = beyond w x := by
  have hf4 := kAll_4
  go_enter Try.func15, Try.ntmps15
  go_wp2_with (first | (go_at_call 27; refine (kind_All _).mono ?_; rintro e w1 ⟨rfl, x1, rfl⟩) | (go_at_call 36; refine (one_calls _ _ _ _).mono ?_; rintro e w1 ⟨rfl, x1, rfl⟩) | (refine wpList_store_block rfl 50 _ _ rfl _ _ 50 _ rfl rfl (by simp [go_sem] <;> rfl) (by kernel_rfl) (by kernel_rfl) (by kernel_rfl) ?_))
  all_goals go_ret
  all_goals exact ⟨rfl, beyond_of (by repeat (first | exact Below.refl _ _ | exact below_beyond _ _ | refine Below.beyond ?_ (by simp [size_beyond] <;> omega) _ | refine Below.drew ?_ | refine Below.alloc ?_ (by simp [size_beyond] <;> omega) _ | refine Below.setCell ?_ (by simp [size_beyond] <;> omega) _))⟩

theorem valueF_All (w : World) :
    Calls Try.prog 15 #[.agg #[.int .i64 0, .int .i64 0, .int .i64 0], .bool false] w fun e w' => e = .returned (.int .i64 0) ∧ ∃ x, w' = beyond w x := by
  have hf4 := kAll_4
  go_enter Try.func15, Try.ntmps15
  go_wp2_with (first | (go_at_call 27; refine (kind_All _).mono ?_; rintro e w1 ⟨rfl, x1, rfl⟩) | (refine wpList_store_block rfl 50 _ _ rfl _ _ 50 _ rfl rfl (by simp [go_sem] <;> rfl) (by kernel_rfl) (by kernel_rfl) (by kernel_rfl) ?_))
  all_goals go_ret
  all_goals exact ⟨rfl, beyond_of (by repeat (first | exact Below.refl _ _ | exact below_beyond _ _ | refine Below.beyond ?_ (by simp [size_beyond] <;> omega) _ | refine Below.drew ?_ | refine Below.alloc ?_ (by simp [size_beyond] <;> omega) _ | refine Below.setCell ?_ (by simp [size_beyond] <;> omega) _))⟩

theorem nearest_All (a : Int) (w : World) :
    Calls Try.prog 28 #[.agg #[.int .i64 0, .int .i64 0, .int .i64 0], .int .i64 a] w fun e w' => e = .returned (.int .i64 (min (max a 0) (2 - 1))) ∧ ∃ x, w' = beyond w x := by
  go_enter Try.func28, Try.ntmps28
  go_wp2_with (first | (go_at_call 19; refine (size_All _).mono ?_; rintro e w1 ⟨rfl, x1, rfl⟩))
  all_goals go_ret
  all_goals (refine ⟨ret_int ?_, beyond_of (by repeat (first | exact Below.refl _ _ | exact below_beyond _ _ | refine Below.beyond ?_ (by simp [size_beyond] <;> omega) _ | refine Below.drew ?_ | refine Below.alloc ?_ (by simp [size_beyond] <;> omega) _ | refine Below.setCell ?_ (by simp [size_beyond] <;> omega) _))⟩; omega)

theorem size_Any (w : World) :
    Calls Try.prog 19 #[.agg #[.int .i64 1, .int .i64 0, .int .i64 0]] w fun e w' => e = .returned (.int .i64 2) ∧ ∃ x, w' = beyond w x := by
  have hf2 := kAny_2
  go_enter Try.func19, Try.ntmps19
  go_wp2_with (first | (go_at_call 27; refine (kind_Any _).mono ?_; rintro e w1 ⟨rfl, x1, rfl⟩) | (go_at_call 35; refine (two_calls _ _ _ _).mono ?_; rintro e w1 ⟨rfl, x1, rfl⟩) | (refine wpList_store_block rfl 50 _ _ rfl _ _ 50 _ rfl rfl (by simp [go_sem] <;> rfl) (by kernel_rfl) (by kernel_rfl) (by kernel_rfl) ?_))
  all_goals go_ret
  all_goals exact ⟨rfl, beyond_of (by repeat (first | exact Below.refl _ _ | exact below_beyond _ _ | refine Below.beyond ?_ (by simp [size_beyond] <;> omega) _ | refine Below.drew ?_ | refine Below.alloc ?_ (by simp [size_beyond] <;> omega) _ | refine Below.setCell ?_ (by simp [size_beyond] <;> omega) _))⟩

theorem identity_Any (w : World) :
    Calls Try.prog 13 #[.agg #[.int .i64 1, .int .i64 0, .int .i64 0]] w fun e w' => e = .returned (.int .i64 0) ∧ ∃ x, w' = beyond w x := by
  have hf3 := kAny_3
  go_enter Try.func13, Try.ntmps13
  go_wp2_with (first | (go_at_call 27; refine (kind_Any _).mono ?_; rintro e w1 ⟨rfl, x1, rfl⟩) | (refine wpList_store_block rfl 50 _ _ rfl _ _ 50 _ rfl rfl (by simp [go_sem] <;> rfl) (by kernel_rfl) (by kernel_rfl) (by kernel_rfl) ?_))
  all_goals go_ret
  all_goals exact ⟨rfl, beyond_of (by repeat (first | exact Below.refl _ _ | exact below_beyond _ _ | refine Below.beyond ?_ (by simp [size_beyond] <;> omega) _ | refine Below.drew ?_ | refine Below.alloc ?_ (by simp [size_beyond] <;> omega) _ | refine Below.setCell ?_ (by simp [size_beyond] <;> omega) _))⟩

theorem valueT_Any (w : World) :
    Calls Try.prog 15 #[.agg #[.int .i64 1, .int .i64 0, .int .i64 0], .bool true] w fun e w' => e = .returned (.int .i64 1) ∧ ∃ x, w' = beyond w x := by
  have hf4 := kAny_4
  go_enter Try.func15, Try.ntmps15
  go_wp2_with (first | (go_at_call 27; refine (kind_Any _).mono ?_; rintro e w1 ⟨rfl, x1, rfl⟩) | (go_at_call 36; refine (one_calls _ _ _ _).mono ?_; rintro e w1 ⟨rfl, x1, rfl⟩) | (refine wpList_store_block rfl 50 _ _ rfl _ _ 50 _ rfl rfl (by simp [go_sem] <;> rfl) (by kernel_rfl) (by kernel_rfl) (by kernel_rfl) ?_))
  all_goals go_ret
  all_goals exact ⟨rfl, beyond_of (by repeat (first | exact Below.refl _ _ | exact below_beyond _ _ | refine Below.beyond ?_ (by simp [size_beyond] <;> omega) _ | refine Below.drew ?_ | refine Below.alloc ?_ (by simp [size_beyond] <;> omega) _ | refine Below.setCell ?_ (by simp [size_beyond] <;> omega) _))⟩

theorem valueF_Any (w : World) :
    Calls Try.prog 15 #[.agg #[.int .i64 1, .int .i64 0, .int .i64 0], .bool false] w fun e w' => e = .returned (.int .i64 0) ∧ ∃ x, w' = beyond w x := by
  have hf4 := kAny_4
  go_enter Try.func15, Try.ntmps15
  go_wp2_with (first | (go_at_call 27; refine (kind_Any _).mono ?_; rintro e w1 ⟨rfl, x1, rfl⟩) | (refine wpList_store_block rfl 50 _ _ rfl _ _ 50 _ rfl rfl (by simp [go_sem] <;> rfl) (by kernel_rfl) (by kernel_rfl) (by kernel_rfl) ?_))
  all_goals go_ret
  all_goals exact ⟨rfl, beyond_of (by repeat (first | exact Below.refl _ _ | exact below_beyond _ _ | refine Below.beyond ?_ (by simp [size_beyond] <;> omega) _ | refine Below.drew ?_ | refine Below.alloc ?_ (by simp [size_beyond] <;> omega) _ | refine Below.setCell ?_ (by simp [size_beyond] <;> omega) _))⟩

theorem nearest_Any (a : Int) (w : World) :
    Calls Try.prog 28 #[.agg #[.int .i64 1, .int .i64 0, .int .i64 0], .int .i64 a] w fun e w' => e = .returned (.int .i64 (min (max a 0) (2 - 1))) ∧ ∃ x, w' = beyond w x := by
  go_enter Try.func28, Try.ntmps28
  go_wp2_with (first | (go_at_call 19; refine (size_Any _).mono ?_; rintro e w1 ⟨rfl, x1, rfl⟩))
  all_goals go_ret
  all_goals (refine ⟨ret_int ?_, beyond_of (by repeat (first | exact Below.refl _ _ | exact below_beyond _ _ | refine Below.beyond ?_ (by simp [size_beyond] <;> omega) _ | refine Below.drew ?_ | refine Below.alloc ?_ (by simp [size_beyond] <;> omega) _ | refine Below.setCell ?_ (by simp [size_beyond] <;> omega) _))⟩; omega)

theorem size_Exactly (N : Int) (h1 : 0 ≤ N) (h2 : N ≤ 62) (w : World) :
    Calls Try.prog 19 #[.agg #[.int .i64 2, .int .i64 N, .int .i64 0]] w fun e w' => e = .returned (.int .i64 (N + 2)) ∧ ∃ x, w' = beyond w x := by
  have hf2 := kExactly_2
  go_enter Try.func19, Try.ntmps19
  go_wp2_with (first | (go_at_call 27; refine (kind_Exactly N h1 h2 _).mono ?_; rintro e w1 ⟨rfl, x1, rfl⟩) | (go_at_call 45; refine (sizeExactly_calls _ _ _ _ h1 h2).mono ?_; rintro e w1 ⟨rfl, x1, rfl⟩) | (refine wpList_store_block rfl 50 _ _ rfl _ _ 50 _ rfl rfl (by simp [go_sem] <;> rfl) (by kernel_rfl) (by kernel_rfl) (by kernel_rfl) ?_))
  all_goals go_ret
  all_goals exact ⟨rfl, beyond_of (by repeat (first | exact Below.refl _ _ | exact below_beyond _ _ | refine Below.beyond ?_ (by simp [size_beyond] <;> omega) _ | refine Below.drew ?_ | refine Below.alloc ?_ (by simp [size_beyond] <;> omega) _ | refine Below.setCell ?_ (by simp [size_beyond] <;> omega) _))⟩

theorem identity_Exactly (N : Int) (h1 : 0 ≤ N) (h2 : N ≤ 62) (w : World) :
    Calls Try.prog 13 #[.agg #[.int .i64 2, .int .i64 N, .int .i64 0]] w fun e w' => e = .returned (.int .i64 0) ∧ ∃ x, w' = beyond w x := by
  have hf3 := kExactly_3
  go_enter Try.func13, Try.ntmps13
  go_wp2_with (first | (go_at_call 27; refine (kind_Exactly N h1 h2 _).mono ?_; rintro e w1 ⟨rfl, x1, rfl⟩) | (refine wpList_store_block rfl 50 _ _ rfl _ _ 50 _ rfl rfl (by simp [go_sem] <;> rfl) (by kernel_rfl) (by kernel_rfl) (by kernel_rfl) ?_))
  all_goals go_ret
  all_goals exact ⟨rfl, beyond_of (by repeat (first | exact Below.refl _ _ | exact below_beyond _ _ | refine Below.beyond ?_ (by simp [size_beyond] <;> omega) _ | refine Below.drew ?_ | refine Below.alloc ?_ (by simp [size_beyond] <;> omega) _ | refine Below.setCell ?_ (by simp [size_beyond] <;> omega) _))⟩

theorem valueT_Exactly (N : Int) (h1 : 0 ≤ N) (h2 : N ≤ 62) (w : World) :
    Calls Try.prog 15 #[.agg #[.int .i64 2, .int .i64 N, .int .i64 0], .bool true] w fun e w' => e = .returned (.int .i64 1) ∧ ∃ x, w' = beyond w x := by
  have hf4 := kExactly_4
  go_enter Try.func15, Try.ntmps15
  go_wp2_with (first | (go_at_call 27; refine (kind_Exactly N h1 h2 _).mono ?_; rintro e w1 ⟨rfl, x1, rfl⟩) | (go_at_call 36; refine (one_calls _ _ _ _).mono ?_; rintro e w1 ⟨rfl, x1, rfl⟩) | (refine wpList_store_block rfl 50 _ _ rfl _ _ 50 _ rfl rfl (by simp [go_sem] <;> rfl) (by kernel_rfl) (by kernel_rfl) (by kernel_rfl) ?_))
  all_goals go_ret
  all_goals exact ⟨rfl, beyond_of (by repeat (first | exact Below.refl _ _ | exact below_beyond _ _ | refine Below.beyond ?_ (by simp [size_beyond] <;> omega) _ | refine Below.drew ?_ | refine Below.alloc ?_ (by simp [size_beyond] <;> omega) _ | refine Below.setCell ?_ (by simp [size_beyond] <;> omega) _))⟩

theorem valueF_Exactly (N : Int) (h1 : 0 ≤ N) (h2 : N ≤ 62) (w : World) :
    Calls Try.prog 15 #[.agg #[.int .i64 2, .int .i64 N, .int .i64 0], .bool false] w fun e w' => e = .returned (.int .i64 0) ∧ ∃ x, w' = beyond w x := by
  have hf4 := kExactly_4
  go_enter Try.func15, Try.ntmps15
  go_wp2_with (first | (go_at_call 27; refine (kind_Exactly N h1 h2 _).mono ?_; rintro e w1 ⟨rfl, x1, rfl⟩) | (refine wpList_store_block rfl 50 _ _ rfl _ _ 50 _ rfl rfl (by simp [go_sem] <;> rfl) (by kernel_rfl) (by kernel_rfl) (by kernel_rfl) ?_))
  all_goals go_ret
  all_goals exact ⟨rfl, beyond_of (by repeat (first | exact Below.refl _ _ | exact below_beyond _ _ | refine Below.beyond ?_ (by simp [size_beyond] <;> omega) _ | refine Below.drew ?_ | refine Below.alloc ?_ (by simp [size_beyond] <;> omega) _ | refine Below.setCell ?_ (by simp [size_beyond] <;> omega) _))⟩

theorem nearest_Exactly (N : Int) (h1 : 0 ≤ N) (h2 : N ≤ 62) (a : Int) (w : World) :
    Calls Try.prog 28 #[.agg #[.int .i64 2, .int .i64 N, .int .i64 0], .int .i64 a] w fun e w' => e = .returned (.int .i64 (min (max a 0) ((N + 2) - 1))) ∧ ∃ x, w' = beyond w x := by
  go_enter Try.func28, Try.ntmps28
  go_wp2_with (first | (go_at_call 19; refine (size_Exactly N h1 h2 _).mono ?_; rintro e w1 ⟨rfl, x1, rfl⟩))
  all_goals go_ret
  all_goals (refine ⟨ret_int ?_, beyond_of (by repeat (first | exact Below.refl _ _ | exact below_beyond _ _ | refine Below.beyond ?_ (by simp [size_beyond] <;> omega) _ | refine Below.drew ?_ | refine Below.alloc ?_ (by simp [size_beyond] <;> omega) _ | refine Below.setCell ?_ (by simp [size_beyond] <;> omega) _))⟩; omega)

theorem size_Modulo (N M : Int) (h1 : 1 ≤ M) (h2 : M ≤ 64) (h3 : 0 ≤ N) (h4 : N < M) (w : World) :
    Calls Try.prog 19 #[.agg #[.int .i64 3, .int .i64 N, .int .i64 M]] w fun e w' => e = .returned (.int .i64 M) ∧ ∃ x, w' = beyond w x := by
  have hf2 := kModulo_2
  go_enter Try.func19, Try.ntmps19
  go_wp2_with (first | (go_at_call 27; refine (kind_Modulo N M h1 h2 h3 h4 _).mono ?_; rintro e w1 ⟨rfl, x1, rfl⟩) | (go_at_call 49; refine (sizeModulo_calls _ _ _ _).mono ?_; rintro e w1 ⟨rfl, x1, rfl⟩) | (refine wpList_store_block rfl 50 _ _ rfl _ _ 50 _ rfl rfl (by simp [go_sem] <;> rfl) (by kernel_rfl) (by kernel_rfl) (by kernel_rfl) ?_))
  all_goals go_ret
  all_goals exact ⟨rfl, beyond_of (by repeat (first | exact Below.refl _ _ | exact below_beyond _ _ | refine Below.beyond ?_ (by simp [size_beyond] <;> omega) _ | refine Below.drew ?_ | refine Below.alloc ?_ (by simp [size_beyond] <;> omega) _ | refine Below.setCell ?_ (by simp [size_beyond] <;> omega) _))⟩

theorem identity_Modulo (N M : Int) (h1 : 1 ≤ M) (h2 : M ≤ 64) (h3 : 0 ≤ N) (h4 : N < M) (w : World) :
    Calls Try.prog 13 #[.agg #[.int .i64 3, .int .i64 N, .int .i64 M]] w fun e w' => e = .returned (.int .i64 0) ∧ ∃ x, w' = beyond w x := by
  have hf3 := kModulo_3
  go_enter Try.func13, Try.ntmps13
  go_wp2_with (first | (go_at_call 27; refine (kind_Modulo N M h1 h2 h3 h4 _).mono ?_; rintro e w1 ⟨rfl, x1, rfl⟩) | (refine wpList_store_block rfl 50 _ _ rfl _ _ 50 _ rfl rfl (by simp [go_sem] <;> rfl) (by kernel_rfl) (by kernel_rfl) (by kernel_rfl) ?_))
  all_goals go_ret
  all_goals exact ⟨rfl, beyond_of (by repeat (first | exact Below.refl _ _ | exact below_beyond _ _ | refine Below.beyond ?_ (by simp [size_beyond] <;> omega) _ | refine Below.drew ?_ | refine Below.alloc ?_ (by simp [size_beyond] <;> omega) _ | refine Below.setCell ?_ (by simp [size_beyond] <;> omega) _))⟩

theorem valueT_Modulo (N M : Int) (h1 : 1 ≤ M) (h2 : M ≤ 64) (h3 : 0 ≤ N) (h4 : N < M) (w : World) :
    Calls Try.prog 15 #[.agg #[.int .i64 3, .int .i64 N, .int .i64 M], .bool true] w fun e w' => e = .returned (.int .i64 (1 % M)) ∧ ∃ x, w' = beyond w x := by
  have hf4 := kModulo_4
  go_enter Try.func15, Try.ntmps15
  go_wp2_with (first | (go_at_call 27; refine (kind_Modulo N M h1 h2 h3 h4 _).mono ?_; rintro e w1 ⟨rfl, x1, rfl⟩) | (go_at_call 50; refine (oneModulo_calls _ _ _ _ h1 h2).mono ?_; rintro e w1 ⟨rfl, x1, rfl⟩) | (refine wpList_store_block rfl 50 _ _ rfl _ _ 50 _ rfl rfl (by simp [go_sem] <;> rfl) (by kernel_rfl) (by kernel_rfl) (by kernel_rfl) ?_))
  all_goals go_ret
  all_goals exact ⟨rfl, beyond_of (by repeat (first | exact Below.refl _ _ | exact below_beyond _ _ | refine Below.beyond ?_ (by simp [size_beyond] <;> omega) _ | refine Below.drew ?_ | refine Below.alloc ?_ (by simp [size_beyond] <;> omega) _ | refine Below.setCell ?_ (by simp [size_beyond] <;> omega) _))⟩

theorem valueF_Modulo (N M : Int) (h1 : 1 ≤ M) (h2 : M ≤ 64) (h3 : 0 ≤ N) (h4 : N < M) (w : World) :
    Calls Try.prog 15 #[.agg #[.int .i64 3, .int .i64 N, .int .i64 M], .bool false] w fun e w' => e = .returned (.int .i64 0) ∧ ∃ x, w' = beyond w x := by
  have hf4 := kModulo_4
  go_enter Try.func15, Try.ntmps15
  go_wp2_with (first | (go_at_call 27; refine (kind_Modulo N M h1 h2 h3 h4 _).mono ?_; rintro e w1 ⟨rfl, x1, rfl⟩) | (refine wpList_store_block rfl 50 _ _ rfl _ _ 50 _ rfl rfl (by simp [go_sem] <;> rfl) (by kernel_rfl) (by kernel_rfl) (by kernel_rfl) ?_))
  all_goals go_ret
  all_goals exact ⟨rfl, beyond_of (by repeat (first | exact Below.refl _ _ | exact below_beyond _ _ | refine Below.beyond ?_ (by simp [size_beyond] <;> omega) _ | refine Below.drew ?_ | refine Below.alloc ?_ (by simp [size_beyond] <;> omega) _ | refine Below.setCell ?_ (by simp [size_beyond] <;> omega) _))⟩

theorem nearest_Modulo (N M : Int) (h1 : 1 ≤ M) (h2 : M ≤ 64) (h3 : 0 ≤ N) (h4 : N < M) (a : Int) (w : World) :
    Calls Try.prog 28 #[.agg #[.int .i64 3, .int .i64 N, .int .i64 M], .int .i64 a] w fun e w' => e = .returned (.int .i64 (min (max a 0) (M - 1))) ∧ ∃ x, w' = beyond w x := by
  go_enter Try.func28, Try.ntmps28
  go_wp2_with (first | (go_at_call 19; refine (size_Modulo N M h1 h2 h3 h4 _).mono ?_; rintro e w1 ⟨rfl, x1, rfl⟩))
  all_goals go_ret
  all_goals (refine ⟨ret_int ?_, beyond_of (by repeat (first | exact Below.refl _ _ | exact below_beyond _ _ | refine Below.beyond ?_ (by simp [size_beyond] <;> omega) _ | refine Below.drew ?_ | refine Below.alloc ?_ (by simp [size_beyond] <;> omega) _ | refine Below.setCell ?_ (by simp [size_beyond] <;> omega) _))⟩; omega)

end Go.Proofs.Ytfpmimfglikklaa.mono
