/-
  Add, isValue, Accepts, Dead, Universal of a valid monoid.
-/
import Derived.Test.YtfpmimfglikklaaMeth2
set_option linter.unusedSimpArgs false
set_option linter.unusedVariables false
namespace Go.Proofs.Ytfpmimfglikklaa.mono
open Go.RowKit Go.Own
set_option maxHeartbeats 400000
theorem add_All (a b : Int) (w : World) :
    Calls Try.prog 16 #[.agg #[.int .i64 0, .int .i64 0, .int .i64 0], .int .i64 a, .int .i64 b] w fun e w' => e = .returned (.int .i64 (min (min (max a 0) (2 - 1)) (min (max b 0) (2 - 1)))) ∧ ∃ x, w' = beyond w x := by
  have hf5 := kAll_5
  go_enter Try.func16, Try.ntmps16
  go_wp2_with (first | (go_at_call 27; refine (kind_All _).mono ?_; rintro e w1 ⟨rfl, x1, rfl⟩) | (refine wpList_store_block rfl 50 _ _ rfl _ _ 50 _ rfl rfl (by simp [go_sem] <;> rfl) (by kernel_rfl) (by kernel_rfl) (by kernel_rfl) ?_))
  refine wp_region_beyond (by kernel_rfl) (by kernel_rfl) ?_
  repeat (go_big_quiet_step (first | (go_at_call 28; exact quiet_beyond (nearest_All _ _)) | (go_at_call 40; exact quiet_beyond (addAll_calls _ _ _ _ _ _))))
  refine wpQuiet_nil ?_
  rintro _ ⟨x, rfl⟩
  go_wp2
  go_ret
  exact ⟨rfl, beyond_of (by repeat (first | exact Below.refl _ _ | exact below_beyond _ _ | refine Below.beyond ?_ (by simp [size_beyond] <;> omega) _ | refine Below.drew ?_ | refine Below.alloc ?_ (by simp [size_beyond] <;> omega) _ | refine Below.setCell ?_ (by simp [size_beyond] <;> omega) _))⟩

theorem add_Any (a b : Int) (w : World) :
    Calls Try.prog 16 #[.agg #[.int .i64 1, .int .i64 0, .int .i64 0], .int .i64 a, .int .i64 b] w fun e w' => e = .returned (.int .i64 (max (min (max a 0) (2 - 1)) (min (max b 0) (2 - 1)))) ∧ ∃ x, w' = beyond w x := by
  have hf5 := kAny_5
  go_enter Try.func16, Try.ntmps16
  go_wp2_with (first | (go_at_call 27; refine (kind_Any _).mono ?_; rintro e w1 ⟨rfl, x1, rfl⟩) | (refine wpList_store_block rfl 50 _ _ rfl _ _ 50 _ rfl rfl (by simp [go_sem] <;> rfl) (by kernel_rfl) (by kernel_rfl) (by kernel_rfl) ?_))
  refine wp_region_beyond (by kernel_rfl) (by kernel_rfl) ?_
  repeat (go_big_quiet_step (first | (go_at_call 28; exact quiet_beyond (nearest_Any _ _)) | (go_at_call 42; exact quiet_beyond (addAny_calls _ _ _ _ _ _))))
  refine wpQuiet_nil ?_
  rintro _ ⟨x, rfl⟩
  go_wp2
  go_ret
  exact ⟨rfl, beyond_of (by repeat (first | exact Below.refl _ _ | exact below_beyond _ _ | refine Below.beyond ?_ (by simp [size_beyond] <;> omega) _ | refine Below.drew ?_ | refine Below.alloc ?_ (by simp [size_beyond] <;> omega) _ | refine Below.setCell ?_ (by simp [size_beyond] <;> omega) _))⟩

theorem add_Exactly (N : Int) (h1 : 0 ≤ N) (h2 : N ≤ 62) (a b : Int) (w : World) :
    Calls Try.prog 16 #[.agg #[.int .i64 2, .int .i64 N, .int .i64 0], .int .i64 a, .int .i64 b] w fun e w' => e = .returned (.int .i64 (min ((min (max a 0) ((N + 2) - 1)) + (min (max b 0) ((N + 2) - 1))) (N + 1))) ∧ ∃ x, w' = beyond w x := by
  have hf5 := kExactly_5
  go_enter Try.func16, Try.ntmps16
  go_wp2_with (first | (go_at_call 27; refine (kind_Exactly N h1 h2 _).mono ?_; rintro e w1 ⟨rfl, x1, rfl⟩) | (refine wpList_store_block rfl 50 _ _ rfl _ _ 50 _ rfl rfl (by simp [go_sem] <;> rfl) (by kernel_rfl) (by kernel_rfl) (by kernel_rfl) ?_))
  refine wp_region_beyond (by kernel_rfl) (by kernel_rfl) ?_
  repeat (go_big_quiet_step (first | (go_at_call 28; exact quiet_beyond (nearest_Exactly N h1 h2 _ _)) | (go_at_call 46; exact quiet_beyond (addExactly_calls _ _ _ _ _ _ h1 h2 (by omega) (by omega) (by omega) (by omega)))))
  refine wpQuiet_nil ?_
  rintro _ ⟨x, rfl⟩
  go_wp2
  go_ret
  exact ⟨rfl, beyond_of (by repeat (first | exact Below.refl _ _ | exact below_beyond _ _ | refine Below.beyond ?_ (by simp [size_beyond] <;> omega) _ | refine Below.drew ?_ | refine Below.alloc ?_ (by simp [size_beyond] <;> omega) _ | refine Below.setCell ?_ (by simp [size_beyond] <;> omega) _))⟩

theorem add_Modulo (N M : Int) (h1 : 1 ≤ M) (h2 : M ≤ 64) (h3 : 0 ≤ N) (h4 : N < M) (a b : Int) (w : World) :
    Calls Try.prog 16 #[.agg #[.int .i64 3, .int .i64 N, .int .i64 M], .int .i64 a, .int .i64 b] w fun e w' => e = .returned (.int .i64 (((min (max a 0) (M - 1)) + (min (max b 0) (M - 1))) % M)) ∧ ∃ x, w' = beyond w x := by
  have hf5 := kModulo_5
  go_enter Try.func16, Try.ntmps16
  go_wp2_with (first | (go_at_call 27; refine (kind_Modulo N M h1 h2 h3 h4 _).mono ?_; rintro e w1 ⟨rfl, x1, rfl⟩) | (refine wpList_store_block rfl 50 _ _ rfl _ _ 50 _ rfl rfl (by simp [go_sem] <;> rfl) (by kernel_rfl) (by kernel_rfl) (by kernel_rfl) ?_))
  refine wp_region_beyond (by kernel_rfl) (by kernel_rfl) ?_
  repeat (go_big_quiet_step (first | (go_at_call 28; exact quiet_beyond (nearest_Modulo N M h1 h2 h3 h4 _ _)) | (go_at_call 51; exact quiet_beyond (addModulo_calls _ _ _ _ _ _ h1 h2 (by omega) (by omega) (by omega) (by omega)))))
  refine wpQuiet_nil ?_
  rintro _ ⟨x, rfl⟩
  go_wp2
  go_ret
  exact ⟨rfl, beyond_of (by repeat (first | exact Below.refl _ _ | exact below_beyond _ _ | refine Below.beyond ?_ (by simp [size_beyond] <;> omega) _ | refine Below.drew ?_ | refine Below.alloc ?_ (by simp [size_beyond] <;> omega) _ | refine Below.setCell ?_ (by simp [size_beyond] <;> omega) _))⟩

theorem isValueT_All (a : Int) (ha : 0 ≤ a) (hb : a < 2) (w : World) :
    Calls Try.prog 32 #[.agg #[.int .i64 0, .int .i64 0, .int .i64 0], .int .i64 a] w fun e w' => e = .returned (.bool true) ∧ ∃ x, w' = beyond w x := by
  go_enter Try.func32, Try.ntmps32
  go_wp2_with ((go_at_call 19; refine (size_All _).mono ?_; rintro e w1 ⟨rfl, x1, rfl⟩))
  go_ret
  exact ⟨rfl, beyond_of (by repeat (first | exact Below.refl _ _ | exact below_beyond _ _ | refine Below.beyond ?_ (by simp [size_beyond] <;> omega) _ | refine Below.drew ?_ | refine Below.alloc ?_ (by simp [size_beyond] <;> omega) _ | refine Below.setCell ?_ (by simp [size_beyond] <;> omega) _))⟩

theorem isValueF_All (a : Int) (h : ¬ (0 ≤ a ∧ a < 2)) (w : World) :
    Calls Try.prog 32 #[.agg #[.int .i64 0, .int .i64 0, .int .i64 0], .int .i64 a] w fun e w' => e = .returned (.bool false) ∧ ∃ x, w' = beyond w x := by
  by_cases ha : 0 ≤ a
  · have hb : ¬ a < 2 := fun hb => h ⟨ha, hb⟩
    clear h
    go_enter Try.func32, Try.ntmps32
    go_wp2_with ((go_at_call 19; refine (size_All _).mono ?_; rintro e w1 ⟨rfl, x1, rfl⟩))
    go_ret
    (refine ⟨ret_bool (by simp; omega), beyond_of (by repeat (first | exact Below.refl _ _ | exact below_beyond _ _ | refine Below.beyond ?_ (by simp [size_beyond] <;> omega) _ | refine Below.drew ?_ | refine Below.alloc ?_ (by simp [size_beyond] <;> omega) _ | refine Below.setCell ?_ (by simp [size_beyond] <;> omega) _))⟩)
  · clear h
    have ha : a < 0 := by omega
    go_enter Try.func32, Try.ntmps32
    go_wp2_with ((go_at_call 19; refine (size_All _).mono ?_; rintro e w1 ⟨rfl, x1, rfl⟩))
    go_ret
    exact ⟨rfl, beyond_of (by repeat (first | exact Below.refl _ _ | exact below_beyond _ _ | refine Below.beyond ?_ (by simp [size_beyond] <;> omega) _ | refine Below.drew ?_ | refine Below.alloc ?_ (by simp [size_beyond] <;> omega) _ | refine Below.setCell ?_ (by simp [size_beyond] <;> omega) _))⟩

theorem isValueT_Any (a : Int) (ha : 0 ≤ a) (hb : a < 2) (w : World) :
    Calls Try.prog 32 #[.agg #[.int .i64 1, .int .i64 0, .int .i64 0], .int .i64 a] w fun e w' => e = .returned (.bool true) ∧ ∃ x, w' = beyond w x := by
  go_enter Try.func32, Try.ntmps32
  go_wp2_with ((go_at_call 19; refine (size_Any _).mono ?_; rintro e w1 ⟨rfl, x1, rfl⟩))
  go_ret
  exact ⟨rfl, beyond_of (by repeat (first | exact Below.refl _ _ | exact below_beyond _ _ | refine Below.beyond ?_ (by simp [size_beyond] <;> omega) _ | refine Below.drew ?_ | refine Below.alloc ?_ (by simp [size_beyond] <;> omega) _ | refine Below.setCell ?_ (by simp [size_beyond] <;> omega) _))⟩

theorem isValueF_Any (a : Int) (h : ¬ (0 ≤ a ∧ a < 2)) (w : World) :
    Calls Try.prog 32 #[.agg #[.int .i64 1, .int .i64 0, .int .i64 0], .int .i64 a] w fun e w' => e = .returned (.bool false) ∧ ∃ x, w' = beyond w x := by
  by_cases ha : 0 ≤ a
  · have hb : ¬ a < 2 := fun hb => h ⟨ha, hb⟩
    clear h
    go_enter Try.func32, Try.ntmps32
    go_wp2_with ((go_at_call 19; refine (size_Any _).mono ?_; rintro e w1 ⟨rfl, x1, rfl⟩))
    go_ret
    (refine ⟨ret_bool (by simp; omega), beyond_of (by repeat (first | exact Below.refl _ _ | exact below_beyond _ _ | refine Below.beyond ?_ (by simp [size_beyond] <;> omega) _ | refine Below.drew ?_ | refine Below.alloc ?_ (by simp [size_beyond] <;> omega) _ | refine Below.setCell ?_ (by simp [size_beyond] <;> omega) _))⟩)
  · clear h
    have ha : a < 0 := by omega
    go_enter Try.func32, Try.ntmps32
    go_wp2_with ((go_at_call 19; refine (size_Any _).mono ?_; rintro e w1 ⟨rfl, x1, rfl⟩))
    go_ret
    exact ⟨rfl, beyond_of (by repeat (first | exact Below.refl _ _ | exact below_beyond _ _ | refine Below.beyond ?_ (by simp [size_beyond] <;> omega) _ | refine Below.drew ?_ | refine Below.alloc ?_ (by simp [size_beyond] <;> omega) _ | refine Below.setCell ?_ (by simp [size_beyond] <;> omega) _))⟩

theorem isValueT_Exactly (N : Int) (h1 : 0 ≤ N) (h2 : N ≤ 62) (a : Int) (ha : 0 ≤ a) (hb : a < (N + 2)) (w : World) :
    Calls Try.prog 32 #[.agg #[.int .i64 2, .int .i64 N, .int .i64 0], .int .i64 a] w fun e w' => e = .returned (.bool true) ∧ ∃ x, w' = beyond w x := by
  go_enter Try.func32, Try.ntmps32
  go_wp2_with ((go_at_call 19; refine (size_Exactly N h1 h2 _).mono ?_; rintro e w1 ⟨rfl, x1, rfl⟩))
  go_ret
  exact ⟨rfl, beyond_of (by repeat (first | exact Below.refl _ _ | exact below_beyond _ _ | refine Below.beyond ?_ (by simp [size_beyond] <;> omega) _ | refine Below.drew ?_ | refine Below.alloc ?_ (by simp [size_beyond] <;> omega) _ | refine Below.setCell ?_ (by simp [size_beyond] <;> omega) _))⟩

theorem isValueF_Exactly (N : Int) (h1 : 0 ≤ N) (h2 : N ≤ 62) (a : Int) (h : ¬ (0 ≤ a ∧ a < (N + 2))) (w : World) :
    Calls Try.prog 32 #[.agg #[.int .i64 2, .int .i64 N, .int .i64 0], .int .i64 a] w fun e w' => e = .returned (.bool false) ∧ ∃ x, w' = beyond w x := by
  by_cases ha : 0 ≤ a
  · have hb : ¬ a < (N + 2) := fun hb => h ⟨ha, hb⟩
    clear h
    go_enter Try.func32, Try.ntmps32
    go_wp2_with ((go_at_call 19; refine (size_Exactly N h1 h2 _).mono ?_; rintro e w1 ⟨rfl, x1, rfl⟩))
    go_ret
    (refine ⟨ret_bool (by simp; omega), beyond_of (by repeat (first | exact Below.refl _ _ | exact below_beyond _ _ | refine Below.beyond ?_ (by simp [size_beyond] <;> omega) _ | refine Below.drew ?_ | refine Below.alloc ?_ (by simp [size_beyond] <;> omega) _ | refine Below.setCell ?_ (by simp [size_beyond] <;> omega) _))⟩)
  · clear h
    have ha : a < 0 := by omega
    go_enter Try.func32, Try.ntmps32
    go_wp2_with ((go_at_call 19; refine (size_Exactly N h1 h2 _).mono ?_; rintro e w1 ⟨rfl, x1, rfl⟩))
    go_ret
    exact ⟨rfl, beyond_of (by repeat (first | exact Below.refl _ _ | exact below_beyond _ _ | refine Below.beyond ?_ (by simp [size_beyond] <;> omega) _ | refine Below.drew ?_ | refine Below.alloc ?_ (by simp [size_beyond] <;> omega) _ | refine Below.setCell ?_ (by simp [size_beyond] <;> omega) _))⟩

theorem isValueT_Modulo (N M : Int) (h1 : 1 ≤ M) (h2 : M ≤ 64) (h3 : 0 ≤ N) (h4 : N < M) (a : Int) (ha : 0 ≤ a) (hb : a < M) (w : World) :
    Calls Try.prog 32 #[.agg #[.int .i64 3, .int .i64 N, .int .i64 M], .int .i64 a] w fun e w' => e = .returned (.bool true) ∧ ∃ x, w' = beyond w x := by
  go_enter Try.func32, Try.ntmps32
  go_wp2_with ((go_at_call 19; refine (size_Modulo N M h1 h2 h3 h4 _).mono ?_; rintro e w1 ⟨rfl, x1, rfl⟩))
  go_ret
  exact ⟨rfl, beyond_of (by repeat (first | exact Below.refl _ _ | exact below_beyond _ _ | refine Below.beyond ?_ (by simp [size_beyond] <;> omega) _ | refine Below.drew ?_ | refine Below.alloc ?_ (by simp [size_beyond] <;> omega) _ | refine Below.setCell ?_ (by simp [size_beyond] <;> omega) _))⟩

theorem isValueF_Modulo (N M : Int) (h1 : 1 ≤ M) (h2 : M ≤ 64) (h3 : 0 ≤ N) (h4 : N < M) (a : Int) (h : ¬ (0 ≤ a ∧ a < M)) (w : World) :
    Calls Try.prog 32 #[.agg #[.int .i64 3, .int .i64 N, .int .i64 M], .int .i64 a] w fun e w' => e = .returned (.bool false) ∧ ∃ x, w' = beyond w x := by
  by_cases ha : 0 ≤ a
  · have hb : ¬ a < M := fun hb => h ⟨ha, hb⟩
    clear h
    go_enter Try.func32, Try.ntmps32
    go_wp2_with ((go_at_call 19; refine (size_Modulo N M h1 h2 h3 h4 _).mono ?_; rintro e w1 ⟨rfl, x1, rfl⟩))
    go_ret
    (refine ⟨ret_bool (by simp; omega), beyond_of (by repeat (first | exact Below.refl _ _ | exact below_beyond _ _ | refine Below.beyond ?_ (by simp [size_beyond] <;> omega) _ | refine Below.drew ?_ | refine Below.alloc ?_ (by simp [size_beyond] <;> omega) _ | refine Below.setCell ?_ (by simp [size_beyond] <;> omega) _))⟩)
  · clear h
    have ha : a < 0 := by omega
    go_enter Try.func32, Try.ntmps32
    go_wp2_with ((go_at_call 19; refine (size_Modulo N M h1 h2 h3 h4 _).mono ?_; rintro e w1 ⟨rfl, x1, rfl⟩))
    go_ret
    exact ⟨rfl, beyond_of (by repeat (first | exact Below.refl _ _ | exact below_beyond _ _ | refine Below.beyond ?_ (by simp [size_beyond] <;> omega) _ | refine Below.drew ?_ | refine Below.alloc ?_ (by simp [size_beyond] <;> omega) _ | refine Below.setCell ?_ (by simp [size_beyond] <;> omega) _))⟩

theorem acceptsT_All (a : Int) (ha : 0 ≤ a) (hb : a < 2) (w : World) :
    Calls Try.prog 22 #[.agg #[.int .i64 0, .int .i64 0, .int .i64 0], .int .i64 a] w fun e w' => e = .returned (.bool (a == 1)) ∧ ∃ x, w' = beyond w x := by
  have hf := kAll_6
  go_enter Try.func22, Try.ntmps22
  go_wp2_with (first | (go_at_call 27; refine (kind_All _).mono ?_; rintro e w1 ⟨rfl, x1, rfl⟩) | (go_at_call 32; refine (isValueT_All _ ha hb _).mono ?_; rintro e w1 ⟨rfl, x1, rfl⟩) | (go_at_call 36; refine (one_calls _ _ _ _).mono ?_; rintro e w1 ⟨rfl, x1, rfl⟩) | (refine wpList_store_block rfl 50 _ _ rfl _ _ 50 _ rfl rfl (by simp [go_sem] <;> rfl) (by kernel_rfl) (by kernel_rfl) (by kernel_rfl) ?_))
  go_ret
  exact ⟨rfl, beyond_of (by repeat (first | exact Below.refl _ _ | exact below_beyond _ _ | refine Below.beyond ?_ (by simp [size_beyond] <;> omega) _ | refine Below.drew ?_ | refine Below.alloc ?_ (by simp [size_beyond] <;> omega) _ | refine Below.setCell ?_ (by simp [size_beyond] <;> omega) _))⟩

theorem acceptsF_All (a : Int) (h : ¬ (0 ≤ a ∧ a < 2)) (w : World) :
    Calls Try.prog 22 #[.agg #[.int .i64 0, .int .i64 0, .int .i64 0], .int .i64 a] w fun e w' => e = .returned (.bool false) ∧ ∃ x, w' = beyond w x := by
  have hf := kAll_6
  have H := Lib.hid h; clear h
  go_enter Try.func22, Try.ntmps22
  go_wp2_with (first | (go_at_call 27; refine (kind_All _).mono ?_; rintro e w1 ⟨rfl, x1, rfl⟩) | (go_at_call 32; refine (isValueF_All _ H.out _).mono ?_; rintro e w1 ⟨rfl, x1, rfl⟩) | (refine wpList_store_block rfl 50 _ _ rfl _ _ 50 _ rfl rfl (by simp [go_sem] <;> rfl) (by kernel_rfl) (by kernel_rfl) (by kernel_rfl) ?_))
  go_ret
  exact ⟨rfl, beyond_of (by repeat (first | exact Below.refl _ _ | exact below_beyond _ _ | refine Below.beyond ?_ (by simp [size_beyond] <;> omega) _ | refine Below.drew ?_ | refine Below.alloc ?_ (by simp [size_beyond] <;> omega) _ | refine Below.setCell ?_ (by simp [size_beyond] <;> omega) _))⟩

theorem acceptsT_Any (a : Int) (ha : 0 ≤ a) (hb : a < 2) (w : World) :
    Calls Try.prog 22 #[.agg #[.int .i64 1, .int .i64 0, .int .i64 0], .int .i64 a] w fun e w' => e = .returned (.bool (a == 1)) ∧ ∃ x, w' = beyond w x := by
  have hf := kAny_6
  go_enter Try.func22, Try.ntmps22
  go_wp2_with (first | (go_at_call 27; refine (kind_Any _).mono ?_; rintro e w1 ⟨rfl, x1, rfl⟩) | (go_at_call 32; refine (isValueT_Any _ ha hb _).mono ?_; rintro e w1 ⟨rfl, x1, rfl⟩) | (go_at_call 36; refine (one_calls _ _ _ _).mono ?_; rintro e w1 ⟨rfl, x1, rfl⟩) | (refine wpList_store_block rfl 50 _ _ rfl _ _ 50 _ rfl rfl (by simp [go_sem] <;> rfl) (by kernel_rfl) (by kernel_rfl) (by kernel_rfl) ?_))
  go_ret
  exact ⟨rfl, beyond_of (by repeat (first | exact Below.refl _ _ | exact below_beyond _ _ | refine Below.beyond ?_ (by simp [size_beyond] <;> omega) _ | refine Below.drew ?_ | refine Below.alloc ?_ (by simp [size_beyond] <;> omega) _ | refine Below.setCell ?_ (by simp [size_beyond] <;> omega) _))⟩

theorem acceptsF_Any (a : Int) (h : ¬ (0 ≤ a ∧ a < 2)) (w : World) :
    Calls Try.prog 22 #[.agg #[.int .i64 1, .int .i64 0, .int .i64 0], .int .i64 a] w fun e w' => e = .returned (.bool false) ∧ ∃ x, w' = beyond w x := by
  have hf := kAny_6
  have H := Lib.hid h; clear h
  go_enter Try.func22, Try.ntmps22
  go_wp2_with (first | (go_at_call 27; refine (kind_Any _).mono ?_; rintro e w1 ⟨rfl, x1, rfl⟩) | (go_at_call 32; refine (isValueF_Any _ H.out _).mono ?_; rintro e w1 ⟨rfl, x1, rfl⟩) | (refine wpList_store_block rfl 50 _ _ rfl _ _ 50 _ rfl rfl (by simp [go_sem] <;> rfl) (by kernel_rfl) (by kernel_rfl) (by kernel_rfl) ?_))
  go_ret
  exact ⟨rfl, beyond_of (by repeat (first | exact Below.refl _ _ | exact below_beyond _ _ | refine Below.beyond ?_ (by simp [size_beyond] <;> omega) _ | refine Below.drew ?_ | refine Below.alloc ?_ (by simp [size_beyond] <;> omega) _ | refine Below.setCell ?_ (by simp [size_beyond] <;> omega) _))⟩

theorem acceptsT_Exactly (N : Int) (h1 : 0 ≤ N) (h2 : N ≤ 62) (a : Int) (ha : 0 ≤ a) (hb : a < (N + 2)) (w : World) :
    Calls Try.prog 22 #[.agg #[.int .i64 2, .int .i64 N, .int .i64 0], .int .i64 a] w fun e w' => e = .returned (.bool (a == N)) ∧ ∃ x, w' = beyond w x := by
  have hf := kExactly_6
  go_enter Try.func22, Try.ntmps22
  go_wp2_with (first | (go_at_call 27; refine (kind_Exactly N h1 h2 _).mono ?_; rintro e w1 ⟨rfl, x1, rfl⟩) | (go_at_call 32; refine (isValueT_Exactly N h1 h2 _ ha hb _).mono ?_; rintro e w1 ⟨rfl, x1, rfl⟩) | (go_at_call 37; refine (n_calls _ _ _ _).mono ?_; rintro e w1 ⟨rfl, x1, rfl⟩) | (refine wpList_store_block rfl 50 _ _ rfl _ _ 50 _ rfl rfl (by simp [go_sem] <;> rfl) (by kernel_rfl) (by kernel_rfl) (by kernel_rfl) ?_))
  go_ret
  exact ⟨rfl, beyond_of (by repeat (first | exact Below.refl _ _ | exact below_beyond _ _ | refine Below.beyond ?_ (by simp [size_beyond] <;> omega) _ | refine Below.drew ?_ | refine Below.alloc ?_ (by simp [size_beyond] <;> omega) _ | refine Below.setCell ?_ (by simp [size_beyond] <;> omega) _))⟩

theorem acceptsF_Exactly (N : Int) (h1 : 0 ≤ N) (h2 : N ≤ 62) (a : Int) (h : ¬ (0 ≤ a ∧ a < (N + 2))) (w : World) :
    Calls Try.prog 22 #[.agg #[.int .i64 2, .int .i64 N, .int .i64 0], .int .i64 a] w fun e w' => e = .returned (.bool false) ∧ ∃ x, w' = beyond w x := by
  have hf := kExactly_6
  have H := Lib.hid h; clear h
  go_enter Try.func22, Try.ntmps22
  go_wp2_with (first | (go_at_call 27; refine (kind_Exactly N h1 h2 _).mono ?_; rintro e w1 ⟨rfl, x1, rfl⟩) | (go_at_call 32; refine (isValueF_Exactly N h1 h2 _ H.out _).mono ?_; rintro e w1 ⟨rfl, x1, rfl⟩) | (refine wpList_store_block rfl 50 _ _ rfl _ _ 50 _ rfl rfl (by simp [go_sem] <;> rfl) (by kernel_rfl) (by kernel_rfl) (by kernel_rfl) ?_))
  go_ret
  exact ⟨rfl, beyond_of (by repeat (first | exact Below.refl _ _ | exact below_beyond _ _ | refine Below.beyond ?_ (by simp [size_beyond] <;> omega) _ | refine Below.drew ?_ | refine Below.alloc ?_ (by simp [size_beyond] <;> omega) _ | refine Below.setCell ?_ (by simp [size_beyond] <;> omega) _))⟩

theorem acceptsT_Modulo (N M : Int) (h1 : 1 ≤ M) (h2 : M ≤ 64) (h3 : 0 ≤ N) (h4 : N < M) (a : Int) (ha : 0 ≤ a) (hb : a < M) (w : World) :
    Calls Try.prog 22 #[.agg #[.int .i64 3, .int .i64 N, .int .i64 M], .int .i64 a] w fun e w' => e = .returned (.bool (a == N)) ∧ ∃ x, w' = beyond w x := by
  have hf := kModulo_6
  go_enter Try.func22, Try.ntmps22
  go_wp2_with (first | (go_at_call 27; refine (kind_Modulo N M h1 h2 h3 h4 _).mono ?_; rintro e w1 ⟨rfl, x1, rfl⟩) | (go_at_call 32; refine (isValueT_Modulo N M h1 h2 h3 h4 _ ha hb _).mono ?_; rintro e w1 ⟨rfl, x1, rfl⟩) | (go_at_call 37; refine (n_calls _ _ _ _).mono ?_; rintro e w1 ⟨rfl, x1, rfl⟩) | (refine wpList_store_block rfl 50 _ _ rfl _ _ 50 _ rfl rfl (by simp [go_sem] <;> rfl) (by kernel_rfl) (by kernel_rfl) (by kernel_rfl) ?_))
  go_ret
  exact ⟨rfl, beyond_of (by repeat (first | exact Below.refl _ _ | exact below_beyond _ _ | refine Below.beyond ?_ (by simp [size_beyond] <;> omega) _ | refine Below.drew ?_ | refine Below.alloc ?_ (by simp [size_beyond] <;> omega) _ | refine Below.setCell ?_ (by simp [size_beyond] <;> omega) _))⟩

theorem acceptsF_Modulo (N M : Int) (h1 : 1 ≤ M) (h2 : M ≤ 64) (h3 : 0 ≤ N) (h4 : N < M) (a : Int) (h : ¬ (0 ≤ a ∧ a < M)) (w : World) :
    Calls Try.prog 22 #[.agg #[.int .i64 3, .int .i64 N, .int .i64 M], .int .i64 a] w fun e w' => e = .returned (.bool false) ∧ ∃ x, w' = beyond w x := by
  have hf := kModulo_6
  have H := Lib.hid h; clear h
  go_enter Try.func22, Try.ntmps22
  go_wp2_with (first | (go_at_call 27; refine (kind_Modulo N M h1 h2 h3 h4 _).mono ?_; rintro e w1 ⟨rfl, x1, rfl⟩) | (go_at_call 32; refine (isValueF_Modulo N M h1 h2 h3 h4 _ H.out _).mono ?_; rintro e w1 ⟨rfl, x1, rfl⟩) | (refine wpList_store_block rfl 50 _ _ rfl _ _ 50 _ rfl rfl (by simp [go_sem] <;> rfl) (by kernel_rfl) (by kernel_rfl) (by kernel_rfl) ?_))
  go_ret
  exact ⟨rfl, beyond_of (by repeat (first | exact Below.refl _ _ | exact below_beyond _ _ | refine Below.beyond ?_ (by simp [size_beyond] <;> omega) _ | refine Below.drew ?_ | refine Below.alloc ?_ (by simp [size_beyond] <;> omega) _ | refine Below.setCell ?_ (by simp [size_beyond] <;> omega) _))⟩

theorem deadT_All (a : Int) (ha : 0 ≤ a) (hb : a < 2) (w : World) :
    Calls Try.prog 24 #[.agg #[.int .i64 0, .int .i64 0, .int .i64 0], .int .i64 a] w fun e w' => e = .returned (.bool (a == 0)) ∧ ∃ x, w' = beyond w x := by
  have hf := kAll_7
  go_enter Try.func24, Try.ntmps24
  go_wp2_with (first | (go_at_call 27; refine (kind_All _).mono ?_; rintro e w1 ⟨rfl, x1, rfl⟩) | (go_at_call 32; refine (isValueT_All _ ha hb _).mono ?_; rintro e w1 ⟨rfl, x1, rfl⟩) | (go_at_call 41; refine (deadAll_calls _ _ _ _ _).mono ?_; rintro e w1 ⟨rfl, x1, rfl⟩) | (refine wpList_store_block rfl 50 _ _ rfl _ _ 50 _ rfl rfl (by simp [go_sem] <;> rfl) (by kernel_rfl) (by kernel_rfl) (by kernel_rfl) ?_))
  go_ret
  exact ⟨rfl, beyond_of (by repeat (first | exact Below.refl _ _ | exact below_beyond _ _ | refine Below.beyond ?_ (by simp [size_beyond] <;> omega) _ | refine Below.drew ?_ | refine Below.alloc ?_ (by simp [size_beyond] <;> omega) _ | refine Below.setCell ?_ (by simp [size_beyond] <;> omega) _))⟩

theorem deadF_All (a : Int) (h : ¬ (0 ≤ a ∧ a < 2)) (w : World) :
    Calls Try.prog 24 #[.agg #[.int .i64 0, .int .i64 0, .int .i64 0], .int .i64 a] w fun e w' => e = .returned (.bool false) ∧ ∃ x, w' = beyond w x := by
  have hf := kAll_7
  have H := Lib.hid h; clear h
  go_enter Try.func24, Try.ntmps24
  go_wp2_with (first | (go_at_call 27; refine (kind_All _).mono ?_; rintro e w1 ⟨rfl, x1, rfl⟩) | (go_at_call 32; refine (isValueF_All _ H.out _).mono ?_; rintro e w1 ⟨rfl, x1, rfl⟩) | (refine wpList_store_block rfl 50 _ _ rfl _ _ 50 _ rfl rfl (by simp [go_sem] <;> rfl) (by kernel_rfl) (by kernel_rfl) (by kernel_rfl) ?_))
  go_ret
  exact ⟨rfl, beyond_of (by repeat (first | exact Below.refl _ _ | exact below_beyond _ _ | refine Below.beyond ?_ (by simp [size_beyond] <;> omega) _ | refine Below.drew ?_ | refine Below.alloc ?_ (by simp [size_beyond] <;> omega) _ | refine Below.setCell ?_ (by simp [size_beyond] <;> omega) _))⟩

theorem deadT_Any (a : Int) (ha : 0 ≤ a) (hb : a < 2) (w : World) :
    Calls Try.prog 24 #[.agg #[.int .i64 1, .int .i64 0, .int .i64 0], .int .i64 a] w fun e w' => e = .returned (.bool false) ∧ ∃ x, w' = beyond w x := by
  have hf := kAny_7
  go_enter Try.func24, Try.ntmps24
  go_wp2_with (first | (go_at_call 27; refine (kind_Any _).mono ?_; rintro e w1 ⟨rfl, x1, rfl⟩) | (go_at_call 32; refine (isValueT_Any _ ha hb _).mono ?_; rintro e w1 ⟨rfl, x1, rfl⟩) | (go_at_call 39; refine (never_calls _ _ _ _ _).mono ?_; rintro e w1 ⟨rfl, x1, rfl⟩) | (refine wpList_store_block rfl 50 _ _ rfl _ _ 50 _ rfl rfl (by simp [go_sem] <;> rfl) (by kernel_rfl) (by kernel_rfl) (by kernel_rfl) ?_))
  go_ret
  exact ⟨rfl, beyond_of (by repeat (first | exact Below.refl _ _ | exact below_beyond _ _ | refine Below.beyond ?_ (by simp [size_beyond] <;> omega) _ | refine Below.drew ?_ | refine Below.alloc ?_ (by simp [size_beyond] <;> omega) _ | refine Below.setCell ?_ (by simp [size_beyond] <;> omega) _))⟩

theorem deadF_Any (a : Int) (h : ¬ (0 ≤ a ∧ a < 2)) (w : World) :
    Calls Try.prog 24 #[.agg #[.int .i64 1, .int .i64 0, .int .i64 0], .int .i64 a] w fun e w' => e = .returned (.bool false) ∧ ∃ x, w' = beyond w x := by
  have hf := kAny_7
  have H := Lib.hid h; clear h
  go_enter Try.func24, Try.ntmps24
  go_wp2_with (first | (go_at_call 27; refine (kind_Any _).mono ?_; rintro e w1 ⟨rfl, x1, rfl⟩) | (go_at_call 32; refine (isValueF_Any _ H.out _).mono ?_; rintro e w1 ⟨rfl, x1, rfl⟩) | (refine wpList_store_block rfl 50 _ _ rfl _ _ 50 _ rfl rfl (by simp [go_sem] <;> rfl) (by kernel_rfl) (by kernel_rfl) (by kernel_rfl) ?_))
  go_ret
  exact ⟨rfl, beyond_of (by repeat (first | exact Below.refl _ _ | exact below_beyond _ _ | refine Below.beyond ?_ (by simp [size_beyond] <;> omega) _ | refine Below.drew ?_ | refine Below.alloc ?_ (by simp [size_beyond] <;> omega) _ | refine Below.setCell ?_ (by simp [size_beyond] <;> omega) _))⟩

theorem deadT_Exactly (N : Int) (h1 : 0 ≤ N) (h2 : N ≤ 62) (a : Int) (ha : 0 ≤ a) (hb : a < (N + 2)) (w : World) :
    Calls Try.prog 24 #[.agg #[.int .i64 2, .int .i64 N, .int .i64 0], .int .i64 a] w fun e w' => e = .returned (.bool (a == N + 1)) ∧ ∃ x, w' = beyond w x := by
  have hf := kExactly_7
  go_enter Try.func24, Try.ntmps24
  go_wp2_with (first | (go_at_call 27; refine (kind_Exactly N h1 h2 _).mono ?_; rintro e w1 ⟨rfl, x1, rfl⟩) | (go_at_call 32; refine (isValueT_Exactly N h1 h2 _ ha hb _).mono ?_; rintro e w1 ⟨rfl, x1, rfl⟩) | (go_at_call 47; refine (deadExactly_calls _ _ _ _ _ h1 h2).mono ?_; rintro e w1 ⟨rfl, x1, rfl⟩) | (refine wpList_store_block rfl 50 _ _ rfl _ _ 50 _ rfl rfl (by simp [go_sem] <;> rfl) (by kernel_rfl) (by kernel_rfl) (by kernel_rfl) ?_))
  go_ret
  exact ⟨rfl, beyond_of (by repeat (first | exact Below.refl _ _ | exact below_beyond _ _ | refine Below.beyond ?_ (by simp [size_beyond] <;> omega) _ | refine Below.drew ?_ | refine Below.alloc ?_ (by simp [size_beyond] <;> omega) _ | refine Below.setCell ?_ (by simp [size_beyond] <;> omega) _))⟩

theorem deadF_Exactly (N : Int) (h1 : 0 ≤ N) (h2 : N ≤ 62) (a : Int) (h : ¬ (0 ≤ a ∧ a < (N + 2))) (w : World) :
    Calls Try.prog 24 #[.agg #[.int .i64 2, .int .i64 N, .int .i64 0], .int .i64 a] w fun e w' => e = .returned (.bool false) ∧ ∃ x, w' = beyond w x := by
  have hf := kExactly_7
  have H := Lib.hid h; clear h
  go_enter Try.func24, Try.ntmps24
  go_wp2_with (first | (go_at_call 27; refine (kind_Exactly N h1 h2 _).mono ?_; rintro e w1 ⟨rfl, x1, rfl⟩) | (go_at_call 32; refine (isValueF_Exactly N h1 h2 _ H.out _).mono ?_; rintro e w1 ⟨rfl, x1, rfl⟩) | (refine wpList_store_block rfl 50 _ _ rfl _ _ 50 _ rfl rfl (by simp [go_sem] <;> rfl) (by kernel_rfl) (by kernel_rfl) (by kernel_rfl) ?_))
  go_ret
  exact ⟨rfl, beyond_of (by repeat (first | exact Below.refl _ _ | exact below_beyond _ _ | refine Below.beyond ?_ (by simp [size_beyond] <;> omega) _ | refine Below.drew ?_ | refine Below.alloc ?_ (by simp [size_beyond] <;> omega) _ | refine Below.setCell ?_ (by simp [size_beyond] <;> omega) _))⟩

theorem deadT_Modulo (N M : Int) (h1 : 1 ≤ M) (h2 : M ≤ 64) (h3 : 0 ≤ N) (h4 : N < M) (a : Int) (ha : 0 ≤ a) (hb : a < M) (w : World) :
    Calls Try.prog 24 #[.agg #[.int .i64 3, .int .i64 N, .int .i64 M], .int .i64 a] w fun e w' => e = .returned (.bool false) ∧ ∃ x, w' = beyond w x := by
  have hf := kModulo_7
  go_enter Try.func24, Try.ntmps24
  go_wp2_with (first | (go_at_call 27; refine (kind_Modulo N M h1 h2 h3 h4 _).mono ?_; rintro e w1 ⟨rfl, x1, rfl⟩) | (go_at_call 32; refine (isValueT_Modulo N M h1 h2 h3 h4 _ ha hb _).mono ?_; rintro e w1 ⟨rfl, x1, rfl⟩) | (go_at_call 39; refine (never_calls _ _ _ _ _).mono ?_; rintro e w1 ⟨rfl, x1, rfl⟩) | (refine wpList_store_block rfl 50 _ _ rfl _ _ 50 _ rfl rfl (by simp [go_sem] <;> rfl) (by kernel_rfl) (by kernel_rfl) (by kernel_rfl) ?_))
  go_ret
  exact ⟨rfl, beyond_of (by repeat (first | exact Below.refl _ _ | exact below_beyond _ _ | refine Below.beyond ?_ (by simp [size_beyond] <;> omega) _ | refine Below.drew ?_ | refine Below.alloc ?_ (by simp [size_beyond] <;> omega) _ | refine Below.setCell ?_ (by simp [size_beyond] <;> omega) _))⟩

theorem deadF_Modulo (N M : Int) (h1 : 1 ≤ M) (h2 : M ≤ 64) (h3 : 0 ≤ N) (h4 : N < M) (a : Int) (h : ¬ (0 ≤ a ∧ a < M)) (w : World) :
    Calls Try.prog 24 #[.agg #[.int .i64 3, .int .i64 N, .int .i64 M], .int .i64 a] w fun e w' => e = .returned (.bool false) ∧ ∃ x, w' = beyond w x := by
  have hf := kModulo_7
  have H := Lib.hid h; clear h
  go_enter Try.func24, Try.ntmps24
  go_wp2_with (first | (go_at_call 27; refine (kind_Modulo N M h1 h2 h3 h4 _).mono ?_; rintro e w1 ⟨rfl, x1, rfl⟩) | (go_at_call 32; refine (isValueF_Modulo N M h1 h2 h3 h4 _ H.out _).mono ?_; rintro e w1 ⟨rfl, x1, rfl⟩) | (refine wpList_store_block rfl 50 _ _ rfl _ _ 50 _ rfl rfl (by simp [go_sem] <;> rfl) (by kernel_rfl) (by kernel_rfl) (by kernel_rfl) ?_))
  go_ret
  exact ⟨rfl, beyond_of (by repeat (first | exact Below.refl _ _ | exact below_beyond _ _ | refine Below.beyond ?_ (by simp [size_beyond] <;> omega) _ | refine Below.drew ?_ | refine Below.alloc ?_ (by simp [size_beyond] <;> omega) _ | refine Below.setCell ?_ (by simp [size_beyond] <;> omega) _))⟩

theorem universalT_All (a : Int) (ha : 0 ≤ a) (hb : a < 2) (w : World) :
    Calls Try.prog 26 #[.agg #[.int .i64 0, .int .i64 0, .int .i64 0], .int .i64 a] w fun e w' => e = .returned (.bool false) ∧ ∃ x, w' = beyond w x := by
  have hf := kAll_8
  go_enter Try.func26, Try.ntmps26
  go_wp2_with (first | (go_at_call 27; refine (kind_All _).mono ?_; rintro e w1 ⟨rfl, x1, rfl⟩) | (go_at_call 32; refine (isValueT_All _ ha hb _).mono ?_; rintro e w1 ⟨rfl, x1, rfl⟩) | (go_at_call 39; refine (never_calls _ _ _ _ _).mono ?_; rintro e w1 ⟨rfl, x1, rfl⟩) | (refine wpList_store_block rfl 50 _ _ rfl _ _ 50 _ rfl rfl (by simp [go_sem] <;> rfl) (by kernel_rfl) (by kernel_rfl) (by kernel_rfl) ?_))
  go_ret
  exact ⟨rfl, beyond_of (by repeat (first | exact Below.refl _ _ | exact below_beyond _ _ | refine Below.beyond ?_ (by simp [size_beyond] <;> omega) _ | refine Below.drew ?_ | refine Below.alloc ?_ (by simp [size_beyond] <;> omega) _ | refine Below.setCell ?_ (by simp [size_beyond] <;> omega) _))⟩

theorem universalF_All (a : Int) (h : ¬ (0 ≤ a ∧ a < 2)) (w : World) :
    Calls Try.prog 26 #[.agg #[.int .i64 0, .int .i64 0, .int .i64 0], .int .i64 a] w fun e w' => e = .returned (.bool false) ∧ ∃ x, w' = beyond w x := by
  have hf := kAll_8
  have H := Lib.hid h; clear h
  go_enter Try.func26, Try.ntmps26
  go_wp2_with (first | (go_at_call 27; refine (kind_All _).mono ?_; rintro e w1 ⟨rfl, x1, rfl⟩) | (go_at_call 32; refine (isValueF_All _ H.out _).mono ?_; rintro e w1 ⟨rfl, x1, rfl⟩) | (refine wpList_store_block rfl 50 _ _ rfl _ _ 50 _ rfl rfl (by simp [go_sem] <;> rfl) (by kernel_rfl) (by kernel_rfl) (by kernel_rfl) ?_))
  go_ret
  exact ⟨rfl, beyond_of (by repeat (first | exact Below.refl _ _ | exact below_beyond _ _ | refine Below.beyond ?_ (by simp [size_beyond] <;> omega) _ | refine Below.drew ?_ | refine Below.alloc ?_ (by simp [size_beyond] <;> omega) _ | refine Below.setCell ?_ (by simp [size_beyond] <;> omega) _))⟩

theorem universalT_Any (a : Int) (ha : 0 ≤ a) (hb : a < 2) (w : World) :
    Calls Try.prog 26 #[.agg #[.int .i64 1, .int .i64 0, .int .i64 0], .int .i64 a] w fun e w' => e = .returned (.bool (a == 1)) ∧ ∃ x, w' = beyond w x := by
  have hf := kAny_8
  go_enter Try.func26, Try.ntmps26
  go_wp2_with (first | (go_at_call 27; refine (kind_Any _).mono ?_; rintro e w1 ⟨rfl, x1, rfl⟩) | (go_at_call 32; refine (isValueT_Any _ ha hb _).mono ?_; rintro e w1 ⟨rfl, x1, rfl⟩) | (go_at_call 43; refine (univAny_calls _ _ _ _ _).mono ?_; rintro e w1 ⟨rfl, x1, rfl⟩) | (refine wpList_store_block rfl 50 _ _ rfl _ _ 50 _ rfl rfl (by simp [go_sem] <;> rfl) (by kernel_rfl) (by kernel_rfl) (by kernel_rfl) ?_))
  go_ret
  exact ⟨rfl, beyond_of (by repeat (first | exact Below.refl _ _ | exact below_beyond _ _ | refine Below.beyond ?_ (by simp [size_beyond] <;> omega) _ | refine Below.drew ?_ | refine Below.alloc ?_ (by simp [size_beyond] <;> omega) _ | refine Below.setCell ?_ (by simp [size_beyond] <;> omega) _))⟩

theorem universalF_Any (a : Int) (h : ¬ (0 ≤ a ∧ a < 2)) (w : World) :
    Calls Try.prog 26 #[.agg #[.int .i64 1, .int .i64 0, .int .i64 0], .int .i64 a] w fun e w' => e = .returned (.bool false) ∧ ∃ x, w' = beyond w x := by
  have hf := kAny_8
  have H := Lib.hid h; clear h
  go_enter Try.func26, Try.ntmps26
  go_wp2_with (first | (go_at_call 27; refine (kind_Any _).mono ?_; rintro e w1 ⟨rfl, x1, rfl⟩) | (go_at_call 32; refine (isValueF_Any _ H.out _).mono ?_; rintro e w1 ⟨rfl, x1, rfl⟩) | (refine wpList_store_block rfl 50 _ _ rfl _ _ 50 _ rfl rfl (by simp [go_sem] <;> rfl) (by kernel_rfl) (by kernel_rfl) (by kernel_rfl) ?_))
  go_ret
  exact ⟨rfl, beyond_of (by repeat (first | exact Below.refl _ _ | exact below_beyond _ _ | refine Below.beyond ?_ (by simp [size_beyond] <;> omega) _ | refine Below.drew ?_ | refine Below.alloc ?_ (by simp [size_beyond] <;> omega) _ | refine Below.setCell ?_ (by simp [size_beyond] <;> omega) _))⟩

theorem universalT_Exactly (N : Int) (h1 : 0 ≤ N) (h2 : N ≤ 62) (a : Int) (ha : 0 ≤ a) (hb : a < (N + 2)) (w : World) :
    Calls Try.prog 26 #[.agg #[.int .i64 2, .int .i64 N, .int .i64 0], .int .i64 a] w fun e w' => e = .returned (.bool false) ∧ ∃ x, w' = beyond w x := by
  have hf := kExactly_8
  go_enter Try.func26, Try.ntmps26
  go_wp2_with (first | (go_at_call 27; refine (kind_Exactly N h1 h2 _).mono ?_; rintro e w1 ⟨rfl, x1, rfl⟩) | (go_at_call 32; refine (isValueT_Exactly N h1 h2 _ ha hb _).mono ?_; rintro e w1 ⟨rfl, x1, rfl⟩) | (go_at_call 39; refine (never_calls _ _ _ _ _).mono ?_; rintro e w1 ⟨rfl, x1, rfl⟩) | (refine wpList_store_block rfl 50 _ _ rfl _ _ 50 _ rfl rfl (by simp [go_sem] <;> rfl) (by kernel_rfl) (by kernel_rfl) (by kernel_rfl) ?_))
  go_ret
  exact ⟨rfl, beyond_of (by repeat (first | exact Below.refl _ _ | exact below_beyond _ _ | refine Below.beyond ?_ (by simp [size_beyond] <;> omega) _ | refine Below.drew ?_ | refine Below.alloc ?_ (by simp [size_beyond] <;> omega) _ | refine Below.setCell ?_ (by simp [size_beyond] <;> omega) _))⟩

theorem universalF_Exactly (N : Int) (h1 : 0 ≤ N) (h2 : N ≤ 62) (a : Int) (h : ¬ (0 ≤ a ∧ a < (N + 2))) (w : World) :
    Calls Try.prog 26 #[.agg #[.int .i64 2, .int .i64 N, .int .i64 0], .int .i64 a] w fun e w' => e = .returned (.bool false) ∧ ∃ x, w' = beyond w x := by
  have hf := kExactly_8
  have H := Lib.hid h; clear h
  go_enter Try.func26, Try.ntmps26
  go_wp2_with (first | (go_at_call 27; refine (kind_Exactly N h1 h2 _).mono ?_; rintro e w1 ⟨rfl, x1, rfl⟩) | (go_at_call 32; refine (isValueF_Exactly N h1 h2 _ H.out _).mono ?_; rintro e w1 ⟨rfl, x1, rfl⟩) | (refine wpList_store_block rfl 50 _ _ rfl _ _ 50 _ rfl rfl (by simp [go_sem] <;> rfl) (by kernel_rfl) (by kernel_rfl) (by kernel_rfl) ?_))
  go_ret
  exact ⟨rfl, beyond_of (by repeat (first | exact Below.refl _ _ | exact below_beyond _ _ | refine Below.beyond ?_ (by simp [size_beyond] <;> omega) _ | refine Below.drew ?_ | refine Below.alloc ?_ (by simp [size_beyond] <;> omega) _ | refine Below.setCell ?_ (by simp [size_beyond] <;> omega) _))⟩

theorem universalT_Modulo (N M : Int) (h1 : 1 ≤ M) (h2 : M ≤ 64) (h3 : 0 ≤ N) (h4 : N < M) (a : Int) (ha : 0 ≤ a) (hb : a < M) (w : World) :
    Calls Try.prog 26 #[.agg #[.int .i64 3, .int .i64 N, .int .i64 M], .int .i64 a] w fun e w' => e = .returned (.bool (M == 1)) ∧ ∃ x, w' = beyond w x := by
  have hf := kModulo_8
  go_enter Try.func26, Try.ntmps26
  go_wp2_with (first | (go_at_call 27; refine (kind_Modulo N M h1 h2 h3 h4 _).mono ?_; rintro e w1 ⟨rfl, x1, rfl⟩) | (go_at_call 32; refine (isValueT_Modulo N M h1 h2 h3 h4 _ ha hb _).mono ?_; rintro e w1 ⟨rfl, x1, rfl⟩) | (go_at_call 52; refine (univModulo_calls _ _ _ _ _).mono ?_; rintro e w1 ⟨rfl, x1, rfl⟩) | (refine wpList_store_block rfl 50 _ _ rfl _ _ 50 _ rfl rfl (by simp [go_sem] <;> rfl) (by kernel_rfl) (by kernel_rfl) (by kernel_rfl) ?_))
  go_ret
  exact ⟨rfl, beyond_of (by repeat (first | exact Below.refl _ _ | exact below_beyond _ _ | refine Below.beyond ?_ (by simp [size_beyond] <;> omega) _ | refine Below.drew ?_ | refine Below.alloc ?_ (by simp [size_beyond] <;> omega) _ | refine Below.setCell ?_ (by simp [size_beyond] <;> omega) _))⟩

theorem universalF_Modulo (N M : Int) (h1 : 1 ≤ M) (h2 : M ≤ 64) (h3 : 0 ≤ N) (h4 : N < M) (a : Int) (h : ¬ (0 ≤ a ∧ a < M)) (w : World) :
    Calls Try.prog 26 #[.agg #[.int .i64 3, .int .i64 N, .int .i64 M], .int .i64 a] w fun e w' => e = .returned (.bool false) ∧ ∃ x, w' = beyond w x := by
  have hf := kModulo_8
  have H := Lib.hid h; clear h
  go_enter Try.func26, Try.ntmps26
  go_wp2_with (first | (go_at_call 27; refine (kind_Modulo N M h1 h2 h3 h4 _).mono ?_; rintro e w1 ⟨rfl, x1, rfl⟩) | (go_at_call 32; refine (isValueF_Modulo N M h1 h2 h3 h4 _ H.out _).mono ?_; rintro e w1 ⟨rfl, x1, rfl⟩) | (refine wpList_store_block rfl 50 _ _ rfl _ _ 50 _ rfl rfl (by simp [go_sem] <;> rfl) (by kernel_rfl) (by kernel_rfl) (by kernel_rfl) ?_))
  go_ret
  exact ⟨rfl, beyond_of (by repeat (first | exact Below.refl _ _ | exact below_beyond _ _ | refine Below.beyond ?_ (by simp [size_beyond] <;> omega) _ | refine Below.drew ?_ | refine Below.alloc ?_ (by simp [size_beyond] <;> omega) _ | refine Below.setCell ?_ (by simp [size_beyond] <;> omega) _))⟩

end Go.Proofs.Ytfpmimfglikklaa.mono
