/-
  Check and kind of a valid monoid.
-/
import Derived.Test.YtfpmimfglikklaaLeaf
import Derived.Test.YtfpmimfglikklaaTail
set_option linter.unusedSimpArgs false
set_option linter.unusedVariables false
namespace Go.Proofs.Ytfpmimfglikklaa.mono
open Go.RowKit Go.Own
set_option maxHeartbeats 400000
theorem kAll_2 : kAll[2]? = some (.func (.func 35) #[] #[]) := rfl
theorem kAll_3 : kAll[3]? = some (.int .i64 1) := rfl
theorem kAll_4 : kAll[4]? = some (.func (.func 36) #[] #[]) := rfl
theorem kAll_5 : kAll[5]? = some (.func (.func 40) #[] #[]) := rfl
theorem kAll_6 : kAll[6]? = some (.func (.func 36) #[] #[]) := rfl
theorem kAll_7 : kAll[7]? = some (.func (.func 41) #[] #[]) := rfl
theorem kAll_8 : kAll[8]? = some (.func (.func 39) #[] #[]) := rfl
theorem kAny_2 : kAny[2]? = some (.func (.func 35) #[] #[]) := rfl
theorem kAny_3 : kAny[3]? = some (.int .i64 0) := rfl
theorem kAny_4 : kAny[4]? = some (.func (.func 36) #[] #[]) := rfl
theorem kAny_5 : kAny[5]? = some (.func (.func 42) #[] #[]) := rfl
theorem kAny_6 : kAny[6]? = some (.func (.func 36) #[] #[]) := rfl
theorem kAny_7 : kAny[7]? = some (.func (.func 39) #[] #[]) := rfl
theorem kAny_8 : kAny[8]? = some (.func (.func 43) #[] #[]) := rfl
theorem kExactly_2 : kExactly[2]? = some (.func (.func 45) #[] #[]) := rfl
theorem kExactly_3 : kExactly[3]? = some (.int .i64 0) := rfl
theorem kExactly_4 : kExactly[4]? = some (.func (.func 36) #[] #[]) := rfl
theorem kExactly_5 : kExactly[5]? = some (.func (.func 46) #[] #[]) := rfl
theorem kExactly_6 : kExactly[6]? = some (.func (.func 37) #[] #[]) := rfl
theorem kExactly_7 : kExactly[7]? = some (.func (.func 47) #[] #[]) := rfl
theorem kExactly_8 : kExactly[8]? = some (.func (.func 39) #[] #[]) := rfl
theorem kModulo_2 : kModulo[2]? = some (.func (.func 49) #[] #[]) := rfl
theorem kModulo_3 : kModulo[3]? = some (.int .i64 0) := rfl
theorem kModulo_4 : kModulo[4]? = some (.func (.func 50) #[] #[]) := rfl
theorem kModulo_5 : kModulo[5]? = some (.func (.func 51) #[] #[]) := rfl
theorem kModulo_6 : kModulo[6]? = some (.func (.func 37) #[] #[]) := rfl
theorem kModulo_7 : kModulo[7]? = some (.func (.func 39) #[] #[]) := rfl
theorem kModulo_8 : kModulo[8]? = some (.func (.func 52) #[] #[]) := rfl
theorem check_All (w : World) :
    Calls Try.prog 30 #[.agg #[.int .i64 0, .int .i64 0, .int .i64 0]] w fun e w' => e = .returned (.int .i64 0) ∧ ∃ x, w' = beyond w x := by
  have hix := row_kAll
  have hfd := valid_kAll
  go_enter Try.func30, Try.ntmps30
  go_wp2
  refine wp_region_beyond (by kernel_rfl) (by kernel_rfl) ?_
  repeat (go_big_quiet_step (first | (go_at_call 33; exact quiet_beyond (kinds_calls _)) | (go_at_call 38; exact quiet_beyond (plain_calls _ _))))
  refine wpQuiet_nil ?_
  rintro _ ⟨x, rfl⟩
  go_wp2
  go_ret
  exact ⟨rfl, beyond_of (by repeat (first | exact Below.refl _ _ | exact below_beyond _ _ | refine Below.beyond ?_ (by simp [size_beyond] <;> omega) _ | refine Below.drew ?_ | refine Below.alloc ?_ (by simp [size_beyond] <;> omega) _ | refine Below.setCell ?_ (by simp [size_beyond] <;> omega) _))⟩

theorem check_Any (w : World) :
    Calls Try.prog 30 #[.agg #[.int .i64 1, .int .i64 0, .int .i64 0]] w fun e w' => e = .returned (.int .i64 0) ∧ ∃ x, w' = beyond w x := by
  have hix := row_kAny
  have hfd := valid_kAny
  go_enter Try.func30, Try.ntmps30
  go_wp2
  refine wp_region_beyond (by kernel_rfl) (by kernel_rfl) ?_
  repeat (go_big_quiet_step (first | (go_at_call 33; exact quiet_beyond (kinds_calls _)) | (go_at_call 38; exact quiet_beyond (plain_calls _ _))))
  refine wpQuiet_nil ?_
  rintro _ ⟨x, rfl⟩
  go_wp2
  go_ret
  exact ⟨rfl, beyond_of (by repeat (first | exact Below.refl _ _ | exact below_beyond _ _ | refine Below.beyond ?_ (by simp [size_beyond] <;> omega) _ | refine Below.drew ?_ | refine Below.alloc ?_ (by simp [size_beyond] <;> omega) _ | refine Below.setCell ?_ (by simp [size_beyond] <;> omega) _))⟩

theorem check_Exactly (N : Int) (h1 : 0 ≤ N) (h2 : N ≤ 62) (w : World) :
    Calls Try.prog 30 #[.agg #[.int .i64 2, .int .i64 N, .int .i64 0]] w fun e w' => e = .returned (.int .i64 0) ∧ ∃ x, w' = beyond w x := by
  have hix := row_kExactly
  have hfd := valid_kExactly
  go_enter Try.func30, Try.ntmps30
  go_wp2
  refine wp_region_beyond (by kernel_rfl) (by kernel_rfl) ?_
  repeat (go_big_quiet_step (first | (go_at_call 33; exact quiet_beyond (kinds_calls _)) | (go_at_call 44; exact quiet_beyond (validExactly_calls _ _ _ h1 h2))))
  refine wpQuiet_nil ?_
  rintro _ ⟨x, rfl⟩
  go_wp2
  go_ret
  exact ⟨rfl, beyond_of (by repeat (first | exact Below.refl _ _ | exact below_beyond _ _ | refine Below.beyond ?_ (by simp [size_beyond] <;> omega) _ | refine Below.drew ?_ | refine Below.alloc ?_ (by simp [size_beyond] <;> omega) _ | refine Below.setCell ?_ (by simp [size_beyond] <;> omega) _))⟩

theorem check_Modulo (N M : Int) (h1 : 1 ≤ M) (h2 : M ≤ 64) (h3 : 0 ≤ N) (h4 : N < M) (w : World) :
    Calls Try.prog 30 #[.agg #[.int .i64 3, .int .i64 N, .int .i64 M]] w fun e w' => e = .returned (.int .i64 0) ∧ ∃ x, w' = beyond w x := by
  have hix := row_kModulo
  have hfd := valid_kModulo
  go_enter Try.func30, Try.ntmps30
  go_wp2
  refine wp_region_beyond (by kernel_rfl) (by kernel_rfl) ?_
  repeat (go_big_quiet_step (first | (go_at_call 33; exact quiet_beyond (kinds_calls _)) | (go_at_call 48; exact quiet_beyond (validModulo_calls _ _ _ _ h1 h2 h3 h4))))
  refine wpQuiet_nil ?_
  rintro _ ⟨x, rfl⟩
  go_wp2
  go_ret
  exact ⟨rfl, beyond_of (by repeat (first | exact Below.refl _ _ | exact below_beyond _ _ | refine Below.beyond ?_ (by simp [size_beyond] <;> omega) _ | refine Below.drew ?_ | refine Below.alloc ?_ (by simp [size_beyond] <;> omega) _ | refine Below.setCell ?_ (by simp [size_beyond] <;> omega) _))⟩

theorem kind_All (w : World) :
    Calls Try.prog 27 #[.agg #[.int .i64 0, .int .i64 0, .int .i64 0]] w fun e w' => e = .returned (.tuple #[.agg kAll, .bool true]) ∧ ∃ x, w' = beyond w x := by
  have hix := row_kAll
  go_enter Try.func27, Try.ntmps27
  go_wp2_with ((go_at_call 30; refine (check_All _).mono ?_; rintro e w1 ⟨rfl, x1, rfl⟩))
  refine wp_region_tail 4 (by kernel_rfl) (by kernel_rfl) (by kernel_rfl) ?_
  simp only [List.take_succ_cons, List.take_zero, List.drop_succ_cons, List.drop_zero]
  repeat (go_big_quiet_step ((go_at_call 33; exact quiet_beyond (kinds_calls _))))
  refine wpQuiet_nil ?_
  rintro _ ⟨y, rfl⟩
  refine wpList_store_block rfl 50 (.tmp 2) (.tmp 11) rfl (w.heap.size + 1) kAll 50 _ rfl rfl (by simp [go_sem] <;> rfl) (by kernel_rfl) (by kernel_rfl) (by kernel_rfl) ?_
  go_wp2
  refine bodyPost_ret (v := .tuple #[.agg kAll, .bool true]) ?_ rfl ⟨rfl, beyond_of (by repeat (first | exact Below.refl _ _ | exact below_beyond _ _ | refine Below.beyond ?_ (by simp [size_beyond] <;> omega) _ | refine Below.drew ?_ | refine Below.alloc ?_ (by simp [size_beyond] <;> omega) _ | refine Below.setCell ?_ (by simp [size_beyond] <;> omega) _))⟩
  exact results_block2 rfl _ _ (w.heap.size + 1) 50 _ _ _ rfl rfl (by simp [go_sem] <;> rfl) Try.underlying50 rfl (by kernel_rfl)

theorem kind_Any (w : World) :
    Calls Try.prog 27 #[.agg #[.int .i64 1, .int .i64 0, .int .i64 0]] w fun e w' => e = .returned (.tuple #[.agg kAny, .bool true]) ∧ ∃ x, w' = beyond w x := by
  have hix := row_kAny
  go_enter Try.func27, Try.ntmps27
  go_wp2_with ((go_at_call 30; refine (check_Any _).mono ?_; rintro e w1 ⟨rfl, x1, rfl⟩))
  refine wp_region_tail 4 (by kernel_rfl) (by kernel_rfl) (by kernel_rfl) ?_
  simp only [List.take_succ_cons, List.take_zero, List.drop_succ_cons, List.drop_zero]
  repeat (go_big_quiet_step ((go_at_call 33; exact quiet_beyond (kinds_calls _))))
  refine wpQuiet_nil ?_
  rintro _ ⟨y, rfl⟩
  refine wpList_store_block rfl 50 (.tmp 2) (.tmp 11) rfl (w.heap.size + 1) kAny 50 _ rfl rfl (by simp [go_sem] <;> rfl) (by kernel_rfl) (by kernel_rfl) (by kernel_rfl) ?_
  go_wp2
  refine bodyPost_ret (v := .tuple #[.agg kAny, .bool true]) ?_ rfl ⟨rfl, beyond_of (by repeat (first | exact Below.refl _ _ | exact below_beyond _ _ | refine Below.beyond ?_ (by simp [size_beyond] <;> omega) _ | refine Below.drew ?_ | refine Below.alloc ?_ (by simp [size_beyond] <;> omega) _ | refine Below.setCell ?_ (by simp [size_beyond] <;> omega) _))⟩
  exact results_block2 rfl _ _ (w.heap.size + 1) 50 _ _ _ rfl rfl (by simp [go_sem] <;> rfl) Try.underlying50 rfl (by kernel_rfl)

theorem kind_Exactly (N : Int) (h1 : 0 ≤ N) (h2 : N ≤ 62) (w : World) :
    Calls Try.prog 27 #[.agg #[.int .i64 2, .int .i64 N, .int .i64 0]] w fun e w' => e = .returned (.tuple #[.agg kExactly, .bool true]) ∧ ∃ x, w' = beyond w x := by
  have hix := row_kExactly
  go_enter Try.func27, Try.ntmps27
  go_wp2_with ((go_at_call 30; refine (check_Exactly N h1 h2 _).mono ?_; rintro e w1 ⟨rfl, x1, rfl⟩))
  refine wp_region_tail 4 (by kernel_rfl) (by kernel_rfl) (by kernel_rfl) ?_
  simp only [List.take_succ_cons, List.take_zero, List.drop_succ_cons, List.drop_zero]
  repeat (go_big_quiet_step ((go_at_call 33; exact quiet_beyond (kinds_calls _))))
  refine wpQuiet_nil ?_
  rintro _ ⟨y, rfl⟩
  refine wpList_store_block rfl 50 (.tmp 2) (.tmp 11) rfl (w.heap.size + 1) kExactly 50 _ rfl rfl (by simp [go_sem] <;> rfl) (by kernel_rfl) (by kernel_rfl) (by kernel_rfl) ?_
  go_wp2
  refine bodyPost_ret (v := .tuple #[.agg kExactly, .bool true]) ?_ rfl ⟨rfl, beyond_of (by repeat (first | exact Below.refl _ _ | exact below_beyond _ _ | refine Below.beyond ?_ (by simp [size_beyond] <;> omega) _ | refine Below.drew ?_ | refine Below.alloc ?_ (by simp [size_beyond] <;> omega) _ | refine Below.setCell ?_ (by simp [size_beyond] <;> omega) _))⟩
  exact results_block2 rfl _ _ (w.heap.size + 1) 50 _ _ _ rfl rfl (by simp [go_sem] <;> rfl) Try.underlying50 rfl (by kernel_rfl)

theorem kind_Modulo (N M : Int) (h1 : 1 ≤ M) (h2 : M ≤ 64) (h3 : 0 ≤ N) (h4 : N < M) (w : World) :
    Calls Try.prog 27 #[.agg #[.int .i64 3, .int .i64 N, .int .i64 M]] w fun e w' => e = .returned (.tuple #[.agg kModulo, .bool true]) ∧ ∃ x, w' = beyond w x := by
  have hix := row_kModulo
  go_enter Try.func27, Try.ntmps27
  go_wp2_with ((go_at_call 30; refine (check_Modulo N M h1 h2 h3 h4 _).mono ?_; rintro e w1 ⟨rfl, x1, rfl⟩))
  refine wp_region_tail 4 (by kernel_rfl) (by kernel_rfl) (by kernel_rfl) ?_
  simp only [List.take_succ_cons, List.take_zero, List.drop_succ_cons, List.drop_zero]
  repeat (go_big_quiet_step ((go_at_call 33; exact quiet_beyond (kinds_calls _))))
  refine wpQuiet_nil ?_
  rintro _ ⟨y, rfl⟩
  refine wpList_store_block rfl 50 (.tmp 2) (.tmp 11) rfl (w.heap.size + 1) kModulo 50 _ rfl rfl (by simp [go_sem] <;> rfl) (by kernel_rfl) (by kernel_rfl) (by kernel_rfl) ?_
  go_wp2
  refine bodyPost_ret (v := .tuple #[.agg kModulo, .bool true]) ?_ rfl ⟨rfl, beyond_of (by repeat (first | exact Below.refl _ _ | exact below_beyond _ _ | refine Below.beyond ?_ (by simp [size_beyond] <;> omega) _ | refine Below.drew ?_ | refine Below.alloc ?_ (by simp [size_beyond] <;> omega) _ | refine Below.setCell ?_ (by simp [size_beyond] <;> omega) _))⟩
  exact results_block2 rfl _ _ (w.heap.size + 1) 50 _ _ _ rfl rfl (by simp [go_sem] <;> rfl) Try.underlying50 rfl (by kernel_rfl)

end Go.Proofs.Ytfpmimfglikklaa.mono
