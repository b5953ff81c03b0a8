/-
  The functions in the table 'kinds': what each returns.
-/
import Derived.Test.YtfpmimfglikklaaKinds
set_option linter.unusedSimpArgs false
set_option linter.unusedVariables false
namespace Go.Proofs.Ytfpmimfglikklaa.mono
open Go.RowKit Go.Own
set_option maxHeartbeats 400000
theorem two_calls (K N M : Int) (w : World) :
    Calls Try.prog 35 #[.agg #[.int .i64 K, .int .i64 N, .int .i64 M]] w fun e w' => e = .returned (.int .i64 2) ∧ ∃ x, w' = beyond w x := by
  go_enter Try.func35, Try.ntmps35
  go_wp2
  all_goals go_ret
  all_goals exact ⟨rfl, beyond_of (by repeat (first | exact Below.refl _ _ | exact below_beyond _ _ | refine Below.beyond ?_ (by simp [size_beyond] <;> omega) _ | refine Below.drew ?_ | refine Below.alloc ?_ (by simp [size_beyond] <;> omega) _ | refine Below.setCell ?_ (by simp [size_beyond] <;> omega) _))⟩

theorem one_calls (K N M : Int) (w : World) :
    Calls Try.prog 36 #[.agg #[.int .i64 K, .int .i64 N, .int .i64 M]] w fun e w' => e = .returned (.int .i64 1) ∧ ∃ x, w' = beyond w x := by
  go_enter Try.func36, Try.ntmps36
  go_wp2
  all_goals go_ret
  all_goals exact ⟨rfl, beyond_of (by repeat (first | exact Below.refl _ _ | exact below_beyond _ _ | refine Below.beyond ?_ (by simp [size_beyond] <;> omega) _ | refine Below.drew ?_ | refine Below.alloc ?_ (by simp [size_beyond] <;> omega) _ | refine Below.setCell ?_ (by simp [size_beyond] <;> omega) _))⟩

theorem n_calls (K N M : Int) (w : World) :
    Calls Try.prog 37 #[.agg #[.int .i64 K, .int .i64 N, .int .i64 M]] w fun e w' => e = .returned (.int .i64 N) ∧ ∃ x, w' = beyond w x := by
  go_enter Try.func37, Try.ntmps37
  go_wp2
  all_goals go_ret
  all_goals exact ⟨rfl, beyond_of (by repeat (first | exact Below.refl _ _ | exact below_beyond _ _ | refine Below.beyond ?_ (by simp [size_beyond] <;> omega) _ | refine Below.drew ?_ | refine Below.alloc ?_ (by simp [size_beyond] <;> omega) _ | refine Below.setCell ?_ (by simp [size_beyond] <;> omega) _))⟩

theorem plain_calls (K : Int) (w : World) :
    Calls Try.prog 38 #[.agg #[.int .i64 K, .int .i64 0, .int .i64 0]] w fun e w' => e = .returned (.bool true) ∧ ∃ x, w' = beyond w x := by
  go_enter Try.func38, Try.ntmps38
  go_wp2
  all_goals go_ret
  all_goals exact ⟨rfl, beyond_of (by repeat (first | exact Below.refl _ _ | exact below_beyond _ _ | refine Below.beyond ?_ (by simp [size_beyond] <;> omega) _ | refine Below.drew ?_ | refine Below.alloc ?_ (by simp [size_beyond] <;> omega) _ | refine Below.setCell ?_ (by simp [size_beyond] <;> omega) _))⟩

theorem never_calls (K N M a : Int) (w : World) :
    Calls Try.prog 39 #[.agg #[.int .i64 K, .int .i64 N, .int .i64 M], .int .i64 a] w fun e w' => e = .returned (.bool false) ∧ ∃ x, w' = beyond w x := by
  go_enter Try.func39, Try.ntmps39
  go_wp2
  all_goals go_ret
  all_goals exact ⟨rfl, beyond_of (by repeat (first | exact Below.refl _ _ | exact below_beyond _ _ | refine Below.beyond ?_ (by simp [size_beyond] <;> omega) _ | refine Below.drew ?_ | refine Below.alloc ?_ (by simp [size_beyond] <;> omega) _ | refine Below.setCell ?_ (by simp [size_beyond] <;> omega) _))⟩

theorem addAll_calls (K N M a b : Int) (w : World) :
    Calls Try.prog 40 #[.agg #[.int .i64 K, .int .i64 N, .int .i64 M], .int .i64 a, .int .i64 b] w fun e w' => e = .returned (.int .i64 (min a b)) ∧ ∃ x, w' = beyond w x := by
  go_enter Try.func40, Try.ntmps40
  go_wp2
  all_goals go_ret
  all_goals (refine ⟨ret_int ?_, beyond_of (by repeat (first | exact Below.refl _ _ | exact below_beyond _ _ | refine Below.beyond ?_ (by simp [size_beyond] <;> omega) _ | refine Below.drew ?_ | refine Below.alloc ?_ (by simp [size_beyond] <;> omega) _ | refine Below.setCell ?_ (by simp [size_beyond] <;> omega) _))⟩; omega)

theorem deadAll_calls (K N M a : Int) (w : World) :
    Calls Try.prog 41 #[.agg #[.int .i64 K, .int .i64 N, .int .i64 M], .int .i64 a] w fun e w' => e = .returned (.bool (a == 0)) ∧ ∃ x, w' = beyond w x := by
  go_enter Try.func41, Try.ntmps41
  go_wp2
  all_goals go_ret
  all_goals exact ⟨rfl, beyond_of (by repeat (first | exact Below.refl _ _ | exact below_beyond _ _ | refine Below.beyond ?_ (by simp [size_beyond] <;> omega) _ | refine Below.drew ?_ | refine Below.alloc ?_ (by simp [size_beyond] <;> omega) _ | refine Below.setCell ?_ (by simp [size_beyond] <;> omega) _))⟩

theorem addAny_calls (K N M a b : Int) (w : World) :
    Calls Try.prog 42 #[.agg #[.int .i64 K, .int .i64 N, .int .i64 M], .int .i64 a, .int .i64 b] w fun e w' => e = .returned (.int .i64 (max a b)) ∧ ∃ x, w' = beyond w x := by
  go_enter Try.func42, Try.ntmps42
  go_wp2
  all_goals go_ret
  all_goals (refine ⟨ret_int ?_, beyond_of (by repeat (first | exact Below.refl _ _ | exact below_beyond _ _ | refine Below.beyond ?_ (by simp [size_beyond] <;> omega) _ | refine Below.drew ?_ | refine Below.alloc ?_ (by simp [size_beyond] <;> omega) _ | refine Below.setCell ?_ (by simp [size_beyond] <;> omega) _))⟩; omega)

theorem univAny_calls (K N M a : Int) (w : World) :
    Calls Try.prog 43 #[.agg #[.int .i64 K, .int .i64 N, .int .i64 M], .int .i64 a] w fun e w' => e = .returned (.bool (a == 1)) ∧ ∃ x, w' = beyond w x := by
  go_enter Try.func43, Try.ntmps43
  go_wp2
  all_goals go_ret
  all_goals exact ⟨rfl, beyond_of (by repeat (first | exact Below.refl _ _ | exact below_beyond _ _ | refine Below.beyond ?_ (by simp [size_beyond] <;> omega) _ | refine Below.drew ?_ | refine Below.alloc ?_ (by simp [size_beyond] <;> omega) _ | refine Below.setCell ?_ (by simp [size_beyond] <;> omega) _))⟩

theorem validExactly_calls (K N : Int) (w : World) (h1 : 0 ≤ N) (h2 : N ≤ 62) :
    Calls Try.prog 44 #[.agg #[.int .i64 K, .int .i64 N, .int .i64 0]] w fun e w' => e = .returned (.bool true) ∧ ∃ x, w' = beyond w x := by
  go_enter Try.func44, Try.ntmps44
  go_wp2
  all_goals go_ret
  all_goals exact ⟨rfl, beyond_of (by repeat (first | exact Below.refl _ _ | exact below_beyond _ _ | refine Below.beyond ?_ (by simp [size_beyond] <;> omega) _ | refine Below.drew ?_ | refine Below.alloc ?_ (by simp [size_beyond] <;> omega) _ | refine Below.setCell ?_ (by simp [size_beyond] <;> omega) _))⟩

theorem sizeExactly_calls (K N M : Int) (w : World) (h1 : 0 ≤ N) (h2 : N ≤ 62) :
    Calls Try.prog 45 #[.agg #[.int .i64 K, .int .i64 N, .int .i64 M]] w fun e w' => e = .returned (.int .i64 (N + 2)) ∧ ∃ x, w' = beyond w x := by
  go_enter Try.func45, Try.ntmps45
  go_wp2
  all_goals go_ret
  all_goals exact ⟨rfl, beyond_of (by repeat (first | exact Below.refl _ _ | exact below_beyond _ _ | refine Below.beyond ?_ (by simp [size_beyond] <;> omega) _ | refine Below.drew ?_ | refine Below.alloc ?_ (by simp [size_beyond] <;> omega) _ | refine Below.setCell ?_ (by simp [size_beyond] <;> omega) _))⟩

theorem addExactly_calls (K N M a b : Int) (w : World) (h1 : 0 ≤ N) (h2 : N ≤ 62) (h3 : 0 ≤ a) (h4 : a ≤ 100) (h5 : 0 ≤ b) (h6 : b ≤ 100) :
    Calls Try.prog 46 #[.agg #[.int .i64 K, .int .i64 N, .int .i64 M], .int .i64 a, .int .i64 b] w fun e w' => e = .returned (.int .i64 (min (a + b) (N + 1))) ∧ ∃ x, w' = beyond w x := by
  go_enter Try.func46, Try.ntmps46
  go_wp2
  all_goals go_ret
  all_goals (refine ⟨ret_int ?_, beyond_of (by repeat (first | exact Below.refl _ _ | exact below_beyond _ _ | refine Below.beyond ?_ (by simp [size_beyond] <;> omega) _ | refine Below.drew ?_ | refine Below.alloc ?_ (by simp [size_beyond] <;> omega) _ | refine Below.setCell ?_ (by simp [size_beyond] <;> omega) _))⟩; omega)

theorem deadExactly_calls (K N M a : Int) (w : World) (h1 : 0 ≤ N) (h2 : N ≤ 62) :
    Calls Try.prog 47 #[.agg #[.int .i64 K, .int .i64 N, .int .i64 M], .int .i64 a] w fun e w' => e = .returned (.bool (a == N + 1)) ∧ ∃ x, w' = beyond w x := by
  go_enter Try.func47, Try.ntmps47
  go_wp2
  all_goals go_ret
  all_goals exact ⟨rfl, beyond_of (by repeat (first | exact Below.refl _ _ | exact below_beyond _ _ | refine Below.beyond ?_ (by simp [size_beyond] <;> omega) _ | refine Below.drew ?_ | refine Below.alloc ?_ (by simp [size_beyond] <;> omega) _ | refine Below.setCell ?_ (by simp [size_beyond] <;> omega) _))⟩

theorem validModulo_calls (K N M : Int) (w : World) (h1 : 1 ≤ M) (h2 : M ≤ 64) (h3 : 0 ≤ N) (h4 : N < M) :
    Calls Try.prog 48 #[.agg #[.int .i64 K, .int .i64 N, .int .i64 M]] w fun e w' => e = .returned (.bool true) ∧ ∃ x, w' = beyond w x := by
  go_enter Try.func48, Try.ntmps48
  go_wp2
  all_goals go_ret
  all_goals exact ⟨rfl, beyond_of (by repeat (first | exact Below.refl _ _ | exact below_beyond _ _ | refine Below.beyond ?_ (by simp [size_beyond] <;> omega) _ | refine Below.drew ?_ | refine Below.alloc ?_ (by simp [size_beyond] <;> omega) _ | refine Below.setCell ?_ (by simp [size_beyond] <;> omega) _))⟩

theorem sizeModulo_calls (K N M : Int) (w : World) :
    Calls Try.prog 49 #[.agg #[.int .i64 K, .int .i64 N, .int .i64 M]] w fun e w' => e = .returned (.int .i64 M) ∧ ∃ x, w' = beyond w x := by
  go_enter Try.func49, Try.ntmps49
  go_wp2
  all_goals go_ret
  all_goals exact ⟨rfl, beyond_of (by repeat (first | exact Below.refl _ _ | exact below_beyond _ _ | refine Below.beyond ?_ (by simp [size_beyond] <;> omega) _ | refine Below.drew ?_ | refine Below.alloc ?_ (by simp [size_beyond] <;> omega) _ | refine Below.setCell ?_ (by simp [size_beyond] <;> omega) _))⟩

theorem oneModulo_calls (K N M : Int) (w : World) (h1 : 1 ≤ M) (h2 : M ≤ 64) :
    Calls Try.prog 50 #[.agg #[.int .i64 K, .int .i64 N, .int .i64 M]] w fun e w' => e = .returned (.int .i64 (1 % M)) ∧ ∃ x, w' = beyond w x := by
  go_enter Try.func50, Try.ntmps50
  go_wp2
  all_goals go_ret
  all_goals exact ⟨rfl, beyond_of (by repeat (first | exact Below.refl _ _ | exact below_beyond _ _ | refine Below.beyond ?_ (by simp [size_beyond] <;> omega) _ | refine Below.drew ?_ | refine Below.alloc ?_ (by simp [size_beyond] <;> omega) _ | refine Below.setCell ?_ (by simp [size_beyond] <;> omega) _))⟩

theorem addModulo_calls (K N M a b : Int) (w : World) (h1 : 1 ≤ M) (h2 : M ≤ 64) (h3 : 0 ≤ a) (h4 : a ≤ 100) (h5 : 0 ≤ b) (h6 : b ≤ 100) :
    Calls Try.prog 51 #[.agg #[.int .i64 K, .int .i64 N, .int .i64 M], .int .i64 a, .int .i64 b] w fun e w' => e = .returned (.int .i64 ((a + b) % M)) ∧ ∃ x, w' = beyond w x := by
  go_enter Try.func51, Try.ntmps51
  go_wp2
  all_goals go_ret
  all_goals exact ⟨rfl, beyond_of (by repeat (first | exact Below.refl _ _ | exact below_beyond _ _ | refine Below.beyond ?_ (by simp [size_beyond] <;> omega) _ | refine Below.drew ?_ | refine Below.alloc ?_ (by simp [size_beyond] <;> omega) _ | refine Below.setCell ?_ (by simp [size_beyond] <;> omega) _))⟩

theorem univModulo_calls (K N M a : Int) (w : World) :
    Calls Try.prog 52 #[.agg #[.int .i64 K, .int .i64 N, .int .i64 M], .int .i64 a] w fun e w' => e = .returned (.bool (M == 1)) ∧ ∃ x, w' = beyond w x := by
  go_enter Try.func52, Try.ntmps52
  go_wp2
  all_goals go_ret
  all_goals exact ⟨rfl, beyond_of (by repeat (first | exact Below.refl _ _ | exact below_beyond _ _ | refine Below.beyond ?_ (by simp [size_beyond] <;> omega) _ | refine Below.drew ?_ | refine Below.alloc ?_ (by simp [size_beyond] <;> omega) _ | refine Below.setCell ?_ (by simp [size_beyond] <;> omega) _))⟩

end Go.Proofs.Ytfpmimfglikklaa.mono
