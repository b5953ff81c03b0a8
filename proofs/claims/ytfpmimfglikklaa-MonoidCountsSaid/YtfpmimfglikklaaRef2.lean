/-
  The reference's Holds and Fate on a valid monoid.
-/
import Derived.Test.YtfpmimfglikklaaRef
import Derived.Test.YtfpmimfglikklaaMath2
set_option linter.unusedSimpArgs false
set_option linter.unusedVariables false
namespace Go.Proofs.Ytfpmimfglikklaa.mono
open Go.RowKit Go.Own
set_option maxHeartbeats 400000

theorem rholds_calls {K N M : Int} (hV : V K N M) (a : Int) (w : World) :
    Calls Try.prog 23 #[.agg #[.int .i64 K, .int .i64 N, .int .i64 M], .int .i64 a] w fun e w' => e = .returned (.bool (accB K N M a)) ∧ ∃ x, w' = beyond w x := by
  by_cases ha : 0 ≤ a
  · by_cases hb : a < sz K N M
    · by_cases hK : K < 2
      · have HR := Lib.hid (show (a == 1) = accB K N M a by simp [accB, acc, ha, hb, hK])
        go_enter Try.func23, Try.ntmps23
        go_wp2_with ((go_at_call 31; refine (rsize_calls hV _).mono ?_; rintro e w1 ⟨rfl, x1, rfl⟩))
        go_ret
        exact ⟨ret_bool HR.out, beyond_of (by repeat (first | exact Below.refl _ _ | exact below_beyond _ _ | refine Below.beyond ?_ (by simp [size_beyond] <;> omega) _ | refine Below.drew ?_ | refine Below.alloc ?_ (by simp [size_beyond] <;> omega) _ | refine Below.setCell ?_ (by simp [size_beyond] <;> omega) _))⟩
      · have HR := Lib.hid (show (a == N) = accB K N M a by simp [accB, acc, ha, hb, hK])
        go_enter Try.func23, Try.ntmps23
        go_wp2_with ((go_at_call 31; refine (rsize_calls hV _).mono ?_; rintro e w1 ⟨rfl, x1, rfl⟩))
        go_ret
        exact ⟨ret_bool HR.out, beyond_of (by repeat (first | exact Below.refl _ _ | exact below_beyond _ _ | refine Below.beyond ?_ (by simp [size_beyond] <;> omega) _ | refine Below.drew ?_ | refine Below.alloc ?_ (by simp [size_beyond] <;> omega) _ | refine Below.setCell ?_ (by simp [size_beyond] <;> omega) _))⟩
    · have HR := Lib.hid (show false = accB K N M a by simp [accB, hb])
      go_enter Try.func23, Try.ntmps23
      go_wp2_with ((go_at_call 31; refine (rsize_calls hV _).mono ?_; rintro e w1 ⟨rfl, x1, rfl⟩))
      go_ret
      exact ⟨ret_bool HR.out, beyond_of (by repeat (first | exact Below.refl _ _ | exact below_beyond _ _ | refine Below.beyond ?_ (by simp [size_beyond] <;> omega) _ | refine Below.drew ?_ | refine Below.alloc ?_ (by simp [size_beyond] <;> omega) _ | refine Below.setCell ?_ (by simp [size_beyond] <;> omega) _))⟩
  · have HR := Lib.hid (show false = accB K N M a by simp [accB, ha])
    have hn : a < 0 := by omega
    go_enter Try.func23, Try.ntmps23
    go_wp2_with ((go_at_call 31; refine (rsize_calls hV _).mono ?_; rintro e w1 ⟨rfl, x1, rfl⟩))
    go_ret
    exact ⟨ret_bool HR.out, beyond_of (by repeat (first | exact Below.refl _ _ | exact below_beyond _ _ | refine Below.beyond ?_ (by simp [size_beyond] <;> omega) _ | refine Below.drew ?_ | refine Below.alloc ?_ (by simp [size_beyond] <;> omega) _ | refine Below.setCell ?_ (by simp [size_beyond] <;> omega) _))⟩

theorem rfate_calls {K N M : Int} (hV : V K N M) (a : Int) (w : World) :
    Calls Try.prog 25 #[.agg #[.int .i64 K, .int .i64 N, .int .i64 M], .int .i64 a] w fun e w' => e = .returned (.int .i64 (fate K N M a)) ∧ ∃ x, w' = beyond w x := by
  obtain ⟨hs1, hs2⟩ := sz_pos hV
  by_cases ha : 0 ≤ a
  · by_cases hb : a < sz K N M
    · go_enter Try.func25, Try.ntmps25
      go_wp2_with ((go_at_call 31; refine (rsize_calls hV _).mono ?_; rintro e w1 ⟨rfl, x1, rfl⟩))
      go_loopw [5, 6, 7] (fun y n b wr => ∃ j : Nat, b = .int .i64 j ∧ y = .int .i64 (cnt K N M a j) ∧ n = .int .i64 ((j : Int) - cnt K N M a j) ∧ (j : Int) ≤ sz K N M ∧ ∃ z, wr = beyond (w.alloc (.cells #[.int .i64 K, .int .i64 N, .int .i64 M] 25)) z)
        (fun _ _ b _ => (sz K N M - intOf b).toNat)
      case atStart => exact ⟨0, rfl, rfl, rfl, by omega, beyond_of (by repeat (first | exact Below.refl _ _ | exact below_beyond _ _ | refine Below.beyond ?_ (by simp [size_beyond] <;> omega) _ | refine Below.drew ?_ | refine Below.alloc ?_ (by simp [size_beyond] <;> omega) _ | refine Below.setCell ?_ (by simp [size_beyond] <;> omega) _))⟩
      case round =>
        obtain ⟨j, rfl, rfl, rfl, hj, z, rfl⟩ := hrel
        have hc := cnt_le (K := K) (N := N) (M := M) a j
        by_cases hlt : (j : Int) < sz K N M
        · have hh := fun w => rholds_calls hV (add K N M a j) w
          by_cases hacc : accB K N M (add K N M a j) = true
          · rw [hacc] at hh
            have HH := Lib.hid hh; clear hh
            have HC := Lib.hid (show cnt K N M a (j + 1) = cnt K N M a j + 1 by simp only [cnt]; rw [if_pos hacc])
            go_wp2_with ((go_at_call 31; refine (rsize_calls hV _).mono ?_; rintro e w1 ⟨rfl, x1, rfl⟩))
            refine wp_region_beyond (by kernel_rfl) (by kernel_rfl) ?_
            repeat (go_big_quiet_step (first | (go_at_call 17; exact quiet_beyond (radd_calls hV _ _ _)) | (go_at_call 23; exact quiet_beyond (HH.out _))))
            refine wpQuiet_nil ?_
            rintro _ ⟨x, rfl⟩
            go_wp2
            go_roundw
            case rel => exact ⟨j + 1, by go_num, by rw [HC.out]; go_num, by rw [HC.out]; go_num, by omega, beyond_of (by repeat (first | exact Below.refl _ _ | exact below_beyond _ _ | refine Below.beyond ?_ (by simp [size_beyond] <;> omega) _ | refine Below.drew ?_ | refine Below.alloc ?_ (by simp [size_beyond] <;> omega) _ | refine Below.setCell ?_ (by simp [size_beyond] <;> omega) _))⟩
            case measure => simp [intOf]; omega
          · have hacc' : accB K N M (add K N M a j) = false := by simpa using hacc
            rw [hacc'] at hh
            have HH := Lib.hid hh; clear hh
            have HC := Lib.hid (show cnt K N M a (j + 1) = cnt K N M a j by simp only [cnt]; rw [if_neg hacc]; rfl)
            clear hacc hacc'
            go_wp2_with ((go_at_call 31; refine (rsize_calls hV _).mono ?_; rintro e w1 ⟨rfl, x1, rfl⟩))
            refine wp_region_beyond (by kernel_rfl) (by kernel_rfl) ?_
            repeat (go_big_quiet_step (first | (go_at_call 17; exact quiet_beyond (radd_calls hV _ _ _)) | (go_at_call 23; exact quiet_beyond (HH.out _))))
            refine wpQuiet_nil ?_
            rintro _ ⟨x, rfl⟩
            go_wp2
            go_roundw
            case rel => exact ⟨j + 1, by go_num, by rw [HC.out], by rw [HC.out]; go_num, by omega, beyond_of (by repeat (first | exact Below.refl _ _ | exact below_beyond _ _ | refine Below.beyond ?_ (by simp [size_beyond] <;> omega) _ | refine Below.drew ?_ | refine Below.alloc ?_ (by simp [size_beyond] <;> omega) _ | refine Below.setCell ?_ (by simp [size_beyond] <;> omega) _))⟩
            case measure => simp [intOf]; omega
        · have hjs : (sz K N M).toNat = j := by omega
          have HF := Lib.hid (show fate K N M a = if cnt K N M a j = j then 1 else if cnt K N M a j = 0 then -1 else 0 by unfold fate; rw [if_pos ⟨ha, hb⟩, hjs])
          by_cases hall : cnt K N M a j = j
          · have h1 : ((j : Int) - cnt K N M a j == 0) = true := by simp; omega
            have HA := Lib.hid hall; clear hall
            go_wp2_with ((go_at_call 31; refine (rsize_calls hV _).mono ?_; rintro e w1 ⟨rfl, x1, rfl⟩))
            go_ret
            refine ⟨ret_int ?_, beyond_of (by repeat (first | exact Below.refl _ _ | exact below_beyond _ _ | refine Below.beyond ?_ (by simp [size_beyond] <;> omega) _ | refine Below.drew ?_ | refine Below.alloc ?_ (by simp [size_beyond] <;> omega) _ | refine Below.setCell ?_ (by simp [size_beyond] <;> omega) _))⟩
            rw [HF.out, if_pos HA.out]
          · have h1 : ((j : Int) - cnt K N M a j == 0) = false := by simp; omega
            by_cases hnone : cnt K N M a j = 0
            · have h2 : ((cnt K N M a j : Int) == 0) = true := by simp; omega
              have HA := Lib.hid hall; clear hall
              have HB := Lib.hid hnone; clear hnone
              go_wp2_with ((go_at_call 31; refine (rsize_calls hV _).mono ?_; rintro e w1 ⟨rfl, x1, rfl⟩))
              go_ret
              refine ⟨ret_int ?_, beyond_of (by repeat (first | exact Below.refl _ _ | exact below_beyond _ _ | refine Below.beyond ?_ (by simp [size_beyond] <;> omega) _ | refine Below.drew ?_ | refine Below.alloc ?_ (by simp [size_beyond] <;> omega) _ | refine Below.setCell ?_ (by simp [size_beyond] <;> omega) _))⟩
              rw [HF.out, if_neg HA.out, if_pos HB.out]
            · have h2 : ((cnt K N M a j : Int) == 0) = false := by simp; omega
              have HA := Lib.hid hall; clear hall
              have HB := Lib.hid hnone; clear hnone
              go_wp2_with ((go_at_call 31; refine (rsize_calls hV _).mono ?_; rintro e w1 ⟨rfl, x1, rfl⟩))
              go_ret
              refine ⟨ret_int ?_, beyond_of (by repeat (first | exact Below.refl _ _ | exact below_beyond _ _ | refine Below.beyond ?_ (by simp [size_beyond] <;> omega) _ | refine Below.drew ?_ | refine Below.alloc ?_ (by simp [size_beyond] <;> omega) _ | refine Below.setCell ?_ (by simp [size_beyond] <;> omega) _))⟩
              rw [HF.out, if_neg HA.out, if_neg HB.out]
    · go_enter Try.func25, Try.ntmps25
      go_wp2_with ((go_at_call 31; refine (rsize_calls hV _).mono ?_; rintro e w1 ⟨rfl, x1, rfl⟩))
      go_ret
      refine ⟨ret_int ?_, beyond_of (by repeat (first | exact Below.refl _ _ | exact below_beyond _ _ | refine Below.beyond ?_ (by simp [size_beyond] <;> omega) _ | refine Below.drew ?_ | refine Below.alloc ?_ (by simp [size_beyond] <;> omega) _ | refine Below.setCell ?_ (by simp [size_beyond] <;> omega) _))⟩
      unfold fate; rw [if_neg (by omega)]
  · have hn : a < 0 := by omega
    go_enter Try.func25, Try.ntmps25
    go_wp2_with ((go_at_call 31; refine (rsize_calls hV _).mono ?_; rintro e w1 ⟨rfl, x1, rfl⟩))
    go_ret
    refine ⟨ret_int ?_, beyond_of (by repeat (first | exact Below.refl _ _ | exact below_beyond _ _ | refine Below.beyond ?_ (by simp [size_beyond] <;> omega) _ | refine Below.drew ?_ | refine Below.alloc ?_ (by simp [size_beyond] <;> omega) _ | refine Below.setCell ?_ (by simp [size_beyond] <;> omega) _))⟩
    unfold fate; rw [if_neg (by omega)]
end Go.Proofs.Ytfpmimfglikklaa.mono
