/-
  MonoidAbsorbing: the walk.
-/
import Derived.Test.YtfpmimfglikklaaElem
import Derived.Test.YtfpmimfglikklaaFix
set_option linter.unusedSimpArgs false
set_option linter.unusedVariables false
namespace Go.Proofs.Ytfpmimfglikklaa.mono
open Go.RowKit Go.Own
set_option maxHeartbeats 1000000
set_option maxRecDepth 100000

theorem absorbing_walk (K N M a : Int) (q : Option Addr) (n cap b off : Nat) (V' : Nat → Bool) (w : World) (hn : n ≤ 9223372036854775807)
    (hq : 0 < n → q = some ⟨b, off, none⟩ ∧ b < w.heap.size) (hx : ∀ i, i < n → w.cell? ⟨b, off + i, none⟩ = some (.bool (V' i))) :
    Calls Try.prog 9 #[.agg #[.int .i64 K, .int .i64 N, .int .i64 M], .int .i64 a, .slice q n cap] w fun e w' => e = .returned (.bool true) ∧ ∃ x, w' = beyond w x := by
  obtain ⟨u, hu⟩ : ∃ u, IntKind.u64.wrap a = u := ⟨_, rfl⟩
  have bu := (u64_range a).1
  rw [hu] at bu
  have HX := Lib.hid hx; clear hx
  have HQ := Lib.hid hq; clear hq
  go_enter Try.func9, Try.ntmps9
  go_wp2_with ((go_at_call 10; refine (fix_calls _ _ _ _).mono ?_; rintro e w1 ⟨K', N', M', hV, rfl, x1, rfl⟩))
  obtain ⟨hs1, hs2⟩ := sz_pos hV
  have hz : (sz K' N' M' == 0) = false := by simp; omega
  have hv0 := Int.emod_nonneg u (show sz K' N' M' ≠ 0 by omega)
  have hv1 := Int.emod_lt_of_pos u (show 0 < sz K' N' M' by omega)
  have cd := fun w => dead_calls hV (u % sz K' N' M') w
  have cu := fun w => universal_calls hV (u % sz K' N' M') w
  have ca := fun w => accepts_calls hV (u % sz K' N' M') w
  by_cases hd : deadB K' N' M' (u % sz K' N' M') = true
  · rw [hd] at cd
    rw [dead_uni hV hd] at cu
    rw [dead_acc hV hd] at ca
    have HP := Lib.hid hd; clear hd
    have CD := Lib.hid cd; clear cd
    have CU := Lib.hid cu; clear cu
    have CA := Lib.hid ca; clear ca
    go_wp2_with ((go_at_call 19; refine (size_calls hV _).mono ?_; rintro e w1 ⟨rfl, x1, rfl⟩))
    refine wp_region_beyond (by kernel_rfl) (by kernel_rfl) ?_
    repeat (go_big_quiet_step (first | (go_at_call 24; exact quiet_beyond (CD.out _)) | (go_at_call 26; exact quiet_beyond (CU.out _))))
    refine wpQuiet_nil ?_
    rintro _ ⟨x5, rfl⟩
    go_wp2_with (first | (go_at_call 22; refine (CA.out _).mono ?_; rintro e w2 ⟨rfl, x6, rfl⟩))
    go_loopw [8, 11] (fun v i wr => ∃ (k : Nat) (x : Int), i = .int .i64 k ∧ v = .int .i64 x ∧ k ≤ n ∧ Hid (deadB K' N' M' x = true) ∧ ∃ y, wr = beyond (w.alloc (.cells #[.int .i64 K', .int .i64 N', .int .i64 M'] 23)) y)
      (fun _ i _ => n - (intOf i).toNat)
    case atStart => exact ⟨0, _, rfl, rfl, by omega, HP.out, beyond_of (by repeat (first | assumption | exact Below.refl _ _ | exact below_beyond _ _ | refine Below.beyond ?_ (by (try simp [size_beyond]) <;> omega) _ | refine Below.drew ?_ | refine Below.alloc ?_ (by (try simp [size_beyond]) <;> omega) _ | refine Below.setCell ?_ (by (try simp [size_beyond]) <;> omega) _))⟩
    case round =>
      obtain ⟨k, x, rfl, rfl, hk, HPx, y, rfl⟩ := hrel
      by_cases hlt : k < n
      · by_cases h200 : k < 200
        · obtain ⟨rfl, hb⟩ := HQ.out (by omega)
          have hin : inW b w = true := inW_iff.2 hb
          have hxk := HX.out k hlt
          have cd := fun w => dead_calls hV (add K' N' M' x (valB K' M' (V' k))) w
          rw [dead_add hV HPx.out _] at cd
          have CD' := Lib.hid cd; clear cd
          have ca := fun w => accepts_calls hV (add K' N' M' x (valB K' M' (V' k))) w
          rw [dead_acc hV (dead_add hV HPx.out _)] at ca
          have CA' := Lib.hid ca; clear ca
          have CU' := Lib.hid True.intro
          go_wp2
          refine wp_region_beyond (by kernel_rfl) (by kernel_rfl) ?_
          repeat (go_big_quiet_step (first | (go_at_call 15; exact quiet_beyond (value_calls hV _ _)) | (go_at_call 16; exact quiet_beyond (add_calls hV _ _ _))))
          refine wpQuiet_nil ?_
          rintro _ ⟨x5, rfl⟩
          go_wp2_with (first | (go_at_call 24; refine (CD'.out _).mono ?_; rintro e w2 ⟨rfl, x6, rfl⟩) | (go_at_call 26; refine (CU'.out _).mono ?_; rintro e w2 ⟨rfl, x6, rfl⟩) | (go_at_call 22; refine (CA'.out _).mono ?_; rintro e w2 ⟨rfl, x6, rfl⟩))
          go_roundw
          case rel => exact ⟨k + 1, _, by go_num, rfl, by omega, dead_add hV HPx.out _, beyond_of (by repeat (first | assumption | exact Below.refl _ _ | exact below_beyond _ _ | refine Below.beyond ?_ (by (try simp [size_beyond]) <;> omega) _ | refine Below.drew ?_ | refine Below.alloc ?_ (by (try simp [size_beyond]) <;> omega) _ | refine Below.setCell ?_ (by (try simp [size_beyond]) <;> omega) _))⟩
          case measure => simp [intOf]; omega
        · go_wp2_with ((go_at_call 12; refine (known_calls _).mono ?_; rintro e w1 ⟨rfl, x1, rfl⟩))
          go_ret
          exact ⟨rfl, beyond_of (by repeat (first | assumption | exact Below.refl _ _ | exact below_beyond _ _ | refine Below.beyond ?_ (by (try simp [size_beyond]) <;> omega) _ | refine Below.drew ?_ | refine Below.alloc ?_ (by (try simp [size_beyond]) <;> omega) _ | refine Below.setCell ?_ (by (try simp [size_beyond]) <;> omega) _))⟩
      · go_wp2_with ((go_at_call 12; refine (known_calls _).mono ?_; rintro e w1 ⟨rfl, x1, rfl⟩))
        go_ret
        exact ⟨rfl, beyond_of (by repeat (first | assumption | exact Below.refl _ _ | exact below_beyond _ _ | refine Below.beyond ?_ (by (try simp [size_beyond]) <;> omega) _ | refine Below.drew ?_ | refine Below.alloc ?_ (by (try simp [size_beyond]) <;> omega) _ | refine Below.setCell ?_ (by (try simp [size_beyond]) <;> omega) _))⟩
  · have hd' := Bool.eq_false_iff.2 hd
    rw [hd'] at cd
    clear hd hd'
    by_cases hun : uniB K' N' M' (u % sz K' N' M') = true
    · rw [hun] at cu
      rw [uni_acc hV hun] at ca
      have HP := Lib.hid hun; clear hun
      have CD := Lib.hid cd; clear cd
      have CU := Lib.hid cu; clear cu
      have CA := Lib.hid ca; clear ca
      go_wp2_with ((go_at_call 19; refine (size_calls hV _).mono ?_; rintro e w1 ⟨rfl, x1, rfl⟩))
      refine wp_region_beyond (by kernel_rfl) (by kernel_rfl) ?_
      repeat (go_big_quiet_step (first | (go_at_call 24; exact quiet_beyond (CD.out _)) | (go_at_call 26; exact quiet_beyond (CU.out _))))
      refine wpQuiet_nil ?_
      rintro _ ⟨x5, rfl⟩
      go_wp2_with (first | (go_at_call 22; refine (CA.out _).mono ?_; rintro e w2 ⟨rfl, x6, rfl⟩))
      go_loopw [8, 11] (fun v i wr => ∃ (k : Nat) (x : Int), i = .int .i64 k ∧ v = .int .i64 x ∧ k ≤ n ∧ Hid (uniB K' N' M' x = true) ∧ ∃ y, wr = beyond (w.alloc (.cells #[.int .i64 K', .int .i64 N', .int .i64 M'] 23)) y)
        (fun _ i _ => n - (intOf i).toNat)
      case atStart => exact ⟨0, _, rfl, rfl, by omega, HP.out, beyond_of (by repeat (first | assumption | exact Below.refl _ _ | exact below_beyond _ _ | refine Below.beyond ?_ (by (try simp [size_beyond]) <;> omega) _ | refine Below.drew ?_ | refine Below.alloc ?_ (by (try simp [size_beyond]) <;> omega) _ | refine Below.setCell ?_ (by (try simp [size_beyond]) <;> omega) _))⟩
      case round =>
        obtain ⟨k, x, rfl, rfl, hk, HPx, y, rfl⟩ := hrel
        by_cases hlt : k < n
        · by_cases h200 : k < 200
          · obtain ⟨rfl, hb⟩ := HQ.out (by omega)
            have hin : inW b w = true := inW_iff.2 hb
            have hxk := HX.out k hlt
            have cu := fun w => universal_calls hV (add K' N' M' x (valB K' M' (V' k))) w
            rw [uni_add hV HPx.out _] at cu
            have CU' := Lib.hid cu; clear cu
            have ca := fun w => accepts_calls hV (add K' N' M' x (valB K' M' (V' k))) w
            rw [uni_acc hV (uni_add hV HPx.out _)] at ca
            have CA' := Lib.hid ca; clear ca
            have CD' := Lib.hid True.intro
            go_wp2
            refine wp_region_beyond (by kernel_rfl) (by kernel_rfl) ?_
            repeat (go_big_quiet_step (first | (go_at_call 15; exact quiet_beyond (value_calls hV _ _)) | (go_at_call 16; exact quiet_beyond (add_calls hV _ _ _))))
            refine wpQuiet_nil ?_
            rintro _ ⟨x5, rfl⟩
            go_wp2_with (first | (go_at_call 24; refine (CD'.out _).mono ?_; rintro e w2 ⟨rfl, x6, rfl⟩) | (go_at_call 26; refine (CU'.out _).mono ?_; rintro e w2 ⟨rfl, x6, rfl⟩) | (go_at_call 22; refine (CA'.out _).mono ?_; rintro e w2 ⟨rfl, x6, rfl⟩))
            go_roundw
            case rel => exact ⟨k + 1, _, by go_num, rfl, by omega, uni_add hV HPx.out _, beyond_of (by repeat (first | assumption | exact Below.refl _ _ | exact below_beyond _ _ | refine Below.beyond ?_ (by (try simp [size_beyond]) <;> omega) _ | refine Below.drew ?_ | refine Below.alloc ?_ (by (try simp [size_beyond]) <;> omega) _ | refine Below.setCell ?_ (by (try simp [size_beyond]) <;> omega) _))⟩
            case measure => simp [intOf]; omega
          · go_wp2_with ((go_at_call 12; refine (known_calls _).mono ?_; rintro e w1 ⟨rfl, x1, rfl⟩))
            go_ret
            exact ⟨rfl, beyond_of (by repeat (first | assumption | exact Below.refl _ _ | exact below_beyond _ _ | refine Below.beyond ?_ (by (try simp [size_beyond]) <;> omega) _ | refine Below.drew ?_ | refine Below.alloc ?_ (by (try simp [size_beyond]) <;> omega) _ | refine Below.setCell ?_ (by (try simp [size_beyond]) <;> omega) _))⟩
        · go_wp2_with ((go_at_call 12; refine (known_calls _).mono ?_; rintro e w1 ⟨rfl, x1, rfl⟩))
          go_ret
          exact ⟨rfl, beyond_of (by repeat (first | assumption | exact Below.refl _ _ | exact below_beyond _ _ | refine Below.beyond ?_ (by (try simp [size_beyond]) <;> omega) _ | refine Below.drew ?_ | refine Below.alloc ?_ (by (try simp [size_beyond]) <;> omega) _ | refine Below.setCell ?_ (by (try simp [size_beyond]) <;> omega) _))⟩
    · have hd' := Bool.eq_false_iff.2 hun
      rw [hd'] at cu
      clear hun hd'
      have HP := Lib.hid True.intro
      have CD := Lib.hid cd; clear cd
      have CU := Lib.hid cu; clear cu
      have CA := Lib.hid ca; clear ca
      go_wp2_with ((go_at_call 19; refine (size_calls hV _).mono ?_; rintro e w1 ⟨rfl, x1, rfl⟩))
      refine wp_region_beyond (by kernel_rfl) (by kernel_rfl) ?_
      repeat (go_big_quiet_step (first | (go_at_call 24; exact quiet_beyond (CD.out _)) | (go_at_call 26; exact quiet_beyond (CU.out _))))
      refine wpQuiet_nil ?_
      rintro _ ⟨x5, rfl⟩
      go_wp2_with (first | (go_at_call 22; refine (CA.out _).mono ?_; rintro e w2 ⟨rfl, x6, rfl⟩))
      go_loopw [8, 11] (fun v i wr => ∃ (k : Nat) (x : Int), i = .int .i64 k ∧ v = .int .i64 x ∧ k ≤ n ∧ Hid (True) ∧ ∃ y, wr = beyond (w.alloc (.cells #[.int .i64 K', .int .i64 N', .int .i64 M'] 23)) y)
        (fun _ i _ => n - (intOf i).toNat)
      case atStart => exact ⟨0, _, rfl, rfl, by omega, HP.out, beyond_of (by repeat (first | assumption | exact Below.refl _ _ | exact below_beyond _ _ | refine Below.beyond ?_ (by (try simp [size_beyond]) <;> omega) _ | refine Below.drew ?_ | refine Below.alloc ?_ (by (try simp [size_beyond]) <;> omega) _ | refine Below.setCell ?_ (by (try simp [size_beyond]) <;> omega) _))⟩
      case round =>
        obtain ⟨k, x, rfl, rfl, hk, HPx, y, rfl⟩ := hrel
        by_cases hlt : k < n
        · by_cases h200 : k < 200
          · obtain ⟨rfl, hb⟩ := HQ.out (by omega)
            have hin : inW b w = true := inW_iff.2 hb
            have hxk := HX.out k hlt
            have CD' := Lib.hid True.intro
            have CU' := Lib.hid True.intro
            have CA' := Lib.hid True.intro
            go_wp2
            refine wp_region_beyond (by kernel_rfl) (by kernel_rfl) ?_
            repeat (go_big_quiet_step (first | (go_at_call 15; exact quiet_beyond (value_calls hV _ _)) | (go_at_call 16; exact quiet_beyond (add_calls hV _ _ _))))
            refine wpQuiet_nil ?_
            rintro _ ⟨x5, rfl⟩
            go_wp2_with (first | (go_at_call 24; refine (CD'.out _).mono ?_; rintro e w2 ⟨rfl, x6, rfl⟩) | (go_at_call 26; refine (CU'.out _).mono ?_; rintro e w2 ⟨rfl, x6, rfl⟩) | (go_at_call 22; refine (CA'.out _).mono ?_; rintro e w2 ⟨rfl, x6, rfl⟩))
            go_roundw
            case rel => exact ⟨k + 1, _, by go_num, rfl, by omega, trivial, beyond_of (by repeat (first | assumption | exact Below.refl _ _ | exact below_beyond _ _ | refine Below.beyond ?_ (by (try simp [size_beyond]) <;> omega) _ | refine Below.drew ?_ | refine Below.alloc ?_ (by (try simp [size_beyond]) <;> omega) _ | refine Below.setCell ?_ (by (try simp [size_beyond]) <;> omega) _))⟩
            case measure => simp [intOf]; omega
          · go_wp2_with ((go_at_call 12; refine (known_calls _).mono ?_; rintro e w1 ⟨rfl, x1, rfl⟩))
            go_ret
            exact ⟨rfl, beyond_of (by repeat (first | assumption | exact Below.refl _ _ | exact below_beyond _ _ | refine Below.beyond ?_ (by (try simp [size_beyond]) <;> omega) _ | refine Below.drew ?_ | refine Below.alloc ?_ (by (try simp [size_beyond]) <;> omega) _ | refine Below.setCell ?_ (by (try simp [size_beyond]) <;> omega) _))⟩
        · go_wp2_with ((go_at_call 12; refine (known_calls _).mono ?_; rintro e w1 ⟨rfl, x1, rfl⟩))
          go_ret
          exact ⟨rfl, beyond_of (by repeat (first | assumption | exact Below.refl _ _ | exact below_beyond _ _ | refine Below.beyond ?_ (by (try simp [size_beyond]) <;> omega) _ | refine Below.drew ?_ | refine Below.alloc ?_ (by (try simp [size_beyond]) <;> omega) _ | refine Below.setCell ?_ (by (try simp [size_beyond]) <;> omega) _))⟩
end Go.Proofs.Ytfpmimfglikklaa.mono
