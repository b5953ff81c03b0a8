/-
  MonoidLargeTimes: the walk.
-/
import Derived.Test.YtfpmimfglikklaaValues
set_option linter.unusedSimpArgs false
set_option linter.unusedVariables false
namespace Go.Proofs.Ytfpmimfglikklaa.mono
open Go.RowKit Go.Own
set_option maxHeartbeats 1000000

theorem rep_all (v : Int) (h0 : 0 ≤ v) (h1 : v < 2) (n : Nat) : rep 0 0 0 v n = if n = 0 then 1 else v := by
  induction n with
  | zero => rfl
  | succ n ih => simp only [rep, ih]; split <;> simp [add, plus, near, sz] <;> omega
theorem rep_any (v : Int) (h0 : 0 ≤ v) (h1 : v < 2) (n : Nat) : rep 1 0 0 v n = if n = 0 then 0 else v := by
  induction n with
  | zero => rfl
  | succ n ih => simp only [rep, ih]; split <;> simp [add, plus, near, sz] <;> omega
theorem rep_exactly (N v : Int) (hN : 0 ≤ N) (h0 : 0 ≤ v) (h1 : v < N + 2) (n : Nat) : rep 2 N 0 v n = min (v * n) (N + 1) := by
  induction n with
  | zero => simp [rep, idn]; omega
  | succ n ih =>
    have hp : 0 ≤ v * (n : Int) := Int.mul_nonneg h0 (by omega)
    have e : v * ((n + 1 : Nat) : Int) = v * n + v := by rw [Int.natCast_succ, Int.mul_add, Int.mul_one]
    simp only [rep, ih, e]
    generalize v * (n : Int) = p at hp
    simp [add, plus, near, sz]; omega
theorem rep_modulo (N M v : Int) (hM : 1 ≤ M) (h0 : 0 ≤ v) (h1 : v < M) (n : Nat) : rep 3 N M v n = (v * n) % M := by
  induction n with
  | zero => simp [rep, idn]
  | succ n ih =>
    have e : v * ((n + 1 : Nat) : Int) = v * n + v := by rw [Int.natCast_succ, Int.mul_add, Int.mul_one]
    have hr0 := Int.emod_nonneg (v * (n : Int)) (show M ≠ 0 by omega)
    have hr1 := Int.emod_lt_of_pos (v * (n : Int)) (show 0 < M by omega)
    simp only [rep, ih, e]
    have ea : near 3 N M (v * (n : Int) % M) = v * n % M := near_of hr0 (by simpa [sz] using hr1)
    have eb : near 3 N M v = v := near_of h0 (by simpa [sz] using h1)
    simp only [add, ea, eb]
    simp [plus]

theorem large_walk (K N M a n : Int) (w : World) :
    Calls Try.prog 7 #[.agg #[.int .i64 K, .int .i64 N, .int .i64 M], .int .i64 a, .int .i64 n] w fun e w' => e = .returned (.bool true) ∧ ∃ x, w' = beyond w x := by
  obtain ⟨u, hu⟩ : ∃ u, IntKind.u64.wrap n = u := ⟨_, rfl⟩
  have bu := u64_range n
  rw [hu] at bu
  obtain ⟨bu1, bu2⟩ := bu
  go_enter Try.func7, Try.ntmps7
  go_wp2_with ((go_at_call 10; refine (fix_calls _ _ _ _).mono ?_; rintro e w1 ⟨K', N', M', hV, rfl, x1, rfl⟩))
  obtain ⟨hs1, hs2⟩ := sz_pos hV
  obtain ⟨hn1, hn2⟩ := near_in hV a
  by_cases hq : u / 4 = 0
  · have hq0 : (u / 4 == 0) = true := by simpa using hq
    have HQ := Lib.hid hq; clear hq
    have q1 : (rep K' N' M' (near K' N' M' a) (u / 4).toNat == ofF K' N' M' 0 0) = true := by
      rw [HQ.out]; exact ofF_00 hV
    go_wp2_with (first | (go_at_call 11; refine (plain_law _ _ _ _).mono ?_; rintro e w1 ⟨rfl, x2, rfl⟩) | (go_at_call 21; refine (rvalue_calls hV _ _).mono ?_; rintro e w1 ⟨rfl, x1, rfl⟩) | (go_at_call 12; refine (known_calls _).mono ?_; rintro e w1 ⟨rfl, x1, rfl⟩) | (go_at_call 20; refine (times_calls hV _ _ (by omega) _).mono ?_; rintro e w1 ⟨rfl, x1, rfl⟩) | (go_at_call 14; refine (rof_calls hV _ _ (by omega) (by omega) _).mono ?_; rintro e w1 ⟨rfl, x1, rfl⟩))
    go_ret
    exact ⟨rfl, beyond_of (by repeat (first | assumption | exact Below.refl _ _ | exact below_beyond _ _ | refine Below.beyond ?_ (by (try simp [size_beyond]) <;> omega) _ | refine Below.drew ?_ | refine Below.alloc ?_ (by (try simp [size_beyond]) <;> omega) _ | refine Below.setCell ?_ (by (try simp [size_beyond]) <;> omega) _))⟩
  · have hq0 : (u / 4 == 0) = false := by simpa using hq
    have hqp : 1 ≤ u / 4 := by omega
    have hqn : (u / 4).toNat ≠ 0 := by omega
    have hqc : ((u / 4).toNat : Int) = u / 4 := by omega
    clear hq
    rcases hV with ⟨rfl, rfl, rfl⟩ | ⟨rfl, rfl, rfl⟩ | ⟨rfl, rfl, h1, h2⟩ | ⟨rfl, h1, h2, h3, h4⟩
    · have hV : V 0 0 0 := Or.inl ⟨rfl, rfl, rfl⟩
      have q1 : (rep 0 0 0 (near 0 0 0 a) (u / 4).toNat == near 0 0 0 a) = true := by
        rw [rep_all _ hn1 hn2, if_neg hqn]; simp
      clear hqn hqc
      go_wp2_with (first | (go_at_call 11; refine (plain_law _ _ _ _).mono ?_; rintro e w1 ⟨rfl, x2, rfl⟩) | (go_at_call 21; refine (rvalue_calls hV _ _).mono ?_; rintro e w1 ⟨rfl, x1, rfl⟩) | (go_at_call 12; refine (known_calls _).mono ?_; rintro e w1 ⟨rfl, x1, rfl⟩) | (go_at_call 20; refine (times_calls hV _ _ (by omega) _).mono ?_; rintro e w1 ⟨rfl, x1, rfl⟩))
      go_ret
      exact ⟨rfl, beyond_of (by repeat (first | assumption | exact Below.refl _ _ | exact below_beyond _ _ | refine Below.beyond ?_ (by (try simp [size_beyond]) <;> omega) _ | refine Below.drew ?_ | refine Below.alloc ?_ (by (try simp [size_beyond]) <;> omega) _ | refine Below.setCell ?_ (by (try simp [size_beyond]) <;> omega) _))⟩
    · have hV : V 1 0 0 := Or.inr (Or.inl ⟨rfl, rfl, rfl⟩)
      have q1 : (rep 1 0 0 (near 1 0 0 a) (u / 4).toNat == near 1 0 0 a) = true := by
        rw [rep_any _ hn1 hn2, if_neg hqn]; simp
      clear hqn hqc
      go_wp2_with (first | (go_at_call 11; refine (plain_law _ _ _ _).mono ?_; rintro e w1 ⟨rfl, x2, rfl⟩) | (go_at_call 21; refine (rvalue_calls hV _ _).mono ?_; rintro e w1 ⟨rfl, x1, rfl⟩) | (go_at_call 12; refine (known_calls _).mono ?_; rintro e w1 ⟨rfl, x1, rfl⟩) | (go_at_call 20; refine (times_calls hV _ _ (by omega) _).mono ?_; rintro e w1 ⟨rfl, x1, rfl⟩))
      go_ret
      exact ⟨rfl, beyond_of (by repeat (first | assumption | exact Below.refl _ _ | exact below_beyond _ _ | refine Below.beyond ?_ (by (try simp [size_beyond]) <;> omega) _ | refine Below.drew ?_ | refine Below.alloc ?_ (by (try simp [size_beyond]) <;> omega) _ | refine Below.setCell ?_ (by (try simp [size_beyond]) <;> omega) _))⟩
    · have hV : V 2 N' 0 := Or.inr (Or.inr (Or.inl ⟨rfl, rfl, h1, h2⟩))
      have hn3 : near 2 N' 0 a < N' + 2 := by simpa [sz] using hn2
      have q0 := rep_exactly N' (near 2 N' 0 a) h1 hn1 hn3 (u / 4).toNat
      rw [hqc] at q0
      clear hqn hqc hn2 hs1 hs2
      by_cases hv : 0 < near 2 N' 0 a
      · by_cases h100 : u / 4 ≤ 100
        · have b1 : 0 ≤ near 2 N' 0 a * (u / 4) := Int.mul_nonneg hn1 (by omega)
          have b2 : near 2 N' 0 a * (u / 4) ≤ 64 * 100 := Int.mul_le_mul (by omega) (by omega) (by omega) (by omega)
          by_cases hle : near 2 N' 0 a * (u / 4) ≤ N' + 1
          · have q1 : (rep 2 N' 0 (near 2 N' 0 a) (u / 4).toNat == near 2 N' 0 a * (u / 4)) = true := by rw [q0, beq_iff_eq]; omega
            clear q0
            go_wp2_with (first | (go_at_call 11; refine (plain_law _ _ _ _).mono ?_; rintro e w1 ⟨rfl, x2, rfl⟩) | (go_at_call 21; refine (rvalue_calls hV _ _).mono ?_; rintro e w1 ⟨rfl, x1, rfl⟩) | (go_at_call 12; refine (known_calls _).mono ?_; rintro e w1 ⟨rfl, x1, rfl⟩) | (go_at_call 20; refine (times_calls hV _ _ (by omega) _).mono ?_; rintro e w1 ⟨rfl, x1, rfl⟩))
            go_ret
            exact ⟨rfl, beyond_of (by repeat (first | assumption | exact Below.refl _ _ | exact below_beyond _ _ | refine Below.beyond ?_ (by (try simp [size_beyond]) <;> omega) _ | refine Below.drew ?_ | refine Below.alloc ?_ (by (try simp [size_beyond]) <;> omega) _ | refine Below.setCell ?_ (by (try simp [size_beyond]) <;> omega) _))⟩
          · have q1 : (rep 2 N' 0 (near 2 N' 0 a) (u / 4).toNat == N' + 1) = true := by rw [q0, beq_iff_eq]; omega
            clear q0
            go_wp2_with (first | (go_at_call 11; refine (plain_law _ _ _ _).mono ?_; rintro e w1 ⟨rfl, x2, rfl⟩) | (go_at_call 21; refine (rvalue_calls hV _ _).mono ?_; rintro e w1 ⟨rfl, x1, rfl⟩) | (go_at_call 12; refine (known_calls _).mono ?_; rintro e w1 ⟨rfl, x1, rfl⟩) | (go_at_call 20; refine (times_calls hV _ _ (by omega) _).mono ?_; rintro e w1 ⟨rfl, x1, rfl⟩))
            go_ret
            exact ⟨rfl, beyond_of (by repeat (first | assumption | exact Below.refl _ _ | exact below_beyond _ _ | refine Below.beyond ?_ (by (try simp [size_beyond]) <;> omega) _ | refine Below.drew ?_ | refine Below.alloc ?_ (by (try simp [size_beyond]) <;> omega) _ | refine Below.setCell ?_ (by (try simp [size_beyond]) <;> omega) _))⟩
        · have b1 : 0 ≤ near 2 N' 0 a * 100 := by omega
          have b2 : ¬ near 2 N' 0 a * 100 ≤ N' + 1 := by omega
          have b3 : near 2 N' 0 a * 100 ≤ near 2 N' 0 a * (u / 4) := Int.mul_le_mul (by omega) (by omega) (by omega) (by omega)
          have q1 : (rep 2 N' 0 (near 2 N' 0 a) (u / 4).toNat == N' + 1) = true := by rw [q0, beq_iff_eq]; omega
          clear q0 b3
          go_wp2_with (first | (go_at_call 11; refine (plain_law _ _ _ _).mono ?_; rintro e w1 ⟨rfl, x2, rfl⟩) | (go_at_call 21; refine (rvalue_calls hV _ _).mono ?_; rintro e w1 ⟨rfl, x1, rfl⟩) | (go_at_call 12; refine (known_calls _).mono ?_; rintro e w1 ⟨rfl, x1, rfl⟩) | (go_at_call 20; refine (times_calls hV _ _ (by omega) _).mono ?_; rintro e w1 ⟨rfl, x1, rfl⟩))
          go_ret
          exact ⟨rfl, beyond_of (by repeat (first | assumption | exact Below.refl _ _ | exact below_beyond _ _ | refine Below.beyond ?_ (by (try simp [size_beyond]) <;> omega) _ | refine Below.drew ?_ | refine Below.alloc ?_ (by (try simp [size_beyond]) <;> omega) _ | refine Below.setCell ?_ (by (try simp [size_beyond]) <;> omega) _))⟩
      · have q1 : (rep 2 N' 0 (near 2 N' 0 a) (u / 4).toNat == near 2 N' 0 a) = true := by
          have hz : near 2 N' 0 a = 0 := by omega
          rw [q0, beq_iff_eq, hz]; simp; omega
        clear q0
        go_wp2_with (first | (go_at_call 11; refine (plain_law _ _ _ _).mono ?_; rintro e w1 ⟨rfl, x2, rfl⟩) | (go_at_call 21; refine (rvalue_calls hV _ _).mono ?_; rintro e w1 ⟨rfl, x1, rfl⟩) | (go_at_call 12; refine (known_calls _).mono ?_; rintro e w1 ⟨rfl, x1, rfl⟩) | (go_at_call 20; refine (times_calls hV _ _ (by omega) _).mono ?_; rintro e w1 ⟨rfl, x1, rfl⟩))
        go_ret
        exact ⟨rfl, beyond_of (by repeat (first | assumption | exact Below.refl _ _ | exact below_beyond _ _ | refine Below.beyond ?_ (by (try simp [size_beyond]) <;> omega) _ | refine Below.drew ?_ | refine Below.alloc ?_ (by (try simp [size_beyond]) <;> omega) _ | refine Below.setCell ?_ (by (try simp [size_beyond]) <;> omega) _))⟩
    · have hV : V 3 N' M' := Or.inr (Or.inr (Or.inr ⟨rfl, h1, h2, h3, h4⟩))
      have hn3 : near 3 N' M' a < M' := by simpa [sz] using hn2
      have q0 := rep_modulo N' M' (near 3 N' M' a) h1 hn1 hn3 (u / 4).toNat
      rw [hqc] at q0
      have r0 := Int.emod_nonneg (u / 4) (show M' ≠ 0 by omega)
      have r1 := Int.emod_lt_of_pos (u / 4) (show 0 < M' by omega)
      have b1 : 0 ≤ near 3 N' M' a * (u / 4 % M') := Int.mul_nonneg hn1 r0
      have b2 : near 3 N' M' a * (u / 4 % M') ≤ 64 * 64 := Int.mul_le_mul (by omega) (by omega) (by omega) (by omega)
      have b3 := Int.emod_nonneg (near 3 N' M' a * (u / 4 % M')) (show M' ≠ 0 by omega)
      have b4 := Int.emod_lt_of_pos (near 3 N' M' a * (u / 4 % M')) (show 0 < M' by omega)
      have hM0 : (M' == 0) = false := by simp; omega
      have q1 : (rep 3 N' M' (near 3 N' M' a) (u / 4).toNat == near 3 N' M' a * (u / 4 % M') % M') = true := by
        rw [q0, beq_iff_eq, Int.mul_emod, Int.mul_emod (near 3 N' M' a) (u / 4 % M'), Int.emod_emod]
      clear q0 hqn hqc hn2
      go_wp2_with (first | (go_at_call 11; refine (plain_law _ _ _ _).mono ?_; rintro e w1 ⟨rfl, x2, rfl⟩) | (go_at_call 21; refine (rvalue_calls hV _ _).mono ?_; rintro e w1 ⟨rfl, x1, rfl⟩) | (go_at_call 12; refine (known_calls _).mono ?_; rintro e w1 ⟨rfl, x1, rfl⟩) | (go_at_call 20; refine (times_calls hV _ _ (by omega) _).mono ?_; rintro e w1 ⟨rfl, x1, rfl⟩))
      refine wp_region_beyond (by kernel_rfl) (by kernel_rfl) ?_
      repeat (go_big_quiet_step (fail))
      refine wpQuiet_nil ?_
      rintro _ ⟨x5, rfl⟩
      go_wp2_with (first | (go_at_call 11; refine (plain_law _ _ _ _).mono ?_; rintro e w1 ⟨rfl, x2, rfl⟩) | (go_at_call 21; refine (rvalue_calls hV _ _).mono ?_; rintro e w1 ⟨rfl, x1, rfl⟩) | (go_at_call 12; refine (known_calls _).mono ?_; rintro e w1 ⟨rfl, x1, rfl⟩) | (go_at_call 20; refine (times_calls hV _ _ (by omega) _).mono ?_; rintro e w1 ⟨rfl, x1, rfl⟩))
      go_ret
      exact ⟨rfl, beyond_of (by repeat (first | assumption | exact Below.refl _ _ | exact below_beyond _ _ | refine Below.beyond ?_ (by (try simp [size_beyond]) <;> omega) _ | refine Below.drew ?_ | refine Below.alloc ?_ (by (try simp [size_beyond]) <;> omega) _ | refine Below.setCell ?_ (by (try simp [size_beyond]) <;> omega) _))⟩
end Go.Proofs.Ytfpmimfglikklaa.mono
