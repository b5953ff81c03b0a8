/-
  The methods of package monoid on any valid monoid: one contract each; Times.
-/
import Derived.Test.YtfpmimfglikklaaMeth3
import Derived.Test.YtfpmimfglikklaaMath
set_option linter.unusedSimpArgs false
set_option linter.unusedVariables false
namespace Go.Proofs.Ytfpmimfglikklaa.mono
open Go.RowKit Go.Own
set_option maxHeartbeats 400000

theorem and_one (n : Int) : bits .and .i64 n 1 = n % 2 := by
  have h1 : (BitVec.ofInt 64 1).toNat = 2 ^ 1 - 1 := by decide
  have key : (BitVec.ofInt 64 n &&& BitVec.ofInt 64 1).toNat = (n % ((2 ^ 64 : Nat) : Int)).toNat % 2 ^ 1 := by
    rw [BitVec.toNat_and, BitVec.toNat_ofInt, h1, Nat.and_two_pow_sub_one_eq_mod]
  show IntKind.i64.wrap ((BitVec.ofInt 64 n &&& BitVec.ofInt 64 1).toNat : Nat) = n % 2
  rw [key, IntKind.wrap_i64]
  omega

theorem check_calls {K N M : Int} (hV : V K N M) (w : World) :
    Calls Try.prog 30 #[.agg #[.int .i64 K, .int .i64 N, .int .i64 M]] w fun e w' => e = .returned (.int .i64 0) ∧ ∃ x, w' = beyond w x := by
  rcases hV with ⟨rfl, rfl, rfl⟩ | ⟨rfl, rfl, rfl⟩ | ⟨rfl, rfl, h1, h2⟩ | ⟨rfl, h1, h2, h3, h4⟩
  · exact (check_All _).mono fun e w' ⟨he, hx⟩ => ⟨he, hx⟩
  · exact (check_Any _).mono fun e w' ⟨he, hx⟩ => ⟨he, hx⟩
  · exact (check_Exactly _ h1 h2 _).mono fun e w' ⟨he, hx⟩ => ⟨he, hx⟩
  · exact (check_Modulo _ _ h1 h2 h3 h4 _).mono fun e w' ⟨he, hx⟩ => ⟨he, hx⟩

theorem size_calls {K N M : Int} (hV : V K N M) (w : World) :
    Calls Try.prog 19 #[.agg #[.int .i64 K, .int .i64 N, .int .i64 M]] w fun e w' => e = .returned (.int .i64 (sz K N M)) ∧ ∃ x, w' = beyond w x := by
  rcases hV with ⟨rfl, rfl, rfl⟩ | ⟨rfl, rfl, rfl⟩ | ⟨rfl, rfl, h1, h2⟩ | ⟨rfl, h1, h2, h3, h4⟩
  · exact (size_All _).mono fun e w' ⟨he, hx⟩ => ⟨by rw [he]; simp [sz], hx⟩
  · exact (size_Any _).mono fun e w' ⟨he, hx⟩ => ⟨by rw [he]; simp [sz], hx⟩
  · exact (size_Exactly _ h1 h2 _).mono fun e w' ⟨he, hx⟩ => ⟨by rw [he]; simp [sz], hx⟩
  · exact (size_Modulo _ _ h1 h2 h3 h4 _).mono fun e w' ⟨he, hx⟩ => ⟨by rw [he]; simp [sz], hx⟩

theorem identity_calls {K N M : Int} (hV : V K N M) (w : World) :
    Calls Try.prog 13 #[.agg #[.int .i64 K, .int .i64 N, .int .i64 M]] w fun e w' => e = .returned (.int .i64 (idn K)) ∧ ∃ x, w' = beyond w x := by
  rcases hV with ⟨rfl, rfl, rfl⟩ | ⟨rfl, rfl, rfl⟩ | ⟨rfl, rfl, h1, h2⟩ | ⟨rfl, h1, h2, h3, h4⟩
  · exact (identity_All _).mono fun e w' ⟨he, hx⟩ => ⟨by rw [he]; simp [idn], hx⟩
  · exact (identity_Any _).mono fun e w' ⟨he, hx⟩ => ⟨by rw [he]; simp [idn], hx⟩
  · exact (identity_Exactly _ h1 h2 _).mono fun e w' ⟨he, hx⟩ => ⟨by rw [he]; simp [idn], hx⟩
  · exact (identity_Modulo _ _ h1 h2 h3 h4 _).mono fun e w' ⟨he, hx⟩ => ⟨by rw [he]; simp [idn], hx⟩

theorem valueT_calls {K N M : Int} (hV : V K N M) (w : World) :
    Calls Try.prog 15 #[.agg #[.int .i64 K, .int .i64 N, .int .i64 M], .bool true] w fun e w' => e = .returned (.int .i64 (one K M)) ∧ ∃ x, w' = beyond w x := by
  rcases hV with ⟨rfl, rfl, rfl⟩ | ⟨rfl, rfl, rfl⟩ | ⟨rfl, rfl, h1, h2⟩ | ⟨rfl, h1, h2, h3, h4⟩
  · exact (valueT_All _).mono fun e w' ⟨he, hx⟩ => ⟨by rw [he]; simp [one], hx⟩
  · exact (valueT_Any _).mono fun e w' ⟨he, hx⟩ => ⟨by rw [he]; simp [one], hx⟩
  · exact (valueT_Exactly _ h1 h2 _).mono fun e w' ⟨he, hx⟩ => ⟨by rw [he]; simp [one], hx⟩
  · exact (valueT_Modulo _ _ h1 h2 h3 h4 _).mono fun e w' ⟨he, hx⟩ => ⟨by rw [he]; simp [one], hx⟩

theorem valueF_calls {K N M : Int} (hV : V K N M) (w : World) :
    Calls Try.prog 15 #[.agg #[.int .i64 K, .int .i64 N, .int .i64 M], .bool false] w fun e w' => e = .returned (.int .i64 0) ∧ ∃ x, w' = beyond w x := by
  rcases hV with ⟨rfl, rfl, rfl⟩ | ⟨rfl, rfl, rfl⟩ | ⟨rfl, rfl, h1, h2⟩ | ⟨rfl, h1, h2, h3, h4⟩
  · exact (valueF_All _).mono fun e w' ⟨he, hx⟩ => ⟨he, hx⟩
  · exact (valueF_Any _).mono fun e w' ⟨he, hx⟩ => ⟨he, hx⟩
  · exact (valueF_Exactly _ h1 h2 _).mono fun e w' ⟨he, hx⟩ => ⟨he, hx⟩
  · exact (valueF_Modulo _ _ h1 h2 h3 h4 _).mono fun e w' ⟨he, hx⟩ => ⟨he, hx⟩

theorem nearest_calls {K N M : Int} (hV : V K N M) (a : Int) (w : World) :
    Calls Try.prog 28 #[.agg #[.int .i64 K, .int .i64 N, .int .i64 M], .int .i64 a] w fun e w' => e = .returned (.int .i64 (near K N M a)) ∧ ∃ x, w' = beyond w x := by
  rcases hV with ⟨rfl, rfl, rfl⟩ | ⟨rfl, rfl, rfl⟩ | ⟨rfl, rfl, h1, h2⟩ | ⟨rfl, h1, h2, h3, h4⟩
  · exact (nearest_All _ _).mono fun e w' ⟨he, hx⟩ => ⟨by rw [he]; simp [near, sz], hx⟩
  · exact (nearest_Any _ _).mono fun e w' ⟨he, hx⟩ => ⟨by rw [he]; simp [near, sz], hx⟩
  · exact (nearest_Exactly _ h1 h2 _ _).mono fun e w' ⟨he, hx⟩ => ⟨by rw [he]; simp [near, sz], hx⟩
  · exact (nearest_Modulo _ _ h1 h2 h3 h4 _ _).mono fun e w' ⟨he, hx⟩ => ⟨by rw [he]; simp [near, sz], hx⟩

theorem add_calls {K N M : Int} (hV : V K N M) (a b : Int) (w : World) :
    Calls Try.prog 16 #[.agg #[.int .i64 K, .int .i64 N, .int .i64 M], .int .i64 a, .int .i64 b] w fun e w' => e = .returned (.int .i64 (add K N M a b)) ∧ ∃ x, w' = beyond w x := by
  rcases hV with ⟨rfl, rfl, rfl⟩ | ⟨rfl, rfl, rfl⟩ | ⟨rfl, rfl, h1, h2⟩ | ⟨rfl, h1, h2, h3, h4⟩
  · exact (add_All _ _ _).mono fun e w' ⟨he, hx⟩ => ⟨by rw [he]; simp [add, plus, near, sz], hx⟩
  · exact (add_Any _ _ _).mono fun e w' ⟨he, hx⟩ => ⟨by rw [he]; simp [add, plus, near, sz], hx⟩
  · exact (add_Exactly _ h1 h2 _ _ _).mono fun e w' ⟨he, hx⟩ => ⟨by rw [he]; simp [add, plus, near, sz], hx⟩
  · exact (add_Modulo _ _ h1 h2 h3 h4 _ _ _).mono fun e w' ⟨he, hx⟩ => ⟨by rw [he]; simp [add, plus, near, sz], hx⟩

theorem accepts_calls {K N M : Int} (hV : V K N M) (a : Int) (w : World) :
    Calls Try.prog 22 #[.agg #[.int .i64 K, .int .i64 N, .int .i64 M], .int .i64 a] w fun e w' => e = .returned (.bool (accB K N M a)) ∧ ∃ x, w' = beyond w x := by
  by_cases ha : 0 ≤ a ∧ a < sz K N M
  · obtain ⟨h, h'⟩ := ha
    have hd : decide (0 ≤ a ∧ a < sz K N M) = true := decide_eq_true ⟨h, h'⟩
    unfold accB; rw [hd]; clear hd
    rcases hV with ⟨rfl, rfl, rfl⟩ | ⟨rfl, rfl, rfl⟩ | ⟨rfl, rfl, h1, h2⟩ | ⟨rfl, h1, h2, h3, h4⟩ <;> simp only [sz] at h'
    · exact (acceptsT_All _ h (by simpa using h') _).mono fun e w' ⟨he, hx⟩ => ⟨by rw [he]; simp [acc], hx⟩
    · exact (acceptsT_Any _ h (by simpa using h') _).mono fun e w' ⟨he, hx⟩ => ⟨by rw [he]; simp [acc], hx⟩
    · exact (acceptsT_Exactly _ h1 h2 _ h (by simpa using h') _).mono fun e w' ⟨he, hx⟩ => ⟨by rw [he]; simp [acc], hx⟩
    · exact (acceptsT_Modulo _ _ h1 h2 h3 h4 _ h (by simpa using h') _).mono fun e w' ⟨he, hx⟩ => ⟨by rw [he]; simp [acc], hx⟩
  · have hd : decide (0 ≤ a ∧ a < sz K N M) = false := decide_eq_false ha
    unfold accB; rw [hd, Bool.false_and]; clear hd
    rcases hV with ⟨rfl, rfl, rfl⟩ | ⟨rfl, rfl, rfl⟩ | ⟨rfl, rfl, h1, h2⟩ | ⟨rfl, h1, h2, h3, h4⟩ <;> simp only [sz] at ha
    · exact acceptsF_All _ (by simpa using ha) _
    · exact acceptsF_Any _ (by simpa using ha) _
    · exact acceptsF_Exactly _ h1 h2 _ (by simpa using ha) _
    · exact acceptsF_Modulo _ _ h1 h2 h3 h4 _ (by simpa using ha) _

theorem dead_calls {K N M : Int} (hV : V K N M) (a : Int) (w : World) :
    Calls Try.prog 24 #[.agg #[.int .i64 K, .int .i64 N, .int .i64 M], .int .i64 a] w fun e w' => e = .returned (.bool (deadB K N M a)) ∧ ∃ x, w' = beyond w x := by
  by_cases ha : 0 ≤ a ∧ a < sz K N M
  · obtain ⟨h, h'⟩ := ha
    have hd : decide (0 ≤ a ∧ a < sz K N M) = true := decide_eq_true ⟨h, h'⟩
    unfold deadB; rw [hd]; clear hd
    rcases hV with ⟨rfl, rfl, rfl⟩ | ⟨rfl, rfl, rfl⟩ | ⟨rfl, rfl, h1, h2⟩ | ⟨rfl, h1, h2, h3, h4⟩ <;> simp only [sz] at h'
    · exact (deadT_All _ h (by simpa using h') _).mono fun e w' ⟨he, hx⟩ => ⟨by rw [he]; simp [acc], hx⟩
    · exact (deadT_Any _ h (by simpa using h') _).mono fun e w' ⟨he, hx⟩ => ⟨by rw [he]; simp [acc], hx⟩
    · exact (deadT_Exactly _ h1 h2 _ h (by simpa using h') _).mono fun e w' ⟨he, hx⟩ => ⟨by rw [he]; simp [acc], hx⟩
    · exact (deadT_Modulo _ _ h1 h2 h3 h4 _ h (by simpa using h') _).mono fun e w' ⟨he, hx⟩ => ⟨by rw [he]; simp [acc], hx⟩
  · have hd : decide (0 ≤ a ∧ a < sz K N M) = false := decide_eq_false ha
    unfold deadB; rw [hd, Bool.false_and]; clear hd
    rcases hV with ⟨rfl, rfl, rfl⟩ | ⟨rfl, rfl, rfl⟩ | ⟨rfl, rfl, h1, h2⟩ | ⟨rfl, h1, h2, h3, h4⟩ <;> simp only [sz] at ha
    · exact deadF_All _ (by simpa using ha) _
    · exact deadF_Any _ (by simpa using ha) _
    · exact deadF_Exactly _ h1 h2 _ (by simpa using ha) _
    · exact deadF_Modulo _ _ h1 h2 h3 h4 _ (by simpa using ha) _

theorem universal_calls {K N M : Int} (hV : V K N M) (a : Int) (w : World) :
    Calls Try.prog 26 #[.agg #[.int .i64 K, .int .i64 N, .int .i64 M], .int .i64 a] w fun e w' => e = .returned (.bool (uniB K N M a)) ∧ ∃ x, w' = beyond w x := by
  by_cases ha : 0 ≤ a ∧ a < sz K N M
  · obtain ⟨h, h'⟩ := ha
    have hd : decide (0 ≤ a ∧ a < sz K N M) = true := decide_eq_true ⟨h, h'⟩
    unfold uniB; rw [hd]; clear hd
    rcases hV with ⟨rfl, rfl, rfl⟩ | ⟨rfl, rfl, rfl⟩ | ⟨rfl, rfl, h1, h2⟩ | ⟨rfl, h1, h2, h3, h4⟩ <;> simp only [sz] at h'
    · exact (universalT_All _ h (by simpa using h') _).mono fun e w' ⟨he, hx⟩ => ⟨by rw [he]; simp [acc], hx⟩
    · exact (universalT_Any _ h (by simpa using h') _).mono fun e w' ⟨he, hx⟩ => ⟨by rw [he]; simp [acc], hx⟩
    · exact (universalT_Exactly _ h1 h2 _ h (by simpa using h') _).mono fun e w' ⟨he, hx⟩ => ⟨by rw [he]; simp [acc], hx⟩
    · exact (universalT_Modulo _ _ h1 h2 h3 h4 _ h (by simpa using h') _).mono fun e w' ⟨he, hx⟩ => ⟨by rw [he]; simp [acc], hx⟩
  · have hd : decide (0 ≤ a ∧ a < sz K N M) = false := decide_eq_false ha
    unfold uniB; rw [hd, Bool.false_and]; clear hd
    rcases hV with ⟨rfl, rfl, rfl⟩ | ⟨rfl, rfl, rfl⟩ | ⟨rfl, rfl, h1, h2⟩ | ⟨rfl, h1, h2, h3, h4⟩ <;> simp only [sz] at ha
    · exact universalF_All _ (by simpa using ha) _
    · exact universalF_Any _ (by simpa using ha) _
    · exact universalF_Exactly _ h1 h2 _ (by simpa using ha) _
    · exact universalF_Modulo _ _ h1 h2 h3 h4 _ (by simpa using ha) _

theorem times_calls {K N M : Int} (hV : V K N M) (a n : Int) (hn : n ≤ 9223372036854775807) (w : World) :
    Calls Try.prog 20 #[.agg #[.int .i64 K, .int .i64 N, .int .i64 M], .int .i64 a, .int .i64 n] w fun e w' => e = .returned (.int .i64 (rep K N M (near K N M a) n.toNat)) ∧ ∃ x, w' = beyond w x := by
  go_enter Try.func20, Try.ntmps20
  go_wp2_with (first | (go_at_call 13; refine (identity_calls hV _).mono ?_; rintro e w1 ⟨rfl, x1, rfl⟩) | (go_at_call 30; refine (check_calls hV _).mono ?_; rintro e w1 ⟨rfl, x1, rfl⟩) | (go_at_call 28; refine (nearest_calls hV _ _).mono ?_; rintro e w1 ⟨rfl, x1, rfl⟩))
  go_loopw [2, 7, 8] (fun q s p wr => ∃ qi si pi : Int, q = .int .i64 qi ∧ s = .int .i64 si ∧ p = .int .i64 pi ∧ (0 ≤ si ∧ si < sz K N M) ∧ qi ≤ 9223372036854775807 ∧
      Hid (add K N M si (rep K N M pi qi.toNat) = rep K N M (near K N M a) n.toNat) ∧ ∃ y, wr = beyond (w.alloc (.cells #[.int .i64 K, .int .i64 N, .int .i64 M] 23)) y)
    (fun q _ _ _ => (intOf q).toNat)
  case atStart =>
    refine ⟨n, idn K, near K N M a, rfl, rfl, rfl, idn_in hV, hn, ?_, beyond_of (by repeat (first | exact Below.refl _ _ | exact below_beyond _ _ | refine Below.beyond ?_ (by simp [size_beyond] <;> omega) _ | refine Below.drew ?_ | refine Below.alloc ?_ (by simp [size_beyond] <;> omega) _ | refine Below.setCell ?_ (by simp [size_beyond] <;> omega) _))⟩
    show _ = _
    rw [add_comm, add_id hV (rep_in hV _ _).1 (rep_in hV _ _).2]
  case round =>
    obtain ⟨q, s, p, rfl, rfl, rfl, hs, hq, HI, y, rfl⟩ := hrel
    have HS := Lib.hid hs; clear hs
    by_cases hpos : 0 < q
    · have ha := and_one q
      by_cases ho : q % 2 = 1
      · have HO := Lib.hid ho; clear ho
        have hb : (q % 2 == 1) = true := by simp [HO.out]
        go_wp2_with (((go_at_call 16; refine (add_calls hV _ _ _).mono ?_; rintro e w1 ⟨rfl, x1, rfl⟩)))
        go_roundw
        case rel => exact ⟨q / 2, _, _, rfl, rfl, rfl, add_in hV _ _, by omega, (step_odd hV s p q hpos HO.out).trans HI.out, beyond_of (by repeat (first | exact Below.refl _ _ | exact below_beyond _ _ | refine Below.beyond ?_ (by simp [size_beyond] <;> omega) _ | refine Below.drew ?_ | refine Below.alloc ?_ (by simp [size_beyond] <;> omega) _ | refine Below.setCell ?_ (by simp [size_beyond] <;> omega) _))⟩
        case measure => simp [intOf]; omega
      · have ho' : q % 2 = 0 := by omega
        have HO := Lib.hid ho'; clear ho ho'
        have hb : (q % 2 == 1) = false := by simp [HO.out]
        go_wp2_with (((go_at_call 16; refine (add_calls hV _ _ _).mono ?_; rintro e w1 ⟨rfl, x1, rfl⟩)))
        go_roundw
        case rel => exact ⟨q / 2, _, _, rfl, rfl, rfl, HS.out, by omega, (step_even hV s p q hpos HO.out).trans HI.out, beyond_of (by repeat (first | exact Below.refl _ _ | exact below_beyond _ _ | refine Below.beyond ?_ (by simp [size_beyond] <;> omega) _ | refine Below.drew ?_ | refine Below.alloc ?_ (by simp [size_beyond] <;> omega) _ | refine Below.setCell ?_ (by simp [size_beyond] <;> omega) _))⟩
        case measure => simp [intOf]; omega
    · go_wp2
      go_ret
      have hz : q.toNat = 0 := by omega
      have h1 := HI.out
      rw [hz] at h1
      exact ⟨ret_int ((add_id hV HS.out.1 HS.out.2).symm.trans h1), beyond_of (by repeat (first | exact Below.refl _ _ | exact below_beyond _ _ | refine Below.beyond ?_ (by simp [size_beyond] <;> omega) _ | refine Below.drew ?_ | refine Below.alloc ?_ (by simp [size_beyond] <;> omega) _ | refine Below.setCell ?_ (by simp [size_beyond] <;> omega) _))⟩

end Go.Proofs.Ytfpmimfglikklaa.mono
