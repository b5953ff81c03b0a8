/-
  Contracts of the reference: Power, Bits, Small.
-/
import Derived.Test.YtogjobmekjighaaDoorBdV
set_option linter.unusedSimpArgs false
set_option linter.unusedVariables false
namespace Go.Proofs.YtogjobmekjighaaDoor.bd
open Go.RowKit Go.Own Go.Bd
open bn (below_step cmpV nb nb_le nb_lt)
set_option maxHeartbeats 4000000
set_option maxRecDepth 100000

theorem Power_calls {q : Option Addr} {m c x : Nat} {W : World} (h : RefN q m c x W) (n K : Nat) (hb : ∀ i, i ≤ n → x ^ i < B ^ K) (hm : m ≤ 400000) (hK : K ≤ 400000) (hn : (n : Int) ≤ 4000000000000000000) :
    Calls Tryd.prog 35 #[.slice q m c, .int .i64 (n : Int)] W (RefR W (x ^ n)) := by
  have H := Lib.hid h; clear h
  have HBD := Lib.hid hb; clear hb
  have H1 := Lib.hid (fun w => ROf_calls 1 (by decide) w)
  go_enter Tryd.func35, Tryd.ntmps35
  go_wp2_with (fail)
  go_at_call 43
  refine (H1.out _).mono ?_
  rintro e w1 ⟨q1, m1, c1, rfl, hn1, hb1⟩
  have HS0 := Lib.hid (And.intro hn1 hb1)
  clear hn1 hb1
  go_wp2
  go_loopg [5, 6] n (fun g s5 s6 wr => ∃ (k : Nat) (q5 : Option Addr) (m5 c5 : Nat), k + g = n ∧ s5 = .slice q5 m5 c5 ∧ s6 = .int .i64 (k : Int) ∧ Hid (RefN q5 m5 c5 (x ^ k) wr ∧ Below W.heap.size W wr))
  case atStart => exact ⟨0, _, _, _, by omega, rfl, rfl, HS0⟩
  case round =>
    obtain ⟨k, q5, m5, c5, hkg, rfl, rfl, HS⟩ := hrel
    by_cases hlt : k < n
    · have HMC := Lib.hid (Mul_calls HS.out.1 (H.out.below HS.out.2) (Nat.le_trans (Nat.add_le_add (HS.out.1.len (HBD.out k (by omega))) hm) (by omega)))
      go_wp2_with (fail)
      go_at_call 25
      refine HMC.out.mono ?_
      rw [← Nat.pow_succ]
      rintro e w2 ⟨q2, m2, c2, rfl, hn2, hb2⟩
      have HS2 := Lib.hid (And.intro hn2 (below_step hb2 HS.out.2))
      clear hn2 hb2 HS HMC
      go_wp2
      go_roundg (gk - 1)
      case measure => omega
      case rel => exact ⟨k + 1, _, _, _, by omega, rfl, by go_num, HS2⟩
    · obtain rfl : k = n := by omega
      go_wp2
      go_ret
      exact ⟨_, _, _, rfl, HS.out.1, HS.out.2⟩
theorem RefN.pos {q : Option Addr} {m c n : Nat} {w : World} (h : RefN q m c n w) : 0 < m ↔ 0 < n := by
  obtain ⟨ds, hA, hN, hv⟩ := h.ex
  have e := hA.all.1
  constructor
  · intro hm
    rw [← hv]; exact val_pos hN (by rintro rfl; simp at e; omega)
  · intro hn
    rcases Nat.eq_zero_or_pos m with h0 | h0
    · exfalso
      rw [e] at h0
      rw [List.eq_nil_of_length_eq_zero h0] at hv
      rw [← hv] at hn; simp [val] at hn
    · exact h0
theorem nb_of {X k : Nat} (h0 : X / 2 ^ k = 0) (h1 : ∀ j, j < k → 0 < X / 2 ^ j) : nb X = k := by
  have a : nb X ≤ k := nb_le.2 (by
    rcases Nat.lt_or_ge X (2 ^ k) with h | h
    · exact h
    · have := Nat.div_pos h (Nat.two_pow_pos k); omega)
  rcases Nat.lt_or_eq_of_le a with h | h
  · exfalso
    have h2 := h1 (nb X) h
    have h3 := nb_le.1 (Nat.le_refl (nb X))
    rw [Nat.div_eq_of_lt h3] at h2
    omega
  · exact h
/-- the bit at an index of any sign -/
def bitAt (X : Nat) (i : Int) : Bool := decide (0 ≤ i) && X.testBit i.toNat
structure BitsL (W : World) (X k y : Nat) (i : Int) (b : Bool) (q : Option Addr) (m c : Nat) (w : World) : Prop where
  eq : X / 2 ^ k = y
  pos : ∀ j, j < k → 0 < X / 2 ^ j
  bit : b = (decide (i < (k : Int)) && bitAt X i)
  ref : RefN q m c y w
  bel : Below W.heap.size W w
theorem bit_k {X k y : Nat} (h : X / 2 ^ k = y) : bitAt X (k : Int) = decide (0 < y % 2) := by
  unfold bitAt
  rw [Int.toNat_natCast, Nat.testBit_eq_decide_div_mod_eq, h]
  rcases Nat.mod_two_eq_zero_or_one y with e | e <;> simp [e]
theorem Bits_calls {q : Option Addr} {m c X : Nat} {W : World} (h : RefN q m c X W) (i : Int) (K : Nat) (hK : X < B ^ K) (hk : K ≤ 900000) (hi0 : -9223372036854775808 ≤ i) (hi1 : i ≤ 9223372036854775807) (hX : nb X ≤ 4000000) :
    Calls Tryd.prog 36 #[.slice q m c, .int .i64 i] W fun e w' => e = .returned (.tuple #[.int .i64 (nb X : Int), .bool (bitAt X i)]) ∧ Below W.heap.size W w' := by
  have H := Lib.hid h; clear h
  have HK := Lib.hid (And.intro hK hk); clear hK hk
  have HNB := Lib.hid hX; clear hX
  have H2 := Lib.hid (fun w => ROf_calls 2 (by decide) w)
  go_enter Tryd.func36, Tryd.ntmps36
  go_wp2
  go_loopg [0, 6, 7, 8, 9] X (fun g s0 s6 s7 _ _ wr => ∃ (k : Nat) (b : Bool) (q5 : Option Addr) (m5 c5 : Nat), g ≤ X ∧ s0 = .slice q5 m5 c5 ∧ s6 = .int .i64 (k : Int) ∧ s7 = .bool b ∧ Hid (BitsL W X k g i b q5 m5 c5 wr))
  case atStart => exact ⟨0, false, _, _, _, Nat.le_refl _, rfl, rfl, rfl, Lib.hid ⟨by simp, fun j hj => absurd hj (by omega), by
    by_cases h : i < 0
    · have : ¬ 0 ≤ i := by omega
      simp [bitAt, this]
    · simp [h], H.out, Below.refl _ _⟩⟩
  case round =>
    obtain ⟨k, b, q5, m5, c5, hgX, rfl, rfl, rfl, HS⟩ := hrel
    by_cases hp : 0 < gk
    · have hm5 : 0 < m5 := HS.out.ref.pos.2 hp
      have hk4 : k < 4000000 := by
        have h1 := HS.out.eq
        have h2 := nb_le.1 HNB.out
        rcases Nat.lt_or_ge k (nb X) with h | h
        · exact Nat.lt_of_lt_of_le h HNB.out
        · have h3 := nb_le.1 h
          rw [Nat.div_eq_of_lt h3] at h1
          omega
      have HL5 := Lib.hid (HS.out.ref.len (Nat.lt_of_le_of_lt hgX HK.out.1))
      have hm5i : (m5 : Int) ≤ 900000 := by have := HL5.out; have := HK.out.2; omega
      go_wp2_with (fail)
      go_at_call 43
      refine (H2.out _).mono ?_
      rintro e w1 ⟨q1, m1, c1, rfl, hn1, hb1⟩
      have HO := Lib.hid hn1
      have HS1 := Lib.hid (HS.out.ref.below hb1)
      have HB1 := Lib.hid (below_step hb1 HS.out.bel)
      have HL1 := Lib.hid (hn1.len (M := 1) (by decide))
      clear hn1 hb1
      have HDC := Lib.hid (Div_calls HS1.out HO.out (by decide) (Nat.le_trans HL5.out HK.out.2) (Nat.le_trans HL1.out (by decide)))
      go_wp2_with (fail)
      go_at_call 29
      refine HDC.out.mono ?_
      rintro e w2 ⟨q2, m2, c2, q3, m3, c3, rfl, hn2, hn3, hb2⟩
      have HN2 := Lib.hid hn2
      have HP3 := Lib.hid hn3.pos
      have HB2 := Lib.hid (below_step hb2 HB1.out)
      have hm3i : (m3 : Int) ≤ 900000 := by have := hn3.len (M := 1) (Nat.lt_of_lt_of_le (Nat.mod_lt _ (by decide)) (by decide)); omega
      clear hn2 hn3 hb2
      have HEQ := Lib.hid (show X / 2 ^ (k + 1) = gk / 2 from by rw [Nat.pow_succ, ← Nat.div_div_eq_div_mul, HS.out.eq])
      have HPP := Lib.hid (show ∀ j, j < k + 1 → 0 < X / 2 ^ j from fun j hj => by
        rcases Nat.lt_or_eq_of_le (Nat.le_of_lt_succ hj) with h | rfl
        · exact HS.out.pos j h
        · rw [HS.out.eq]; exact hp)
      have HBK := Lib.hid (bit_k HS.out.eq)
      have HBB := Lib.hid HS.out.bit
      by_cases hik : (k : Int) = i
      · have hki : ((k : Int) == i) = true := by simp [hik]
        have HBN := Lib.hid (show decide (0 < m3) = (decide (i < ((k + 1 : Nat) : Int)) && bitAt X i) from by
          rw [← hik, HBK.out, decide_eq_true (show (k : Int) < ((k + 1 : Nat) : Int) by omega), Bool.true_and]
          have := HP3.out
          apply decide_eq_decide.2
          omega)
        clear hik
        go_wp2
        go_roundg (gk / 2)
        case measure => omega
        case rel => exact ⟨k + 1, _, _, _, _, by omega, rfl, by go_num, rfl, Lib.hid ⟨HEQ.out, HPP.out, HBN.out, HN2.out, HB2.out⟩⟩
      · have hki : ((k : Int) == i) = false := by simpa using hik
        have HBN := Lib.hid (show b = (decide (i < ((k + 1 : Nat) : Int)) && bitAt X i) from by
          rw [HBB.out]
          congr 1
          apply decide_eq_decide.2
          omega)
        clear hik
        go_wp2
        go_roundg (gk / 2)
        case measure => omega
        case rel => exact ⟨k + 1, _, _, _, _, by omega, rfl, by go_num, rfl, Lib.hid ⟨HEQ.out, HPP.out, HBN.out, HN2.out, HB2.out⟩⟩
    · obtain rfl : gk = 0 := by omega
      have hm5 : m5 = 0 := by have := HS.out.ref.pos; omega
      subst hm5
      have HN := Lib.hid (nb_of HS.out.eq HS.out.pos)
      have HBV := Lib.hid (show b = bitAt X i from by
        rw [HS.out.bit]
        by_cases h : i < (k : Int)
        · simp [h]
        · have h1 : X < 2 ^ i.toNat := Nat.lt_of_lt_of_le (nb_le.1 (Nat.le_of_eq HN.out)) (Nat.pow_le_pow_right (by decide) (by omega))
          simp [h, bitAt, Nat.testBit_lt_two_pow h1])
      have HB5 := Lib.hid HS.out.bel
      go_wp2
      go_ret2
      exact ⟨by rw [HN.out, ← HBV.out]; rfl, HB5.out⟩
theorem hi_le (a : List Nat) : ∀ k, hi a k ≤ val a
  | 0 => Nat.le_refl _
  | k + 1 => by
    refine Nat.le_trans ?_ (hi_le a k)
    rcases Nat.lt_or_ge k a.length with h | h
    · rw [hi_step h]; unfold B; omega
    · unfold hi; rw [List.drop_eq_nil_of_le (by omega)]; simp [val]
theorem pow64 (w : World) : Calls Tryd.prog 43 #[.int .u64 2] w (RefR w 2) := ROf_calls 2 (by decide) w
theorem pow2_20 {i : Nat} (h : i ≤ 64) : 2 ^ i < B ^ 20 := Nat.lt_of_le_of_lt (Nat.pow_le_pow_right (by decide) h) (by decide)
theorem Small_calls {q : Option Addr} {m c X : Nat} {W : World} (h : RefN q m c X W) :
    Calls Tryd.prog 38 #[.slice q m c] W fun e w' => e = .returned (if X < 18446744073709551616 then .tuple #[.int .u64 (X : Int), .bool true] else .tuple #[.int .u64 0, .bool false]) ∧ Below W.heap.size W w' := by
  obtain ⟨a, hA, hN, hv⟩ := h.ex
  have HM := Lib.hid (show a.length = m from hA.all.1.symm)
  have hm9 : m ≤ 999000 := hA.all.2.1
  have HV := Lib.hid hv
  have HD := Lib.hid (show Dig a from hA.all.2.2.2.2.1)
  have HA := Lib.hid hA
  have H := Lib.hid h
  have H2 := Lib.hid pow64
  have HP := Lib.hid (fun (q1 : Option Addr) (m1 c1 : Nat) (w : World) (h : RefN q1 m1 c1 2 w) => Power_calls h 64 20 (fun i hi => pow2_20 hi) (Nat.le_trans (h.len (M := 1) (by decide)) (by decide)) (by decide) (by decide))
  clear h hA hN hv
  by_cases hX : X < 18446744073709551616
  · rw [if_pos hX]
    have HX := Lib.hid (show X < 2 ^ 64 from hX)
    clear hX
    go_enter Tryd.func38, Tryd.ntmps38
    go_wp2_with (fail)
    go_at_call 43
    refine (H2.out _).mono ?_
    rintro e w1 ⟨q1, m1, c1, rfl, hn1, hb1⟩
    have HS1 := Lib.hid (And.intro hn1 hb1)
    clear hn1 hb1
    go_wp2_with (fail)
    go_at_call 35
    refine (HP.out _ _ _ _ HS1.out.1).mono ?_
    rintro e w2 ⟨q2, m2, c2, rfl, hn2, hb2⟩
    have HC := Lib.hid (RCmp_lt (H.out.below (below_step hb2 HS1.out.2)) hn2 HX.out)
    have HB2 := Lib.hid (below_step hb2 HS1.out.2)
    clear hn2 hb2
    go_wp2_with (fail)
    go_at_call 17
    refine HC.out.mono ?_
    rintro e w3 ⟨rfl, hb3⟩
    have HB3 := Lib.hid (below_step hb3 HB2.out)
    clear hb3 HB2 HC HS1 HP
    go_wp2
    go_loopg [4, 5] m (fun g s4 s5 wr => g ≤ m ∧ s4 = .int .u64 (hi a g : Int) ∧ s5 = .int .i64 ((g : Int) - 1) ∧ Hid (Below W.heap.size W wr))
    case atStart => exact ⟨Nat.le_refl _, by rw [← HM.out, hi_end]; rfl, rfl, HB3⟩
    case round =>
      obtain ⟨hg, rfl, rfl, HB⟩ := hrel
      by_cases hpos : 0 < gk
      · obtain ⟨k, rfl⟩ : ∃ k, gk = k + 1 := ⟨gk - 1, by omega⟩
        have ek : (((k + 1 : Nat) : Int) - 1) = (k : Int) := by omega
        rw [ek]
        obtain ⟨p, off, rfl, hpw, hcs⟩ := HA.out.cell (k := k) (by omega)
        have hcx := (HB.out.cell hpw).trans (hcs k (by omega))
        have HE := Lib.hid (hi_step (ds := a) (i := k) (by rw [HM.out]; omega))
        have HL := Lib.hid (hi_le a k)
        have hx10 : dg a k < 10 := dg_lt HD.out k
        clear hcs
        generalize dg a k = x at *
        generalize hi a (k + 1) = v at *
        obtain ⟨t, ht⟩ : ∃ t, hi a k = t := ⟨_, rfl⟩
        have HT := Lib.hid ht
        rw [ht] at HE HL
        clear ht
        have hti : (v : Int) * 10 + (x : Int) = (t : Int) := by have := HE.out; unfold B at this; omega
        have htb : (t : Int) ≤ 18446744073709551615 := by have h1 := HL.out; have h2 := HX.out; rw [HV.out] at h1; omega
        have hv10 : (v : Int) * 10 ≤ 18446744073709551615 := by omega
        go_wp2
        go_roundg k
        case measure => omega
        case rel => exact ⟨by omega, by rw [HT.out], rfl, HB⟩
      · obtain rfl : gk = 0 := by omega
        have HZ := Lib.hid (show hi a 0 = X from by rw [hi_all]; exact HV.out)
        go_wp2
        go_ret2
        exact ⟨by rw [← HZ.out]; rfl, HB.out⟩
  · rw [if_neg hX]
    have HX := Lib.hid (show 2 ^ 64 ≤ X from Nat.le_of_not_lt hX)
    clear hX
    go_enter Tryd.func38, Tryd.ntmps38
    go_wp2_with (fail)
    go_at_call 43
    refine (H2.out _).mono ?_
    rintro e w1 ⟨q1, m1, c1, rfl, hn1, hb1⟩
    have HS1 := Lib.hid (And.intro hn1 hb1)
    clear hn1 hb1
    go_wp2_with (fail)
    go_at_call 35
    refine (HP.out _ _ _ _ HS1.out.1).mono ?_
    rintro e w2 ⟨q2, m2, c2, rfl, hn2, hb2⟩
    have HC := Lib.hid (RCmp_ge (H.out.below (below_step hb2 HS1.out.2)) hn2 HX.out)
    have HB2 := Lib.hid (below_step hb2 HS1.out.2)
    clear hn2 hb2
    go_wp2_with (fail)
    go_at_call 17
    refine HC.out.mono ?_
    rintro e w3 ⟨z, rfl, hz0, hb3⟩
    have HB3 := Lib.hid (below_step hb3 HB2.out)
    clear hb3 HB2 HC HS1 HP
    go_wp2
    go_ret2
    exact ⟨rfl, HB3.out⟩
end Go.Proofs.YtogjobmekjighaaDoor.bd
