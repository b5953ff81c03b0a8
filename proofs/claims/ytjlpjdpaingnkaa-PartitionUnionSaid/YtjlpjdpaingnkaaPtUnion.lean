/-
  PartitionUnion: the walk.
-/
import Derived.Test.YtjlpjdpaingnkaaPtO
set_option linter.unusedSimpArgs false
set_option linter.unusedVariables false
namespace Go.Proofs.Ytjlpjdpaingnkaa.pt
open Go.RowKit Go.Own Go.Pt Go.Rw
set_option maxHeartbeats 4000000
set_option maxRecDepth 100000

theorem joined_con {w : List Int} {a b : Nat} (ha : a < w.length) (hb : b < w.length) : conL (joinL w a b) (a : Int) (b : Int) = true := by
  unfold conL
  have hl := joinL_len w a b
  rw [okL_nat (by omega), okL_nat (by omega), Int.toNat_natCast, Int.toNat_natCast]
  simp only [Bool.true_and, decide_eq_true_eq]
  rw [gv_joinL ha, gv_joinL hb]
  by_cases h1 : gv w a = max (gv w a) (gv w b) <;> by_cases h2 : gv w b = max (gv w a) (gv w b)
  · rw [if_pos h1, if_pos h2]
  · rw [if_pos h1, if_neg h2]; omega
  · rw [if_neg h1, if_pos h2]; omega
  · omega
theorem union_walk {n : Int} {q : Option Addr} {m c : Nat} {A B : Nat → Int} {W : World} (hmc : m ≤ maxLen) (hp : Pairs q m A B W) :
    Calls Try.prog 3 #[.int .i64 n, .slice q m c] W fun e w' => e = .returned (.bool true) ∧ ∃ x, w' = beyond W x := by
  have HK := Lib.hid known_calls
  by_cases hn : n < 0 ∨ 4096 < n
  · have HM := Lib.hid (rnew_bad n hn W)
    have HM2 := Lib.hid (new_bad n hn W)
    clear hn
    go_enter Try.func3, Try.ntmps3
    go_wp2_with (fail)
    go_at_call 11
    refine HM.out.mono ?_
    rintro e w1 ⟨rfl, rfl⟩
    go_wp2_with (fail)
    go_at_call 12
    refine HM2.out.mono ?_
    rintro e w1 ⟨rfl, rfl⟩
    go_wp2_with (fail)
    go_at_call 13
    refine (HK.out _).mono ?_
    rintro e w2 ⟨rfl, h2⟩
    go_wp2
    go_ret
    exact ⟨rfl, beyond_of h2⟩
  obtain ⟨n, rfl⟩ := Int.eq_ofNat_of_zero_le (show 0 ≤ n by omega)
  have hn4 : n ≤ 4096 := by omega
  have HR := Lib.hid (rnew_calls (M := fun _ => False) (n := n) hn4 W (fun _ h => h.elim))
  clear hn
  by_cases h40 : 40 < n
  · have hgt : (40 : Int) < (n : Int) := by omega
    go_enter Try.func3, Try.ntmps3
    go_wp2_with (fail)
    go_at_call 11
    refine HR.out.mono ?_
    rintro e w1 ⟨q1, m1, c1, rfl, h1, h2⟩
    go_wp2_with (fail)
    go_at_call 13
    refine (HK.out _).mono ?_
    rintro e w2 ⟨rfl, h3⟩
    go_wp2
    go_ret
    exact ⟨rfl, beyond_of (h2.trans (h3.mono h2.size))⟩
  have HP := Lib.hid hp; clear hp
  unfold maxLen at hmc
  have hn40 : ¬ (40 : Int) < (n : Int) := by omega
  go_enter Try.func3, Try.ntmps3
  go_wp2_with (fail)
  go_at_call 11
  refine HR.out.mono ?_
  rintro e w1 ⟨q1, m1, c1, rfl, h1, h2⟩
  have HN := Lib.hid (new_calls (n := n) hn4 w1)
  have HA1 := Lib.hid h1
  have HB1 := Lib.hid h2
  have hs1 := h2.size
  have hm1 : m1 = n := by rw [h1.all.1, idL_len]
  subst hm1
  clear h1 h2 HR
  go_wp2_with (fail)
  go_at_call 12
  refine HN.out.mono ?_
  rintro e w2 ⟨P, g, rfl, h1, h2, h3, h4⟩
  have HE2 := Lib.hid h1
  have HA2 : Hid (At (fun k => k = g) q1 m1 c1 (idL m1) w2) := Lib.hid ((HA1.out.more (fun b hb e => by subst e; exact absurd hb (Nat.not_lt.2 h3))).below h4)
  have HB2 := Lib.hid (HB1.out.trans (h4.mono hs1))
  have HPG := Lib.hid (show W.heap.size ≤ P ∧ W.heap.size ≤ g from ⟨by omega, by omega⟩)
  clear h1 h2 h3 h4 HN HA1 HB1
  have HSM := Lib.hid (same_calls HE2.out HA2.out rfl)
  go_wp2_with (fail)
  go_at_call 14
  refine HSM.out.mono ?_
  rintro e w3 ⟨rfl, h1⟩
  have HE3 := Lib.hid h1.pt
  have HA3 := Lib.hid (HA2.out.kept h1.kept (fun b hb => hb))
  have HB3 : Hid (Below W.heap.size W w3) := Lib.hid (HB2.out.trans (h1.kept.below (fun k hk => by rw [hk]; exact HPG.out.2) HB2.out.size))
  clear h1 HE2 HA2 HB2 HSM
  go_wp2
  go_loopw [5, 11, 12, 13, 14, 15, 16, 17] (fun v i _ _ _ _ _ _ wr => ∃ (k : Nat) (q1 : Option Addr) (c1 : Nat) (cur : List Int), k ≤ min m 40 ∧ i = .int .i64 k ∧ v = .slice q1 m1 c1 ∧ Hid (cur.length = m1) ∧ Hid (At (fun k => k = g) q1 m1 c1 cur wr) ∧ Hid (Pt P g cur wr) ∧ Hid (Below W.heap.size W wr)) (fun _ i _ _ _ _ _ _ _ => min m 40 - (intOf i).toNat)
  case atStart => exact ⟨0, q1, c1, idL m1, Nat.zero_le _, rfl, rfl, Lib.hid (idL_len _), HA3, HE3, HB3⟩
  case round =>
    obtain ⟨k, q1, c1, cur, hk, rfl, rfl, HLN, HA, HP3, HB⟩ := hrel
    by_cases hlt : k < min m 40
    · obtain ⟨b, off, rfl, hbw, hca, hcb⟩ := HP.out.all k (by omega)
      have hca := (HB.out.cell hbw).trans hca
      have hcb := (HB.out.cell hbw).trans hcb
      have hB : W.heap.size ≤ wr.heap.size := HB.out.size
      have hk1 : k < m := by omega
      have hk2 : k < 40 := by omega
      generalize A k = x at hca
      generalize B k = y at hcb
      have HBB := HB.out
      go_wp2
      go_quiet (fail)
      have HPq := Lib.hid (HP3.out.below (Go.Rw.below_drewN (Below.refl _ _) nq))
      have HAq := Lib.hid (HA.out.below (Go.Rw.below_drewN (Below.refl _ _) nq))
      have HBq := Lib.hid (Go.Rw.below_drewN HBB nq)
      clear HA HP3 HB HBB hca hcb
      generalize World.drewN _ nq = wz at HPq HAq HBq ⊢
      have hBz : W.heap.size ≤ wz.heap.size := HBq.out.size
      have HU := Lib.hid (union_any x y HPq.out)
      go_wp2_with (fail)
      go_at_call 15
      refine HU.out.mono ?_
      rintro e w3 ⟨bx, by_, rfl, h1, h2, h3⟩
      have HA3 := Lib.hid (HAq.out.kept h1.kept (fun b hb => hb))
      have HB3 : Hid (Below W.heap.size W w3) := Lib.hid (HBq.out.trans (h1.kept.below (fun k hk => by rw [hk]; exact HPG.out.2) hBz))
      have hB3 : W.heap.size ≤ w3.heap.size := HB3.out.size
      have HP4 := Lib.hid h1.pt
      clear h1 HU
      have HX := Lib.hid (there_calls x HA3.out)
      have HY := Lib.hid (there_calls y HA3.out)
      cases ex : okL cur x
      · rw [ex] at HX h2 h3
        have HST := Lib.hid (show stepL cur x y = cur by unfold stepL; rw [ex]; rfl)
        have HCC := Lib.hid (show conL cur x y = false by unfold conL; rw [ex]; rfl)
        simp only [Bool.false_and, Bool.false_eq_true, if_false] at h2 h3
        subst h2 h3
        rw [HST.out] at HP4
        have HC := Lib.hid (con_pt x y HP4.out)
        rw [HCC.out] at HC
        go_wp2_with (fail)
        go_at_call 16
        refine HX.out.mono ?_
        rintro e w4 ⟨rfl, rfl⟩
        go_wp2_with (fail)
        go_at_call 17
        refine HC.out.mono ?_
        rintro e w4 ⟨rfl, h1⟩
        have HA5 := Lib.hid (HA3.out.kept h1.kept (fun b hb => hb))
        have HB5 : Hid (Below W.heap.size W w4) := Lib.hid (HB3.out.trans (h1.kept.below (fun k hk => by rw [hk]; exact HPG.out.2) hB3))
        have HP5 := Lib.hid h1.pt
        clear h1
        go_wp2
        go_roundw
        case rel => exact ⟨k + 1, q1, c1, cur, by omega, by go_num, rfl, HLN, HA5, HP5, HB5⟩
        case measure => simp [intOf]; omega
      · rw [ex] at HX h2 h3
        cases ey : okL cur y
        · rw [ey] at HY h2 h3
          have HST := Lib.hid (show stepL cur x y = cur by unfold stepL; rw [ex, ey]; rfl)
          have HCC := Lib.hid (show conL cur x y = false by unfold conL; rw [ex, ey]; rfl)
          simp only [Bool.and_false, Bool.false_and, Bool.false_eq_true, if_false] at h2 h3
          subst h2 h3
          rw [HST.out] at HP4
          have HC := Lib.hid (con_pt x y HP4.out)
          rw [HCC.out] at HC
          go_wp2_with (fail)
          go_at_call 16
          refine HX.out.mono ?_
          rintro e w4 ⟨rfl, rfl⟩
          go_wp2_with (fail)
          go_at_call 16
          refine HY.out.mono ?_
          rintro e w4 ⟨rfl, rfl⟩
          go_wp2_with (fail)
          go_at_call 17
          refine HC.out.mono ?_
          rintro e w4 ⟨rfl, h1⟩
          have HA5 := Lib.hid (HA3.out.kept h1.kept (fun b hb => hb))
          have HB5 : Hid (Below W.heap.size W w4) := Lib.hid (HB3.out.trans (h1.kept.below (fun k hk => by rw [hk]; exact HPG.out.2) hB3))
          have HP5 := Lib.hid h1.pt
          clear h1
          go_wp2
          go_roundw
          case rel => exact ⟨k + 1, q1, c1, cur, by omega, by go_num, rfl, HLN, HA5, HP5, HB5⟩
          case measure => simp [intOf]; omega
        · rw [ey] at HY h2 h3
          have hx0 := okL_iff.1 ex
          have hy0 := okL_iff.1 ey
          have HST := Lib.hid (show stepL cur x y = joinL cur x.toNat y.toNat by unfold stepL; rw [ex, ey]; rfl)
          obtain ⟨x, rfl⟩ := Int.eq_ofNat_of_zero_le hx0.1
          obtain ⟨y, rfl⟩ := Int.eq_ofNat_of_zero_le hy0.1
          have hxl : x < cur.length := by omega
          have hyl : y < cur.length := by omega
          have HXL := Lib.hid hxl
          have HYL := Lib.hid hyl
          simp only [Bool.and_self, Bool.true_and, if_true] at h2 h3
          subst h3
          rw [Int.toNat_natCast, Int.toNat_natCast] at HST
          rw [Int.toNat_natCast, Int.toNat_natCast] at h2
          subst h2
          have HJ := Lib.hid (rjoin_calls (M := fun k => k = g) (a := x) (b := y) (by rw [← HLN.out]; exact hxl) (by rw [← HLN.out]; exact hyl) HA3.out (fun b hb => by rw [hb]; exact HP4.out.gl))
          have HLJ := Lib.hid (show (joinL cur x y).length = m1 by rw [joinL_len, HLN.out])
          rw [HST.out] at HP4
          clear hx0 hy0 ex ey hxl hyl
          generalize decide (gv cur x ≠ gv cur y) = z at HJ ⊢
          have hzz : (z != z) = false := by simp
          go_wp2_with (fail)
          go_at_call 16
          refine HX.out.mono ?_
          rintro e w4 ⟨rfl, rfl⟩
          go_wp2_with (fail)
          go_at_call 16
          refine HY.out.mono ?_
          rintro e w4 ⟨rfl, rfl⟩
          go_wp2_with (fail)
          go_at_call 18
          refine HJ.out.mono ?_
          rintro e w4 ⟨q4, m4, c4, rfl, h1, h2⟩
          have hm4 : m4 = m1 := h1.all.1.trans HLJ.out
          subst hm4
          have HA4 := Lib.hid h1
          have HP5 := Lib.hid (HP4.out.below h2)
          have HB4 := Lib.hid (HB3.out.trans (h2.mono hB3))
          have hB4 := HB4.out.size
          clear h1 h2 HJ HA3 HP4 HB3
          have HC := Lib.hid (con_pt (x : Int) (y : Int) HP5.out)
          rw [joined_con HXL.out HYL.out] at HC
          go_wp2_with (fail)
          go_at_call 17
          refine HC.out.mono ?_
          rintro e w5 ⟨rfl, h1⟩
          have HA5 := Lib.hid (HA4.out.kept h1.kept (fun b hb => hb))
          have HB5 : Hid (Below W.heap.size W w5) := Lib.hid (HB4.out.trans (h1.kept.below (fun k hk => by rw [hk]; exact HPG.out.2) hB4))
          have hB5 := HB5.out.size
          have HP6 := Lib.hid h1.pt
          clear h1 HC HA4 HB4 HP5
          have HSM := Lib.hid (same_calls HP6.out HA5.out rfl)
          go_wp2_with (fail)
          go_at_call 14
          refine HSM.out.mono ?_
          rintro e w6 ⟨rfl, h1⟩
          have HA7 := Lib.hid (HA5.out.kept h1.kept (fun b hb => hb))
          have HB7 : Hid (Below W.heap.size W w6) := Lib.hid (HB5.out.trans (h1.kept.below (fun k hk => by rw [hk]; exact HPG.out.2) hB5))
          have HP7 := Lib.hid h1.pt
          clear h1
          go_wp2
          go_roundw
          case rel => exact ⟨k + 1, q4, c4, joinL cur x y, by omega, by go_num, rfl, HLJ, HA7, HP7, HB7⟩
          case measure => simp [intOf]; omega
    · obtain rfl : k = min m 40 := by omega
      by_cases h40 : m < 40
      · have HT := Lib.hid (show min m 40 = m by omega)
        rw [HT.out]
        clear hk hlt
        go_wp2_with (fail)
        go_at_call 13
        refine (HK.out _).mono ?_
        rintro e w2 ⟨rfl, h3⟩
        go_wp2
        go_ret
        exact ⟨rfl, beyond_of (HB.out.trans (h3.mono HB.out.size))⟩
      · have HT := Lib.hid (show min m 40 = 40 by omega)
        rw [HT.out]
        clear hk hlt
        by_cases h41 : 40 < m
        · go_wp2_with (fail)
          go_at_call 13
          refine (HK.out _).mono ?_
          rintro e w2 ⟨rfl, h3⟩
          go_wp2
          go_ret
          exact ⟨rfl, beyond_of (HB.out.trans (h3.mono HB.out.size))⟩
        · obtain rfl : m = 40 := by omega
          go_wp2_with (fail)
          go_at_call 13
          refine (HK.out _).mono ?_
          rintro e w2 ⟨rfl, h3⟩
          go_wp2
          go_ret
          exact ⟨rfl, beyond_of (HB.out.trans (h3.mono HB.out.size))⟩
end Go.Proofs.Ytjlpjdpaingnkaa.pt
