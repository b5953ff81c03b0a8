/-
  PartitionMeetJoin: the walk.
-/
import Derived.Test.YtjlpjdpaingnkaaPtSplit
set_option linter.unusedSimpArgs false
set_option linter.unusedVariables false
namespace Go.Proofs.Ytjlpjdpaingnkaa.pt
open Go.RowKit Go.Own Go.Pt Go.Rw
set_option maxHeartbeats 4000000
set_option maxRecDepth 100000

theorem meetjoin_walk {n o0 o1 : Int} {q q2 : Option Addr} {m c m2 c2 : Nat} {A B A2 B2 : Nat → Int} {W : World} (hmc : m ≤ maxLen) (hp : Pairs q m A B W) (hmc2 : m2 ≤ maxLen) (hp2 : Pairs q2 m2 A2 B2 W) :
    Calls Try.prog 7 #[.int .i64 n, .agg #[.int .i64 o0, .int .i64 o1], .agg #[.slice q m c, .slice q2 m2 c2]] W fun e w' => e = .returned (.bool true) ∧ ∃ x, w' = beyond W x := by
  have HK := Lib.hid known_calls
  have HP0 := Lib.hid hp
  have HP02 := Lib.hid hp2
  clear hp hp2
  by_cases hn : n < 0 ∨ 40 < n
  · go_enter Try.func7, Try.ntmps7
    go_wp2_with (fail)
    go_at_call 19
    refine (made_bad n hn q m c _).mono ?_
    rintro e w1 ⟨rfl, h2⟩
    have HB : Hid (Below W.heap.size W w1) := Lib.hid (Below.trans (show Below W.heap.size W _ from (by repeat (first | assumption | exact Below.refl _ _ | exact below_beyond _ _ | refine Below.beyond ?_ (by (try simp [size_beyond]) <;> omega) _ | refine Below.drew ?_ | refine Go.Rw.below_drewN ?_ _ | refine Go.Rw.below_setRow ?_ (by (try simp [size_beyond]) <;> omega) _ | refine Below.alloc ?_ (by (try simp [size_beyond]) <;> omega) _ | refine Below.setCell ?_ (by (try simp [size_beyond]) <;> omega) _))) (h2.mono (by first | (simp; done) | (simp; omega))))
    have hs1 := HB.out.size
    have hsB := h2.size
    have hc0 : w1.cell? ⟨W.heap.size, 0, none⟩ = some (.int .i64 o0) := (h2.cell (p := ⟨W.heap.size, 0, none⟩) (by first | (simp; done) | (simp; omega))).trans (by simp [go_sem])
    have hc1 : w1.cell? ⟨W.heap.size, 1, none⟩ = some (.int .i64 o1) := (h2.cell (p := ⟨W.heap.size, 1, none⟩) (by first | (simp; done) | (simp; omega))).trans (by simp [go_sem])
    have hc2 : w1.cell? ⟨W.heap.size + 1, 1, none⟩ = some (.slice q2 m2 c2) := (h2.cell (p := ⟨W.heap.size + 1, 1, none⟩) (by first | (simp; done) | (simp; omega))).trans (by simp [go_sem])
    clear h2 hsB
    go_upto_if 27 with fail
    go_cut [9] from 28 to 29 (fun v wx => ∃ mm : Int, v = .int .i64 mm ∧ w1 = wx)
    case first =>
      by_cases h4 : o0.tmod 4 = 0
      · have h4b : (o0.tmod 4 == 0) = true := by simp [h4]
        go_wp2
        go_meet
        exact ⟨o1, rfl, rfl⟩
      · have h4b : (o0.tmod 4 == 0) = false := by simp [h4]
        go_wp2
        go_meet
        exact ⟨n, rfl, rfl⟩
    case rest =>
      obtain ⟨mm, rfl, rfl⟩ := hcut
      by_cases hmm : mm < 0 ∨ 40 < mm
      · have HM2 := Lib.hid (made_bad mm hmm q2 m2 c2 w1)
        go_wp2_with (fail)
        go_at_call 19
        refine HM2.out.mono ?_
        rintro e w2 ⟨rfl, h2⟩
        go_wp2_with (fail)
        go_at_call 13
        refine (HK.out _).mono ?_
        rintro e w3 ⟨rfl, h3⟩
        go_wp2
        go_ret
        exact ⟨rfl, beyond_of ((HB.out.trans (h2.mono hs1)).trans (h3.mono (Nat.le_trans hs1 h2.size)))⟩
      · obtain ⟨mm, rfl⟩ := Int.eq_ofNat_of_zero_le (show 0 ≤ mm by omega)
        have HM2 := Lib.hid (made_calls (n := mm) (c := c2) (W := w1) (by omega) hmc2 (HP02.out.below HB.out))
        clear hmm
        go_wp2_with (fail)
        go_at_call 19
        refine HM2.out.mono ?_
        rintro e w2 ⟨P1, g1, q1, m1, c1, rfl, h1, h2⟩
        clear h1
        go_wp2_with (fail)
        go_at_call 13
        refine (HK.out _).mono ?_
        rintro e w3 ⟨rfl, h3⟩
        go_wp2
        go_ret
        exact ⟨rfl, beyond_of ((HB.out.trans (h2.mono hs1)).trans (h3.mono (Nat.le_trans hs1 h2.size)))⟩
  · obtain ⟨n, rfl⟩ := Int.eq_ofNat_of_zero_le (show 0 ≤ n by omega)
    have hn40 : n ≤ 40 := by omega
    clear hn
    go_enter Try.func7, Try.ntmps7
    go_wp2_with (fail)
    go_at_call 19
    refine (made_calls (n := n) (c := c) hn40 hmc (HP0.out.below (by repeat (first | assumption | exact Below.refl _ _ | exact below_beyond _ _ | refine Below.beyond ?_ (by (try simp [size_beyond]) <;> omega) _ | refine Below.drew ?_ | refine Go.Rw.below_drewN ?_ _ | refine Go.Rw.below_setRow ?_ (by (try simp [size_beyond]) <;> omega) _ | refine Below.alloc ?_ (by (try simp [size_beyond]) <;> omega) _ | refine Below.setCell ?_ (by (try simp [size_beyond]) <;> omega) _)))).mono ?_
    rintro e w1 ⟨P0, g0, q0, m0, c0, rfl, h1, h2⟩
    have HW0 := Lib.hid (show (foldTo (idL n) A B (min m 60)).length = n by rw [foldTo_len, idL_len])
    generalize foldTo (idL n) A B (min m 60) = w at h1 HW0
    obtain rfl : m0 = w.length := h1.at_.all.1
    have HB : Hid (Below W.heap.size W w1) := Lib.hid (Below.trans (show Below W.heap.size W _ from (by repeat (first | assumption | exact Below.refl _ _ | exact below_beyond _ _ | refine Below.beyond ?_ (by (try simp [size_beyond]) <;> omega) _ | refine Below.drew ?_ | refine Go.Rw.below_drewN ?_ _ | refine Go.Rw.below_setRow ?_ (by (try simp [size_beyond]) <;> omega) _ | refine Below.alloc ?_ (by (try simp [size_beyond]) <;> omega) _ | refine Below.setCell ?_ (by (try simp [size_beyond]) <;> omega) _))) (h2.mono (by first | (simp; done) | (simp; omega))))
    have hs1 := HB.out.size
    have hsB := h2.size
    have hc0 : w1.cell? ⟨W.heap.size, 0, none⟩ = some (.int .i64 o0) := (h2.cell (p := ⟨W.heap.size, 0, none⟩) (by first | (simp; done) | (simp; omega))).trans (by simp [go_sem])
    have hc1 : w1.cell? ⟨W.heap.size, 1, none⟩ = some (.int .i64 o1) := (h2.cell (p := ⟨W.heap.size, 1, none⟩) (by first | (simp; done) | (simp; omega))).trans (by simp [go_sem])
    have hc2 : w1.cell? ⟨W.heap.size + 1, 1, none⟩ = some (.slice q2 m2 c2) := (h2.cell (p := ⟨W.heap.size + 1, 1, none⟩) (by first | (simp; done) | (simp; omega))).trans (by simp [go_sem])
    have HP0_ := HP0; clear HP0; have HPr := HP0_; clear HP0_
    have HP0 := Lib.hid h1.pt
    have HA0 := Lib.hid (h1.at_.more (M' := fun k => k = g0 ∨ k = P0 ∨ w1.heap.size ≤ k) (fun b hb h => by (try dsimp only at h); (try dsimp only); omega))
    have hP0 : W.heap.size ≤ P0 := Nat.le_trans (by first | (simp; done) | (simp; omega)) h1.p
    have hg0 : W.heap.size ≤ g0 := Nat.le_trans (by first | (simp; done) | (simp; omega)) h1.g
    have hPl0 := h1.pt.pl
    have hgl0 := h1.pt.gl
    have HR0 := Lib.hid h1.pt.rep
    clear h1
    clear h2 hsB
    go_upto_if 27 with fail
    go_cut [9] from 28 to 29 (fun v wx => ∃ mm : Int, v = .int .i64 mm ∧ w1 = wx)
    case first =>
      by_cases h4 : o0.tmod 4 = 0
      · have h4b : (o0.tmod 4 == 0) = true := by simp [h4]
        go_wp2
        go_meet
        exact ⟨o1, rfl, rfl⟩
      · have h4b : (o0.tmod 4 == 0) = false := by simp [h4]
        go_wp2
        go_meet
        exact ⟨n, rfl, rfl⟩
    case rest =>
      obtain ⟨mm, rfl, rfl⟩ := hcut
      by_cases hmm : mm < 0 ∨ 40 < mm
      · have HM2 := Lib.hid (made_bad mm hmm q2 m2 c2 w1)
        go_wp2_with (fail)
        go_at_call 19
        refine HM2.out.mono ?_
        rintro e w2 ⟨rfl, h2⟩
        go_wp2_with (fail)
        go_at_call 13
        refine (HK.out _).mono ?_
        rintro e w3 ⟨rfl, h3⟩
        go_wp2
        go_ret
        exact ⟨rfl, beyond_of ((HB.out.trans (h2.mono hs1)).trans (h3.mono (Nat.le_trans hs1 h2.size)))⟩
      · obtain ⟨mm, rfl⟩ := Int.eq_ofNat_of_zero_le (show 0 ≤ mm by omega)
        have HM2 := Lib.hid (made_calls (n := mm) (c := c2) (W := w1) (by omega) hmc2 (HP02.out.below HB.out))
        clear hmm
        go_wp2_with (fail)
        go_at_call 19
        refine HM2.out.mono ?_
        rintro e w2 ⟨P1, g1, q1, m1, c1, rfl, h1, h2⟩
        have HW1 := Lib.hid (show (foldTo (idL mm) A2 B2 (min m2 60)).length = mm by rw [foldTo_len, idL_len])
        generalize foldTo (idL mm) A2 B2 (min m2 60) = v at h1 HW1
        obtain rfl : m1 = v.length := h1.at_.all.1
        have HP1 := Lib.hid h1.pt
        have HA1 := Lib.hid (h1.at_.more (M' := fun k => k = g1 ∨ k = P1 ∨ k < w1.heap.size ∨ w2.heap.size ≤ k) (fun b hb h => by (try dsimp only at h); (try dsimp only); omega))
        have hP1 := h1.p
        have hg1 := h1.g
        have hPl1 := h1.pt.pl
        have hgl1 := h1.pt.gl
        have HR1 := Lib.hid h1.pt.rep
        clear h1 HM2 hc0 hc1 hc2
        have HP0_ := Lib.hid (HP0.out.below h2)
        have HA0_ := Lib.hid (HA0.out.below h2)
        have HB_ : Hid (Below W.heap.size W w2) := Lib.hid (HB.out.trans (h2.mono (by omega)))
        have hz1 := h2.size
        clear HP0 HA0 HB
        have HP0 := HP0_
        have HA0 := HA0_
        have HB := HB_
        clear HP0_ HA0_ HB_
        clear h2
        by_cases hll : w.length = v.length
        · have HLL := Lib.hid hll
          clear hll
          have HF := Lib.hid (meet_pt HP0.out HP1.out ⟨by omega, by omega, by omega⟩ (by have := HLL.out; first | omega | (simp only [byL_len, overL_len]; done) | (simp only [byL_len, overL_len]; omega)))
          go_wp2_with (fail)
          go_at_call 31
          refine HF.out.mono ?_
          rintro e x2 ⟨P2, g2, rfl, hN, hP2, hg2, h1⟩
          have HP2 := Lib.hid hN
          have hPl2 := hN.pl
          have hgl2 := hN.gl
          clear hN
          have HP0_ := Lib.hid (h1.one)
          have HP1_ := Lib.hid (h1.two)
          have HA0_ := Lib.hid (HA0.out.kept h1.kept (fun b hb => by (try dsimp only at hb); (try dsimp only); omega))
          have HA1_ := Lib.hid (HA1.out.kept h1.kept (fun b hb => by (try dsimp only at hb); (try dsimp only); omega))
          have HB_ : Hid (Below W.heap.size W x2) := Lib.hid (HB.out.trans (h1.kept.below (fun k hk => by (try dsimp only at hk); omega) (by omega)))
          have hz2 := h1.kept.size
          clear HP0 HP1 HA0 HA1 HB
          have HP0 := HP0_
          have HP1 := HP1_
          have HA0 := HA0_
          have HA1 := HA1_
          have HB := HB_
          clear HP0_ HP1_ HA0_ HA1_ HB_
          clear h1 HF
          have HF := Lib.hid (join_pt HP0.out HP1.out ⟨by omega, by omega, by omega⟩ (by have := HLL.out; first | omega | (simp only [byL_len, overL_len]; done) | (simp only [byL_len, overL_len]; omega)))
          go_wp2_with (fail)
          go_at_call 32
          refine HF.out.mono ?_
          rintro e x3 ⟨P3, g3, rfl, hN, hP3, hg3, h1⟩
          have HP3 := Lib.hid hN
          have hPl3 := hN.pl
          have hgl3 := hN.gl
          clear hN
          have HP0_ := Lib.hid (h1.one)
          have HP1_ := Lib.hid (h1.two)
          have HP2_ := Lib.hid (HP2.out.kept h1.kept (by omega) (by omega))
          have HA0_ := Lib.hid (HA0.out.kept h1.kept (fun b hb => by (try dsimp only at hb); (try dsimp only); omega))
          have HA1_ := Lib.hid (HA1.out.kept h1.kept (fun b hb => by (try dsimp only at hb); (try dsimp only); omega))
          have HB_ : Hid (Below W.heap.size W x3) := Lib.hid (HB.out.trans (h1.kept.below (fun k hk => by (try dsimp only at hk); omega) (by omega)))
          have hz3 := h1.kept.size
          clear HP0 HP1 HP2 HA0 HA1 HB
          have HP0 := HP0_
          have HP1 := HP1_
          have HP2 := HP2_
          have HA0 := HA0_
          have HA1 := HA1_
          have HB := HB_
          clear HP0_ HP1_ HP2_ HA0_ HA1_ HB_
          clear h1 HF
          have HR3 := Lib.hid (overL_rep HR0.out HR1.out HLL.out)
          have hvw : (w.length : Int) = (v.length : Int) := by have := HLL.out; omega
          have HF := Lib.hid (rmeet_calls (M := fun k => k = g2) HA0.out HA1.out HLL.out (fun k hk => by (try dsimp only at hk); omega))
          go_wp2_with (fail)
          go_at_call 33
          refine HF.out.mono ?_
          rintro e x4 ⟨q2, m2, c2, rfl, hN, h1⟩
          have HA2 := Lib.hid hN
          clear hN
          have HP0_ := Lib.hid (HP0.out.below h1)
          have HP1_ := Lib.hid (HP1.out.below h1)
          have HP2_ := Lib.hid (HP2.out.below h1)
          have HP3_ := Lib.hid (HP3.out.below h1)
          have HA0_ := Lib.hid (HA0.out.below h1)
          have HA1_ := Lib.hid (HA1.out.below h1)
          have HB_ : Hid (Below W.heap.size W x4) := Lib.hid (HB.out.trans (h1.mono (by omega)))
          have hz4 := h1.size
          clear HP0 HP1 HP2 HP3 HA0 HA1 HB
          have HP0 := HP0_
          have HP1 := HP1_
          have HP2 := HP2_
          have HP3 := HP3_
          have HA0 := HA0_
          have HA1 := HA1_
          have HB := HB_
          clear HP0_ HP1_ HP2_ HP3_ HA0_ HA1_ HB_
          clear h1 HF
          have HF := Lib.hid (same_calls HP2.out HA2.out (by (try dsimp only) <;> omega))
          go_wp2_with (fail)
          go_at_call 14
          refine HF.out.mono ?_
          rintro e x5 ⟨rfl, h1⟩
          have HP0_ := Lib.hid (HP0.out.kept h1.kept (by omega) (by omega))
          have HP1_ := Lib.hid (HP1.out.kept h1.kept (by omega) (by omega))
          have HP2_ := Lib.hid (h1.pt)
          have HP3_ := Lib.hid (HP3.out.kept h1.kept (by omega) (by omega))
          have HA0_ := Lib.hid (HA0.out.kept h1.kept (fun b hb => by (try dsimp only at hb); (try dsimp only); omega))
          have HA1_ := Lib.hid (HA1.out.kept h1.kept (fun b hb => by (try dsimp only at hb); (try dsimp only); omega))
          have HA2_ := Lib.hid (HA2.out.kept h1.kept (fun b hb => by (try dsimp only at hb); (try dsimp only); omega))
          have HB_ : Hid (Below W.heap.size W x5) := Lib.hid (HB.out.trans (h1.kept.below (fun k hk => by (try dsimp only at hk); omega) (by omega)))
          have hz5 := h1.kept.size
          clear HP0 HP1 HP2 HP3 HA0 HA1 HA2 HB
          have HP0 := HP0_
          have HP1 := HP1_
          have HP2 := HP2_
          have HP3 := HP3_
          have HA0 := HA0_
          have HA1 := HA1_
          have HA2 := HA2_
          have HB := HB_
          clear HP0_ HP1_ HP2_ HP3_ HA0_ HA1_ HA2_ HB_
          clear h1 HF
          clear HA2
          have HF := Lib.hid (over_calls (M := fun k => k = g3) (HA0.out.more (fun b _ h => .inr (.inr (by (try dsimp only at h); omega)))) HA1.out HLL.out HR1.out (fun k hk => by (try dsimp only at hk); omega))
          go_wp2_with (fail)
          go_at_call 34
          refine HF.out.mono ?_
          rintro e x6 ⟨q3, m3, c3, rfl, hN, h1⟩
          have HA3 := Lib.hid hN
          clear hN
          have HP0_ := Lib.hid (HP0.out.below h1)
          have HP1_ := Lib.hid (HP1.out.below h1)
          have HP2_ := Lib.hid (HP2.out.below h1)
          have HP3_ := Lib.hid (HP3.out.below h1)
          have HA0_ := Lib.hid (HA0.out.below h1)
          have HA1_ := Lib.hid (HA1.out.below h1)
          have HB_ : Hid (Below W.heap.size W x6) := Lib.hid (HB.out.trans (h1.mono (by omega)))
          have hz6 := h1.size
          clear HP0 HP1 HP2 HP3 HA0 HA1 HB
          have HP0 := HP0_
          have HP1 := HP1_
          have HP2 := HP2_
          have HP3 := HP3_
          have HA0 := HA0_
          have HA1 := HA1_
          have HB := HB_
          clear HP0_ HP1_ HP2_ HP3_ HA0_ HA1_ HB_
          clear h1 HF
          have HF := Lib.hid (same_calls HP3.out HA3.out (by (try dsimp only) <;> omega))
          go_wp2_with (fail)
          go_at_call 14
          refine HF.out.mono ?_
          rintro e x7 ⟨rfl, h1⟩
          have HP0_ := Lib.hid (HP0.out.kept h1.kept (by omega) (by omega))
          have HP1_ := Lib.hid (HP1.out.kept h1.kept (by omega) (by omega))
          have HP2_ := Lib.hid (HP2.out.kept h1.kept (by omega) (by omega))
          have HP3_ := Lib.hid (h1.pt)
          have HA0_ := Lib.hid (HA0.out.kept h1.kept (fun b hb => by (try dsimp only at hb); (try dsimp only); omega))
          have HA1_ := Lib.hid (HA1.out.kept h1.kept (fun b hb => by (try dsimp only at hb); (try dsimp only); omega))
          have HA3_ := Lib.hid (HA3.out.kept h1.kept (fun b hb => by (try dsimp only at hb); (try dsimp only); omega))
          have HB_ : Hid (Below W.heap.size W x7) := Lib.hid (HB.out.trans (h1.kept.below (fun k hk => by (try dsimp only at hk); omega) (by omega)))
          have hz7 := h1.kept.size
          clear HP0 HP1 HP2 HP3 HA0 HA1 HA3 HB
          have HP0 := HP0_
          have HP1 := HP1_
          have HP2 := HP2_
          have HP3 := HP3_
          have HA0 := HA0_
          have HA1 := HA1_
          have HA3 := HA3_
          have HB := HB_
          clear HP0_ HP1_ HP2_ HP3_ HA0_ HA1_ HA3_ HB_
          clear h1 HF
          clear HA3
          have HF := Lib.hid (refines_pt HP0.out HP1.out ⟨by omega, by omega, by omega⟩ (by have := HLL.out; first | omega | (simp only [byL_len, overL_len]; done) | (simp only [byL_len, overL_len]; omega)))
          go_wp2_with (fail)
          go_at_call 30
          refine HF.out.mono ?_
          rintro e x8 ⟨rfl, h1⟩
          have HP0_ := Lib.hid (h1.one)
          have HP1_ := Lib.hid (h1.two)
          have HP2_ := Lib.hid (HP2.out.kept h1.kept (by omega) (by omega))
          have HP3_ := Lib.hid (HP3.out.kept h1.kept (by omega) (by omega))
          have HA0_ := Lib.hid (HA0.out.kept h1.kept (fun b hb => by (try dsimp only at hb); (try dsimp only); omega))
          have HA1_ := Lib.hid (HA1.out.kept h1.kept (fun b hb => by (try dsimp only at hb); (try dsimp only); omega))
          have HB_ : Hid (Below W.heap.size W x8) := Lib.hid (HB.out.trans (h1.kept.below (fun k hk => by (try dsimp only at hk); omega) (by omega)))
          have hz8 := h1.kept.size
          clear HP0 HP1 HP2 HP3 HA0 HA1 HB
          have HP0 := HP0_
          have HP1 := HP1_
          have HP2 := HP2_
          have HP3 := HP3_
          have HA0 := HA0_
          have HA1 := HA1_
          have HB := HB_
          clear HP0_ HP1_ HP2_ HP3_ HA0_ HA1_ HB_
          clear h1 HF
          have HF := Lib.hid (finer_calls HA0.out HA1.out HLL.out HR0.out)
          go_wp2_with (fail)
          go_at_call 35
          refine HF.out.mono ?_
          rintro e x9 ⟨rfl, h1⟩
          have HP0_ := Lib.hid (HP0.out.below h1)
          have HP1_ := Lib.hid (HP1.out.below h1)
          have HP2_ := Lib.hid (HP2.out.below h1)
          have HP3_ := Lib.hid (HP3.out.below h1)
          have HA0_ := Lib.hid (HA0.out.below h1)
          have HA1_ := Lib.hid (HA1.out.below h1)
          have HB_ : Hid (Below W.heap.size W x9) := Lib.hid (HB.out.trans (h1.mono (by omega)))
          have hz9 := h1.size
          clear HP0 HP1 HP2 HP3 HA0 HA1 HB
          have HP0 := HP0_
          have HP1 := HP1_
          have HP2 := HP2_
          have HP3 := HP3_
          have HA0 := HA0_
          have HA1 := HA1_
          have HB := HB_
          clear HP0_ HP1_ HP2_ HP3_ HA0_ HA1_ HB_
          clear h1 HF
          generalize finerL w v = z
          have hzz : (z != z) = false := by simp
          have HF := Lib.hid (refines_pt HP2.out HP0.out ⟨by omega, by omega, by omega⟩ (by have := HLL.out; first | omega | (simp only [byL_len, overL_len]; done) | (simp only [byL_len, overL_len]; omega)))
          rw [show finerL (byL w v) w = true from (finer_iff (byL_rep _ _)).2 (by_fin1 _ _)] at HF
          go_wp2_with (fail)
          go_at_call 30
          refine HF.out.mono ?_
          rintro e x10 ⟨rfl, h1⟩
          have HP0_ := Lib.hid (h1.two)
          have HP1_ := Lib.hid (HP1.out.kept h1.kept (by omega) (by omega))
          have HP2_ := Lib.hid (h1.one)
          have HP3_ := Lib.hid (HP3.out.kept h1.kept (by omega) (by omega))
          have HA0_ := Lib.hid (HA0.out.kept h1.kept (fun b hb => by (try dsimp only at hb); (try dsimp only); omega))
          have HA1_ := Lib.hid (HA1.out.kept h1.kept (fun b hb => by (try dsimp only at hb); (try dsimp only); omega))
          have HB_ : Hid (Below W.heap.size W x10) := Lib.hid (HB.out.trans (h1.kept.below (fun k hk => by (try dsimp only at hk); omega) (by omega)))
          have hz10 := h1.kept.size
          clear HP0 HP1 HP2 HP3 HA0 HA1 HB
          have HP0 := HP0_
          have HP1 := HP1_
          have HP2 := HP2_
          have HP3 := HP3_
          have HA0 := HA0_
          have HA1 := HA1_
          have HB := HB_
          clear HP0_ HP1_ HP2_ HP3_ HA0_ HA1_ HB_
          clear h1 HF
          have HF := Lib.hid (refines_pt HP2.out HP1.out ⟨by omega, by omega, by omega⟩ (by have := HLL.out; first | omega | (simp only [byL_len, overL_len]; done) | (simp only [byL_len, overL_len]; omega)))
          rw [show finerL (byL w v) v = true from (finer_iff (byL_rep _ _)).2 (by_fin2 _ _)] at HF
          go_wp2_with (fail)
          go_at_call 30
          refine HF.out.mono ?_
          rintro e x11 ⟨rfl, h1⟩
          have HP0_ := Lib.hid (HP0.out.kept h1.kept (by omega) (by omega))
          have HP1_ := Lib.hid (h1.two)
          have HP2_ := Lib.hid (h1.one)
          have HP3_ := Lib.hid (HP3.out.kept h1.kept (by omega) (by omega))
          have HA0_ := Lib.hid (HA0.out.kept h1.kept (fun b hb => by (try dsimp only at hb); (try dsimp only); omega))
          have HA1_ := Lib.hid (HA1.out.kept h1.kept (fun b hb => by (try dsimp only at hb); (try dsimp only); omega))
          have HB_ : Hid (Below W.heap.size W x11) := Lib.hid (HB.out.trans (h1.kept.below (fun k hk => by (try dsimp only at hk); omega) (by omega)))
          have hz11 := h1.kept.size
          clear HP0 HP1 HP2 HP3 HA0 HA1 HB
          have HP0 := HP0_
          have HP1 := HP1_
          have HP2 := HP2_
          have HP3 := HP3_
          have HA0 := HA0_
          have HA1 := HA1_
          have HB := HB_
          clear HP0_ HP1_ HP2_ HP3_ HA0_ HA1_ HB_
          clear h1 HF
          have HF := Lib.hid (refines_pt HP0.out HP3.out ⟨by omega, by omega, by omega⟩ (by have := HLL.out; first | omega | (simp only [byL_len, overL_len]; done) | (simp only [byL_len, overL_len]; omega)))
          rw [show finerL w (overL w v) = true from (finer_iff HR0.out).2 over_fin1] at HF
          go_wp2_with (fail)
          go_at_call 30
          refine HF.out.mono ?_
          rintro e x12 ⟨rfl, h1⟩
          have HP0_ := Lib.hid (h1.one)
          have HP1_ := Lib.hid (HP1.out.kept h1.kept (by omega) (by omega))
          have HP2_ := Lib.hid (HP2.out.kept h1.kept (by omega) (by omega))
          have HP3_ := Lib.hid (h1.two)
          have HA0_ := Lib.hid (HA0.out.kept h1.kept (fun b hb => by (try dsimp only at hb); (try dsimp only); omega))
          have HA1_ := Lib.hid (HA1.out.kept h1.kept (fun b hb => by (try dsimp only at hb); (try dsimp only); omega))
          have HB_ : Hid (Below W.heap.size W x12) := Lib.hid (HB.out.trans (h1.kept.below (fun k hk => by (try dsimp only at hk); omega) (by omega)))
          have hz12 := h1.kept.size
          clear HP0 HP1 HP2 HP3 HA0 HA1 HB
          have HP0 := HP0_
          have HP1 := HP1_
          have HP2 := HP2_
          have HP3 := HP3_
          have HA0 := HA0_
          have HA1 := HA1_
          have HB := HB_
          clear HP0_ HP1_ HP2_ HP3_ HA0_ HA1_ HB_
          clear h1 HF
          have HF := Lib.hid (refines_pt HP1.out HP3.out ⟨by omega, by omega, by omega⟩ (by have := HLL.out; first | omega | (simp only [byL_len, overL_len]; done) | (simp only [byL_len, overL_len]; omega)))
          rw [show finerL v (overL w v) = true from (finer_iff HR1.out).2 (over_fin2 HR1.out HLL.out)] at HF
          go_wp2_with (fail)
          go_at_call 30
          refine HF.out.mono ?_
          rintro e x13 ⟨rfl, h1⟩
          have HP0_ := Lib.hid (HP0.out.kept h1.kept (by omega) (by omega))
          have HP1_ := Lib.hid (h1.one)
          have HP2_ := Lib.hid (HP2.out.kept h1.kept (by omega) (by omega))
          have HP3_ := Lib.hid (h1.two)
          have HA0_ := Lib.hid (HA0.out.kept h1.kept (fun b hb => by (try dsimp only at hb); (try dsimp only); omega))
          have HA1_ := Lib.hid (HA1.out.kept h1.kept (fun b hb => by (try dsimp only at hb); (try dsimp only); omega))
          have HB_ : Hid (Below W.heap.size W x13) := Lib.hid (HB.out.trans (h1.kept.below (fun k hk => by (try dsimp only at hk); omega) (by omega)))
          have hz13 := h1.kept.size
          clear HP0 HP1 HP2 HP3 HA0 HA1 HB
          have HP0 := HP0_
          have HP1 := HP1_
          have HP2 := HP2_
          have HP3 := HP3_
          have HA0 := HA0_
          have HA1 := HA1_
          have HB := HB_
          clear HP0_ HP1_ HP2_ HP3_ HA0_ HA1_ HB_
          clear h1 HF
          have HF := Lib.hid (same_calls HP0.out HA0.out (by (try dsimp only) <;> omega))
          go_wp2_with (fail)
          go_at_call 14
          refine HF.out.mono ?_
          rintro e x14 ⟨rfl, h1⟩
          have HP0_ := Lib.hid (h1.pt)
          have HP1_ := Lib.hid (HP1.out.kept h1.kept (by omega) (by omega))
          have HP2_ := Lib.hid (HP2.out.kept h1.kept (by omega) (by omega))
          have HP3_ := Lib.hid (HP3.out.kept h1.kept (by omega) (by omega))
          have HA0_ := Lib.hid (HA0.out.kept h1.kept (fun b hb => by (try dsimp only at hb); (try dsimp only); omega))
          have HA1_ := Lib.hid (HA1.out.kept h1.kept (fun b hb => by (try dsimp only at hb); (try dsimp only); omega))
          have HB_ : Hid (Below W.heap.size W x14) := Lib.hid (HB.out.trans (h1.kept.below (fun k hk => by (try dsimp only at hk); omega) (by omega)))
          have hz14 := h1.kept.size
          clear HP0 HP1 HP2 HP3 HA0 HA1 HB
          have HP0 := HP0_
          have HP1 := HP1_
          have HP2 := HP2_
          have HP3 := HP3_
          have HA0 := HA0_
          have HA1 := HA1_
          have HB := HB_
          clear HP0_ HP1_ HP2_ HP3_ HA0_ HA1_ HB_
          clear h1 HF
          have HF := Lib.hid (same_calls HP1.out HA1.out (by (try dsimp only) <;> omega))
          go_wp2_with (fail)
          go_at_call 14
          refine HF.out.mono ?_
          rintro e x15 ⟨rfl, h1⟩
          have HP0_ := Lib.hid (HP0.out.kept h1.kept (by omega) (by omega))
          have HP1_ := Lib.hid (h1.pt)
          have HP2_ := Lib.hid (HP2.out.kept h1.kept (by omega) (by omega))
          have HP3_ := Lib.hid (HP3.out.kept h1.kept (by omega) (by omega))
          have HA0_ := Lib.hid (HA0.out.kept h1.kept (fun b hb => by (try dsimp only at hb); (try dsimp only); omega))
          have HA1_ := Lib.hid (HA1.out.kept h1.kept (fun b hb => by (try dsimp only at hb); (try dsimp only); omega))
          have HB_ : Hid (Below W.heap.size W x15) := Lib.hid (HB.out.trans (h1.kept.below (fun k hk => by (try dsimp only at hk); omega) (by omega)))
          have hz15 := h1.kept.size
          clear HP0 HP1 HP2 HP3 HA0 HA1 HB
          have HP0 := HP0_
          have HP1 := HP1_
          have HP2 := HP2_
          have HP3 := HP3_
          have HA0 := HA0_
          have HA1 := HA1_
          have HB := HB_
          clear HP0_ HP1_ HP2_ HP3_ HA0_ HA1_ HB_
          clear h1 HF
          go_wp2_with (fail)
          go_at_call 13
          refine (HK.out _).mono ?_
          rintro e y9 ⟨rfl, h3⟩
          go_wp2
          go_ret
          exact ⟨rfl, beyond_of (HB.out.trans (h3.mono HB.out.size))⟩
        · have hnn : ¬ (w.length : Int) = (v.length : Int) := by omega
          have HM := Lib.hid (meet_bad HP0.out HP1.out hll)
          go_wp2_with (fail)
          go_at_call 31
          refine HM.out.mono ?_
          rintro e y1 ⟨rfl, rfl⟩
          have HJ := Lib.hid (join_bad HP0.out HP1.out hll)
          go_wp2_with (fail)
          go_at_call 32
          refine HJ.out.mono ?_
          rintro e y1 ⟨rfl, rfl⟩
          have HF := Lib.hid (refines_bad HP0.out HP1.out hll)
          go_wp2_with (fail)
          go_at_call 30
          refine HF.out.mono ?_
          rintro e y1 ⟨rfl, rfl⟩
          go_wp2_with (fail)
          go_at_call 13
          refine (HK.out _).mono ?_
          rintro e y9 ⟨rfl, h3⟩
          go_wp2
          go_ret
          exact ⟨rfl, beyond_of (HB.out.trans (h3.mono HB.out.size))⟩
end Go.Proofs.Ytjlpjdpaingnkaa.pt
