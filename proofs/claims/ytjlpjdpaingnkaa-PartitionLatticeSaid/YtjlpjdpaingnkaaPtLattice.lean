/-
  PartitionLattice: the walk.
-/
import Derived.Test.YtjlpjdpaingnkaaPtSplit
set_option linter.unusedSimpArgs false
set_option linter.unusedVariables false
namespace Go.Proofs.Ytjlpjdpaingnkaa.pt
open Go.RowKit Go.Own Go.Pt Go.Rw
set_option maxHeartbeats 4000000
set_option maxRecDepth 100000

theorem lattice_walk {n : Int} {q q2 q3 : Option Addr} {m c m2 c2 m3 c3 : Nat} {A B A2 B2 A3 B3 : Nat → Int} {W : World} (hmc : m ≤ maxLen) (hp : Pairs q m A B W) (hmc2 : m2 ≤ maxLen) (hp2 : Pairs q2 m2 A2 B2 W) (hmc3 : m3 ≤ maxLen) (hp3 : Pairs q3 m3 A3 B3 W) :
    Calls Try.prog 8 #[.int .i64 n, .agg #[.slice q m c, .slice q2 m2 c2, .slice q3 m3 c3]] W fun e w' => e = .returned (.bool true) ∧ ∃ x, w' = beyond W x := by
  have HK := Lib.hid known_calls
  have HQ0 := Lib.hid hp
  have HQ1 := Lib.hid hp2
  have HQ2 := Lib.hid hp3
  clear hp hp2 hp3
  by_cases hn : n < 0 ∨ 40 < n
  · go_enter Try.func8, Try.ntmps8
    go_wp2_with (fail)
    go_at_call 19
    refine (made_bad n hn q m c _).mono ?_
    rintro e w1 ⟨rfl, h2⟩
    have HB : Hid (Below W.heap.size W w1) := Lib.hid (Below.trans (show Below W.heap.size W _ from (by repeat (first | assumption | exact Below.refl _ _ | exact below_beyond _ _ | refine Below.beyond ?_ (by (try simp [size_beyond]) <;> omega) _ | refine Below.drew ?_ | refine Go.Rw.below_drewN ?_ _ | refine Go.Rw.below_setRow ?_ (by (try simp [size_beyond]) <;> omega) _ | refine Below.alloc ?_ (by (try simp [size_beyond]) <;> omega) _ | refine Below.setCell ?_ (by (try simp [size_beyond]) <;> omega) _))) (h2.mono (by first | (simp; done) | (simp; omega))))
    have hc1 : w1.cell? ⟨W.heap.size, 1, none⟩ = some (.slice q2 m2 c2) := (h2.cell (p := ⟨W.heap.size, 1, none⟩) (by first | (simp; done) | (simp; omega))).trans (by simp [go_sem])
    have hc2 : w1.cell? ⟨W.heap.size, 2, none⟩ = some (.slice q3 m3 c3) := (h2.cell (p := ⟨W.heap.size, 2, none⟩) (by first | (simp; done) | (simp; omega))).trans (by simp [go_sem])
    have hsB : W.heap.size + 1 ≤ w1.heap.size := by have := h2.size; simp at this; omega
    have hs1 := HB.out.size
    clear h2
    go_wp2_with (fail)
    go_at_call 19
    refine (made_bad n hn q2 m2 c2 _).mono ?_
    rintro e w2 ⟨rfl, h2⟩
    have HB_ : Hid (Below W.heap.size W w2) := Lib.hid (HB.out.trans (h2.mono hs1))
    have hc2_ := (h2.cell (p := ⟨W.heap.size, 2, none⟩) (by show W.heap.size < _; omega)).trans hc2
    have hz1_ := h2.size
    clear HB
    have HB := HB_
    clear HB_
    have hs2 := HB.out.size
    clear hc2
    have hc2 := hc2_
    clear hc2_
    clear h2
    go_wp2_with (fail)
    go_at_call 19
    refine (made_bad n hn q3 m3 c3 _).mono ?_
    rintro e w3 ⟨rfl, h2⟩
    have HB_ : Hid (Below W.heap.size W w3) := Lib.hid (HB.out.trans (h2.mono hs2))
    have hz2_ := h2.size
    clear HB
    have HB := HB_
    clear HB_
    have hs3 := HB.out.size
    clear h2
    go_wp2_with (fail)
    go_at_call 13
    refine (HK.out _).mono ?_
    rintro e y9 ⟨rfl, h3⟩
    go_wp2
    go_ret
    exact ⟨rfl, beyond_of (HB.out.trans (h3.mono HB.out.size))⟩
  · obtain ⟨n, rfl⟩ := Int.eq_ofNat_of_zero_le (show 0 ≤ n by omega)
    have hn40 : n ≤ 40 := by omega
    clear hn
    go_enter Try.func8, Try.ntmps8
    go_wp2_with (fail)
    go_at_call 19
    refine (made_calls (n := n) (c := c) hn40 hmc (HQ0.out.below (by repeat (first | assumption | exact Below.refl _ _ | exact below_beyond _ _ | refine Below.beyond ?_ (by (try simp [size_beyond]) <;> omega) _ | refine Below.drew ?_ | refine Go.Rw.below_drewN ?_ _ | refine Go.Rw.below_setRow ?_ (by (try simp [size_beyond]) <;> omega) _ | refine Below.alloc ?_ (by (try simp [size_beyond]) <;> omega) _ | refine Below.setCell ?_ (by (try simp [size_beyond]) <;> omega) _)))).mono ?_
    rintro e w1 ⟨P0, g0, q0_, m0_, c0_, rfl, h1, h2⟩
    have HW0 := Lib.hid (show (foldTo (idL n) A B (min m 60)).length = n by rw [foldTo_len, idL_len])
    generalize foldTo (idL n) A B (min m 60) = u0 at h1 HW0
    have HB : Hid (Below W.heap.size W w1) := Lib.hid (Below.trans (show Below W.heap.size W _ from (by repeat (first | assumption | exact Below.refl _ _ | exact below_beyond _ _ | refine Below.beyond ?_ (by (try simp [size_beyond]) <;> omega) _ | refine Below.drew ?_ | refine Go.Rw.below_drewN ?_ _ | refine Go.Rw.below_setRow ?_ (by (try simp [size_beyond]) <;> omega) _ | refine Below.alloc ?_ (by (try simp [size_beyond]) <;> omega) _ | refine Below.setCell ?_ (by (try simp [size_beyond]) <;> omega) _))) (h2.mono (by first | (simp; done) | (simp; omega))))
    have hc1 : w1.cell? ⟨W.heap.size, 1, none⟩ = some (.slice q2 m2 c2) := (h2.cell (p := ⟨W.heap.size, 1, none⟩) (by first | (simp; done) | (simp; omega))).trans (by simp [go_sem])
    have hc2 : w1.cell? ⟨W.heap.size, 2, none⟩ = some (.slice q3 m3 c3) := (h2.cell (p := ⟨W.heap.size, 2, none⟩) (by first | (simp; done) | (simp; omega))).trans (by simp [go_sem])
    have hsB : W.heap.size + 1 ≤ w1.heap.size := by have := h2.size; simp at this; omega
    have hs1 := HB.out.size
    have HP0 := Lib.hid h1.pt
    have hP0 : W.heap.size ≤ P0 := Nat.le_trans (by first | (simp; done) | (simp; omega)) h1.p
    have hg0 : W.heap.size ≤ g0 := Nat.le_trans (by first | (simp; done) | (simp; omega)) h1.g
    have hPl0 := h1.pt.pl
    have hgl0 := h1.pt.gl
    have HR0 := Lib.hid h1.pt.rep
    clear h1
    clear h2
    go_wp2_with (fail)
    go_at_call 19
    refine (made_calls (n := n) (c := c2) hn40 hmc2 (HQ1.out.below HB.out)).mono ?_
    rintro e w2 ⟨P1, g1, q1_, m1_, c1_, rfl, h1, h2⟩
    have HW1 := Lib.hid (show (foldTo (idL n) A2 B2 (min m2 60)).length = n by rw [foldTo_len, idL_len])
    generalize foldTo (idL n) A2 B2 (min m2 60) = u1 at h1 HW1
    have HB_ : Hid (Below W.heap.size W w2) := Lib.hid (HB.out.trans (h2.mono hs1))
    have hc2_ := (h2.cell (p := ⟨W.heap.size, 2, none⟩) (by show W.heap.size < _; omega)).trans hc2
    have hz1_ := h2.size
    clear HB
    have HB := HB_
    clear HB_
    have hs2 := HB.out.size
    clear hc2
    have hc2 := hc2_
    clear hc2_
    have HP0_ := Lib.hid (HP0.out.below h2)
    clear HP0
    have HP0 := HP0_
    clear HP0_
    have HP1 := Lib.hid h1.pt
    have hP1 := h1.p
    have hg1 := h1.g
    have hPl1 := h1.pt.pl
    have hgl1 := h1.pt.gl
    have HR1 := Lib.hid h1.pt.rep
    clear h1
    clear h2
    go_wp2_with (fail)
    go_at_call 19
    refine (made_calls (n := n) (c := c3) hn40 hmc3 (HQ2.out.below HB.out)).mono ?_
    rintro e w3 ⟨P2, g2, q2_, m2_, c2_, rfl, h1, h2⟩
    have HW2 := Lib.hid (show (foldTo (idL n) A3 B3 (min m3 60)).length = n by rw [foldTo_len, idL_len])
    generalize foldTo (idL n) A3 B3 (min m3 60) = u2 at h1 HW2
    have HB_ : Hid (Below W.heap.size W w3) := Lib.hid (HB.out.trans (h2.mono hs2))
    have hz2_ := h2.size
    clear HB
    have HB := HB_
    clear HB_
    have hs3 := HB.out.size
    have HP0_ := Lib.hid (HP0.out.below h2)
    clear HP0
    have HP0 := HP0_
    clear HP0_
    have HP1_ := Lib.hid (HP1.out.below h2)
    clear HP1
    have HP1 := HP1_
    clear HP1_
    have HP2 := Lib.hid h1.pt
    have hP2 := h1.p
    have hg2 := h1.g
    have hPl2 := h1.pt.pl
    have hgl2 := h1.pt.gl
    have HR2 := Lib.hid h1.pt.rep
    clear h1
    clear h2
    have HLL := Lib.hid (show u0.length = u1.length ∧ u0.length = u2.length from ⟨by rw [HW0.out, HW1.out], by rw [HW0.out, HW2.out]⟩)
    have HF := Lib.hid (meet_pt HP0.out HP1.out ⟨by omega, by omega, by omega⟩ (by have := HLL.out; first | omega | (simp only [byL_len, overL_len]; done) | (simp only [byL_len, overL_len]; omega)))
    go_wp2_with (fail)
    go_at_call 31
    refine HF.out.mono ?_
    rintro e x1 ⟨P3, g3, rfl, hN, hP3, hg3, h1⟩
    have HP3 := Lib.hid hN
    have hPl3 := hN.pl
    have hgl3 := hN.gl
    clear hN
    have HP0_ := Lib.hid (h1.one)
    have HP1_ := Lib.hid (h1.two)
    have HP2_ := Lib.hid (HP2.out.kept h1.kept (by omega) (by omega))
    have HB_ : Hid (Below W.heap.size W x1) := Lib.hid (HB.out.trans (h1.kept.below (fun k hk => by (try dsimp only at hk); omega) (by omega)))
    have hz1 := h1.kept.size
    clear HP0 HP1 HP2 HB
    have HP0 := HP0_
    have HP1 := HP1_
    have HP2 := HP2_
    have HB := HB_
    clear HP0_ HP1_ HP2_ HB_
    clear h1 HF
    have HF := Lib.hid (join_pt HP0.out HP1.out ⟨by omega, by omega, by omega⟩ (by have := HLL.out; first | omega | (simp only [byL_len, overL_len]; done) | (simp only [byL_len, overL_len]; omega)))
    go_wp2_with (fail)
    go_at_call 32
    refine HF.out.mono ?_
    rintro e x2 ⟨P4, g4, rfl, hN, hP4, hg4, h1⟩
    have HP4 := Lib.hid hN
    have hPl4 := hN.pl
    have hgl4 := hN.gl
    clear hN
    have HP0_ := Lib.hid (h1.one)
    have HP1_ := Lib.hid (h1.two)
    have HP2_ := Lib.hid (HP2.out.kept h1.kept (by omega) (by omega))
    have HP3_ := Lib.hid (HP3.out.kept h1.kept (by omega) (by omega))
    have HB_ : Hid (Below W.heap.size W x2) := Lib.hid (HB.out.trans (h1.kept.below (fun k hk => by (try dsimp only at hk); omega) (by omega)))
    have hz2 := h1.kept.size
    clear HP0 HP1 HP2 HP3 HB
    have HP0 := HP0_
    have HP1 := HP1_
    have HP2 := HP2_
    have HP3 := HP3_
    have HB := HB_
    clear HP0_ HP1_ HP2_ HP3_ HB_
    clear h1 HF
    have HR4 := Lib.hid (overL_rep HR0.out HR1.out HLL.out.1)
    go_upto_region 10 with fail
    go_cut [94] from 69 to 94 (fun v wx => v = .bool false ∧ Hid (Pt P0 g0 u0 wx) ∧ Hid (Pt P1 g1 u1 wx) ∧ Hid (Pt P2 g2 u2 wx) ∧ Hid (Pt P3 g3 (byL u0 u1) wx) ∧ Hid (Pt P4 g4 (overL u0 u1) wx) ∧ Hid (Below W.heap.size W wx) ∧ x2.heap.size ≤ wx.heap.size)
    case first =>
      cases hca : finerL u2 u0
      · have HF := Lib.hid (refines_pt HP2.out HP0.out ⟨by omega, by omega, by omega⟩ (by have := HLL.out; first | omega | (simp only [byL_len, overL_len]; done) | (simp only [byL_len, overL_len]; omega)))
        rw [show finerL u2 u0 = false from hca] at HF
        go_wp2_with (fail)
        go_at_call 30
        refine HF.out.mono ?_
        rintro e x3 ⟨rfl, h1⟩
        have HP0_ := Lib.hid (h1.two)
        have HP1_ := Lib.hid (HP1.out.kept h1.kept (by omega) (by omega))
        have HP2_ := Lib.hid (h1.one)
        have HP3_ := Lib.hid (HP3.out.kept h1.kept (by omega) (by omega))
        have HP4_ := Lib.hid (HP4.out.kept h1.kept (by omega) (by omega))
        have HB_ : Hid (Below W.heap.size W x3) := Lib.hid (HB.out.trans (h1.kept.below (fun k hk => by (try dsimp only at hk); omega) (by omega)))
        have hz3 := h1.kept.size
        clear HP0 HP1 HP2 HP3 HP4 HB
        have HP0 := HP0_
        have HP1 := HP1_
        have HP2 := HP2_
        have HP3 := HP3_
        have HP4 := HP4_
        have HB := HB_
        clear HP0_ HP1_ HP2_ HP3_ HP4_ HB_
        clear h1 HF
        clear hca
        cases hac : finerL u0 u2
        · have HF := Lib.hid (refines_pt HP0.out HP2.out ⟨by omega, by omega, by omega⟩ (by have := HLL.out; first | omega | (simp only [byL_len, overL_len]; done) | (simp only [byL_len, overL_len]; omega)))
          rw [show finerL u0 u2 = false from hac] at HF
          go_wp2_with (fail)
          go_at_call 30
          refine HF.out.mono ?_
          rintro e x4 ⟨rfl, h1⟩
          have HP0_ := Lib.hid (h1.one)
          have HP1_ := Lib.hid (HP1.out.kept h1.kept (by omega) (by omega))
          have HP2_ := Lib.hid (h1.two)
          have HP3_ := Lib.hid (HP3.out.kept h1.kept (by omega) (by omega))
          have HP4_ := Lib.hid (HP4.out.kept h1.kept (by omega) (by omega))
          have HB_ : Hid (Below W.heap.size W x4) := Lib.hid (HB.out.trans (h1.kept.below (fun k hk => by (try dsimp only at hk); omega) (by omega)))
          have hz4 := h1.kept.size
          clear HP0 HP1 HP2 HP3 HP4 HB
          have HP0 := HP0_
          have HP1 := HP1_
          have HP2 := HP2_
          have HP3 := HP3_
          have HP4 := HP4_
          have HB := HB_
          clear HP0_ HP1_ HP2_ HP3_ HP4_ HB_
          clear h1 HF
          clear hac
          go_wp2
          go_meet
          exact ⟨rfl, HP0, HP1, HP2, HP3, HP4, HB, by omega⟩
        · have HQ := Lib.hid (show finerL (overL u0 u1) u2 = finerL u1 u2 by rw [Bool.eq_iff_iff, finer_iff HR4.out, finer_iff HR1.out]; exact ⟨fun h => (over_fin2 HR1.out HLL.out.1).trans (by have := HLL.out; rw [overL_len]; omega) h, fun h => over_least HR1.out HLL.out.1 ((finer_iff HR0.out).1 hac) h _ (Nat.le_refl _)⟩)
          have HF := Lib.hid (refines_pt HP0.out HP2.out ⟨by omega, by omega, by omega⟩ (by have := HLL.out; first | omega | (simp only [byL_len, overL_len]; done) | (simp only [byL_len, overL_len]; omega)))
          rw [show finerL u0 u2 = true from hac] at HF
          go_wp2_with (fail)
          go_at_call 30
          refine HF.out.mono ?_
          rintro e x4 ⟨rfl, h1⟩
          have HP0_ := Lib.hid (h1.one)
          have HP1_ := Lib.hid (HP1.out.kept h1.kept (by omega) (by omega))
          have HP2_ := Lib.hid (h1.two)
          have HP3_ := Lib.hid (HP3.out.kept h1.kept (by omega) (by omega))
          have HP4_ := Lib.hid (HP4.out.kept h1.kept (by omega) (by omega))
          have HB_ : Hid (Below W.heap.size W x4) := Lib.hid (HB.out.trans (h1.kept.below (fun k hk => by (try dsimp only at hk); omega) (by omega)))
          have hz4 := h1.kept.size
          clear HP0 HP1 HP2 HP3 HP4 HB
          have HP0 := HP0_
          have HP1 := HP1_
          have HP2 := HP2_
          have HP3 := HP3_
          have HP4 := HP4_
          have HB := HB_
          clear HP0_ HP1_ HP2_ HP3_ HP4_ HB_
          clear h1 HF
          clear hac
          have HF := Lib.hid (refines_pt HP1.out HP2.out ⟨by omega, by omega, by omega⟩ (by have := HLL.out; first | omega | (simp only [byL_len, overL_len]; done) | (simp only [byL_len, overL_len]; omega)))
          rw [show finerL u1 u2 = (finerL u1 u2) from rfl] at HF
          go_wp2_with (fail)
          go_at_call 30
          refine HF.out.mono ?_
          rintro e x5 ⟨rfl, h1⟩
          have HP0_ := Lib.hid (HP0.out.kept h1.kept (by omega) (by omega))
          have HP1_ := Lib.hid (h1.one)
          have HP2_ := Lib.hid (h1.two)
          have HP3_ := Lib.hid (HP3.out.kept h1.kept (by omega) (by omega))
          have HP4_ := Lib.hid (HP4.out.kept h1.kept (by omega) (by omega))
          have HB_ : Hid (Below W.heap.size W x5) := Lib.hid (HB.out.trans (h1.kept.below (fun k hk => by (try dsimp only at hk); omega) (by omega)))
          have hz5 := h1.kept.size
          clear HP0 HP1 HP2 HP3 HP4 HB
          have HP0 := HP0_
          have HP1 := HP1_
          have HP2 := HP2_
          have HP3 := HP3_
          have HP4 := HP4_
          have HB := HB_
          clear HP0_ HP1_ HP2_ HP3_ HP4_ HB_
          clear h1 HF
          have HF := Lib.hid (refines_pt HP4.out HP2.out ⟨by omega, by omega, by omega⟩ (by have := HLL.out; first | omega | (simp only [byL_len, overL_len]; done) | (simp only [byL_len, overL_len]; omega)))
          rw [show finerL (overL u0 u1) u2 = (finerL u1 u2) from HQ.out] at HF
          go_wp2_with (fail)
          go_at_call 30
          refine HF.out.mono ?_
          rintro e x6 ⟨rfl, h1⟩
          have HP0_ := Lib.hid (HP0.out.kept h1.kept (by omega) (by omega))
          have HP1_ := Lib.hid (HP1.out.kept h1.kept (by omega) (by omega))
          have HP2_ := Lib.hid (h1.two)
          have HP3_ := Lib.hid (HP3.out.kept h1.kept (by omega) (by omega))
          have HP4_ := Lib.hid (h1.one)
          have HB_ : Hid (Below W.heap.size W x6) := Lib.hid (HB.out.trans (h1.kept.below (fun k hk => by (try dsimp only at hk); omega) (by omega)))
          have hz6 := h1.kept.size
          clear HP0 HP1 HP2 HP3 HP4 HB
          have HP0 := HP0_
          have HP1 := HP1_
          have HP2 := HP2_
          have HP3 := HP3_
          have HP4 := HP4_
          have HB := HB_
          clear HP0_ HP1_ HP2_ HP3_ HP4_ HB_
          clear h1 HF
          have hzz : (finerL u1 u2 != finerL u1 u2) = false := by simp
          go_wp2
          go_meet
          exact ⟨rfl, HP0, HP1, HP2, HP3, HP4, HB, by omega⟩
      · have HQ := Lib.hid (show finerL u2 (byL u0 u1) = finerL u2 u1 by rw [Bool.eq_iff_iff, finer_iff HR2.out, finer_iff HR2.out]; exact ⟨fun h => h.trans (by have := HLL.out; rw [byL_len]; omega) (by_fin2 _ _), fun h => by_most (by have := HLL.out; omega) ((finer_iff HR2.out).1 hca) h⟩)
        have HF := Lib.hid (refines_pt HP2.out HP0.out ⟨by omega, by omega, by omega⟩ (by have := HLL.out; first | omega | (simp only [byL_len, overL_len]; done) | (simp only [byL_len, overL_len]; omega)))
        rw [show finerL u2 u0 = true from hca] at HF
        go_wp2_with (fail)
        go_at_call 30
        refine HF.out.mono ?_
        rintro e x3 ⟨rfl, h1⟩
        have HP0_ := Lib.hid (h1.two)
        have HP1_ := Lib.hid (HP1.out.kept h1.kept (by omega) (by omega))
        have HP2_ := Lib.hid (h1.one)
        have HP3_ := Lib.hid (HP3.out.kept h1.kept (by omega) (by omega))
        have HP4_ := Lib.hid (HP4.out.kept h1.kept (by omega) (by omega))
        have HB_ : Hid (Below W.heap.size W x3) := Lib.hid (HB.out.trans (h1.kept.below (fun k hk => by (try dsimp only at hk); omega) (by omega)))
        have hz3 := h1.kept.size
        clear HP0 HP1 HP2 HP3 HP4 HB
        have HP0 := HP0_
        have HP1 := HP1_
        have HP2 := HP2_
        have HP3 := HP3_
        have HP4 := HP4_
        have HB := HB_
        clear HP0_ HP1_ HP2_ HP3_ HP4_ HB_
        clear h1 HF
        clear hca
        have HF := Lib.hid (refines_pt HP2.out HP1.out ⟨by omega, by omega, by omega⟩ (by have := HLL.out; first | omega | (simp only [byL_len, overL_len]; done) | (simp only [byL_len, overL_len]; omega)))
        rw [show finerL u2 u1 = (finerL u2 u1) from rfl] at HF
        go_wp2_with (fail)
        go_at_call 30
        refine HF.out.mono ?_
        rintro e x4 ⟨rfl, h1⟩
        have HP0_ := Lib.hid (HP0.out.kept h1.kept (by omega) (by omega))
        have HP1_ := Lib.hid (h1.two)
        have HP2_ := Lib.hid (h1.one)
        have HP3_ := Lib.hid (HP3.out.kept h1.kept (by omega) (by omega))
        have HP4_ := Lib.hid (HP4.out.kept h1.kept (by omega) (by omega))
        have HB_ : Hid (Below W.heap.size W x4) := Lib.hid (HB.out.trans (h1.kept.below (fun k hk => by (try dsimp only at hk); omega) (by omega)))
        have hz4 := h1.kept.size
        clear HP0 HP1 HP2 HP3 HP4 HB
        have HP0 := HP0_
        have HP1 := HP1_
        have HP2 := HP2_
        have HP3 := HP3_
        have HP4 := HP4_
        have HB := HB_
        clear HP0_ HP1_ HP2_ HP3_ HP4_ HB_
        clear h1 HF
        have HF := Lib.hid (refines_pt HP2.out HP3.out ⟨by omega, by omega, by omega⟩ (by have := HLL.out; first | omega | (simp only [byL_len, overL_len]; done) | (simp only [byL_len, overL_len]; omega)))
        rw [show finerL u2 (byL u0 u1) = (finerL u2 u1) from HQ.out] at HF
        go_wp2_with (fail)
        go_at_call 30
        refine HF.out.mono ?_
        rintro e x5 ⟨rfl, h1⟩
        have HP0_ := Lib.hid (HP0.out.kept h1.kept (by omega) (by omega))
        have HP1_ := Lib.hid (HP1.out.kept h1.kept (by omega) (by omega))
        have HP2_ := Lib.hid (h1.one)
        have HP3_ := Lib.hid (h1.two)
        have HP4_ := Lib.hid (HP4.out.kept h1.kept (by omega) (by omega))
        have HB_ : Hid (Below W.heap.size W x5) := Lib.hid (HB.out.trans (h1.kept.below (fun k hk => by (try dsimp only at hk); omega) (by omega)))
        have hz5 := h1.kept.size
        clear HP0 HP1 HP2 HP3 HP4 HB
        have HP0 := HP0_
        have HP1 := HP1_
        have HP2 := HP2_
        have HP3 := HP3_
        have HP4 := HP4_
        have HB := HB_
        clear HP0_ HP1_ HP2_ HP3_ HP4_ HB_
        clear h1 HF
        have hz1 : (finerL u2 u1 != finerL u2 u1) = false := by simp
        cases hac : finerL u0 u2
        · have HF := Lib.hid (refines_pt HP0.out HP2.out ⟨by omega, by omega, by omega⟩ (by have := HLL.out; first | omega | (simp only [byL_len, overL_len]; done) | (simp only [byL_len, overL_len]; omega)))
          rw [show finerL u0 u2 = false from hac] at HF
          go_wp2_with (fail)
          go_at_call 30
          refine HF.out.mono ?_
          rintro e x6 ⟨rfl, h1⟩
          have HP0_ := Lib.hid (h1.one)
          have HP1_ := Lib.hid (HP1.out.kept h1.kept (by omega) (by omega))
          have HP2_ := Lib.hid (h1.two)
          have HP3_ := Lib.hid (HP3.out.kept h1.kept (by omega) (by omega))
          have HP4_ := Lib.hid (HP4.out.kept h1.kept (by omega) (by omega))
          have HB_ : Hid (Below W.heap.size W x6) := Lib.hid (HB.out.trans (h1.kept.below (fun k hk => by (try dsimp only at hk); omega) (by omega)))
          have hz6 := h1.kept.size
          clear HP0 HP1 HP2 HP3 HP4 HB
          have HP0 := HP0_
          have HP1 := HP1_
          have HP2 := HP2_
          have HP3 := HP3_
          have HP4 := HP4_
          have HB := HB_
          clear HP0_ HP1_ HP2_ HP3_ HP4_ HB_
          clear h1 HF
          clear hac
          go_wp2
          go_meet
          exact ⟨rfl, HP0, HP1, HP2, HP3, HP4, HB, by omega⟩
        · have HQ := Lib.hid (show finerL (overL u0 u1) u2 = finerL u1 u2 by rw [Bool.eq_iff_iff, finer_iff HR4.out, finer_iff HR1.out]; exact ⟨fun h => (over_fin2 HR1.out HLL.out.1).trans (by have := HLL.out; rw [overL_len]; omega) h, fun h => over_least HR1.out HLL.out.1 ((finer_iff HR0.out).1 hac) h _ (Nat.le_refl _)⟩)
          have HF := Lib.hid (refines_pt HP0.out HP2.out ⟨by omega, by omega, by omega⟩ (by have := HLL.out; first | omega | (simp only [byL_len, overL_len]; done) | (simp only [byL_len, overL_len]; omega)))
          rw [show finerL u0 u2 = true from hac] at HF
          go_wp2_with (fail)
          go_at_call 30
          refine HF.out.mono ?_
          rintro e x6 ⟨rfl, h1⟩
          have HP0_ := Lib.hid (h1.one)
          have HP1_ := Lib.hid (HP1.out.kept h1.kept (by omega) (by omega))
          have HP2_ := Lib.hid (h1.two)
          have HP3_ := Lib.hid (HP3.out.kept h1.kept (by omega) (by omega))
          have HP4_ := Lib.hid (HP4.out.kept h1.kept (by omega) (by omega))
          have HB_ : Hid (Below W.heap.size W x6) := Lib.hid (HB.out.trans (h1.kept.below (fun k hk => by (try dsimp only at hk); omega) (by omega)))
          have hz6 := h1.kept.size
          clear HP0 HP1 HP2 HP3 HP4 HB
          have HP0 := HP0_
          have HP1 := HP1_
          have HP2 := HP2_
          have HP3 := HP3_
          have HP4 := HP4_
          have HB := HB_
          clear HP0_ HP1_ HP2_ HP3_ HP4_ HB_
          clear h1 HF
          clear hac
          have HF := Lib.hid (refines_pt HP1.out HP2.out ⟨by omega, by omega, by omega⟩ (by have := HLL.out; first | omega | (simp only [byL_len, overL_len]; done) | (simp only [byL_len, overL_len]; omega)))
          rw [show finerL u1 u2 = (finerL u1 u2) from rfl] at HF
          go_wp2_with (fail)
          go_at_call 30
          refine HF.out.mono ?_
          rintro e x7 ⟨rfl, h1⟩
          have HP0_ := Lib.hid (HP0.out.kept h1.kept (by omega) (by omega))
          have HP1_ := Lib.hid (h1.one)
          have HP2_ := Lib.hid (h1.two)
          have HP3_ := Lib.hid (HP3.out.kept h1.kept (by omega) (by omega))
          have HP4_ := Lib.hid (HP4.out.kept h1.kept (by omega) (by omega))
          have HB_ : Hid (Below W.heap.size W x7) := Lib.hid (HB.out.trans (h1.kept.below (fun k hk => by (try dsimp only at hk); omega) (by omega)))
          have hz7 := h1.kept.size
          clear HP0 HP1 HP2 HP3 HP4 HB
          have HP0 := HP0_
          have HP1 := HP1_
          have HP2 := HP2_
          have HP3 := HP3_
          have HP4 := HP4_
          have HB := HB_
          clear HP0_ HP1_ HP2_ HP3_ HP4_ HB_
          clear h1 HF
          have HF := Lib.hid (refines_pt HP4.out HP2.out ⟨by omega, by omega, by omega⟩ (by have := HLL.out; first | omega | (simp only [byL_len, overL_len]; done) | (simp only [byL_len, overL_len]; omega)))
          rw [show finerL (overL u0 u1) u2 = (finerL u1 u2) from HQ.out] at HF
          go_wp2_with (fail)
          go_at_call 30
          refine HF.out.mono ?_
          rintro e x8 ⟨rfl, h1⟩
          have HP0_ := Lib.hid (HP0.out.kept h1.kept (by omega) (by omega))
          have HP1_ := Lib.hid (HP1.out.kept h1.kept (by omega) (by omega))
          have HP2_ := Lib.hid (h1.two)
          have HP3_ := Lib.hid (HP3.out.kept h1.kept (by omega) (by omega))
          have HP4_ := Lib.hid (h1.one)
          have HB_ : Hid (Below W.heap.size W x8) := Lib.hid (HB.out.trans (h1.kept.below (fun k hk => by (try dsimp only at hk); omega) (by omega)))
          have hz8 := h1.kept.size
          clear HP0 HP1 HP2 HP3 HP4 HB
          have HP0 := HP0_
          have HP1 := HP1_
          have HP2 := HP2_
          have HP3 := HP3_
          have HP4 := HP4_
          have HB := HB_
          clear HP0_ HP1_ HP2_ HP3_ HP4_ HB_
          clear h1 HF
          have hzz : (finerL u1 u2 != finerL u1 u2) = false := by simp
          go_wp2
          go_meet
          exact ⟨rfl, HP0, HP1, HP2, HP3, HP4, HB, by omega⟩
    case rest =>
      clear HP0 HP1 HP2 HP3 HP4 HB
      obtain ⟨rfl, HP0, HP1, HP2, HP3, HP4, HB, hzc⟩ := hcut
      have HF := Lib.hid (meet_pt HP2.out HP3.out ⟨by omega, by omega, by omega⟩ (by have := HLL.out; first | omega | (simp only [byL_len, overL_len]; done) | (simp only [byL_len, overL_len]; omega)))
      go_wp2_with (fail)
      go_at_call 31
      refine HF.out.mono ?_
      rintro e x3 ⟨P5, g5, rfl, hN, hP5, hg5, h1⟩
      have HP5 := Lib.hid hN
      have hPl5 := hN.pl
      have hgl5 := hN.gl
      clear hN
      have HP0_ := Lib.hid (HP0.out.kept h1.kept (by omega) (by omega))
      have HP1_ := Lib.hid (HP1.out.kept h1.kept (by omega) (by omega))
      have HP2_ := Lib.hid (h1.one)
      have HP3_ := Lib.hid (h1.two)
      have HP4_ := Lib.hid (HP4.out.kept h1.kept (by omega) (by omega))
      have HB_ : Hid (Below W.heap.size W x3) := Lib.hid (HB.out.trans (h1.kept.below (fun k hk => by (try dsimp only at hk); omega) (by omega)))
      have hz3 := h1.kept.size
      clear HP0 HP1 HP2 HP3 HP4 HB
      have HP0 := HP0_
      have HP1 := HP1_
      have HP2 := HP2_
      have HP3 := HP3_
      have HP4 := HP4_
      have HB := HB_
      clear HP0_ HP1_ HP2_ HP3_ HP4_ HB_
      clear h1 HF
      have HF := Lib.hid (join_pt HP2.out HP4.out ⟨by omega, by omega, by omega⟩ (by have := HLL.out; first | omega | (simp only [byL_len, overL_len]; done) | (simp only [byL_len, overL_len]; omega)))
      go_wp2_with (fail)
      go_at_call 32
      refine HF.out.mono ?_
      rintro e x4 ⟨P6, g6, rfl, hN, hP6, hg6, h1⟩
      have HP6 := Lib.hid hN
      have hPl6 := hN.pl
      have hgl6 := hN.gl
      clear hN
      have HP0_ := Lib.hid (HP0.out.kept h1.kept (by omega) (by omega))
      have HP1_ := Lib.hid (HP1.out.kept h1.kept (by omega) (by omega))
      have HP2_ := Lib.hid (h1.one)
      have HP3_ := Lib.hid (HP3.out.kept h1.kept (by omega) (by omega))
      have HP4_ := Lib.hid (h1.two)
      have HP5_ := Lib.hid (HP5.out.kept h1.kept (by omega) (by omega))
      have HB_ : Hid (Below W.heap.size W x4) := Lib.hid (HB.out.trans (h1.kept.below (fun k hk => by (try dsimp only at hk); omega) (by omega)))
      have hz4 := h1.kept.size
      clear HP0 HP1 HP2 HP3 HP4 HP5 HB
      have HP0 := HP0_
      have HP1 := HP1_
      have HP2 := HP2_
      have HP3 := HP3_
      have HP4 := HP4_
      have HP5 := HP5_
      have HB := HB_
      clear HP0_ HP1_ HP2_ HP3_ HP4_ HP5_ HB_
      clear h1 HF
      have HF := Lib.hid (refines_pt HP5.out HP0.out ⟨by omega, by omega, by omega⟩ (by have := HLL.out; first | omega | (simp only [byL_len, overL_len]; done) | (simp only [byL_len, overL_len]; omega)))
      rw [show finerL (byL u2 (byL u0 u1)) u0 = true from (finer_iff (byL_rep _ _)).2 ((by_fin2 _ _).trans (by have := HLL.out; simp only [byL_len]; omega) (by_fin1 _ _))] at HF
      go_wp2_with (fail)
      go_at_call 30
      refine HF.out.mono ?_
      rintro e x5 ⟨rfl, h1⟩
      have HP0_ := Lib.hid (h1.two)
      have HP1_ := Lib.hid (HP1.out.kept h1.kept (by omega) (by omega))
      have HP2_ := Lib.hid (HP2.out.kept h1.kept (by omega) (by omega))
      have HP3_ := Lib.hid (HP3.out.kept h1.kept (by omega) (by omega))
      have HP4_ := Lib.hid (HP4.out.kept h1.kept (by omega) (by omega))
      have HP5_ := Lib.hid (h1.one)
      have HP6_ := Lib.hid (HP6.out.kept h1.kept (by omega) (by omega))
      have HB_ : Hid (Below W.heap.size W x5) := Lib.hid (HB.out.trans (h1.kept.below (fun k hk => by (try dsimp only at hk); omega) (by omega)))
      have hz5 := h1.kept.size
      clear HP0 HP1 HP2 HP3 HP4 HP5 HP6 HB
      have HP0 := HP0_
      have HP1 := HP1_
      have HP2 := HP2_
      have HP3 := HP3_
      have HP4 := HP4_
      have HP5 := HP5_
      have HP6 := HP6_
      have HB := HB_
      clear HP0_ HP1_ HP2_ HP3_ HP4_ HP5_ HP6_ HB_
      clear h1 HF
      have HF := Lib.hid (refines_pt HP5.out HP1.out ⟨by omega, by omega, by omega⟩ (by have := HLL.out; first | omega | (simp only [byL_len, overL_len]; done) | (simp only [byL_len, overL_len]; omega)))
      rw [show finerL (byL u2 (byL u0 u1)) u1 = true from (finer_iff (byL_rep _ _)).2 ((by_fin2 _ _).trans (by have := HLL.out; simp only [byL_len]; omega) (by_fin2 _ _))] at HF
      go_wp2_with (fail)
      go_at_call 30
      refine HF.out.mono ?_
      rintro e x6 ⟨rfl, h1⟩
      have HP0_ := Lib.hid (HP0.out.kept h1.kept (by omega) (by omega))
      have HP1_ := Lib.hid (h1.two)
      have HP2_ := Lib.hid (HP2.out.kept h1.kept (by omega) (by omega))
      have HP3_ := Lib.hid (HP3.out.kept h1.kept (by omega) (by omega))
      have HP4_ := Lib.hid (HP4.out.kept h1.kept (by omega) (by omega))
      have HP5_ := Lib.hid (h1.one)
      have HP6_ := Lib.hid (HP6.out.kept h1.kept (by omega) (by omega))
      have HB_ : Hid (Below W.heap.size W x6) := Lib.hid (HB.out.trans (h1.kept.below (fun k hk => by (try dsimp only at hk); omega) (by omega)))
      have hz6 := h1.kept.size
      clear HP0 HP1 HP2 HP3 HP4 HP5 HP6 HB
      have HP0 := HP0_
      have HP1 := HP1_
      have HP2 := HP2_
      have HP3 := HP3_
      have HP4 := HP4_
      have HP5 := HP5_
      have HP6 := HP6_
      have HB := HB_
      clear HP0_ HP1_ HP2_ HP3_ HP4_ HP5_ HP6_ HB_
      clear h1 HF
      have HF := Lib.hid (refines_pt HP0.out HP6.out ⟨by omega, by omega, by omega⟩ (by have := HLL.out; first | omega | (simp only [byL_len, overL_len]; done) | (simp only [byL_len, overL_len]; omega)))
      rw [show finerL u0 (overL u2 (overL u0 u1)) = true from (finer_iff HR0.out).2 (over_fin1.trans (overL_len _ _).symm (over_fin2 HR4.out (by have := HLL.out; rw [overL_len]; omega)))] at HF
      go_wp2_with (fail)
      go_at_call 30
      refine HF.out.mono ?_
      rintro e x7 ⟨rfl, h1⟩
      have HP0_ := Lib.hid (h1.one)
      have HP1_ := Lib.hid (HP1.out.kept h1.kept (by omega) (by omega))
      have HP2_ := Lib.hid (HP2.out.kept h1.kept (by omega) (by omega))
      have HP3_ := Lib.hid (HP3.out.kept h1.kept (by omega) (by omega))
      have HP4_ := Lib.hid (HP4.out.kept h1.kept (by omega) (by omega))
      have HP5_ := Lib.hid (HP5.out.kept h1.kept (by omega) (by omega))
      have HP6_ := Lib.hid (h1.two)
      have HB_ : Hid (Below W.heap.size W x7) := Lib.hid (HB.out.trans (h1.kept.below (fun k hk => by (try dsimp only at hk); omega) (by omega)))
      have hz7 := h1.kept.size
      clear HP0 HP1 HP2 HP3 HP4 HP5 HP6 HB
      have HP0 := HP0_
      have HP1 := HP1_
      have HP2 := HP2_
      have HP3 := HP3_
      have HP4 := HP4_
      have HP5 := HP5_
      have HP6 := HP6_
      have HB := HB_
      clear HP0_ HP1_ HP2_ HP3_ HP4_ HP5_ HP6_ HB_
      clear h1 HF
      have HF := Lib.hid (refines_pt HP1.out HP6.out ⟨by omega, by omega, by omega⟩ (by have := HLL.out; first | omega | (simp only [byL_len, overL_len]; done) | (simp only [byL_len, overL_len]; omega)))
      rw [show finerL u1 (overL u2 (overL u0 u1)) = true from (finer_iff HR1.out).2 ((over_fin2 HR1.out HLL.out.1).trans (by have := HLL.out; rw [overL_len]; omega) (over_fin2 HR4.out (by have := HLL.out; rw [overL_len]; omega)))] at HF
      go_wp2_with (fail)
      go_at_call 30
      refine HF.out.mono ?_
      rintro e x8 ⟨rfl, h1⟩
      have HP0_ := Lib.hid (HP0.out.kept h1.kept (by omega) (by omega))
      have HP1_ := Lib.hid (h1.one)
      have HP2_ := Lib.hid (HP2.out.kept h1.kept (by omega) (by omega))
      have HP3_ := Lib.hid (HP3.out.kept h1.kept (by omega) (by omega))
      have HP4_ := Lib.hid (HP4.out.kept h1.kept (by omega) (by omega))
      have HP5_ := Lib.hid (HP5.out.kept h1.kept (by omega) (by omega))
      have HP6_ := Lib.hid (h1.two)
      have HB_ : Hid (Below W.heap.size W x8) := Lib.hid (HB.out.trans (h1.kept.below (fun k hk => by (try dsimp only at hk); omega) (by omega)))
      have hz8 := h1.kept.size
      clear HP0 HP1 HP2 HP3 HP4 HP5 HP6 HB
      have HP0 := HP0_
      have HP1 := HP1_
      have HP2 := HP2_
      have HP3 := HP3_
      have HP4 := HP4_
      have HP5 := HP5_
      have HP6 := HP6_
      have HB := HB_
      clear HP0_ HP1_ HP2_ HP3_ HP4_ HP5_ HP6_ HB_
      clear h1 HF
      go_wp2_with (fail)
      go_at_call 13
      refine (HK.out _).mono ?_
      rintro e y9 ⟨rfl, h3⟩
      go_wp2
      go_ret
      exact ⟨rfl, beyond_of (HB.out.trans (h3.mono HB.out.size))⟩
end Go.Proofs.Ytjlpjdpaingnkaa.pt
