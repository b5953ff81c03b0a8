/-
  PartitionFind: the walk.
-/
import Derived.Test.YtjlpjdpaingnkaaPtO
set_option linter.unusedSimpArgs false
set_option linter.unusedVariables false
namespace Go.Proofs.Ytjlpjdpaingnkaa.pt
open Go.RowKit Go.Own Go.Pt Go.Rw
set_option maxHeartbeats 4000000
set_option maxRecDepth 100000

theorem conL_comm (w : List Int) (a b : Int) : conL w b a = conL w a b := by
  unfold conL
  rw [Bool.eq_iff_iff]
  simp only [Bool.and_eq_true, decide_eq_true_eq]
  constructor
  · rintro ⟨h1, h2, h3⟩; exact ⟨h2, h1, h3.symm⟩
  · rintro ⟨h1, h2, h3⟩; exact ⟨h2, h1, h3.symm⟩
theorem find_walk {n a b : Int} {q : Option Addr} {m c : Nat} {A B : Nat → Int} {W : World} (hmc : m ≤ maxLen) (hp : Pairs q m A B W) :
    Calls Try.prog 4 #[.int .i64 n, .slice q m c, .int .i64 a, .int .i64 b] W fun e w' => e = .returned (.bool true) ∧ ∃ x, w' = beyond W x := by
  have HK := Lib.hid known_calls
  by_cases hn : n < 0 ∨ 40 < n
  · have HM := Lib.hid (made_bad n hn q m c W)
    go_enter Try.func4, Try.ntmps4
    go_wp2_with (fail)
    go_at_call 19
    refine HM.out.mono ?_
    rintro e w1 ⟨rfl, h1⟩
    go_wp2_with (fail)
    go_at_call 13
    refine (HK.out _).mono ?_
    rintro e w2 ⟨rfl, h2⟩
    go_wp2
    go_ret
    exact ⟨rfl, beyond_of (h1.trans (h2.mono h1.size))⟩
  · obtain ⟨n, rfl⟩ := Int.eq_ofNat_of_zero_le (show 0 ≤ n by omega)
    have HM := Lib.hid (made_calls (n := n) (c := c) (by omega) hmc hp)
    clear hn hp
    go_enter Try.func4, Try.ntmps4
    go_wp2_with (fail)
    go_at_call 19
    refine HM.out.mono ?_
    rintro e w1 ⟨P, g, q1, m1, c1, rfl, h1, h2⟩
    generalize foldTo (idL n) A B (min m 60) = w at h1
    have HP := Lib.hid h1.pt
    have HA := Lib.hid h1.at_
    have HB := Lib.hid h2
    have hs1 := h2.size
    have hgg := h1.g
    obtain rfl : m1 = w.length := h1.at_.all.1
    have hml := h1.at_.all.2.1
    clear h1 h2 HM
    have HTH := Lib.hid (fun (y : Int) x => (there_calls y (HA.out.below (below_beyond w1 x))).mono (fun e w' hh => (⟨hh.1, hh.2 ▸ beyond_of (Below.refl _ _)⟩ : _ ∧ ∃ z, w' = beyond (beyond w1 x) z)))
    go_upto_region 4 with fail
    go_cut [11] from 23 to 41 (fun v wx => v = .bool (conL w a b) ∧ Hid (Pt P g w wx) ∧ Hid (At (fun k => k = g) q1 w.length c1 w wx) ∧ Hid (Below W.heap.size W wx))
    case first =>
      have HFIN := Lib.hid (fun x => (⟨Lib.hid (HP.out.below (below_beyond w1 x)), Lib.hid (HA.out.below (below_beyond w1 x)), Lib.hid (HB.out.trans ((below_beyond w1 x).mono hs1))⟩ : Hid (Pt P g w (beyond w1 x)) ∧ Hid (At (fun k => k = g) q1 w.length c1 w (beyond w1 x)) ∧ Hid (Below W.heap.size W (beyond w1 x))))
      cases ea : okL w a
      · have HT1 := Lib.hid (HTH.out a)
        rw [ea] at HT1
        have HC := Lib.hid (show conL w a b = false by unfold conL; rw [ea]; rfl)
        clear ea
        go_wp2
        refine wp_region_beyond (by kernel_rfl) (by kernel_rfl) ?_
        repeat (go_big_quiet_step ((go_at_call 16; exact quiet_beyond (HT1.out _))))
        refine wpQuiet_nil ?_
        rintro _ ⟨x5, rfl⟩
        go_wp2
        go_meet
        case rel => exact ⟨by rw [HC.out], HFIN.out x5⟩
      · have HT1 := Lib.hid (HTH.out a)
        rw [ea] at HT1
        cases eb : okL w b
        · have HT2 := Lib.hid (HTH.out b)
          rw [eb] at HT2
          have HC := Lib.hid (show conL w a b = false by unfold conL; rw [ea, eb]; rfl)
          clear ea eb
          go_wp2
          refine wp_region_beyond (by kernel_rfl) (by kernel_rfl) ?_
          go_big_quiet_step (fail)
          go_big_quiet_step (fail)
          go_big_quiet_step ((go_at_call 16; exact quiet_beyond (HT1.out _)))
          go_big_quiet_step (fail)
          go_big_quiet_step (fail)
          go_big_quiet_step (fail)
          go_big_quiet_step ((go_at_call 16; exact quiet_beyond (HT2.out _)))
          repeat (go_big_quiet_step (fail))
          refine wpQuiet_nil ?_
          rintro _ ⟨x5, rfl⟩
          go_wp2
          go_meet
          case rel => exact ⟨by rw [HC.out], HFIN.out x5⟩
        · have HT2 := Lib.hid (HTH.out b)
          rw [eb] at HT2
          have hx0 := okL_iff.1 ea
          have hy0 := okL_iff.1 eb
          have HC := Lib.hid (show conL w a b = decide (gv w a.toNat = gv w b.toNat) by unfold conL; rw [ea, eb]; rfl)
          clear ea eb
          obtain ⟨a, rfl⟩ := Int.eq_ofNat_of_zero_le hx0.1
          obtain ⟨b, rfl⟩ := Int.eq_ofNat_of_zero_le hy0.1
          obtain ⟨bq, off, rfl, hbw, hcs⟩ := HA.out.cell (k := a) (by omega)
          have hca := hcs a (by omega)
          have hcb := hcs b (by omega)
          have hin : inW bq w1 = true := inW_iff.2 hbw
          have hla : a < w.length := by omega
          have hlb : b < w.length := by omega
          rw [Int.toNat_natCast, Int.toNat_natCast] at HC
          have HQ := Lib.hid (show (gv w a == gv w b) = decide (gv w a = gv w b) by rw [Bool.eq_iff_iff]; simp)
          clear hcs hx0 hy0
          generalize gv w a = x at hca HC HQ
          generalize gv w b = y at hcb HC HQ
          go_wp2
          refine wp_region_beyond (by kernel_rfl) (by kernel_rfl) ?_
          go_big_quiet_step (fail)
          go_big_quiet_step (fail)
          go_big_quiet_step ((go_at_call 16; exact quiet_beyond (HT1.out _)))
          go_big_quiet_step (fail)
          go_big_quiet_step (fail)
          go_big_quiet_step (fail)
          go_big_quiet_step ((go_at_call 16; exact quiet_beyond (HT2.out _)))
          repeat (go_big_quiet_step (fail))
          refine wpQuiet_nil ?_
          rintro _ ⟨x5, rfl⟩
          go_wp2
          go_meet
          case rel => exact ⟨by rw [HC.out, ← HQ.out], HFIN.out x5⟩
    case rest =>
      obtain ⟨rfl, HP2, HA2, HB2⟩ := hcut
      have hs2 := HB2.out.size
      clear HTH HP HA HB
      cases ea : okL w a
      · have HT1 := Lib.hid (there_calls a HA2.out)
        rw [ea] at HT1
        have HF := Lib.hid (find_bad a ea HP2.out)
        have HC := Lib.hid (con_pt a b HP2.out)
        have HZ := Lib.hid (show conL w a b = false by unfold conL; rw [ea]; rfl)
        have HS := Lib.hid (fun X (hX : Pt P g w X) => size_bad a ea hX)
        rw [HZ.out] at HC ⊢
        clear ea HZ
        go_wp2_with (fail)
        go_at_call 20
        refine HF.out.mono ?_
        rintro e w3 ⟨rfl, rfl⟩
        go_wp2_with (fail)
        go_at_call 16
        refine HT1.out.mono ?_
        rintro e w3 ⟨rfl, rfl⟩
        go_wp2_with (fail)
        go_at_call 17
        refine HC.out.mono ?_
        rintro e w3 ⟨rfl, h1⟩
        have HP3 := Lib.hid h1.pt
        have HB3 : Hid (Below W.heap.size W w3) := Lib.hid (HB2.out.trans (h1.kept.below (fun k hk => by rw [hk]; exact hgg) hs2))
        clear h1 HC HP2 HB2
        go_wp2_with (fail)
        go_at_call 21
        refine (HS.out _ HP3.out).mono ?_
        rintro e w4 ⟨rfl, rfl⟩
        go_wp2_with (fail)
        go_at_call 13
        refine (HK.out _).mono ?_
        rintro e w5 ⟨rfl, h2⟩
        go_wp2
        go_ret
        exact ⟨rfl, beyond_of (HB3.out.trans (h2.mono HB3.out.size))⟩
      · have HT1 := Lib.hid (fun X (hX : At (fun k => k = g) q1 w.length c1 w X) => there_calls a hX)
        rw [ea] at HT1
        have hx0 := okL_iff.1 ea
        clear ea
        obtain ⟨a, rfl⟩ := Int.eq_ofNat_of_zero_le hx0.1
        have hla : a < w.length := by omega
        have hlw : a < w.length := by omega
        clear hx0
        have HF := Lib.hid (find_pt hlw HP2.out)
        go_wp2_with (fail)
        go_at_call 20
        refine HF.out.mono ?_
        rintro e w3 ⟨rfl, h1⟩
        have HE3 := Lib.hid h1
        have HA3 := Lib.hid (HA2.out.kept h1.kept (fun b hb => hb))
        have HB3 : Hid (Below W.heap.size W w3) := Lib.hid (HB2.out.trans (h1.kept.below (fun k hk => by rw [hk]; exact hgg) hs2))
        have hs3 := HB3.out.size
        clear h1 HF HA2 HB2
        go_wp2_with (fail)
        go_at_call 16
        refine (HT1.out _ HA3.out).mono ?_
        rintro e w4 ⟨rfl, rfl⟩
        have HC1 := Lib.hid (fun X (hX : Pt P g w X) => con_pt a b hX)
        have HC2 := Lib.hid (fun X (hX : Pt P g w X) => con_pt b a hX)
        have HSZ := Lib.hid (fun X (hX : Pt P g w X) => size_pt hlw hX)
        rw [conL_comm w a b] at HC2
        obtain ⟨bq, off, rfl, hbw, hcs⟩ := HA3.out.cell hla
        have HKA := Lib.hid (fun w' (hw' : Eff P g w w3 w') => HA3.out.kept hw'.kept (fun b hb => hb))
        have HBL := Lib.hid (fun (x : Int) X (hX : At (fun k => k = g) (some ⟨bq, off, none⟩) w.length c1 w X) => block_calls (M := fun _ => False) x hX (fun _ h => h.elim))
        have hld : ∀ w', Eff P g w w3 w' → w'.cell? ⟨bq, off + a, none⟩ = some (.int .i64 (gv w a)) := fun w' hw' => by
          obtain ⟨b', off', e1, _, hc⟩ := (HKA.out w' hw').cell hla
          cases e1
          exact hc a hla
        clear hcs
        generalize gv w a = x at hld HSZ ⊢
        generalize conL w (a : Int) b = z at HC1 HC2 ⊢
        have hxx : (x == x) = true := by simp
        have hzz : (z == z) = true := by simp
        go_wp2
        have hbd : Below w3.heap.size w3 w3.drew := (Below.refl _ _).drew
        have HEd : Hid (Eff P g w w3 w3.drew) := Lib.hid ⟨HE3.out.pt.below hbd, KeptBut.of_below hbd⟩
        have hagg3 : ∀ w, (isAgg 3).run Try.prog w = .ok false w := fun w => by unfold isAgg; rw [Sem.run_bind, run_underlying Try.underlying3 w]; rfl
        refine wp_region_plan (Eff P g w w3) [([0, 1, 2, 4], 3), ([5, 6, 7, 8, 9, 11], 10), ([12, 13, 14, 15, 16, 17, 18, 19, 20, 21, 22, 23, 24, 25, 26, 27, 28, 30, 31, 32, 33, 34], 29), ([], 35), ([36, 37, 38, 39], 40)] [41, 42] (by kernel_rfl) (by kernel_rfl) (by intro _ _ d _ _ h; cases d <;> exact h) HEd.out ?_
        try simp only [wpSegs, pick, List.filterMap, List.size_toArray, List.getElem?_toArray, List.getElem?_cons_zero, List.getElem?_cons_succ]
        go_big_quiet_step (exact fun _ => rfl)
        go_big_quiet_step (exact fun _ => rfl)
        go_big_quiet_step (exact fun _ => rfl)
        go_big_quiet_step (exact fun _ => rfl)
        refine wpQuiet_nil ?_
        go_wp2_with (go_at_call 17; refine (HC1.out _ HEd.out.pt).mono ?_; rintro e w5 ⟨rfl, h1⟩)
        have HE5 := Lib.hid (HEd.out.trans h1)
        clear h1
        refine And.intro HE5.out ?_
        try simp only [wpSegs, pick, List.filterMap, List.size_toArray, List.getElem?_toArray, List.getElem?_cons_zero, List.getElem?_cons_succ]
        go_big_quiet_step (exact fun _ => rfl)
        go_big_quiet_step (exact fun _ => rfl)
        go_big_quiet_step (exact fun _ => rfl)
        go_big_quiet_step (exact fun _ => rfl)
        go_big_quiet_step (exact fun _ => rfl)
        go_big_quiet_step (exact fun _ => rfl)
        refine wpQuiet_nil ?_
        go_wp2_with (go_at_call 17; refine (HC2.out _ HE5.out.pt).mono ?_; rintro e w6 ⟨rfl, h1⟩)
        have HE6 := Lib.hid (HE5.out.trans h1)
        clear h1 HE5
        refine And.intro HE6.out ?_
        try simp only [wpSegs, pick, List.filterMap, List.size_toArray, List.getElem?_toArray, List.getElem?_cons_zero, List.getElem?_cons_succ]
        go_big_quiet_step (exact fun _ => rfl)
        go_big_quiet_step (exact fun _ => rfl)
        go_big_quiet_step (exact fun _ => rfl)
        go_big_quiet_step (exact fun _ => rfl)
        go_big_quiet_step (exact fun _ => rfl)
        go_big_quiet_step (exact fun _ => rfl)
        go_big_quiet_step (exact fun _ => rfl)
        refine wpQuiet_load_one (by kernel_rfl) 3 (.tmp 93) rfl ⟨bq, off + a, none⟩ (.int .i64 x) rfl hld hagg3 ?_
        simp only [Act.put, List.setIfInBounds_toArray, List.set_cons_succ, List.set_cons_zero]
        go_big_quiet_step (exact fun _ => rfl)
        go_big_quiet_step (exact fun _ => rfl)
        go_big_quiet_step (exact fun _ => rfl)
        go_big_quiet_step (exact fun _ => rfl)
        go_big_quiet_step (exact fun _ => rfl)
        go_big_quiet_step (exact fun _ => rfl)
        go_big_quiet_step (exact fun _ => rfl)
        go_big_quiet_step (exact fun _ => rfl)
        go_big_quiet_step (exact fun _ => rfl)
        go_big_quiet_step (exact fun _ => rfl)
        go_big_quiet_step (exact fun _ => rfl)
        go_big_quiet_step (exact fun _ => rfl)
        go_big_quiet_step (exact fun _ => rfl)
        refine wpQuiet_load_one (by kernel_rfl) 3 (.tmp 108) rfl ⟨bq, off + a, none⟩ (.int .i64 x) rfl hld hagg3 ?_
        simp only [Act.put, List.setIfInBounds_toArray, List.set_cons_succ, List.set_cons_zero]
        refine wpQuiet_nil ?_
        go_wp2_with (go_at_call 21; refine (HSZ.out _ HE6.out.pt).mono ?_; rintro e w7 ⟨rfl, h1⟩)
        have HE7 := Lib.hid (HE6.out.trans h1)
        clear h1 HE6
        refine And.intro HE7.out ?_
        try simp only [wpSegs, pick, List.filterMap, List.size_toArray, List.getElem?_toArray, List.getElem?_cons_zero, List.getElem?_cons_succ]
        refine wpQuiet_nil ?_
        go_wp2_with (go_at_call 22; refine (HBL.out x _ (HKA.out _ HE7.out)).mono ?_; rintro e w8 ⟨q8, m8, c8, rfl, h1, h2⟩)
        have HE8 : Hid (Eff P g w w3 w8) := Lib.hid ⟨HE7.out.pt.below h2, HE7.out.kept.trans (KeptBut.of_below h2)⟩
        have hm8 : m8 = (blockL w x).length := h1.all.1
        subst hm8
        clear h1 h2 HE7
        refine And.intro HE8.out ?_
        try simp only [wpSegs, pick, List.filterMap, List.size_toArray, List.getElem?_toArray, List.getElem?_cons_zero, List.getElem?_cons_succ]
        have hll : (((blockL w x).length : Int) == ((blockL w x).length : Int)) = true := by simp
        go_big_quiet_step (exact fun _ => rfl)
        go_big_quiet_step (exact fun _ => rfl)
        go_big_quiet_step (exact fun _ => rfl)
        go_big_quiet_step (exact fun _ => rfl)
        refine wpQuiet_nil ?_
        go_wp2_with (go_at_call 13; refine (HK.out _).mono ?_; rintro e w9 ⟨rfl, h2⟩)
        have HE9 : Hid (Eff P g w w3 w9) := Lib.hid ⟨HE8.out.pt.below h2, HE8.out.kept.trans (KeptBut.of_below h2)⟩
        have HB9 : Hid (Below W.heap.size W w9) := Lib.hid (HB3.out.trans (HE9.out.kept.below (fun k hk => by rw [hk]; exact hgg) hs3))
        clear h2 HE8
        refine And.intro HE9.out ?_
        try simp only [wpSegs, pick, List.filterMap, List.size_toArray, List.getElem?_toArray, List.getElem?_cons_zero, List.getElem?_cons_succ]
        go_big_quiet_step (exact fun _ => rfl)
        go_big_quiet_step (exact fun _ => rfl)
        refine wpQuiet_nil ?_
        go_wp2
        go_ret
        exact ⟨rfl, beyond_of HB9.out⟩
end Go.Proofs.Ytjlpjdpaingnkaa.pt
