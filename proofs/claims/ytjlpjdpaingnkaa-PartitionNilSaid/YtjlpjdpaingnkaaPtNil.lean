/-
  PartitionNil: the walk.
-/
import Derived.Test.YtjlpjdpaingnkaaPtSplit
import Derived.Test.YtjlpjdpaingnkaaPtNB
set_option linter.unusedSimpArgs false
set_option linter.unusedVariables false
namespace Go.Proofs.Ytjlpjdpaingnkaa.pt
open Go.RowKit Go.Own Go.Pt Go.Rw
set_option maxHeartbeats 4000000
set_option maxRecDepth 100000

theorem step_same {w : List Int} (a b : Int) : decide (stepL w a b = w) = !(okL w a && okL w b && decide (gv w a.toNat ≠ gv w b.toNat)) := by
  unfold stepL
  cases ea : okL w a
  · simp
  cases eb : okL w b
  · simp
  have h1 := okL_iff.1 ea; have h2 := okL_iff.1 eb
  by_cases e : gv w a.toNat = gv w b.toNat
  · rw [decide_eq_false (p := gv w a.toNat ≠ gv w b.toNat) (fun h => h e)]; simp [joinL_same e]
  · rw [decide_eq_true (p := gv w a.toNat ≠ gv w b.toNat) e]
    have := join_ne (w := w) (a := a.toNat) (b := b.toNat) (by omega) (by omega) e
    simp [this]
theorem blocks_small {w : List Int} (i : Nat) (l : List Int) (h : (blocksL w)[i]? = some l) : l.length ≤ w.length := by
  unfold blocksL blocksTo at h
  rw [List.getElem?_map, Option.map_eq_some_iff] at h
  obtain ⟨j, _, rfl⟩ := h
  exact blk_len _ _ _
theorem nil_walk {n a b : Int} {q : Option Addr} {m c : Nat} {A B : Nat → Int} {W : World} (hmc : m ≤ maxLen) (hp : Pairs q m A B W) :
    Calls Try.prog 10 #[.int .i64 n, .slice q m c, .int .i64 a, .int .i64 b] W fun e w' => e = .returned (.bool true) ∧ ∃ x, w' = beyond W x := by
  have HK := Lib.hid known_calls
  by_cases hn : n < 0 ∨ 40 < n
  · have HM := Lib.hid (made_bad n hn q m c W)
    clear hn
    go_enter Try.func10, Try.ntmps10
    go_wp2_with (fail)
    go_at_call 19
    refine HM.out.mono ?_
    rintro e w1 ⟨rfl, h1⟩
    go_wp2_with (fail)
    go_at_call 15
    refine (union_nil a b _).mono ?_
    rintro e y0 ⟨rfl, rfl⟩
    go_wp2_with (fail)
    go_at_call 20
    refine (find_nil a _).mono ?_
    rintro e y0 ⟨rfl, rfl⟩
    go_wp2_with (fail)
    go_at_call 31
    refine (meet_nil1 none _).mono ?_
    rintro e y0 ⟨rfl, rfl⟩
    go_wp2_with (fail)
    go_at_call 32
    refine (join_nil1 none _).mono ?_
    rintro e y0 ⟨rfl, rfl⟩
    go_wp2_with (fail)
    go_at_call 28
    refine (split_nil none 0 0 _).mono ?_
    rintro e y0 ⟨rfl, rfl⟩
    go_wp2_with (fail)
    go_at_call 37
    refine (len_nil _).mono ?_
    rintro e y0 ⟨rfl, rfl⟩
    go_wp2_with (fail)
    go_at_call 17
    refine (con_nil a b _).mono ?_
    rintro e y0 ⟨rfl, rfl⟩
    go_wp2_with (fail)
    go_at_call 36
    refine (num_nil _).mono ?_
    rintro e y0 ⟨rfl, rfl⟩
    go_wp2_with (fail)
    go_at_call 21
    refine (size_nil a _).mono ?_
    rintro e y0 ⟨rfl, rfl⟩
    go_wp2_with (fail)
    go_at_call 25
    refine (blocks_nil _).mono ?_
    rintro e y0 ⟨rfl, rfl⟩
    go_wp2_with (fail)
    go_at_call 30
    refine (refines_nil1 none _).mono ?_
    rintro e y0 ⟨rfl, rfl⟩
    go_wp2_with (fail)
    go_at_call 27
    refine (clone_nil _).mono ?_
    rintro e y0 ⟨rfl, rfl⟩
    go_wp2_with (fail)
    go_at_call 26
    refine (equal_nil _).mono ?_
    rintro e y0 ⟨rfl, rfl⟩
    go_wp2_with (fail)
    go_at_call 13
    refine (HK.out _).mono ?_
    rintro e w2 ⟨rfl, h2⟩
    go_wp2
    go_ret
    exact ⟨rfl, beyond_of (h1.trans (h2.mono h1.size))⟩
  obtain ⟨n, rfl⟩ := Int.eq_ofNat_of_zero_le (show 0 ≤ n by omega)
  have HM := Lib.hid (made_calls (n := n) (c := c) (by omega) hmc hp)
  clear hn hp
  go_enter Try.func10, Try.ntmps10
  go_wp2_with (fail)
  go_at_call 19
  refine HM.out.mono ?_
  rintro e w1 ⟨P0, g0, q1, m1, c1, rfl, h1, h2⟩
  generalize foldTo (idL n) A B (min m 60) = w at h1
  obtain rfl : m1 = w.length := h1.at_.all.1
  have HP0 := Lib.hid h1.pt
  have HA0 := Lib.hid (h1.at_.more (M' := fun k => k = g0 ∨ k = P0 ∨ w1.heap.size ≤ k) (fun b hb h => by (try dsimp only at h); (try dsimp only); omega))
  have HB := Lib.hid h2
  have hs1 := h2.size
  have hp0 := h1.p
  have hg0 := h1.g
  have hgl := h1.pt.gl
  have hpl := h1.pt.pl
  have hw4 := h1.pt.len
  clear h1 h2 HM
  go_wp2_with (fail)
  go_at_call 15
  refine (union_nil a b _).mono ?_
  rintro e y0 ⟨rfl, rfl⟩
  go_wp2_with (fail)
  go_at_call 20
  refine (find_nil a _).mono ?_
  rintro e y0 ⟨rfl, rfl⟩
  go_wp2_with (fail)
  go_at_call 31
  refine (meet_nil1 (some ⟨P0, 0, none⟩) _).mono ?_
  rintro e y0 ⟨rfl, rfl⟩
  go_wp2_with (fail)
  go_at_call 32
  refine (join_nil1 (some ⟨P0, 0, none⟩) _).mono ?_
  rintro e y0 ⟨rfl, rfl⟩
  go_wp2_with (fail)
  go_at_call 28
  refine (split_nil none 0 0 _).mono ?_
  rintro e y0 ⟨rfl, rfl⟩
  go_wp2_with (fail)
  go_at_call 37
  refine (len_nil _).mono ?_
  rintro e y0 ⟨rfl, rfl⟩
  go_wp2_with (fail)
  go_at_call 17
  refine (con_nil a b _).mono ?_
  rintro e y0 ⟨rfl, rfl⟩
  go_wp2_with (fail)
  go_at_call 36
  refine (num_nil _).mono ?_
  rintro e y0 ⟨rfl, rfl⟩
  go_wp2_with (fail)
  go_at_call 21
  refine (size_nil a _).mono ?_
  rintro e y0 ⟨rfl, rfl⟩
  go_wp2_with (fail)
  go_at_call 25
  refine (blocks_nil _).mono ?_
  rintro e y0 ⟨rfl, rfl⟩
  go_wp2_with (fail)
  go_at_call 30
  refine (refines_nil1 (some ⟨P0, 0, none⟩) _).mono ?_
  rintro e y0 ⟨rfl, rfl⟩
  go_wp2_with (fail)
  go_at_call 27
  refine (clone_nil _).mono ?_
  rintro e y0 ⟨rfl, rfl⟩
  go_wp2_with (fail)
  go_at_call 26
  refine (equal_nil _).mono ?_
  rintro e y0 ⟨rfl, rfl⟩
  have HC := Lib.hid (clone_pt HP0.out)
  go_wp2_with (fail)
  go_at_call 27
  refine HC.out.mono ?_
  rintro e w2 ⟨P1, g1, rfl, h1, hPo, hgo, h4⟩
  have HP2 := Lib.hid (HP0.out.below h4)
  have HO2 := Lib.hid h1
  have HA2 := Lib.hid (HA0.out.below h4)
  have HB2 := Lib.hid (HB.out.trans (h4.mono hs1))
  have hs2 := h4.size
  have hPo2 := h1.pl
  have hgo2 := h1.gl
  clear h1 h4 HC HP0 HA0 HB
  have HBK := Lib.hid (blocks2_calls (M := fun k => k < w2.heap.size) HP2.out (fun k hk => hk))
  have hbl : (blocksL w).length ≤ 4096 := by have := blocksTo_len w w.length; have := heads_len w w.length; unfold blocksL; omega
  have HSM := Lib.hid (fun i l h => Nat.le_trans (blocks_small (w := w) i l h) hw4)
  generalize blocksL w = L at HBK hbl HSM
  go_wp2_with (fail)
  go_at_call 25
  refine HBK.out.mono ?_
  rintro e wl ⟨q2, m2, c2, rfl, h1, h2⟩
  have HE := Lib.hid h2
  have HWR := Lib.hid h1
  have hm2 : m2 ≤ 4096 := by have := h1.all.1; omega
  have hsl := h2.kept.size
  clear h1 h2 HBK hbl
  go_wp2
  go_loopw [22, 23] (fun i _ wr => ∃ t : Nat, t ≤ m2 ∧ i = .int .i64 t ∧ Hid (Wr (fun k => k < w2.heap.size) q2 m2 c2 L wr) ∧ Hid (KeptBut (fun k => w2.heap.size ≤ k) wl wr)) (fun i _ _ => m2 - (intOf i).toNat)
  case atStart => exact ⟨0, Nat.zero_le _, rfl, HWR, Lib.hid (KeptBut.refl _ _)⟩
  case round =>
    obtain ⟨t, ht, rfl, HW, HKB⟩ := hrel
    by_cases hlt : t < m2
    · obtain ⟨l, hl⟩ : ∃ l, L[t]? = some l := ⟨_, List.getElem?_eq_getElem (by have := HW.out.all.1; omega)⟩
      have HLl := Lib.hid hl
      clear hl
      go_wp2
      go_loopw [23] (fun i wr => ∃ u : Nat, u ≤ l.length ∧ i = .int .i64 u ∧ Hid (Wr (fun k => k < w2.heap.size) q2 m2 c2 L wr) ∧ Hid (KeptBut (fun k => w2.heap.size ≤ k) wl wr)) (fun i _ => l.length - (intOf i).toNat)
      case atStart => exact ⟨0, Nat.zero_le _, rfl, HW, HKB⟩
      case round =>
        obtain ⟨u, hu, rfl, HW2, HKB2⟩ := hrel
        rcases HW2.out.all.2.2 with hz | ⟨bo, cs, rfl, hb1, hb2, hb3⟩
        · exfalso; have := HLl.out; rw [hz] at this; simp at this
        obtain ⟨q5, c5, hc5, hi5⟩ := hb3 t l HLl.out
        have hcell : wr.cell? ⟨bo, t, none⟩ = some (.slice q5 l.length c5) := by simp [World.cell?, hb2, hc5]
        have hll : l.length ≤ 4096 := HSM.out t l HLl.out
        clear hb1 hb2 hb3 hc5
        by_cases hul : u < l.length
        · rcases hi5 with h0 | ⟨g', cs', rfl, hg1, hg2, hg3⟩
          · omega
          have hcell2 : ∃ v, wr.cell? ⟨g', u, none⟩ = some v := ⟨_, by simp only [World.cell?, hg2]; exact Array.getElem?_eq_getElem (by omega)⟩
          obtain ⟨v, hcell2⟩ := hcell2
          have hfz : wr.frozen? ⟨g', u, none⟩ = false := by simp [World.frozen?, hg2]
          have HW3 := Lib.hid (HW2.out.set hg2 u (.int .i64 (-1)))
          have HKB3 := Lib.hid (HKB2.out.trans ((kset wr g' u (.int .i64 (-1))).sub (fun b hb => by (try dsimp only at hb hg1); (try dsimp only); omega)))
          clear hg2 hg3 hg1 HW2 HKB2
          go_wp2
          go_roundw
          case rel => exact ⟨u + 1, by omega, by go_num, HW3, HKB3⟩
          case measure => simp [intOf]; omega
        · obtain rfl : u = l.length := by omega
          clear hi5
          go_wp2
          go_roundw
          case rel => exact ⟨t + 1, by omega, by go_num, HW2, HKB2⟩
          case measure => simp [intOf]; omega
    · obtain rfl : t = m2 := by omega
      have HP0 := Lib.hid (HE.out.pt.kept HKB.out (by (try dsimp only); omega) (by (try dsimp only); omega))
      have HP1 := Lib.hid ((HO2.out.kept HE.out.kept (by omega) (by omega)).kept HKB.out (by (try dsimp only); omega) (by (try dsimp only); omega))
      have HA0 := Lib.hid ((HA2.out.kept HE.out.kept (fun b hb => .inl hb)).kept HKB.out (fun b hb => by (try dsimp only at hb); (try dsimp only); omega))
      have HB1 : Hid (Below W.heap.size W wl) := Lib.hid (HB2.out.trans (HE.out.kept.below (fun k hk => by omega) (by omega)))
      have HB : Hid (Below W.heap.size W wr) := Lib.hid (HB1.out.trans (HKB.out.below (fun k hk => by (try dsimp only at hk); omega) (by omega)))
      have hzw := HKB.out.size
      clear HE HKB HW HWR HP2 HO2 HA2 HB2 HB1
      have HU := Lib.hid (union_any a b HP1.out)
      have HST := Lib.hid (step_same (w := w) a b)
      go_wp2_with (fail)
      go_at_call 31
      refine (meet_nil2 P0 _).mono ?_
      rintro e y0 ⟨rfl, rfl⟩
      go_wp2_with (fail)
      go_at_call 15
      refine HU.out.mono ?_
      rintro e x1 ⟨bx, by_, rfl, h1, h2, h3⟩
      rw [← h2] at HST
      clear h2 h3
      have HP0_ := Lib.hid (HP0.out.kept h1.kept (by omega) (by omega))
      have HP1_ := Lib.hid (h1.pt)
      have HA0_ := Lib.hid (HA0.out.kept h1.kept (fun b hb => by (try dsimp only at hb); (try dsimp only); omega))
      have HB_ : Hid (Below W.heap.size W x1) := Lib.hid (HB.out.trans (h1.kept.below (fun k hk => by (try dsimp only at hk); omega) (by omega)))
      have hz1 := h1.kept.size
      clear HP0 HP1 HA0 HB
      have HP0 := HP0_
      have HP1 := HP1_
      have HA0 := HA0_
      have HB := HB_
      clear HP0_ HP1_ HA0_ HB_
      clear h1 HU
      go_wp2_with (fail)
      go_at_call 26
      refine (equal_nil2 P0 _).mono ?_
      rintro e y0 ⟨rfl, rfl⟩
      go_wp2_with (fail)
      go_at_call 26
      refine (equal_nil1 P0 _).mono ?_
      rintro e y0 ⟨rfl, rfl⟩
      go_wp2_with (fail)
      go_at_call 30
      refine (refines_nil2 P0 _).mono ?_
      rintro e y0 ⟨rfl, rfl⟩
      have HF := Lib.hid (same_calls HP0.out HA0.out (by (try dsimp only) <;> omega))
      go_wp2_with (fail)
      go_at_call 14
      refine HF.out.mono ?_
      rintro e x2 ⟨rfl, h1⟩
      have HP0_ := Lib.hid (h1.pt)
      have HP1_ := Lib.hid (HP1.out.kept h1.kept (by omega) (by omega))
      have HA0_ := Lib.hid (HA0.out.kept h1.kept (fun b hb => by (try dsimp only at hb); (try dsimp only); omega))
      have HB_ : Hid (Below W.heap.size W x2) := Lib.hid (HB.out.trans (h1.kept.below (fun k hk => by (try dsimp only at hk); omega) (by omega)))
      have hz2 := h1.kept.size
      clear HP0 HP1 HA0 HB
      have HP0 := HP0_
      have HP1 := HP1_
      have HA0 := HA0_
      have HB := HB_
      clear HP0_ HP1_ HA0_ HB_
      clear h1 HF
      have HF := Lib.hid (equal_pt HP1.out HP0.out ⟨by omega, by omega, by omega⟩)
      rw [show decide ((stepL w a b) = w) = (!bx) from HST.out] at HF
      go_wp2_with (fail)
      go_at_call 26
      refine HF.out.mono ?_
      rintro e x3 ⟨rfl, h1⟩
      have HP0_ := Lib.hid (h1.two)
      have HP1_ := Lib.hid (h1.one)
      have HA0_ := Lib.hid (HA0.out.kept h1.kept (fun b hb => by (try dsimp only at hb); (try dsimp only); omega))
      have HB_ : Hid (Below W.heap.size W x3) := Lib.hid (HB.out.trans (h1.kept.below (fun k hk => by (try dsimp only at hk); omega) (by omega)))
      have hz3 := h1.kept.size
      clear HP0 HP1 HA0 HB
      have HP0 := HP0_
      have HP1 := HP1_
      have HA0 := HA0_
      have HB := HB_
      clear HP0_ HP1_ HA0_ HB_
      clear h1 HF
      have hbb : ((!bx) == (!bx)) = true := by simp
      go_wp2_with (fail)
      go_at_call 13
      refine (HK.out _).mono ?_
      rintro e y9 ⟨rfl, h3⟩
      go_wp2
      go_ret
      exact ⟨rfl, beyond_of (HB.out.trans (h3.mono HB.out.size))⟩
end Go.Proofs.Ytjlpjdpaingnkaa.pt
