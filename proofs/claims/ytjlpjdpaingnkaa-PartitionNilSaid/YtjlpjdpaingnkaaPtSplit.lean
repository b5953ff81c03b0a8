/-
  PartitionSplit: the walk.
-/
import Derived.Test.YtjlpjdpaingnkaaPtO
import Derived.Test.YtjlpjdpaingnkaaPtQ
set_option linter.unusedSimpArgs false
set_option linter.unusedVariables false
namespace Go.Proofs.Ytjlpjdpaingnkaa.pt
open Go.RowKit Go.Own Go.Pt Go.Rw
set_option maxHeartbeats 4000000
set_option maxRecDepth 100000

theorem at_list {M : Nat → Prop} {q : Option Addr} {n cap b off : Nat} {V : Nat → Int} {W : World} (hl : n ≤ cap) (hc : cap ≤ maxLen) (hn : n ≤ 999000) (hq : 0 < n → q = some ⟨b, off, none⟩ ∧ b < W.heap.size) (hx : ∀ i, i < n → W.cell? ⟨b, off + i, none⟩ = some (.int .i64 (V i)) ∧ (Lit.int .i64 (V i)).wf = true) (hM : ∀ b, b < W.heap.size → ¬ M b) : At M q n cap ((List.range n).map V) W := by
  refine ⟨by simp, hn, hl, hc, ?_⟩
  by_cases h0 : n = 0
  · subst h0; exact .inl rfl
  · obtain ⟨rfl, hb⟩ := hq (by omega)
    refine .inr ⟨b, off, rfl, hb, hM b hb, fun i x h => ?_⟩
    by_cases hi : i < n
    · simp only [List.getElem?_map, List.getElem?_range hi, Option.map_some, Option.some.injEq] at h
      subst h; exact (hx i hi).1
    · rw [List.getElem?_eq_none (by simp; omega)] at h; cases h
theorem wf_list {n : Nat} {V : Nat → Int} (hx : ∀ i, i < n → (Lit.int .i64 (V i)).wf = true) (i : Nat) : (Lit.int .i64 (gv ((List.range n).map V) i)).wf = true := by
  by_cases hi : i < n
  · rw [gv_map_range hi]; exact hx i hi
  · unfold gv; rw [List.getD_eq_getElem?_getD, List.getElem?_eq_none (by simp; omega)]; rfl
theorem split_walk {n : Int} {q ql : Option Addr} {m c nl cl bl ofl : Nat} {A B V : Nat → Int} {W : World} (hmc : m ≤ maxLen) (hp : Pairs q m A B W)
    (hl1 : nl ≤ cl) (hl2 : cl ≤ maxLen) (hl3 : 0 < nl → ql = some ⟨bl, ofl, none⟩ ∧ bl < W.heap.size) (hl4 : ∀ i, i < nl → W.cell? ⟨bl, ofl + i, none⟩ = some (.int .i64 (V i)) ∧ (Lit.int .i64 (V i)).wf = true) :
    Calls Try.prog 6 #[.int .i64 n, .slice q m c, .slice ql nl cl] W fun e w' => e = .returned (.bool true) ∧ ∃ x, w' = beyond W x := by
  have HK := Lib.hid known_calls
  by_cases hn : n < 0 ∨ 40 < n
  · have HM := Lib.hid (made_bad n hn q m c W)
    clear hn
    go_enter Try.func6, Try.ntmps6
    go_wp2_with (fail)
    go_at_call 19
    refine HM.out.mono ?_
    rintro e w1 ⟨rfl, h1⟩
    go_wp2_with (fail)
    go_at_call 13
    refine (HK.out _).mono ?_
    rintro e w2 ⟨rfl, h2⟩
    go_wp2
    go_ret
    exact ⟨rfl, beyond_of (h1.trans (h2.mono h1.size))⟩
  obtain ⟨n, rfl⟩ := Int.eq_ofNat_of_zero_le (show 0 ≤ n by omega)
  have HM := Lib.hid (made_calls (n := n) (c := c) (by omega) hmc hp)
  clear hn hp
  by_cases h100 : 100 < nl
  · have hgt : (100 : Int) < (nl : Int) := by omega
    go_enter Try.func6, Try.ntmps6
    go_wp2_with (fail)
    go_at_call 19
    refine HM.out.mono ?_
    rintro e w1 ⟨P, g, q1, m1, c1, rfl, h1, h2⟩
    clear h1
    go_wp2_with (fail)
    go_at_call 13
    refine (HK.out _).mono ?_
    rintro e w2 ⟨rfl, h3⟩
    go_wp2
    go_ret
    exact ⟨rfl, beyond_of (h2.trans (h3.mono h2.size))⟩
  have hlt100 : ¬ (100 : Int) < (nl : Int) := by omega
  have HML := Lib.hid (at_list (M := fun k => W.heap.size ≤ k) hl1 hl2 (by omega) hl3 hl4 (fun b hb => by omega))
  have HWF := Lib.hid (wf_list (n := nl) (V := V) (fun i hi => (hl4 i hi).2))
  have hll : ((List.range nl).map V).length = nl := by simp
  generalize (List.range nl).map V = lab at HML HWF hll
  have HLL := Lib.hid hll
  clear hl3 hl4 h100 hll
  go_enter Try.func6, Try.ntmps6
  go_wp2_with (fail)
  go_at_call 19
  refine HM.out.mono ?_
  rintro e w1 ⟨P, g, q1, m1, c1, rfl, h1, h2⟩
  generalize foldTo (idL n) A B (min m 60) = w at h1
  obtain rfl : m1 = w.length := h1.at_.all.1
  have HP := Lib.hid h1.pt
  have HA := Lib.hid (h1.at_.more (M' := fun k => k = g ∨ k = P ∨ w1.heap.size ≤ k) (fun b hb h => by rcases h with h | h | h; exact .inl h; exact .inr (.inl h); omega))
  have HB := Lib.hid h2
  have hs1 := h2.size
  have hp0 := h1.p
  have hg0 := h1.g
  have hgl := h1.pt.gl
  have hpl := h1.pt.pl
  have hml := h1.at_.all.2.1
  have hw4 := h1.pt.len
  have HRP := Lib.hid h1.pt.rep
  have HLB := Lib.hid (HML.out.below h2)
  clear h1 h2 HM HML
  have HC := Lib.hid (clone_pt HP.out)
  go_wp2_with (fail)
  go_at_call 27
  refine HC.out.mono ?_
  rintro e w2 ⟨Po, go, rfl, h1, hPo, hgo, h4⟩
  have HP2 := Lib.hid (HP.out.below h4)
  have HO2 := Lib.hid h1
  have HA2 := Lib.hid (HA.out.below h4)
  have HLB2 := Lib.hid (HLB.out.below h4)
  have HB2 := Lib.hid (HB.out.trans (h4.mono hs1))
  have hs2 := h4.size
  have hPo2 := h1.pl
  have hgo2 := h1.gl
  clear h1 h4 HC HP HA HLB HB
  by_cases hne : nl = w.length
  · subst hne
    have HSP := Lib.hid (split_pt (M := fun k => W.heap.size ≤ k) HP2.out HLB2.out rfl hg0 HWF.out)
    go_wp2_with (fail)
    go_at_call 28
    refine HSP.out.mono ?_
    rintro e w3 ⟨g3, rfl, h1, hg3, h3⟩
    have HP3 := Lib.hid h1
    have HO3 := Lib.hid (HO2.out.kept h3 (by omega) (by omega))
    have HA3 := Lib.hid (HA2.out.kept h3 (fun b hb => by rcases hb with hb | hb; exact .inl hb; exact .inr (.inl hb)))
    have HLB3 := Lib.hid (HLB2.out.kept h3 (fun b hb => by rcases hb with hb | hb <;> omega))
    have HB3 : Hid (Below W.heap.size W w3) := Lib.hid (HB2.out.trans (h3.below (fun k hk => by rcases hk with hk | hk <;> omega) (by omega)))
    have hs3 := h3.size
    have hg3l := h1.gl
    clear h1 h3 HSP HP2 HO2 HA2 HLB2 HB2
    have HRS := Lib.hid (rsplit_calls (M := fun k => k = g3) HA3.out HLB3.out rfl (fun k hk => by omega))
    go_wp2_with (fail)
    go_at_call 29
    refine HRS.out.mono ?_
    rintro e w4 ⟨q4, m4, c4, rfl, h1, h2⟩
    have HP4 := Lib.hid (HP3.out.below h2)
    have HO4 := Lib.hid (HO3.out.below h2)
    have HA4 := Lib.hid (HA3.out.below h2)
    have HB4 := Lib.hid (HB3.out.trans (h2.mono (by omega)))
    have hs4 := h2.size
    have HSM := Lib.hid (same_calls HP4.out h1 rfl)
    clear h1 h2 HRS HP3 HO3 HA3 HLB3 HB3
    go_wp2_with (fail)
    go_at_call 14
    refine HSM.out.mono ?_
    rintro e w5 ⟨rfl, h1⟩
    have HP5 := Lib.hid h1.pt
    have HO5 := Lib.hid (HO4.out.kept h1.kept (by omega) (by omega))
    have HA5 := Lib.hid (HA4.out.kept h1.kept (fun b hb => .inr (.inr (by omega))))
    have HB5 : Hid (Below W.heap.size W w5) := Lib.hid (HB4.out.trans (h1.kept.below (fun k hk => by omega) (by omega)))
    have hs5 := h1.kept.size
    clear h1 HSM HP4 HO4 HA4 HB4
    have HF := Lib.hid (refines_pt HP5.out HO5.out ⟨by omega, by omega, by omega⟩ (byL_len _ _))
    rw [show finerL (byL w lab) w = true from (finer_iff (byL_rep _ _)).2 (by_fin1 _ _)] at HF
    go_wp2_with (fail)
    go_at_call 30
    refine HF.out.mono ?_
    rintro e w6 ⟨rfl, h1⟩
    have HO6 := Lib.hid h1.two
    have HA6 := Lib.hid (HA5.out.kept h1.kept (fun b hb => by rcases hb with hb | hb <;> exact .inr (.inr (by omega))))
    have HB6 : Hid (Below W.heap.size W w6) := Lib.hid (HB5.out.trans (h1.kept.below (fun k hk => by rcases hk with hk | hk <;> omega) (by omega)))
    have hs6 := h1.kept.size
    clear h1 HF HO5 HA5 HB5 HP5
    have HSM := Lib.hid (same_calls HO6.out HA6.out (.inr (.inr (by omega))))
    go_wp2_with (fail)
    go_at_call 14
    refine HSM.out.mono ?_
    rintro e w7 ⟨rfl, h1⟩
    have HB7 : Hid (Below W.heap.size W w7) := Lib.hid (HB6.out.trans (h1.kept.below (fun k hk => by omega) (by omega)))
    clear h1 HSM
    go_wp2_with (fail)
    go_at_call 13
    refine (HK.out _).mono ?_
    rintro e w8 ⟨rfl, h3⟩
    go_wp2
    go_ret
    exact ⟨rfl, beyond_of (HB7.out.trans (h3.mono HB7.out.size))⟩
  · have HSP := Lib.hid (split_bad HP2.out HLB2.out hne)
    have hnn : ¬ (nl : Int) = (w.length : Int) := by omega
    go_wp2_with (fail)
    go_at_call 28
    refine HSP.out.mono ?_
    rintro e w3 ⟨rfl, rfl⟩
    have HQ := Lib.hid (equal_pt HP2.out HO2.out ⟨by omega, by omega, by omega⟩)
    rw [decide_eq_true rfl] at HQ
    go_wp2_with (fail)
    go_at_call 26
    refine HQ.out.mono ?_
    rintro e w4 ⟨rfl, h1⟩
    have HB4 : Hid (Below W.heap.size W w4) := Lib.hid (HB2.out.trans (h1.kept.below (fun k hk => by rcases hk with hk | hk <;> omega) (by omega)))
    clear h1 HQ
    go_wp2_with (fail)
    go_at_call 13
    refine (HK.out _).mono ?_
    rintro e w8 ⟨rfl, h3⟩
    go_wp2
    go_ret
    exact ⟨rfl, beyond_of (HB4.out.trans (h3.mono HB4.out.size))⟩
end Go.Proofs.Ytjlpjdpaingnkaa.pt
