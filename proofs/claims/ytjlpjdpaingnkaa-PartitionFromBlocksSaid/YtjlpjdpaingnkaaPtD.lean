/-
  Split, roots, Clone, Meet, Join, Refines, Equal.
-/
import Derived.Test.YtjlpjdpaingnkaaPtI
set_option linter.unusedSimpArgs false
set_option linter.unusedVariables false
namespace Go.Proofs.Ytjlpjdpaingnkaa.pt
open Go.RowKit Go.Own Go.Pt Go.Rw Go.Maps
set_option maxHeartbeats 4000000
set_option maxRecDepth 100000

theorem at_row {M : Nat → Prop} {g : Nat} {l : List Int} {w : World} (h : RowAt g l w) (hl : l.length ≤ 999000) {c : Nat} (hc : l.length ≤ c) (hc2 : c ≤ maxLen) (hM : ¬ M g) : At M (some ⟨g, 0, none⟩) l.length c l w := by
  refine ⟨rfl, hl, hc, hc2, .inr ⟨g, 0, rfl, h.lt, hM, fun i x hx => ?_⟩⟩
  have := h.cell (a := i) (List.getElem?_eq_some_iff.1 hx).1
  rw [Nat.zero_add, this, gv_some hx]
theorem range_gv (w : List Int) : (List.range w.length).map (gv w) = w := gv_ext (by simp) fun i hi => gv_map_range (by simpa using hi)
theorem roots_pt {P g : Nat} {w : List Int} {W : World} (h : Pt P g w W) :
    Calls Try.prog 44 #[.pointer (some ⟨P, 0, none⟩)] W fun e w' => ∃ g', e = .returned (.slice (some ⟨g', 0, none⟩) w.length w.length) ∧ RowAt g' w w' ∧ W.heap.size ≤ g' ∧ Eff P g w W w' := by
  obtain ⟨i0, hi, hz0, hz1, hz2⟩ := info_parts tI
  have Hi := Lib.hid hi; clear hi
  have hn := h.len
  have HPG := Lib.hid (And.intro h.gl h.pl)
  have HLN := Lib.hid (show ∀ X, Pt P g w X → _ from fun X hX => len_pt hX)
  have HP := Lib.hid h; clear h
  go_enter Try.func44, Try.ntmps44
  go_wp2_with (fail)
  go_at_call 37
  refine (HLN.out _ HP.out).mono ?_
  rintro e w1 ⟨rfl, rfl⟩
  go_wp2_with (at_make; refine wpList_make_full _ rfl _ _ 23 rfl W.heap.size 3 i0 (.int .i64 0) 1 Try.underlying23 Hi.out hz0 hz1 _ _ _ _ w.length rfl rfl rfl rfl (by rw [hz2]; omega) (by unfold maxLen; omega) (Nat.le_refl _) ?_)
  intro w1 hown hgr
  have HF := Lib.hid (RowAt.made hown)
  have HK1 := Lib.hid (grown_kept hgr)
  have HE1 : Hid (Eff P g w W w1) := Lib.hid ⟨HP.out.kept HK1.out (fun h => by cases h) (fun h => by cases h), HK1.out.mono0 (fun b h => by cases h)⟩
  have hs1 : W.heap.size + 1 ≤ w1.heap.size := by have := HF.out.lt; omega
  clear hown hgr
  go_wp2_with (fail)
  go_at_call 37
  refine (HLN.out _ HE1.out.pt).mono ?_
  rintro e w2 ⟨rfl, rfl⟩
  go_wp2
  go_loopw [4, 10] (fun _ i wr => ∃ k : Nat, ∃ lst : List Int, k ≤ w.length ∧ i = .int .i64 k ∧ lst.length = w.length ∧ Hid (lst.take k = (List.range k).map (gv w)) ∧ Hid (RowAt W.heap.size lst wr) ∧ Hid (Eff P g w W wr)) (fun _ i _ => w.length - (intOf i).toNat)
  case atStart => exact ⟨0, List.replicate w.length 0, Nat.zero_le _, rfl, by simp, Lib.hid rfl, Lib.hid HF.out, HE1⟩
  case round =>
    obtain ⟨k, lst, hk, rfl, hl, HT, HRW, HE⟩ := hrel
    by_cases hlt : k < w.length
    · have HC := Lib.hid (root_pt hlt HE.out.pt)
      go_wp2_with (fail)
      go_at_call 42
      refine HC.out.mono ?_
      rintro e w3 ⟨rfl, h3⟩
      have HRW3 := Lib.hid (HRW.out.kept h3.kept (by have := HPG.out; omega))
      have HE3 := Lib.hid (HE.out.trans h3)
      have hcell := HRW3.out.cell (a := k) (by omega)
      have hfz := HRW3.out.frozen k
      clear h3 HRW HE HC
      go_wp2
      go_roundw
      case rel => exact ⟨k + 1, lst.set k (gv w k), by omega, by go_num, by simpa using hl, Lib.hid (take_set hl hlt HT.out), Lib.hid (HRW3.out.set (by omega) _), Lib.hid (HE3.out.new HPG.out.1 HPG.out.2 (kset _ _ _ _) (fun b h => by omega))⟩
      case measure => simp [intOf]; omega
    · obtain rfl : k = w.length := by omega
      go_wp2
      go_ret
      have := HT.out
      rw [List.take_of_length_le (by omega), range_gv] at this
      exact ⟨_, rfl, this ▸ HRW.out, Nat.le_refl _, HE.out⟩
theorem kset_pt {P g g' n : Nat} {w lst : List Int} {W : World} (h : Pt P g w W) (hr : Rep lst) (hl : lst.length ≤ 4096) (hn : lst.length = n) (hrow : RowAt g' lst W) (hne : P ≠ g') (_hlw : True) : Pt P g' lst (W.setCell ⟨P, 0, none⟩ (.slice (some ⟨g', 0, none⟩) n n)) := by
  subst hn
  obtain ⟨c, u, h3, h4, h5, h6, h7, h8⟩ := h.ex
  have hlu : (ups lst).length = lst.length := by simp [ups]
  have hrow2 := hrow.kept (kset W P 0 (.slice (some ⟨g', 0, none⟩) lst.length lst.length)) (fun e => hne e.symm)
  obtain ⟨r, hr2⟩ := hrow2.ex
  refine ⟨lst.length, ups lst, ups_up hr, by omega, reps_ups hr, by omega, by unfold maxLen; omega, ⟨?_, ⟨r, ?_⟩, hne⟩⟩
  · show (W.heap.modify P _)[P]? = _
    rw [Array.getElem?_modify, if_pos rfl, h8.head, hlu]
    rfl
  · rw [hr2]
    congr 4
    refine List.ext_getElem? fun i => ?_
    by_cases hi : i < lst.length
    · have e1 := some_gv hi
      have := hr.lo i hi
      simp only [ups, List.getElem?_map, e1, Option.map_some]
      congr 2; omega
    · rw [List.getElem?_eq_none (by simpa using hi), List.getElem?_eq_none (by simp [ups]; omega)]
theorem split_pt {M : Nat → Prop} {P g m c : Nat} {q : Option Addr} {w lab : List Int} {W : World} (h : Pt P g w W) (hat : At M q m c lab W) (hm : m = w.length) (hMg : M g) (hlab : ∀ i, (Lit.int .i64 (gv lab i)).wf = true) :
    Calls Try.prog 28 #[.pointer (some ⟨P, 0, none⟩), .slice q m c] W fun e w' => ∃ g', e = .returned (.int .i64 0) ∧ Pt P g' (byL w lab) w' ∧ W.heap.size ≤ g' ∧ KeptBut (fun k => k = g ∨ k = P) W w' := by
  have HL := Lib.hid (len_pt h)
  have HR := Lib.hid (refined_calls h hat hm hMg hlab)
  have hn := h.len
  have HPG := Lib.hid (And.intro h.gl h.pl)
  clear hat hMg hlab h
  subst hm
  go_enter Try.func28, Try.ntmps28
  go_wp2_with (first | (go_at_call 37; refine HL.out.mono ?_; rintro e w1 ⟨rfl, rfl⟩) | fail)
  go_at_call 46
  refine HR.out.mono ?_
  rintro e w1 ⟨g', rfl, h1, h2, h3⟩
  have hlen : (byL w lab).length = w.length := byTo_len _ _ _
  have HPT := Lib.hid (kset_pt (n := w.length) h3.pt (byL_rep w lab) (by omega) hlen h1 (by have := HPG.out; omega) trivial)
  have HK := Lib.hid (show KeptBut (fun k => k = g ∨ k = P) W (w1.setCell ⟨P, 0, none⟩ (.slice (some ⟨g', 0, none⟩) w.length w.length)) from (h3.kept.sub (fun b h => .inl h)).trans ((kset _ _ _ _).sub (fun b h => .inr h)))
  obtain ⟨c', u, k3, k4, k5, k6, k7, k8⟩ := h3.pt.ex
  have hcs := k8.cellP
  have hfz : w1.frozen? ⟨P, 0, none⟩ = false := by simp [World.frozen?, k8.head]
  clear h1 h3 k3 k4 k5 k6 k7 k8
  go_wp2
  go_ret
  exact ⟨g', rfl, HPT.out, h2, HK.out⟩
theorem split_bad {M : Nat → Prop} {P g m c : Nat} {q : Option Addr} {w lab : List Int} {W : World} (h : Pt P g w W) (_hat : At M q m c lab W) (hm : m ≠ w.length) :
    Calls Try.prog 28 #[.pointer (some ⟨P, 0, none⟩), .slice q m c] W fun e w' => e = .returned (.int .i64 1) ∧ W = w' := by
  have HL := Lib.hid (len_pt h)
  have hne : ¬ (m : Int) = (w.length : Int) := by omega
  go_enter Try.func28, Try.ntmps28
  go_wp2_with (first | (go_at_call 37; refine HL.out.mono ?_; rintro e w1 ⟨rfl, rfl⟩) | fail)
  go_ret
  exact ⟨rfl, rfl⟩
theorem split_nil (q : Option Addr) (m c : Nat) (W : World) :
    Calls Try.prog 28 #[.pointer none, .slice q m c] W fun e w' => e = .returned (.int .i64 1) ∧ W = w' := by
  go_enter Try.func28, Try.ntmps28
  go_wp2
  go_ret
  exact ⟨rfl, rfl⟩
end Go.Proofs.Ytjlpjdpaingnkaa.pt
