/-
  (*Partition).Blocks once more: the lists lie in rows that may be written.
-/
import Derived.Test.YtjlpjdpaingnkaaPtO
set_option linter.unusedSimpArgs false
set_option linter.unusedVariables false
namespace Go.Proofs.Ytjlpjdpaingnkaa.pt
open Go.RowKit Go.Own Go.Pt Go.Rw Go.Maps Go.WideMaps Go.ChangeShapes Go.ChangeMaps
set_option maxHeartbeats 4000000
set_option maxRecDepth 100000

/-- a slice that begins a row of integers that may be written -/
def In2 (M : Nat → Prop) (q : Option Addr) (n : Nat) (w : World) : Prop := n = 0 ∨ ∃ g' cs, q = some ⟨g', 0, none⟩ ∧ ¬ M g' ∧ w.heap[g']? = some (.cells cs 3 (0, 0)) ∧ n ≤ cs.size
theorem In2.below {M : Nat → Prop} {q : Option Addr} {n : Nat} {w w' : World} (h : In2 M q n w) (hb : Below w.heap.size w w') : In2 M q n w' := by
  rcases h with h | ⟨g', cs, h1, h2, h3, h4⟩
  · exact .inl h
  · exact .inr ⟨g', cs, h1, h2, (hb.block g' (Array.getElem?_eq_some_iff.1 h3).1).trans h3, h4⟩
theorem in2_set {M : Nat → Prop} {q : Option Addr} {n : Nat} {w : World} (h : In2 M q n w) (g j : Nat) (v : Value) : In2 M q n (w.setCell ⟨g, j, none⟩ v) := by
  rcases h with h | ⟨g', cs, h1, h2, h3, h4⟩
  · exact .inl h
  · by_cases e : g' = g
    · subst e
      refine .inr ⟨g', cs.setIfInBounds j v, h1, h2, ?_, by simpa using h4⟩
      show (w.heap.modify g' _)[g']? = _
      rw [Array.getElem?_modify, if_pos rfl, h3]; rfl
    · refine .inr ⟨g', cs, h1, h2, ?_, h4⟩
      show (w.heap.modify g _)[g']? = _
      rw [Array.getElem?_modify, if_neg (fun h => e h.symm)]; exact h3
/-- the slice holds such slices -/
structure Wr (M : Nat → Prop) (q : Option Addr) (m c : Nat) (L : List (List Int)) (w : World) : Prop where
  mk' :: (all : m = L.length ∧ m ≤ 999000 ∧ (L = [] ∨ ∃ b cs, q = some ⟨b, 0, none⟩ ∧ ¬ M b ∧ w.heap[b]? = some (.cells cs 23 (0, 0)) ∧ ∀ (i : Nat) (l : List Int), L[i]? = some l → ∃ q' c', cs[i]? = some (.slice q' l.length c') ∧ In2 M q' l.length w))
theorem Wr.set {M : Nat → Prop} {q : Option Addr} {m c : Nat} {L : List (List Int)} {w : World} (h : Wr M q m c L w) {g : Nat} {cs0 : Array Value} (hg : w.heap[g]? = some (.cells cs0 3 (0, 0))) (j : Nat) (v : Value) : Wr M q m c L (w.setCell ⟨g, j, none⟩ v) := by
  refine ⟨h.all.1, h.all.2.1, ?_⟩
  rcases h.all.2.2 with h | ⟨b, cs, h1, h2, h3, h4⟩
  · exact .inl h
  · refine .inr ⟨b, cs, h1, h2, ?_, fun i l hl => ?_⟩
    · show (w.heap.modify g _)[b]? = _
      rw [Array.getElem?_modify, if_neg (fun e => by subst e; rw [hg] at h3; injection h3 with h3; injection h3 with _ h3 _; exact absurd h3 (by decide))]; exact h3
    · obtain ⟨q', c', h5, h6⟩ := h4 i l hl
      exact ⟨q', c', h5, in2_set h6 g j v⟩
def Held2 (M : Nat → Prop) (_v : Value) (L : List (List Int)) (vs : List Value) (w : World) : Prop := vs.length = L.length ∧ ∀ (i : Nat) (l : List Int), L[i]? = some l → ∃ q c, vs[i]? = some (Value.slice q l.length c) ∧ In2 M q l.length w
theorem held2_nil (M : Nat → Prop) (v : Value) (w : World) : Held2 M v [] [] w := ⟨rfl, fun i l h => by simp at h⟩
theorem Held2.below {M : Nat → Prop} {v : Value} {L : List (List Int)} {vs : List Value} {w w' : World} (h : Held2 M v L vs w) (hb : Below w.heap.size w w') : Held2 M v L vs w' := ⟨h.1, fun i l hl => by
  obtain ⟨q, c, h1, h2⟩ := h.2 i l hl; exact ⟨q, c, h1, h2.below hb⟩⟩
theorem Held2.snoc {M : Nat → Prop} {v v' : Value} {L : List (List Int)} {vs : List Value} {w w' : World} (h : Held2 M v L vs w) {q : Option Addr} {c : Nat} {l : List Int} (hi : In2 M q l.length w)
    {B n : Nat} {us : List Value} (ho : w.ownsRow B 23 1 v n us) (hg : w.grownBy w' v.ownBlock) : Held2 M v' (L ++ [l]) (vs ++ [Value.slice q l.length c]) w' := by
  have mv : ∀ {q n}, In2 M q n w → In2 M q n w' := fun {q n} h => by
    rcases h with h | ⟨g', cs, h1, h2, h3, h4⟩
    · exact .inl h
    · refine .inr ⟨g', cs, h1, h2, (hg.block g' (Array.getElem?_eq_some_iff.1 h3).1 (fun e => ?_)).trans h3, h4⟩
      rcases ho.2 with ⟨rfl, _⟩ | ⟨g, cap, cur, rfl, _, hgg, _⟩
      · cases e
      · cases e
        rw [hgg] at h3; injection h3 with h3; injection h3 with _ h3 _; exact absurd h3 (by decide)
  refine ⟨by simp [h.1], fun i l' hl => ?_⟩
  by_cases e : i < L.length
  · rw [List.getElem?_append_left e] at hl
    obtain ⟨q', c', h1, h2⟩ := h.2 i l' hl
    exact ⟨q', c', by rw [List.getElem?_append_left (by rw [h.1]; exact e)]; exact h1, mv h2⟩
  · rw [List.getElem?_append_right (by omega)] at hl
    have hz : i - L.length = 0 := by have := (List.getElem?_eq_some_iff.1 hl).1; simp at this; omega
    rw [hz] at hl
    simp at hl
    subst hl
    exact ⟨q, c, by rw [List.getElem?_append_right (by rw [h.1]; omega), h.1, hz]; rfl, mv hi⟩
theorem held2_ls {M : Nat → Prop} {w : World} {B : Nat} {v : Value} {L : List (List Int)} {vs : List Value} (h : w.ownsRow B 23 1 v L.length vs) (hh : Held2 M v L vs w) (hl : L.length ≤ 999000) (hM : ∀ k, M k → k < B) : ∃ q m c, v = .slice q m c ∧ Wr M q m c L w := by
  rcases h.2 with ⟨rfl, hk⟩ | ⟨g, cap, cur, rfl, hb, hgg, hn, hc, hs, ht⟩
  · exact ⟨_, _, _, rfl, ⟨hk.symm, Nat.zero_le _, .inl (List.eq_nil_of_length_eq_zero hk)⟩⟩
  · refine ⟨_, _, _, rfl, ⟨rfl, hl, .inr ⟨g, cur, rfl, fun hm => by have := hM g hm; omega, hgg, fun i l hx => ?_⟩⟩⟩
    obtain ⟨q', c', h1, h2⟩ := hh.2 i l hx
    refine ⟨q', c', ?_, h2⟩
    have hi : i < L.length := (List.getElem?_eq_some_iff.1 hx).1
    have e1 : cur.toList.take L.length = vs := by simpa using ht
    rw [← e1, List.getElem?_take, if_pos hi] at h1
    simpa using h1
theorem own_at3 {M : Nat → Prop} {w : World} {B : Nat} {v : Value} {l : List Int} (h : w.ownsRow B 3 1 v l.length (l.map (Value.int .i64))) (hM : ∀ k, M k → k < B) :
    ∃ q c, v = .slice q l.length c ∧ In2 M q l.length w := by
  rcases h.2 with ⟨rfl, hk⟩ | ⟨g, cap, cur, rfl, hb, hgg, hn, hc, hs, ht⟩
  · exact ⟨none, 0, by rw [hk], .inl hk⟩
  · exact ⟨_, _, rfl, .inr ⟨g, cur, rfl, fun hm => by have := hM g hm; omega, hgg, by omega⟩⟩
theorem blocks2_calls {M : Nat → Prop} {P g : Nat} {w : List Int} {W : World} (h : Pt P g w W) (hM : ∀ k, M k → k < W.heap.size) :
    Calls Try.prog 25 #[.pointer (some ⟨P, 0, none⟩)] W fun e w' => ∃ q m c, e = .returned (.slice q m c) ∧ Wr M q m c (blocksL w) w' ∧ Eff P g w W w' := by
  have hmm := @run_makeMap Try.prog
  obtain ⟨i0, hi, hz0, hz1, hz2⟩ := info_parts tI
  have Hi := Lib.hid hi; clear hi
  obtain ⟨j0, hj, hy0, hy1, hy2⟩ := info_parts sI
  have Hj := Lib.hid hj; clear hj
  have HM := Lib.hid hM; clear hM
  have HR := Lib.hid h.rep
  have hn := h.len
  have hgl := h.gl
  have hpl := h.pl
  have HPG := Lib.hid (And.intro h.gl h.pl)
  have HLN := Lib.hid (show ∀ X, Pt P g w X → _ from fun X hX => len_pt hX)
  have HP := Lib.hid h; clear h
  go_enter Try.func25, Try.ntmps25
  go_wp2_with (fail)
  go_at_call 37
  refine (HLN.out _ (HP.out.below (by repeat (first | assumption | exact Below.refl _ _ | exact below_beyond _ _ | refine Below.beyond ?_ (by (try simp [size_beyond]) <;> omega) _ | refine Below.drew ?_ | refine Go.Rw.below_drewN ?_ _ | refine Go.Rw.below_setRow ?_ (by (try simp [size_beyond]) <;> omega) _ | refine Below.alloc ?_ (by (try simp [size_beyond]) <;> omega) _ | refine Below.setCell ?_ (by (try simp [size_beyond]) <;> omega) _)))).mono ?_
  rintro e w1 ⟨rfl, rfl⟩
  go_wp2
  go_loopw [4, 14] (fun _ i wr => ∃ k : Nat, k ≤ w.length ∧ i = .int .i64 k ∧ Hid (wr.ownsGroups (H := Unit) Try.prog 3 (W.heap.size + 1) 3 .i64 W.heap.size k (G w k)) ∧ Hid (Eff P g w W wr) ∧ W.heap.size + 1 ≤ wr.heap.size) (fun _ i _ => w.length - (intOf i).toNat)
  case atStart =>
    have hb : Below W.heap.size W (W.alloc (.map #[] 0)) := (by repeat (first | assumption | exact Below.refl _ _ | exact below_beyond _ _ | refine Below.beyond ?_ (by (try simp [size_beyond]) <;> omega) _ | refine Below.drew ?_ | refine Go.Rw.below_drewN ?_ _ | refine Go.Rw.below_setRow ?_ (by (try simp [size_beyond]) <;> omega) _ | refine Below.alloc ?_ (by (try simp [size_beyond]) <;> omega) _ | refine Below.setCell ?_ (by (try simp [size_beyond]) <;> omega) _))
    exact ⟨0, Nat.zero_le _, rfl, Lib.hid (World.ownsGroups_made _ _ _ _ _), Lib.hid ⟨HP.out.below hb, KeptBut.of_below hb⟩, by simp⟩
  case round =>
    obtain ⟨k, hk, rfl, HO, HE, hws⟩ := hrel
    by_cases hlt : k < w.length
    · have HC := Lib.hid (root_pt hlt HE.out.pt)
      go_wp2_with (fail)
      go_at_call 42
      refine HC.out.mono ?_
      rintro e w1 ⟨rfl, h1⟩
      have HE1 := Lib.hid (HE.out.trans h1)
      have HO1 := Lib.hid (groups_kept HO.out (kgrown h1.kept) (fun r hr => by cases hr; omega))
      have hs1 : W.heap.size + 1 ≤ w1.heap.size := Nat.le_trans hws h1.kept.size
      clear h1 HE HO hws HC
      have HC := Lib.hid (root_pt hlt HE1.out.pt)
      go_wp2_with (fail)
      go_at_call 42
      refine HC.out.mono ?_
      rintro e w2 ⟨rfl, h1⟩
      have HE2 := Lib.hid (HE1.out.trans h1)
      have HO2 := Lib.hid (groups_kept HO1.out (kgrown h1.kept) (fun r hr => by cases hr; omega))
      have hs2 : W.heap.size + 1 ≤ w2.heap.size := Nat.le_trans hs1 h1.kept.size
      clear h1 HE1 HO1 hs1 HC
      have hr0 := HR.out.lo k hlt
      have hr1 := HR.out.le k hlt
      have HG := Lib.hid (show G w (k + 1) = (G w k).put (.int .i64 (gv w k)) (.slice (lits .i64 (blk w (gv w k) (k + 1))) []) from rfl)
      have HB1 := Lib.hid (show blk w (gv w k) (k + 1) = blk w (gv w k) k ++ [(k : Int)] by rw [blk_snoc, if_pos rfl])
      have HZ := Lib.hid (fun (v : Value) (zs : List Int) (ho : w2.ownsInts (W.heap.size + 1) 3 .i64 v zs) (hat : (G w k).atKey (.int .i64 (gv w k)) .nil = rowDatum .i64 v zs) => G_row ho hat)
      generalize gv w k = r at hr0 hr1 HG HB1 HZ ⊢
      have hkey : keyOf Try.prog 3 (.int .i64 r) = some (.int .i64 r) := keyOf_int_mk Try.underlying3 (WalkArith.wf_i64 (by omega))
      go_wp2_with (first
        | (at_lookup; refine wpList_lookup_groups _ rfl _ _ 73 rfl 3 23 3 .i64 lawK Try.underlying73 (zeroS _) (W.heap.size + 1) W.heap.size k _ rfl HO2.out (by unfold maxLen; omega) _ _ rfl hkey ?_; intro v zs hat hoi hzl hback)
        | (at_builtin; refine wpList_append_own_at _ rfl _ _ 23 rfl (W.heap.size + 1) 3 i0 (.int .i64 0) 1 8 iU Hi.out hz0 hz1 hz2 rfl (by decide) _ _ _ rfl (hoi.1.alloc _) ⟨w2.heap.size, 0, none⟩ 1 1 [.int .i64 k] rfl rfl (cell_one_new _ _ _) (ints_oneCell .i64 [(k : Int)]) (by unfold maxLen; omega) (by omega) (by simp; omega) ?_; intro v' w3 hown' hgrow hnil hloc)
        | (at_mapUpdate; refine wpList_mapUpdate_back _ rfl _ _ _ 73 rfl hback rfl rfl rfl ((World.grownBy_alloc _ _ _).trans hgrow) (hoi.appended hown' (WalkArith.wf_i64 (by omega))) (by simp; omega) (hloc.imp id (fun h => ⟨_, h, by simp⟩)) ?_; intro w4 hown2 hgrow2)
        | go_in)
      have hall := (World.grownBy_alloc w2 _ _).trans hgrow
      have HB4 := Lib.hid (RowKit.Below.groups (B := W.heap.size) (Below.refl (B := W.heap.size) w2) hoi hall hgrow2 (by omega) (by omega) (Nat.le_refl _))
      have HE4 : Hid (Eff P g w W w4) := Lib.hid ⟨HE2.out.pt.kept (X := fun b => W.heap.size ≤ b) ⟨HB4.out.os, HB4.out.tape, HB4.out.output, HB4.out.size, fun b _ hb => HB4.out.block b (by omega)⟩ (by have := HPG.out; omega) (by have := HPG.out; omega), keptBut_of HE2.out.kept (B0 := W.heap.size) (by omega) HPG.out.1 HB4.out rfl⟩
      have HO4 : Hid (w4.ownsGroups (H := Unit) Try.prog 3 (W.heap.size + 1) 3 .i64 W.heap.size (k + 1) (G w (k + 1))) := Lib.hid (by
        have hz := HZ.out v zs hoi hat
        rw [HG.out, HB1.out, ← hz, ← (hoi.appended hown' (WalkArith.wf_i64 (by omega))).datum_pos (by simp)]
        exact hown2)
      have hs4 : W.heap.size + 1 ≤ w4.heap.size := by have := HB4.out.size; omega
      clear hown2 hgrow2 hback hoi hown' hgrow hall hat hloc hnil HO2 HE2
      go_wp2
      go_roundw
      case rel => exact ⟨k + 1, by omega, by go_num, HO4, HE4, hs4⟩
      case measure => simp [intOf]; omega
    · obtain rfl : k = w.length := by omega
      have HSZ := Lib.hid (show Maps.size (G w w.length) ≤ w.length from (groups_map HO.out).size_le)
      go_wp2_with (first
        | (at_len; refine wpList_len_own _ rfl _ 73 rfl 3 23 Try.underlying73 _ W.heap.size w.length _ rfl (groups_map HO.out) ?_)
        | (at_make; refine wpList_make_own _ rfl _ _ 47 rfl wr.heap.size 23 j0 (.slice none 0 0) 1 llU Hj.out hy0 hy1 _ _ _ (Maps.size (G w w.length)) rfl rfl rfl (by rw [hy2]; have := HSZ.out; omega) (by have := HSZ.out; unfold maxLen; omega) (Nat.le_refl _) ?_))
      intro wm hownm hgrm
      have HBm : Hid (Below wr.heap.size wr wm) := Lib.hid ⟨hgrm.os, hgrm.tape, hgrm.output, hgrm.size, fun k hk => hgrm.block k hk (by simp)⟩
      have HOm := Lib.hid hownm
      clear hownm hgrm
      go_wp2_with (fail)
      go_at_call 37
      refine (HLN.out _ (HE.out.pt.below HBm.out)).mono ?_
      rintro e w1 ⟨rfl, rfl⟩
      go_wp2
      go_loopw [5, 6, 7, 8, 35] (fun v _ _ _ i wq => ∃ k : Nat, k ≤ w.length ∧ i = .int .i64 k ∧ ∃ vs, Hid (wq.ownsRow wr.heap.size 23 1 v (blocksTo w k).length vs) ∧ Hid (Held2 M v (blocksTo w k) vs wq) ∧ Hid (Below wr.heap.size wr wq)) (fun _ _ _ _ i _ => w.length - (intOf i).toNat)
      case atStart => exact ⟨0, Nat.zero_le _, rfl, [], HOm, Lib.hid (held2_nil _ _ _), HBm⟩
      case round =>
        obtain ⟨k, hk, rfl, vs, HV, HH, HB⟩ := hrel
        have hsq := HB.out.size
        have hbt := blocksTo_len w k
        have hbl := heads_len w k
        by_cases hlt : k < w.length
        · have HG := Lib.hid (groups_kept HO.out (grown_below HB.out) (fun r hr => by cases hr))
          have hkey : keyOf Try.prog 3 (.int .i64 (k : Int)) = some (.int .i64 (k : Int)) := keyOf_int_mk Try.underlying3 (WalkArith.wf_i64 (by omega))
          have HS := Lib.hid (blocksTo_snoc w k)
          have hhas := G_has w (k : Int) w.length
          have hhi := head_iff HR.out hlt
          by_cases e : gv w k = k
          · rw [decide_eq_true (hhi.2 e)] at hhas
            go_wp2_with (first
              | (at_lookup; refine wpList_look_ok _ rfl _ _ 73 rfl 3 23 3 .i64 lawK Try.underlying73 (zeroS _) (W.heap.size + 1) W.heap.size w.length _ rfl HG.out _ _ rfl hkey ?_; intro q1 m1 c1 zs hat hoi; rw [hhas])
              | (at_builtin; refine wpList_append_own_at _ rfl _ _ 47 rfl _ 23 j0 (.slice none 0 0) 1 24 llU Hj.out hy0 hy1 hy2 rfl (by decide) _ _ _ rfl (HV.out.alloc _) ⟨wr.heap.size, 0, none⟩ 1 1 [.slice q1 m1 c1] rfl rfl (cell_one_new _ _ _) (by intro u hu; simp at hu; subst hu; rfl) (by unfold maxLen; omega) (by omega) (by simp; omega) ?_; intro v' w3 hown' hgrow hnil hloc))
            have hz := G_row hoi hat
            obtain ⟨q9, c9, he9, hat1⟩ := own_at3 (M := M) hoi.1 (fun b hb => by have := HM.out b hb; omega)
            have he9 := he9
            injection he9 with e91 e92 e93
            subst e91 e93
            have hzl : zs.length = (blockL w (k : Int)).length := by rw [hz]; rfl
            rw [hzl] at hat1
            have HA1 := Lib.hid hat1
            have hm1 : m1 = (blockL w (k : Int)).length := e92.trans hzl
            subst hm1
            clear hat1 hoi hat hz
            have hbA : Below wr.heap.size wr (wr.alloc (.cells #[.slice q1 (blockL w (k : Int)).length c1] 23)) := (by repeat (first | assumption | exact Below.refl _ _ | exact below_beyond _ _ | refine Below.beyond ?_ (by (try simp [size_beyond]) <;> omega) _ | refine Below.drew ?_ | refine Go.Rw.below_drewN ?_ _ | refine Go.Rw.below_setRow ?_ (by (try simp [size_beyond]) <;> omega) _ | refine Below.alloc ?_ (by (try simp [size_beyond]) <;> omega) _ | refine Below.setCell ?_ (by (try simp [size_beyond]) <;> omega) _))
            have HH3 := Lib.hid ((HH.out.below hbA).snoc (v' := v') (c := c1) (HA1.out.below hbA) (HV.out.alloc _) hgrow)
            have HB3 := Lib.hid ((HB.out.trans (hbA.mono hsq)).grown hgrow (by simp; omega) (fun r hr => (HV.out.lt r hr).1))
            have HV3 := Lib.hid hown'
            clear hown' hgrow hnil hloc hbA
            go_wp2
            go_roundw
            case rel => exact ⟨k + 1, by omega, by go_num, _, Lib.hid (by rw [HS.out, if_pos e, List.length_append]; exact HV3.out), Lib.hid (by rw [HS.out, if_pos e]; exact HH3.out), HB3⟩
            case measure => simp [intOf]; omega
          · rw [decide_eq_false (fun h => e (hhi.1 h))] at hhas
            have HE2 := Lib.hid e
            go_wp2_with (first
              | (at_lookup; refine wpList_look_ok _ rfl _ _ 73 rfl 3 23 3 .i64 lawK Try.underlying73 (zeroS _) (W.heap.size + 1) W.heap.size w.length _ rfl HG.out _ _ rfl hkey ?_; intro q1 m1 c1 zs hat hoi; rw [hhas])
              | fail)
            clear hat hoi
            go_wp2
            go_roundw
            case rel => exact ⟨k + 1, by omega, by go_num, _, Lib.hid (by rw [HS.out, if_neg HE2.out, List.append_nil]; exact HV.out), Lib.hid (by rw [HS.out, if_neg HE2.out, List.append_nil]; exact HH.out), HB⟩
            case measure => simp [intOf]; omega
        · obtain rfl : k = w.length := by omega
          go_wp2
          go_ret
          obtain ⟨q, m, c, rfl, hat⟩ := held2_ls HV.out HH.out (by omega) (fun b hb => by have := HM.out b hb; omega)
          exact ⟨q, m, c, rfl, hat, HE.out.pt.below HB.out, HE.out.kept.trans (KeptBut.of_below HB.out)⟩
end Go.Proofs.Ytjlpjdpaingnkaa.pt
