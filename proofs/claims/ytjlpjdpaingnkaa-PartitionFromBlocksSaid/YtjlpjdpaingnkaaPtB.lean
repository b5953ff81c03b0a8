/-
  (*Partition).Blocks.
-/
import Derived.Test.YtjlpjdpaingnkaaPtG
set_option linter.unusedSimpArgs false
set_option linter.unusedVariables false
namespace Go.Proofs.Ytjlpjdpaingnkaa.pt
open Go.RowKit Go.Own Go.Pt Go.Rw Go.Maps Go.WideMaps Go.ChangeShapes Go.ChangeMaps
set_option maxHeartbeats 4000000
set_option maxRecDepth 100000

theorem blocks_nil (W : World) : Calls Try.prog 25 #[.pointer none] W fun e w' => e = .returned (.slice none 0 0) ∧ W = w' := by
  go_enter Try.func25, Try.ntmps25
  go_wp2
  go_ret
  exact ⟨rfl, rfl⟩
theorem keptBut_of {g : Nat} {A B C : World} (h : KeptBut (· = g) A B) {B0 : Nat} (hB : B0 ≤ B.heap.size) (hg : g < B0) (h2 : Below B0 B C) (hA : B0 = A.heap.size) : KeptBut (· = g) A C :=
  ⟨h2.os.trans h.os, h2.tape.trans h.tape, h2.output.trans h.output, Nat.le_trans h.size h2.size, fun k hk hx => (h2.block k (by omega)).trans (h.block k hk hx)⟩
theorem wpList_look_ok {P : Program} (w : World) {ops : Array Oper} {rest : List Oper} {o : Oper} {a : Act} {Q : Exit → Act → World → Prop} (hg : o.guard = none) (m x : Operand) (t : TypeId) (hop : o.op = Op.lookup t m x true)
    (k E : TypeId) (e : TypeId) (q : IntKind) (K : Keyed P k) (ht : P.underlying t = some (.map k E)) (hz : (zeroValue E).run P w = .ok (.slice none 0 0) w) (base b n : Nat) (D : DataW Unit)
    (hm : a.eval m = .map (some b)) (hown : w.ownsGroups P k base e q b n D) (key : Value) (kl : Lit) (hx : a.eval x = key) (hkey : keyOf P k key = some kl)
    (hK : ∀ q1 m1 c1 zs, D.atKey kl .nil = rowDatum q (.slice q1 m1 c1) zs → w.ownsInts base e q (.slice q1 m1 c1) zs → wpList P ops Q rest (a.put o.dst (.tuple #[.slice q1 m1 c1, .bool (Maps.has D kl)])) w) : wpList P ops Q (o :: rest) a w :=
  wpList_lookup_own_ok w hg m x t hop k E K ht (rowElem w base e q) hz .nil [] (rowElem_mk (World.ownsInts_nil w base e q)) b n D hm (groups_map hown) key kl hx hkey (fun v ps hv => by
    obtain ⟨zs, ho, h2⟩ := rowElem_inv hv
    rcases ho.1.2 with ⟨rfl, _⟩ | ⟨g, cap, cur, rfl, _⟩
    · exact hK _ _ _ zs (congrArg Prod.fst h2) ho
    · exact hK _ _ _ zs (congrArg Prod.fst h2) ho)
theorem own_at2 {M : Nat → Prop} {w : World} {B B' : Nat} {T T' : TypeId} {v v' : Value} {l : List Int} {n : Nat} {vs : List Value} (h : w.ownsRow B T 1 v l.length (l.map (Value.int .i64))) (h' : w.ownsRow B' T' 1 v' n vs) (hT : T ≠ T') (hl : l.length ≤ 999000) (hM : ∀ k, M k → k < B) :
    ∃ q m c, v = .slice q m c ∧ At (fun b => M b ∨ v'.ownBlock = some b) q m c l w := by
  rcases h.2 with ⟨rfl, hk⟩ | ⟨g, cap, cur, rfl, hb, hgg, hn, hc, hs, ht⟩
  · exact ⟨_, _, _, rfl, ⟨hk.symm, Nat.zero_le _, Nat.le_refl _, Nat.zero_le _, .inl (List.eq_nil_of_length_eq_zero hk)⟩⟩
  · refine ⟨_, _, _, rfl, ⟨rfl, hl, hn, hc, .inr ⟨g, 0, rfl, (Array.getElem?_eq_some_iff.1 hgg).1, fun hm => ?_, fun i x hx => ?_⟩⟩⟩
    · rcases hm with hm | hm
      · have := hM g hm; omega
      · rcases h'.2 with ⟨rfl, _⟩ | ⟨g', cap', cur', rfl, _, hgg', _⟩
        · cases hm
        · cases hm
          rw [hgg] at hgg'
          injection hgg' with e
          injection e with _ e2 _
          exact hT e2
    · have e := World.ownsRow.cells h (g := g) rfl i (.int .i64 x) (by simp [hx])
      have e2 : (⟨g, 0, Option.none⟩ : Addr).add i = ⟨g, i, Option.none⟩ := by unfold Addr.add; split <;> simp_all
      rw [Nat.zero_add, ← e2]; exact e
theorem blocks_calls {M : Nat → Prop} {P g : Nat} {w : List Int} {W : World} (h : Pt P g w W) (hM : ∀ k, M k → k < W.heap.size) :
    Calls Try.prog 25 #[.pointer (some ⟨P, 0, none⟩)] W fun e w' => ∃ q m c, e = .returned (.slice q m c) ∧ LsAt M True q m c (blocksL w) w' ∧ Eff P g w W w' := by
  have hmm := @run_makeMap Try.prog
  obtain ⟨i0, hi, hz0, hz1, hz2⟩ := info_parts tI
  have Hi := Lib.hid hi; clear hi
  obtain ⟨j0, hj, hy0, hy1, hy2⟩ := info_parts sI
  have Hj := Lib.hid hj; clear hj
  have HM := Lib.hid hM; clear hM
  have HR := Lib.hid h.rep
  have hn := h.len
  have hgl := h.gl
  have hpl := h.pl
  have HPG := Lib.hid (And.intro h.gl h.pl)
  have HLN := Lib.hid (show ∀ X, Pt P g w X → _ from fun X hX => len_pt hX)
  have HP := Lib.hid h; clear h
  go_enter Try.func25, Try.ntmps25
  go_wp2_with (fail)
  go_at_call 37
  refine (HLN.out _ (HP.out.below (by repeat (first | assumption | exact Below.refl _ _ | exact below_beyond _ _ | refine Below.beyond ?_ (by (try simp [size_beyond]) <;> omega) _ | refine Below.drew ?_ | refine Go.Rw.below_drewN ?_ _ | refine Go.Rw.below_setRow ?_ (by (try simp [size_beyond]) <;> omega) _ | refine Below.alloc ?_ (by (try simp [size_beyond]) <;> omega) _ | refine Below.setCell ?_ (by (try simp [size_beyond]) <;> omega) _)))).mono ?_
  rintro e w1 ⟨rfl, rfl⟩
  go_wp2
  go_loopw [4, 14] (fun _ i wr => ∃ k : Nat, k ≤ w.length ∧ i = .int .i64 k ∧ Hid (wr.ownsGroups (H := Unit) Try.prog 3 (W.heap.size + 1) 3 .i64 W.heap.size k (G w k)) ∧ Hid (Eff P g w W wr) ∧ W.heap.size + 1 ≤ wr.heap.size) (fun _ i _ => w.length - (intOf i).toNat)
  case atStart =>
    have hb : Below W.heap.size W (W.alloc (.map #[] 0)) := (by repeat (first | assumption | exact Below.refl _ _ | exact below_beyond _ _ | refine Below.beyond ?_ (by (try simp [size_beyond]) <;> omega) _ | refine Below.drew ?_ | refine Go.Rw.below_drewN ?_ _ | refine Go.Rw.below_setRow ?_ (by (try simp [size_beyond]) <;> omega) _ | refine Below.alloc ?_ (by (try simp [size_beyond]) <;> omega) _ | refine Below.setCell ?_ (by (try simp [size_beyond]) <;> omega) _))
    exact ⟨0, Nat.zero_le _, rfl, Lib.hid (World.ownsGroups_made _ _ _ _ _), Lib.hid ⟨HP.out.below hb, KeptBut.of_below hb⟩, by simp⟩
  case round =>
    obtain ⟨k, hk, rfl, HO, HE, hws⟩ := hrel
    by_cases hlt : k < w.length
    · have HC := Lib.hid (root_pt hlt HE.out.pt)
      go_wp2_with (fail)
      go_at_call 42
      refine HC.out.mono ?_
      rintro e w1 ⟨rfl, h1⟩
      have HE1 := Lib.hid (HE.out.trans h1)
      have HO1 := Lib.hid (groups_kept HO.out (kgrown h1.kept) (fun r hr => by cases hr; omega))
      have hs1 : W.heap.size + 1 ≤ w1.heap.size := Nat.le_trans hws h1.kept.size
      clear h1 HE HO hws HC
      have HC := Lib.hid (root_pt hlt HE1.out.pt)
      go_wp2_with (fail)
      go_at_call 42
      refine HC.out.mono ?_
      rintro e w2 ⟨rfl, h1⟩
      have HE2 := Lib.hid (HE1.out.trans h1)
      have HO2 := Lib.hid (groups_kept HO1.out (kgrown h1.kept) (fun r hr => by cases hr; omega))
      have hs2 : W.heap.size + 1 ≤ w2.heap.size := Nat.le_trans hs1 h1.kept.size
      clear h1 HE1 HO1 hs1 HC
      have hr0 := HR.out.lo k hlt
      have hr1 := HR.out.le k hlt
      have HG := Lib.hid (show G w (k + 1) = (G w k).put (.int .i64 (gv w k)) (.slice (lits .i64 (blk w (gv w k) (k + 1))) []) from rfl)
      have HB1 := Lib.hid (show blk w (gv w k) (k + 1) = blk w (gv w k) k ++ [(k : Int)] by rw [blk_snoc, if_pos rfl])
      have HZ := Lib.hid (fun (v : Value) (zs : List Int) (ho : w2.ownsInts (W.heap.size + 1) 3 .i64 v zs) (hat : (G w k).atKey (.int .i64 (gv w k)) .nil = rowDatum .i64 v zs) => G_row ho hat)
      generalize gv w k = r at hr0 hr1 HG HB1 HZ ⊢
      have hkey : keyOf Try.prog 3 (.int .i64 r) = some (.int .i64 r) := keyOf_int_mk Try.underlying3 (WalkArith.wf_i64 (by omega))
      go_wp2_with (first
        | (at_lookup; refine wpList_lookup_groups _ rfl _ _ 73 rfl 3 23 3 .i64 lawK Try.underlying73 (zeroS _) (W.heap.size + 1) W.heap.size k _ rfl HO2.out (by unfold maxLen; omega) _ _ rfl hkey ?_; intro v zs hat hoi hzl hback)
        | (at_builtin; refine wpList_append_own_at _ rfl _ _ 23 rfl (W.heap.size + 1) 3 i0 (.int .i64 0) 1 8 iU Hi.out hz0 hz1 hz2 rfl (by decide) _ _ _ rfl (hoi.1.alloc _) ⟨w2.heap.size, 0, none⟩ 1 1 [.int .i64 k] rfl rfl (cell_one_new _ _ _) (ints_oneCell .i64 [(k : Int)]) (by unfold maxLen; omega) (by omega) (by simp; omega) ?_; intro v' w3 hown' hgrow hnil hloc)
        | (at_mapUpdate; refine wpList_mapUpdate_back _ rfl _ _ _ 73 rfl hback rfl rfl rfl ((World.grownBy_alloc _ _ _).trans hgrow) (hoi.appended hown' (WalkArith.wf_i64 (by omega))) (by simp; omega) (hloc.imp id (fun h => ⟨_, h, by simp⟩)) ?_; intro w4 hown2 hgrow2)
        | go_in)
      have hall := (World.grownBy_alloc w2 _ _).trans hgrow
      have HB4 := Lib.hid (RowKit.Below.groups (B := W.heap.size) (Below.refl (B := W.heap.size) w2) hoi hall hgrow2 (by omega) (by omega) (Nat.le_refl _))
      have HE4 : Hid (Eff P g w W w4) := Lib.hid ⟨HE2.out.pt.kept (X := fun b => W.heap.size ≤ b) ⟨HB4.out.os, HB4.out.tape, HB4.out.output, HB4.out.size, fun b _ hb => HB4.out.block b (by omega)⟩ (by have := HPG.out; omega) (by have := HPG.out; omega), keptBut_of HE2.out.kept (B0 := W.heap.size) (by omega) HPG.out.1 HB4.out rfl⟩
      have HO4 : Hid (w4.ownsGroups (H := Unit) Try.prog 3 (W.heap.size + 1) 3 .i64 W.heap.size (k + 1) (G w (k + 1))) := Lib.hid (by
        have hz := HZ.out v zs hoi hat
        rw [HG.out, HB1.out, ← hz, ← (hoi.appended hown' (WalkArith.wf_i64 (by omega))).datum_pos (by simp)]
        exact hown2)
      have hs4 : W.heap.size + 1 ≤ w4.heap.size := by have := HB4.out.size; omega
      clear hown2 hgrow2 hback hoi hown' hgrow hall hat hloc hnil HO2 HE2
      go_wp2
      go_roundw
      case rel => exact ⟨k + 1, by omega, by go_num, HO4, HE4, hs4⟩
      case measure => simp [intOf]; omega
    · obtain rfl : k = w.length := by omega
      have HSZ := Lib.hid (show Maps.size (G w w.length) ≤ w.length from (groups_map HO.out).size_le)
      go_wp2_with (first
        | (at_len; refine wpList_len_own _ rfl _ 73 rfl 3 23 Try.underlying73 _ W.heap.size w.length _ rfl (groups_map HO.out) ?_)
        | (at_make; refine wpList_make_own _ rfl _ _ 47 rfl wr.heap.size 23 j0 (.slice none 0 0) 1 llU Hj.out hy0 hy1 _ _ _ (Maps.size (G w w.length)) rfl rfl rfl (by rw [hy2]; have := HSZ.out; omega) (by have := HSZ.out; unfold maxLen; omega) (Nat.le_refl _) ?_))
      intro wm hownm hgrm
      have HBm : Hid (Below wr.heap.size wr wm) := Lib.hid ⟨hgrm.os, hgrm.tape, hgrm.output, hgrm.size, fun k hk => hgrm.block k hk (by simp)⟩
      have HOm := Lib.hid hownm
      clear hownm hgrm
      go_wp2_with (fail)
      go_at_call 37
      refine (HLN.out _ (HE.out.pt.below HBm.out)).mono ?_
      rintro e w1 ⟨rfl, rfl⟩
      go_wp2
      go_loopw [5, 6, 7, 8, 35] (fun v _ _ _ i wq => ∃ k : Nat, k ≤ w.length ∧ i = .int .i64 k ∧ ∃ vs, Hid (wq.ownsRow wr.heap.size 23 1 v (blocksTo w k).length vs) ∧ Hid (Held M v (blocksTo w k) vs wq) ∧ Hid (Below wr.heap.size wr wq)) (fun _ _ _ _ i _ => w.length - (intOf i).toNat)
      case atStart => exact ⟨0, Nat.zero_le _, rfl, [], HOm, Lib.hid (held_nil _ _ _), HBm⟩
      case round =>
        obtain ⟨k, hk, rfl, vs, HV, HH, HB⟩ := hrel
        have hsq := HB.out.size
        have hbt := blocksTo_len w k
        have hbl := heads_len w k
        by_cases hlt : k < w.length
        · have HG := Lib.hid (groups_kept HO.out (grown_below HB.out) (fun r hr => by cases hr))
          have hkey : keyOf Try.prog 3 (.int .i64 (k : Int)) = some (.int .i64 (k : Int)) := keyOf_int_mk Try.underlying3 (WalkArith.wf_i64 (by omega))
          have HS := Lib.hid (blocksTo_snoc w k)
          have hhas := G_has w (k : Int) w.length
          have hhi := head_iff HR.out hlt
          by_cases e : gv w k = k
          · rw [decide_eq_true (hhi.2 e)] at hhas
            go_wp2_with (first
              | (at_lookup; refine wpList_look_ok _ rfl _ _ 73 rfl 3 23 3 .i64 lawK Try.underlying73 (zeroS _) (W.heap.size + 1) W.heap.size w.length _ rfl HG.out _ _ rfl hkey ?_; intro q1 m1 c1 zs hat hoi; rw [hhas])
              | (at_builtin; refine wpList_append_own_at _ rfl _ _ 47 rfl _ 23 j0 (.slice none 0 0) 1 24 llU Hj.out hy0 hy1 hy2 rfl (by decide) _ _ _ rfl (HV.out.alloc _) ⟨wr.heap.size, 0, none⟩ 1 1 [.slice q1 m1 c1] rfl rfl (cell_one_new _ _ _) (by intro u hu; simp at hu; subst hu; rfl) (by unfold maxLen; omega) (by omega) (by simp; omega) ?_; intro v' w3 hown' hgrow hnil hloc))
            have hz := G_row hoi hat
            obtain ⟨q9, m9, c9, he9, hat1⟩ := own_at2 (M := M) hoi.1 HV.out (by decide) (by rw [hz]; have := blk_len w (k : Int) w.length; omega) (fun b hb => by have := HM.out b hb; omega)
            cases he9
            have HA1 := Lib.hid (hz ▸ hat1)
            clear hat1 hoi hat hz
            have hbA : Below wr.heap.size wr (wr.alloc (.cells #[.slice q1 m1 c1] 23)) := (by repeat (first | assumption | exact Below.refl _ _ | exact below_beyond _ _ | refine Below.beyond ?_ (by (try simp [size_beyond]) <;> omega) _ | refine Below.drew ?_ | refine Go.Rw.below_drewN ?_ _ | refine Go.Rw.below_setRow ?_ (by (try simp [size_beyond]) <;> omega) _ | refine Below.alloc ?_ (by (try simp [size_beyond]) <;> omega) _ | refine Below.setCell ?_ (by (try simp [size_beyond]) <;> omega) _))
            have HH3 := Lib.hid ((HH.out.below hbA).snoc (HA1.out.below hbA) hgrow hloc)
            have HB3 := Lib.hid ((HB.out.trans (hbA.mono hsq)).grown hgrow (by simp; omega) (fun r hr => (HV.out.lt r hr).1))
            have HV3 := Lib.hid hown'
            clear hown' hgrow hnil hloc hbA
            go_wp2
            go_roundw
            case rel => exact ⟨k + 1, by omega, by go_num, _, Lib.hid (by rw [HS.out, if_pos e, List.length_append]; exact HV3.out), Lib.hid (by rw [HS.out, if_pos e]; exact HH3.out), HB3⟩
            case measure => simp [intOf]; omega
          · rw [decide_eq_false (fun h => e (hhi.1 h))] at hhas
            have HE2 := Lib.hid e
            go_wp2_with (first
              | (at_lookup; refine wpList_look_ok _ rfl _ _ 73 rfl 3 23 3 .i64 lawK Try.underlying73 (zeroS _) (W.heap.size + 1) W.heap.size w.length _ rfl HG.out _ _ rfl hkey ?_; intro q1 m1 c1 zs hat hoi; rw [hhas])
              | fail)
            clear hat hoi
            go_wp2
            go_roundw
            case rel => exact ⟨k + 1, by omega, by go_num, _, Lib.hid (by rw [HS.out, if_neg HE2.out, List.append_nil]; exact HV.out), Lib.hid (by rw [HS.out, if_neg HE2.out, List.append_nil]; exact HH.out), HB⟩
            case measure => simp [intOf]; omega
        · obtain rfl : k = w.length := by omega
          go_wp2
          go_ret
          obtain ⟨q, m, c, rfl, hat⟩ := held_ls HV.out HH.out (by omega) (fun b hb => by have := HM.out b hb; omega)
          exact ⟨q, m, c, rfl, hat, HE.out.pt.below HB.out, HE.out.kept.trans (KeptBut.of_below HB.out)⟩
end Go.Proofs.Ytjlpjdpaingnkaa.pt
