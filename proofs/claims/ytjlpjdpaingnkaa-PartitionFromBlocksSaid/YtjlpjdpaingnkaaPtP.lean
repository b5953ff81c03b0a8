/-
  FromBlocks.
-/
import Derived.Test.YtjlpjdpaingnkaaPtO
import Derived.Test.YtjlpjdpaingnkaaPtS
set_option linter.unusedSimpArgs false
set_option linter.unusedVariables false
namespace Go.Proofs.Ytjlpjdpaingnkaa.pt
open Go.RowKit Go.Own Go.Pt Go.Rw
set_option maxHeartbeats 4000000
set_option maxRecDepth 100000

theorem bI : (Try.prog.info? 4).map (fun i => (i.zero, i.size, i.bytes)) = some (some (.bool false), 1, 1) := by kernel_rfl
/-- a row of truth values: which numbers are on the list -/
structure BoolAt (g n : Nat) (seen : List Int) (w : World) : Prop where
  ex : ∃ cs : Array Value, w.heap[g]? = some (.cells cs 4 (0, 0)) ∧ cs.size = n ∧ ∀ i : Nat, i < n → cs[i]? = some (.bool (decide ((i : Int) ∈ seen)))
theorem BoolAt.lt {g n : Nat} {seen : List Int} {w : World} (h : BoolAt g n seen w) : g < w.heap.size := by obtain ⟨cs, h1, _⟩ := h.ex; exact (Array.getElem?_eq_some_iff.1 h1).1
theorem BoolAt.cell {g n : Nat} {seen : List Int} {w : World} (h : BoolAt g n seen w) {i : Nat} (hi : i < n) : w.cell? ⟨g, i, none⟩ = some (.bool (decide ((i : Int) ∈ seen))) := by
  obtain ⟨cs, h1, h2, h3⟩ := h.ex
  simp [World.cell?, h1, h3 i hi]
theorem BoolAt.frozen {g n : Nat} {seen : List Int} {w : World} (h : BoolAt g n seen w) (i : Nat) : w.frozen? ⟨g, i, none⟩ = false := by
  obtain ⟨cs, h1, _⟩ := h.ex; simp [World.frozen?, h1]
theorem BoolAt.set {g n : Nat} {seen : List Int} {w : World} (h : BoolAt g n seen w) {i : Nat} (hi : i < n) : BoolAt g n ((i : Int) :: seen) (w.setCell ⟨g, i, none⟩ (.bool true)) := by
  obtain ⟨cs, h1, h2, h3⟩ := h.ex
  refine ⟨cs.setIfInBounds i (.bool true), ?_, by simpa using h2, fun j hj => ?_⟩
  · show (w.heap.modify g _)[g]? = _
    rw [Array.getElem?_modify, if_pos rfl, h1]; rfl
  · by_cases e : i = j
    · subst e
      rw [Array.getElem?_setIfInBounds_self_of_lt (by omega)]
      simp
    · rw [Array.getElem?_setIfInBounds_ne e, h3 j hj]
      have : ¬ (j : Int) = (i : Int) := by omega
      simp [this]
theorem BoolAt.kept {g n : Nat} {seen : List Int} {w w' : World} (h : BoolAt g n seen w) {X : Nat → Prop} (hk : KeptBut X w w') (hX : ¬ X g) : BoolAt g n seen w' := by
  obtain ⟨cs, h1, h2, h3⟩ := h.ex
  exact ⟨cs, (hk.block g (Array.getElem?_eq_some_iff.1 h1).1 hX).trans h1, h2, h3⟩
theorem BoolAt.below {g n : Nat} {seen : List Int} {w w' : World} (h : BoolAt g n seen w) (hb : Below w.heap.size w w') : BoolAt g n seen w' := h.kept (X := fun _ => False) (KeptBut.of_below hb) (fun h => h)
theorem BoolAt.made {w : World} {g k B : Nat} (h : w.ownsRow B 4 1 (.slice (some ⟨g, 0, none⟩) k k) k (madeCells #[Value.bool false] k).toList) : BoolAt g k [] w := by
  rcases h.2 with ⟨h, _⟩ | ⟨g', cap, cur, h, hb, hgg, hn, hc, hs, ht⟩
  · cases h
  · cases h
    refine ⟨cur, hgg, by simpa using hs, fun i hi => ?_⟩
    have hcur : cur.toList = (madeCells #[Value.bool false] k).toList := by rw [← ht, ← hs, ← Array.length_toList, List.take_length]
    rw [← Array.getElem?_toList, hcur]
    simp [madeCells, hi, Nat.mod_one]
theorem okL_okB (w : List Int) (a : Int) : okL w a = okB w a := rfl
theorem headD_gv (b : List Int) : b.headD 0 = gv b 0 := by cases b <;> rfl
/-- what FromBlocks hands back -/
def FbRet (n : Nat) (L : List (List Int)) (W : World) (e : Ending) (w' : World) : Prop := Below W.heap.size W w' ∧ (((ofR (idL n) [] (flat L)).2 = 0 ∧ ∃ P g, e = .returned (.tuple #[.pointer (some ⟨P, 0, none⟩), .int .i64 0]) ∧ Pt P g (ofR (idL n) [] (flat L)).1 w' ∧ W.heap.size ≤ P ∧ W.heap.size ≤ g) ∨
  ((ofR (idL n) [] (flat L)).2 ≠ 0 ∧ e = .returned (.tuple #[.pointer none, .int .i64 (((ofR (idL n) [] (flat L)).2 : Nat) : Int)])))
theorem fb_bad (n : Int) (hn : n < 0 ∨ 4096 < n) (q : Option Addr) (m c : Nat) (W : World) :
    Calls Try.prog 23 #[.int .i64 n, .slice q m c] W fun e w' => e = .returned (.tuple #[.pointer none, .int .i64 2]) ∧ W = w' := by
  have HN := Lib.hid (new_bad n hn W)
  clear hn
  go_enter Try.func23, Try.ntmps23
  go_wp2_with (fail)
  go_at_call 12
  refine HN.out.mono ?_
  rintro e w1 ⟨rfl, rfl⟩
  go_wp2
  go_ret2
  exact ⟨rfl, rfl⟩
theorem fb_calls {M : Nat → Prop} {s : Prop} {n m c : Nat} {q : Option Addr} {L : List (List Int)} {W : World} (hn : n ≤ 4096) (h : LsAt M s q m c L W) :
    Calls Try.prog 23 #[.int .i64 (n : Int), .slice q m c] W (FbRet n L W) := by
  obtain ⟨i0, hi, hz0, hz1, hz2⟩ := info_parts bI
  have Hi := Lib.hid hi; clear hi
  have HL := Lib.hid h; clear h
  have hm := HL.out.all.2.1
  have HN := Lib.hid (new_calls (n := n) hn W)
  go_enter Try.func23, Try.ntmps23
  go_wp2_with (fail)
  go_at_call 12
  refine HN.out.mono ?_
  rintro e w1 ⟨P, g, rfl, h1, hP, hg, hb1⟩
  have HP1 := Lib.hid h1
  have HB1 := Lib.hid hb1
  have hs1 := hb1.size
  have hpl := h1.pl
  have hgl := h1.gl
  clear h1 hb1 HN
  go_wp2_with (at_make; refine wpList_make_full _ rfl _ _ 72 rfl w1.heap.size 4 i0 (.bool false) 1 Try.underlying72 Hi.out hz0 hz1 _ _ _ _ n rfl rfl rfl rfl (by rw [hz2]; omega) (by unfold maxLen; omega) (Nat.le_refl _) ?_)
  intro w2 hown hgr
  have HBL := Lib.hid (BoolAt.made hown)
  have hbl : Below w1.heap.size w1 w2 := ⟨hgr.os, hgr.tape, hgr.output, hgr.size, fun k hk => hgr.block k hk (by simp)⟩
  have HP2 := Lib.hid (HP1.out.below hbl)
  have HB2 := Lib.hid (HB1.out.trans (hbl.mono hs1))
  have hs2 : w1.heap.size + 1 ≤ w2.heap.size := by have := HBL.out.lt; omega
  clear hown hgr hbl HP1 HB1
  go_wp2
  go_loopw [10, 12, 25] (fun _ _ i wr => ∃ (k : Nat) (cur seen : List Int), k ≤ m ∧ i = .int .i64 k ∧ Hid (cur.length = n) ∧ Hid (ofR (idL n) [] (flat L) = ofR cur seen (flat (L.drop k))) ∧ Hid (Pt P g cur wr) ∧ Hid (BoolAt w1.heap.size n seen wr) ∧ Hid (Below W.heap.size W wr)) (fun _ _ i _ => m - (intOf i).toNat)
  case atStart => exact ⟨0, idL n, [], Nat.zero_le _, rfl, Lib.hid (idL_len n), Lib.hid rfl, HP2, HBL, HB2⟩
  case round =>
    obtain ⟨k, cur, seen, hk, rfl, HLN, HOF, HP, HS, HB⟩ := hrel
    by_cases hlt : k < m
    · obtain ⟨b, hbk⟩ : ∃ b, L[k]? = some b := ⟨_, List.getElem?_eq_getElem (by rw [← HL.out.all.1]; exact hlt)⟩
      obtain ⟨bo, off, q5, m5, c5, rfl, hbw, hcell0, hat⟩ := HL.out.cell hbk
      have hcell := (HB.out.cell hbw).trans hcell0
      have HAT := Lib.hid hat
      have hm5 := hat.all.2.1
      have HM5 := Lib.hid hat.all.1
      have HOF2 := Lib.hid (show ofR (idL n) [] (flat L) = ofR cur seen (withHead b (b.drop 0) ++ flat (L.drop (k + 1))) by rw [HOF.out, flat_drop hbk])
      clear hcell0 hat hbk HOF
      go_wp2
      go_loopw [12, 31] (fun _ i wr => ∃ (j : Nat) (cur seen : List Int), j ≤ m5 ∧ i = .int .i64 j ∧ Hid (cur.length = n) ∧ Hid (j = 0 ∨ okB cur (b.headD 0) = true) ∧ Hid (ofR (idL n) [] (flat L) = ofR cur seen (withHead b (b.drop j) ++ flat (L.drop (k + 1)))) ∧ Hid (Pt P g cur wr) ∧ Hid (BoolAt w1.heap.size n seen wr) ∧ Hid (Below W.heap.size W wr)) (fun _ i _ => m5 - (intOf i).toNat)
      case atStart => exact ⟨0, cur, seen, Nat.zero_le _, rfl, HLN, Lib.hid (.inl rfl), HOF2, HP, HS, HB⟩
      case round =>
        clear HLN HOF2 HP HS HB hcell
        obtain ⟨j, cur, seen, hj, rfl, HLN, HJ, HOF, HP, HS, HB⟩ := hrel
        have hB := HB.out.size
        by_cases hjl : j < m5
        · obtain ⟨b5, off5, rfl, hbw5, hcs⟩ := HAT.out.cell hjl
          have hcj := (HB.out.cell hbw5).trans (hcs j hjl)
          have HC0 := Lib.hid (fun X (hX : Below W.heap.size W X) => (hX.cell hbw5).trans (hcs 0 (by omega)))
          have HOF3 := Lib.hid (show ofR (idL n) [] (flat L) = ofR cur seen ((gv b j, b.headD 0) :: (withHead b (b.drop (j + 1)) ++ flat (L.drop (k + 1)))) by
            rw [HOF.out, withHead_drop (some_gv (by rw [← HM5.out]; exact hjl))]; rfl)
          have HJ0 := Lib.hid (show j = 0 → gv b j = b.headD 0 from fun e => by rw [e, headD_gv])
          have HHD := Lib.hid (headD_gv b)
          rw [← HHD.out] at HC0
          generalize gv b j = x at hcj HOF3 HJ0
          generalize b.headD 0 = hd at HC0 HOF3 HJ0 HJ HHD
          have HH := Lib.hid (has_pt x HP.out)
          clear hcs HOF
          cases ex : okL cur x
          · have HRES := Lib.hid (show ofR (idL n) [] (flat L) = ([], 1) by rw [HOF3.out, ofR_bad (by rw [← okL_okB]; exact ex)])
            rw [ex] at HH
            clear HOF3
            go_wp2_with (fail)
            go_at_call 40
            refine HH.out.mono ?_
            rintro e w3 ⟨rfl, rfl⟩
            go_wp2
            go_ret2
            exact ⟨HB.out, .inr ⟨by rw [HRES.out]; decide, by rw [HRES.out]; rfl⟩⟩
          · rw [ex] at HH
            have hx0 := okL_iff.1 ex
            rw [HLN.out] at hx0
            have HOKX := Lib.hid ex
            clear ex
            obtain ⟨x, rfl⟩ := Int.eq_ofNat_of_zero_le hx0.1
            have hxn : x < n := by omega
            have hcb := HS.out.cell hxn
            have hfz := HS.out.frozen x
            by_cases hin : (x : Int) ∈ seen
            · rw [decide_eq_true hin] at hcb
              have HRES := Lib.hid (show ofR (idL n) [] (flat L) = ([], 7) by rw [HOF3.out, ofR_dup (by rw [← okL_okB]; exact HOKX.out) hin])
              clear HOF3 hin
              go_wp2_with (fail)
              go_at_call 40
              refine HH.out.mono ?_
              rintro e w3 ⟨rfl, rfl⟩
              go_wp2
              go_ret2
              exact ⟨HB.out, .inr ⟨by rw [HRES.out]; decide, by rw [HRES.out]; rfl⟩⟩
            · rw [decide_eq_false hin] at hcb
              have HOF4 := Lib.hid (HOF3.out.trans (ofR_step (by rw [← okL_okB]; exact HOKX.out) hin))
              have HHD2 := Lib.hid (show okB cur hd = true by
                rcases HJ.out with h | h
                · rw [← HJ0.out h, ← okL_okB]; exact HOKX.out
                · exact h)
              have hh0 := okB_iff.1 HHD2.out
              rw [HLN.out] at hh0
              obtain ⟨hd, rfl⟩ := Int.eq_ofNat_of_zero_le hh0.1
              have hhn : hd < n := by omega
              have HS2 := Lib.hid (HS.out.set hxn)
              have HK2 := Lib.hid (kset wr w1.heap.size x (.bool true))
              have HB2 := Lib.hid (HB.out.trans (HK2.out.below (B := W.heap.size) (fun k hk => by omega) hB))
              have HP2 := Lib.hid (HP.out.kept HK2.out (by omega) (by omega))
              have hc0 := HC0.out _ HB2.out
              have hc0w := HC0.out _ HB.out
              rw [Nat.add_zero] at hc0 hc0w
              have hb5n : b5 ≠ w1.heap.size := by omega
              have hsz2 : (wr.setCell ⟨w1.heap.size, x, none⟩ (.bool true)).heap.size = wr.heap.size := by simp
              have HMG := Lib.hid (merge_pt (a := x) (b := hd) (by rw [HLN.out]; exact hxn) (by rw [HLN.out]; exact hhn) HP2.out)
              rw [joinL_comm] at HMG
              rw [Int.toNat_natCast, Int.toNat_natCast] at HOF4
              clear HOF3 hin hx0 hh0 HS HP HC0
              go_wp2_with (first | (go_at_call 40; refine HH.out.mono ?_; rintro e w3 ⟨rfl, rfl⟩) | fail)
              go_at_call 41
              refine HMG.out.mono ?_
              rintro e w4 ⟨rfl, h1⟩
              have HP3 := Lib.hid h1.pt
              have HS3 := Lib.hid (HS2.out.kept h1.kept (by omega))
              have HB3 : Hid (Below W.heap.size W w4) := Lib.hid (HB2.out.trans (h1.kept.below (fun k hk => by omega) (by omega)))
              clear h1 HMG HS2 HP2 HB2 hc0 hc0w
              go_wp2
              go_roundw
              case rel => exact ⟨j + 1, joinL cur hd x, (x : Int) :: seen, by omega, by go_num, Lib.hid (by rw [joinL_len]; exact HLN.out), Lib.hid (.inr (by rw [okB_len (joinL_len cur hd x)]; exact HHD2.out)), HOF4, HP3, HS3, HB3⟩
              case measure => simp [intOf]; omega
        · obtain rfl : j = m5 := by omega
          have HOF3 := Lib.hid (show ofR (idL n) [] (flat L) = ofR cur seen (flat (L.drop (k + 1))) by
            rw [HOF.out, HM5.out, withHead_end]; rfl)
          go_wp2
          go_roundw
          case rel => exact ⟨k + 1, cur, seen, by omega, by go_num, HLN, HOF3, HP, HS, HB⟩
          case measure => simp [intOf]; omega
    · obtain rfl : k = m := by omega
      have HRES := Lib.hid (show ofR (idL n) [] (flat L) = (cur, 0) by rw [HOF.out, HL.out.all.1, flat_end]; rfl)
      go_wp2
      go_ret2
      exact ⟨HB.out, .inl ⟨by rw [HRES.out], P, g, rfl, by rw [HRES.out]; exact HP.out, hP, hg⟩⟩
end Go.Proofs.Ytjlpjdpaingnkaa.pt
