/-
  The reference's Of.
-/
import Derived.Test.YtjlpjdpaingnkaaPtP
set_option linter.unusedSimpArgs false
set_option linter.unusedVariables false
namespace Go.Proofs.Ytjlpjdpaingnkaa.pt
open Go.RowKit Go.Own Go.Pt Go.Rw
set_option maxHeartbeats 4000000
set_option maxRecDepth 100000

/-- what Of hands back -/
def OfRet (M : Nat → Prop) (n : Nat) (L : List (List Int)) (W : World) (e : Ending) (w' : World) : Prop := Below W.heap.size W w' ∧ (((ofR (idL n) [] (flat L)).2 = 0 ∧ ∃ q m c, e = .returned (.tuple #[.slice q m c, .int .i64 0]) ∧ At M q m c (ofR (idL n) [] (flat L)).1 w') ∨
  ((ofR (idL n) [] (flat L)).2 ≠ 0 ∧ e = .returned (.tuple #[.slice none 0 0, .int .i64 (((ofR (idL n) [] (flat L)).2 : Nat) : Int)])))
theorem of_bad (n : Int) (hn : n < 0 ∨ 4096 < n) (q : Option Addr) (m c : Nat) (W : World) :
    Calls Try.prog 24 #[.int .i64 n, .slice q m c] W fun e w' => e = .returned (.tuple #[.slice none 0 0, .int .i64 2]) ∧ W = w' := by
  have HN := Lib.hid (rnew_bad n hn W)
  clear hn
  go_enter Try.func24, Try.ntmps24
  go_wp2_with (fail)
  go_at_call 11
  refine HN.out.mono ?_
  rintro e w1 ⟨rfl, rfl⟩
  go_wp2
  go_ret2
  exact ⟨rfl, rfl⟩
theorem of_calls {M M' : Nat → Prop} {s : Prop} {n m c : Nat} {q : Option Addr} {L : List (List Int)} {W : World} (hn : n ≤ 4096) (h : LsAt M' s q m c L W) (hM : ∀ k, M k → k < W.heap.size) :
    Calls Try.prog 24 #[.int .i64 (n : Int), .slice q m c] W (OfRet M n L W) := by
  obtain ⟨i0, hi, hz0, hz1, hz2⟩ := info_parts bI
  have Hi := Lib.hid hi; clear hi
  have HL := Lib.hid h; clear h
  have hm := HL.out.all.2.1
  have HN := Lib.hid (rnew_calls (M := M) (n := n) hn W hM)
  have HM := Lib.hid hM; clear hM
  go_enter Try.func24, Try.ntmps24
  go_wp2_with (fail)
  go_at_call 11
  refine HN.out.mono ?_
  rintro e w1 ⟨q1, m1, c1, rfl, h1, hb1⟩
  have hm1 : m1 = n := by rw [h1.all.1, idL_len]
  subst hm1
  have HA1 := Lib.hid (h1.more (M' := fun k => M k ∨ k = w1.heap.size) (fun b hb h => by rcases h with h | h; exact h; exact absurd h (Nat.ne_of_lt hb)))
  have HB1 := Lib.hid hb1
  have hs1 := hb1.size
  clear h1 hb1 HN
  go_wp2_with (at_make; refine wpList_make_full _ rfl _ _ 72 rfl w1.heap.size 4 i0 (.bool false) 1 Try.underlying72 Hi.out hz0 hz1 _ _ _ _ m1 rfl rfl rfl rfl (by rw [hz2]; omega) (by unfold maxLen; omega) (Nat.le_refl _) ?_)
  intro w2 hown hgr
  have HBL := Lib.hid (BoolAt.made hown)
  have hbl : Below w1.heap.size w1 w2 := ⟨hgr.os, hgr.tape, hgr.output, hgr.size, fun k hk => hgr.block k hk (by simp)⟩
  have HA2 := Lib.hid (HA1.out.below hbl)
  have HB2 := Lib.hid (HB1.out.trans (hbl.mono hs1))
  have hs2 : w1.heap.size + 1 ≤ w2.heap.size := by have := HBL.out.lt; omega
  clear hown hgr hbl HA1 HB1
  go_wp2
  go_loopw [6, 9, 10, 11] (fun v i _ _ wr => ∃ (k : Nat) (cur seen : List Int) (q1 : Option Addr) (c1 : Nat), k ≤ m ∧ i = .int .i64 k ∧ v = .slice q1 m1 c1 ∧ Hid (cur.length = m1) ∧ Hid (ofR (idL m1) [] (flat L) = ofR cur seen (flat (L.drop k))) ∧ Hid (At (fun k => M k ∨ k = w1.heap.size) q1 m1 c1 cur wr) ∧ Hid (BoolAt w1.heap.size m1 seen wr) ∧ Hid (Below W.heap.size W wr) ∧ w1.heap.size + 1 ≤ wr.heap.size) (fun _ i _ _ _ => m - (intOf i).toNat)
  case atStart => exact ⟨0, idL m1, [], q1, c1, Nat.zero_le _, rfl, rfl, Lib.hid (idL_len m1), Lib.hid rfl, HA2, HBL, HB2, hs2⟩
  case round =>
    obtain ⟨k, cur, seen, q1, c1, hk, rfl, rfl, HLN, HOF, HA, HS, HB, hs⟩ := hrel
    by_cases hlt : k < m
    · obtain ⟨b, hbk⟩ : ∃ b, L[k]? = some b := ⟨_, List.getElem?_eq_getElem (by rw [← HL.out.all.1]; exact hlt)⟩
      obtain ⟨bo, off, q5, m5, c5, rfl, hbw, hcell0, hat⟩ := HL.out.cell hbk
      have HCL := Lib.hid (fun X (hX : Below W.heap.size W X) => (hX.cell hbw).trans hcell0)
      have HAT := Lib.hid hat
      have hm5 := hat.all.2.1
      have HM5 := Lib.hid hat.all.1
      have HOF2 := Lib.hid (show ofR (idL m1) [] (flat L) = ofR cur seen (withHead b (b.drop 0) ++ flat (L.drop (k + 1))) by rw [HOF.out, flat_drop hbk])
      clear hcell0 hat hbk HOF
      go_wp2
      go_loopw [6, 10, 11] (fun v i _ wr => ∃ (j : Nat) (cur seen : List Int) (q1 : Option Addr) (c1 : Nat), j ≤ m5 ∧ i = .int .i64 j ∧ v = .slice q1 m1 c1 ∧ Hid (cur.length = m1) ∧ Hid (j = 0 ∨ okB cur (b.headD 0) = true) ∧ Hid (ofR (idL m1) [] (flat L) = ofR cur seen (withHead b (b.drop j) ++ flat (L.drop (k + 1)))) ∧ Hid (At (fun k => M k ∨ k = w1.heap.size) q1 m1 c1 cur wr) ∧ Hid (BoolAt w1.heap.size m1 seen wr) ∧ Hid (Below W.heap.size W wr) ∧ w1.heap.size + 1 ≤ wr.heap.size) (fun _ i _ _ => m5 - (intOf i).toNat)
      case atStart => exact ⟨0, cur, seen, q1, c1, Nat.zero_le _, rfl, rfl, HLN, Lib.hid (.inl rfl), HOF2, HA, HS, HB, hs⟩
      case round =>
        clear HLN HOF2 HA HS HB hs
        obtain ⟨j, cur, seen, q1, c1, hj, rfl, rfl, HLN, HJ, HOF, HA, HS, HB, hs⟩ := hrel
        have hB := HB.out.size
        have hcell := HCL.out _ HB.out
        by_cases hjl : j < m5
        · obtain ⟨b5, off5, rfl, hbw5, hcs⟩ := HAT.out.cell hjl
          have hcj := (HB.out.cell hbw5).trans (hcs j hjl)
          have HC0 := Lib.hid (fun X (hX : Below W.heap.size W X) => (hX.cell hbw5).trans (hcs 0 (by omega)))
          have HOF3 := Lib.hid (show ofR (idL m1) [] (flat L) = ofR cur seen ((gv b j, b.headD 0) :: (withHead b (b.drop (j + 1)) ++ flat (L.drop (k + 1)))) by
            rw [HOF.out, withHead_drop (some_gv (by rw [← HM5.out]; exact hjl))]; rfl)
          have HJ0 := Lib.hid (show j = 0 → gv b j = b.headD 0 from fun e => by rw [e, headD_gv])
          have HHD := Lib.hid (headD_gv b)
          rw [← HHD.out] at HC0
          generalize gv b j = x at hcj HOF3 HJ0
          generalize b.headD 0 = hd at HC0 HOF3 HJ0 HJ HHD
          have HH := Lib.hid (there_calls x HA.out)
          clear hcs HOF
          cases ex : okL cur x
          · have HRES := Lib.hid (show ofR (idL m1) [] (flat L) = ([], 1) by rw [HOF3.out, ofR_bad (by rw [← okL_okB]; exact ex)])
            rw [ex] at HH
            clear HOF3
            go_wp2_with (fail)
            go_at_call 16
            refine HH.out.mono ?_
            rintro e w3 ⟨rfl, rfl⟩
            go_wp2
            go_ret2
            exact ⟨HB.out, .inr ⟨by rw [HRES.out]; decide, by rw [HRES.out]; rfl⟩⟩
          · rw [ex] at HH
            have hx0 := okL_iff.1 ex
            rw [HLN.out] at hx0
            have HOKX := Lib.hid ex
            clear ex
            obtain ⟨x, rfl⟩ := Int.eq_ofNat_of_zero_le hx0.1
            have hxn : x < m1 := by omega
            have hcb := HS.out.cell hxn
            have hfz := HS.out.frozen x
            by_cases hin : (x : Int) ∈ seen
            · rw [decide_eq_true hin] at hcb
              have HRES := Lib.hid (show ofR (idL m1) [] (flat L) = ([], 7) by rw [HOF3.out, ofR_dup (by rw [← okL_okB]; exact HOKX.out) hin])
              clear HOF3 hin
              go_wp2_with (fail)
              go_at_call 16
              refine HH.out.mono ?_
              rintro e w3 ⟨rfl, rfl⟩
              go_wp2
              go_ret2
              exact ⟨HB.out, .inr ⟨by rw [HRES.out]; decide, by rw [HRES.out]; rfl⟩⟩
            · rw [decide_eq_false hin] at hcb
              have HOF4 := Lib.hid (HOF3.out.trans (ofR_step (by rw [← okL_okB]; exact HOKX.out) hin))
              have HHD2 := Lib.hid (show okB cur hd = true by
                rcases HJ.out with h | h
                · rw [← HJ0.out h, ← okL_okB]; exact HOKX.out
                · exact h)
              have hh0 := okB_iff.1 HHD2.out
              rw [HLN.out] at hh0
              obtain ⟨hd, rfl⟩ := Int.eq_ofNat_of_zero_le hh0.1
              have hhn : hd < m1 := by omega
              have HS2 := Lib.hid (HS.out.set hxn)
              have HK2 := Lib.hid (kset wr w1.heap.size x (.bool true))
              have HB2 := Lib.hid (HB.out.trans (HK2.out.below (B := W.heap.size) (fun k hk => by omega) hB))
              have HA2 := Lib.hid (HA.out.kept HK2.out (fun b hb => .inr hb))
              have hc0 := HC0.out _ HB2.out
              have hc0w := HC0.out _ HB.out
              have hcell2 := HCL.out _ HB2.out
              rw [Nat.add_zero] at hc0 hc0w
              have hb5n : b5 ≠ w1.heap.size := by omega
              have hbon : bo ≠ w1.heap.size := by omega
              have hsz2 : (wr.setCell ⟨w1.heap.size, x, none⟩ (.bool true)).heap.size = wr.heap.size := by simp
              have HMG := Lib.hid (rjoin_calls (M := fun k => M k ∨ k = w1.heap.size) (a := hd) (b := x) hhn hxn HA2.out (fun k hk => by
                rcases hk with hk | hk
                · have := HM.out k hk; omega
                · omega))
              have HLJ := Lib.hid (show (joinL cur hd x).length = m1 by rw [joinL_len, HLN.out])
              rw [Int.toNat_natCast, Int.toNat_natCast] at HOF4
              clear HOF3 hin hx0 hh0 HS HA HC0
              go_wp2_with (first | (go_at_call 16; refine HH.out.mono ?_; rintro e w3 ⟨rfl, rfl⟩) | fail)
              go_at_call 18
              refine HMG.out.mono ?_
              rintro e w4 ⟨q4, m4, c4, rfl, h1, h2⟩
              have hm4 : m4 = m1 := h1.all.1.trans HLJ.out
              subst hm4
              have HA3 := Lib.hid h1
              have HS3 := Lib.hid (HS2.out.below h2)
              have HB3 := Lib.hid (HB2.out.trans (h2.mono (by omega)))
              have hs3 := h2.size
              clear h1 h2 HMG HS2 HA2 HB2 hc0 hc0w hcell2
              go_wp2
              go_roundw
              case rel => exact ⟨j + 1, joinL cur hd x, (x : Int) :: seen, q4, c4, by omega, by go_num, rfl, HLJ, Lib.hid (.inr (by rw [okB_len (joinL_len cur hd x)]; exact HHD2.out)), HOF4, HA3, HS3, HB3, by omega⟩
              case measure => simp [intOf]; omega
        · obtain rfl : j = m5 := by omega
          have HOF3 := Lib.hid (show ofR (idL m1) [] (flat L) = ofR cur seen (flat (L.drop (k + 1))) by
            rw [HOF.out, HM5.out, withHead_end]; rfl)
          go_wp2
          go_roundw
          case rel => exact ⟨k + 1, cur, seen, q1, c1, by omega, by go_num, rfl, HLN, HOF3, HA, HS, HB, hs⟩
          case measure => simp [intOf]; omega
    · obtain rfl : k = m := by omega
      have HRES := Lib.hid (show ofR (idL m1) [] (flat L) = (cur, 0) by rw [HOF.out, HL.out.all.1, flat_end]; rfl)
      go_wp2
      go_ret2
      exact ⟨HB.out, .inl ⟨by rw [HRES.out], q1, _, c1, rfl, by rw [HRES.out]; exact HA.out.more (fun b _ h => .inl h)⟩⟩
end Go.Proofs.Ytjlpjdpaingnkaa.pt
