/-
  Lists and lists of lists compared; the reference's Blocks.
-/
import Derived.Test.YtjlpjdpaingnkaaPtB
set_option linter.unusedSimpArgs false
set_option linter.unusedVariables false
namespace Go.Proofs.Ytjlpjdpaingnkaa.pt
open Go.RowKit Go.Own Go.Pt Go.Rw
set_option maxHeartbeats 4000000
set_option maxRecDepth 100000

theorem take_eq_step {l p : List Int} {k : Nat} (h1 : k < l.length) (h2 : k < p.length) (h : l.take k = p.take k) (e : gv l k = gv p k) : l.take (k + 1) = p.take (k + 1) := by
  rw [List.take_add_one, List.take_add_one, h, some_gv h1, some_gv h2, e]
theorem rsame_calls {M M' : Nat → Prop} {q q2 : Option Addr} {m c m2 c2 : Nat} {l p : List Int} {W : World} (h : At M q m c l W) (h2 : At M' q2 m2 c2 p W) :
    Calls Try.prog 49 #[.slice q m c, .slice q2 m2 c2] W fun e w' => e = .returned (.bool (decide (l = p))) ∧ Below W.heap.size W w' := by
  have HA := Lib.hid h; clear h
  have HA2 := Lib.hid h2; clear h2
  have hm := HA.out.all.2.1
  have hm2 := HA2.out.all.2.1
  by_cases hmm : m = m2
  · subst hmm
    go_enter Try.func49, Try.ntmps49
    go_wp2
    go_loopw [5] (fun i wr => ∃ k : Nat, k ≤ m ∧ i = .int .i64 k ∧ Hid (l.take k = p.take k) ∧ Hid (Below W.heap.size W wr)) (fun i _ => m - (intOf i).toNat)
    case atStart => exact ⟨0, Nat.zero_le _, rfl, Lib.hid rfl, Lib.hid (by repeat (first | assumption | exact Below.refl _ _ | exact below_beyond _ _ | refine Below.beyond ?_ (by (try simp [size_beyond]) <;> omega) _ | refine Below.drew ?_ | refine Go.Rw.below_drewN ?_ _ | refine Go.Rw.below_setRow ?_ (by (try simp [size_beyond]) <;> omega) _ | refine Below.alloc ?_ (by (try simp [size_beyond]) <;> omega) _ | refine Below.setCell ?_ (by (try simp [size_beyond]) <;> omega) _))⟩
    case round =>
      obtain ⟨k, hk, rfl, HT, HB⟩ := hrel
      by_cases hlt : k < m
      · obtain ⟨b, off, rfl, hbw, hcs⟩ := HA.out.cell hlt
        obtain ⟨b2, off2, rfl, hbw2, hcs2⟩ := HA2.out.cell hlt
        have hc := (HB.out.cell hbw).trans (hcs k hlt)
        have hc2 := (HB.out.cell hbw2).trans (hcs2 k hlt)
        have HL1 := Lib.hid (show k < l.length by rw [← HA.out.all.1]; exact hlt)
        have HL2 := Lib.hid (show k < p.length by rw [← HA2.out.all.1]; exact hlt)
        have HS := Lib.hid (fun e => take_eq_step HL1.out HL2.out HT.out e)
        have HN := Lib.hid (show gv l k ≠ gv p k → decide (l = p) = false from fun e => decide_eq_false (fun h => e (by rw [h])))
        clear hcs hcs2
        have HBS := HB.out
        generalize gv l k = x at hc HS HN
        generalize gv p k = y at hc2 HS HN
        by_cases e : x = y
        · subst e
          have HS2 := Lib.hid (HS.out rfl); clear HS HN
          go_wp2
          go_quiet (fail)
          go_wp2
          go_roundw
          case rel => exact ⟨k + 1, by omega, by go_num, HS2, Lib.hid (by repeat (first | assumption | exact Below.refl _ _ | exact below_beyond _ _ | refine Below.beyond ?_ (by (try simp [size_beyond]) <;> omega) _ | refine Below.drew ?_ | refine Go.Rw.below_drewN ?_ _ | refine Go.Rw.below_setRow ?_ (by (try simp [size_beyond]) <;> omega) _ | refine Below.alloc ?_ (by (try simp [size_beyond]) <;> omega) _ | refine Below.setCell ?_ (by (try simp [size_beyond]) <;> omega) _))⟩
          case measure => simp [intOf]; omega
        · have HN2 := Lib.hid (HN.out e); clear HN HS
          go_wp2
          go_quiet (fail)
          go_wp2
          go_ret
          exact ⟨ret_bool HN2.out.symm, (by repeat (first | assumption | exact Below.refl _ _ | exact below_beyond _ _ | refine Below.beyond ?_ (by (try simp [size_beyond]) <;> omega) _ | refine Below.drew ?_ | refine Go.Rw.below_drewN ?_ _ | refine Go.Rw.below_setRow ?_ (by (try simp [size_beyond]) <;> omega) _ | refine Below.alloc ?_ (by (try simp [size_beyond]) <;> omega) _ | refine Below.setCell ?_ (by (try simp [size_beyond]) <;> omega) _))⟩
      · obtain rfl : k = m := by omega
        have HD := Lib.hid (show decide (l = p) = true from decide_eq_true (by
          have := HT.out
          rwa [List.take_of_length_le (by rw [← HA.out.all.1]; exact Nat.le_refl _), List.take_of_length_le (by rw [← HA2.out.all.1]; exact Nat.le_refl _)] at this))
        go_wp2
        go_ret
        exact ⟨ret_bool HD.out.symm, HB.out⟩
  · have HD := Lib.hid (show decide (l = p) = false from decide_eq_false (fun h => hmm (by rw [HA.out.all.1, HA2.out.all.1, h])))
    have hne : ¬ (m : Int) = (m2 : Int) := by omega
    go_enter Try.func49, Try.ntmps49
    go_wp2
    go_ret
    exact ⟨ret_bool HD.out.symm, Below.refl _ _⟩
theorem equalS_calls {M M' : Nat → Prop} {q q2 : Option Addr} {m c m2 c2 : Nat} {l p : List Int} {W : World} (h : At M q m c l W) (h2 : At M' q2 m2 c2 p W) :
    Calls Try.prog 43 #[.slice q m c, .slice q2 m2 c2] W fun e w' => e = .returned (.bool (decide (l = p))) ∧ Below W.heap.size W w' := by
  have HA := Lib.hid h; clear h
  have HA2 := Lib.hid h2; clear h2
  have hm := HA.out.all.2.1
  have hm2 := HA2.out.all.2.1
  by_cases hmm : m = m2
  · subst hmm
    go_enter Try.func43, Try.ntmps43
    go_wp2
    go_loopw [5, 13] (fun _ i wr => ∃ k : Nat, k ≤ m ∧ i = .int .i64 k ∧ Hid (l.take k = p.take k) ∧ Hid (Below W.heap.size W wr)) (fun _ i _ => m - (intOf i).toNat)
    case atStart => exact ⟨0, Nat.zero_le _, rfl, Lib.hid rfl, Lib.hid (by repeat (first | assumption | exact Below.refl _ _ | exact below_beyond _ _ | refine Below.beyond ?_ (by (try simp [size_beyond]) <;> omega) _ | refine Below.drew ?_ | refine Go.Rw.below_drewN ?_ _ | refine Go.Rw.below_setRow ?_ (by (try simp [size_beyond]) <;> omega) _ | refine Below.alloc ?_ (by (try simp [size_beyond]) <;> omega) _ | refine Below.setCell ?_ (by (try simp [size_beyond]) <;> omega) _))⟩
    case round =>
      obtain ⟨k, hk, rfl, HT, HB⟩ := hrel
      by_cases hlt : k < m
      · obtain ⟨b, off, rfl, hbw, hcs⟩ := HA.out.cell hlt
        obtain ⟨b2, off2, rfl, hbw2, hcs2⟩ := HA2.out.cell hlt
        have hc := (HB.out.cell hbw).trans (hcs k hlt)
        have hc2 := (HB.out.cell hbw2).trans (hcs2 k hlt)
        have HL1 := Lib.hid (show k < l.length by rw [← HA.out.all.1]; exact hlt)
        have HL2 := Lib.hid (show k < p.length by rw [← HA2.out.all.1]; exact hlt)
        have HS := Lib.hid (fun e => take_eq_step HL1.out HL2.out HT.out e)
        have HN := Lib.hid (show gv l k ≠ gv p k → decide (l = p) = false from fun e => decide_eq_false (fun h => e (by rw [h])))
        clear hcs hcs2
        have HBS := HB.out
        generalize gv l k = x at hc HS HN
        generalize gv p k = y at hc2 HS HN
        by_cases e : x = y
        · subst e
          have HS2 := Lib.hid (HS.out rfl); clear HS HN
          go_wp2
          go_quiet (fail)
          go_wp2
          go_roundw
          case rel => exact ⟨k + 1, by omega, by go_num, HS2, Lib.hid (by repeat (first | assumption | exact Below.refl _ _ | exact below_beyond _ _ | refine Below.beyond ?_ (by (try simp [size_beyond]) <;> omega) _ | refine Below.drew ?_ | refine Go.Rw.below_drewN ?_ _ | refine Go.Rw.below_setRow ?_ (by (try simp [size_beyond]) <;> omega) _ | refine Below.alloc ?_ (by (try simp [size_beyond]) <;> omega) _ | refine Below.setCell ?_ (by (try simp [size_beyond]) <;> omega) _))⟩
          case measure => simp [intOf]; omega
        · have HN2 := Lib.hid (HN.out e); clear HN HS
          go_wp2
          go_quiet (fail)
          go_wp2
          go_ret
          exact ⟨ret_bool HN2.out.symm, (by repeat (first | assumption | exact Below.refl _ _ | exact below_beyond _ _ | refine Below.beyond ?_ (by (try simp [size_beyond]) <;> omega) _ | refine Below.drew ?_ | refine Go.Rw.below_drewN ?_ _ | refine Go.Rw.below_setRow ?_ (by (try simp [size_beyond]) <;> omega) _ | refine Below.alloc ?_ (by (try simp [size_beyond]) <;> omega) _ | refine Below.setCell ?_ (by (try simp [size_beyond]) <;> omega) _))⟩
      · obtain rfl : k = m := by omega
        have HD := Lib.hid (show decide (l = p) = true from decide_eq_true (by
          have := HT.out
          rwa [List.take_of_length_le (by rw [← HA.out.all.1]; exact Nat.le_refl _), List.take_of_length_le (by rw [← HA2.out.all.1]; exact Nat.le_refl _)] at this))
        go_wp2
        go_ret
        exact ⟨ret_bool HD.out.symm, HB.out⟩
  · have HD := Lib.hid (show decide (l = p) = false from decide_eq_false (fun h => hmm (by rw [HA.out.all.1, HA2.out.all.1, h])))
    have hne : ¬ (m : Int) = (m2 : Int) := by omega
    go_enter Try.func43, Try.ntmps43
    go_wp2
    go_ret
    exact ⟨ret_bool HD.out.symm, Below.refl _ _⟩
theorem takeL_step {L L' : List (List Int)} {k : Nat} {l l' : List Int} (h1 : L[k]? = some l) (h2 : L'[k]? = some l') (h : L.take k = L'.take k) (e : l = l') : L.take (k + 1) = L'.take (k + 1) := by
  rw [List.take_add_one, List.take_add_one, h, h1, h2, e]
theorem alike_calls {M M' : Nat → Prop} {s s' : Prop} {q q2 : Option Addr} {m c m2 c2 : Nat} {L L' : List (List Int)} {W : World} (h : LsAt M s q m c L W) (h2 : LsAt M' s' q2 m2 c2 L' W) :
    Calls Try.prog 38 #[.slice q m c, .slice q2 m2 c2] W fun e w' => e = .returned (.bool (decide (L = L'))) ∧ Below W.heap.size W w' := by
  have HA := Lib.hid h; clear h
  have HA2 := Lib.hid h2; clear h2
  have hm := HA.out.all.2.1
  have hm2 := HA2.out.all.2.1
  by_cases hmm : m = m2
  · subst hmm
    go_enter Try.func38, Try.ntmps38
    go_wp2
    go_loopw [5] (fun i wr => ∃ k : Nat, k ≤ m ∧ i = .int .i64 k ∧ Hid (L.take k = L'.take k) ∧ Hid (Below W.heap.size W wr)) (fun i _ => m - (intOf i).toNat)
    case atStart => exact ⟨0, Nat.zero_le _, rfl, Lib.hid rfl, Lib.hid (by repeat (first | assumption | exact Below.refl _ _ | exact below_beyond _ _ | refine Below.beyond ?_ (by (try simp [size_beyond]) <;> omega) _ | refine Below.drew ?_ | refine Go.Rw.below_drewN ?_ _ | refine Go.Rw.below_setRow ?_ (by (try simp [size_beyond]) <;> omega) _ | refine Below.alloc ?_ (by (try simp [size_beyond]) <;> omega) _ | refine Below.setCell ?_ (by (try simp [size_beyond]) <;> omega) _))⟩
    case round =>
      obtain ⟨k, hk, rfl, HT, HB⟩ := hrel
      by_cases hlt : k < m
      · obtain ⟨l, hl⟩ : ∃ l, L[k]? = some l := ⟨_, List.getElem?_eq_getElem (by rw [← HA.out.all.1]; exact hlt)⟩
        obtain ⟨l', hl'⟩ : ∃ l, L'[k]? = some l := ⟨_, List.getElem?_eq_getElem (by rw [← HA2.out.all.1]; exact hlt)⟩
        obtain ⟨b, off, q3, m3, c3, rfl, hbw, hc, i3⟩ := HA.out.cell hl
        obtain ⟨b2, off2, q4, m4, c4, rfl, hbw2, hc2, i4⟩ := HA2.out.cell hl'
        have hc3 := (HB.out.cell hbw).trans hc
        have hc4 := (HB.out.cell hbw2).trans hc2
        have hin3 : inW b wr = true := inW_iff.2 (Nat.lt_of_lt_of_le hbw HB.out.size)
        have hin4 : inW b2 wr = true := inW_iff.2 (Nat.lt_of_lt_of_le hbw2 HB.out.size)
        have HC := Lib.hid (fun x => (rsame_calls ((i3.below HB.out |>.below (below_beyond wr x))) ((i4.below HB.out).below (below_beyond wr x))).mono (fun e w' hh => (⟨hh.1, beyond_of hh.2⟩ : _ ∧ ∃ y, w' = beyond (beyond wr x) y)))
        have HS := Lib.hid (fun e => takeL_step hl hl' HT.out e)
        have HN := Lib.hid (show l ≠ l' → decide (L = L') = false from fun e => decide_eq_false (fun h => e (by rw [h, hl'] at hl; cases hl; rfl)))
        have HBS := HB.out
        clear hc hc2 hl hl' i3 i4
        by_cases e : l = l'
        · have HS2 := Lib.hid (HS.out e); clear HS HN
          rw [decide_eq_true e] at HC
          go_wp2
          refine wp_region_beyond (by kernel_rfl) (by kernel_rfl) ?_
          repeat (go_big_quiet_step ((go_at_call 49; exact quiet_beyond (HC.out _))))
          refine wpQuiet_nil ?_
          rintro _ ⟨x5, rfl⟩
          have HB5 := Lib.hid (HBS.trans ((below_beyond wr x5).mono HBS.size))
          go_wp2
          go_roundw
          case rel => exact ⟨k + 1, by omega, by go_num, HS2, HB5⟩
          case measure => simp [intOf]; omega
        · have HN2 := Lib.hid (HN.out e); clear HN HS
          rw [decide_eq_false e] at HC
          go_wp2
          refine wp_region_beyond (by kernel_rfl) (by kernel_rfl) ?_
          repeat (go_big_quiet_step ((go_at_call 49; exact quiet_beyond (HC.out _))))
          refine wpQuiet_nil ?_
          rintro _ ⟨x5, rfl⟩
          have HB5 := Lib.hid (HBS.trans ((below_beyond wr x5).mono HBS.size))
          go_wp2
          go_ret
          exact ⟨ret_bool HN2.out.symm, HB5.out⟩
      · obtain rfl : k = m := by omega
        have HD := Lib.hid (show decide (L = L') = true from decide_eq_true (by
          have := HT.out
          rwa [List.take_of_length_le (by rw [← HA.out.all.1]; exact Nat.le_refl _), List.take_of_length_le (by rw [← HA2.out.all.1]; exact Nat.le_refl _)] at this))
        go_wp2
        go_ret
        exact ⟨ret_bool HD.out.symm, HB.out⟩
  · have HD := Lib.hid (show decide (L = L') = false from decide_eq_false (fun h => hmm (by rw [HA.out.all.1, HA2.out.all.1, h])))
    have hne : ¬ (m : Int) = (m2 : Int) := by omega
    go_enter Try.func38, Try.ntmps38
    go_wp2
    go_ret
    exact ⟨ret_bool HD.out.symm, Below.refl _ _⟩
theorem rblocks_calls {M M' : Nat → Prop} {q : Option Addr} {m c : Nat} {l : List Int} {W : World} (h : At M' q m c l W) (hM : ∀ k, M k → k < W.heap.size) :
    Calls Try.prog 39 #[.slice q m c] W (RetL M W (blocksL l)) := by
  obtain ⟨j0, hj, hy0, hy1, hy2⟩ := info_parts sI
  have Hj := Lib.hid hj; clear hj
  have HM := Lib.hid hM; clear hM
  have HA := Lib.hid h; clear h
  have hm := HA.out.all.2.1
  have HL := Lib.hid (show blocksL l = blocksTo l m by unfold blocksL; rw [← HA.out.all.1])
  rw [HL.out]
  go_enter Try.func39, Try.ntmps39
  go_wp2
  go_loopw [3, 4] (fun v i wr => ∃ k : Nat, k ≤ m ∧ i = .int .i64 k ∧ ∃ vs, Hid (wr.ownsRow W.heap.size 23 1 v (blocksTo l k).length vs) ∧ Hid (Held M v (blocksTo l k) vs wr) ∧ Hid (Below W.heap.size W wr)) (fun _ i _ => m - (intOf i).toNat)
  case atStart => exact ⟨0, Nat.zero_le _, rfl, [], Lib.hid (World.ownsRow_nil _ _ _ _), Lib.hid (held_nil _ _ _), Lib.hid (by repeat (first | assumption | exact Below.refl _ _ | exact below_beyond _ _ | refine Below.beyond ?_ (by (try simp [size_beyond]) <;> omega) _ | refine Below.drew ?_ | refine Go.Rw.below_drewN ?_ _ | refine Go.Rw.below_setRow ?_ (by (try simp [size_beyond]) <;> omega) _ | refine Below.alloc ?_ (by (try simp [size_beyond]) <;> omega) _ | refine Below.setCell ?_ (by (try simp [size_beyond]) <;> omega) _))⟩
  case round =>
    obtain ⟨k, hk, rfl, vs, HV, HH, HB⟩ := hrel
    have hsz := HB.out.size
    have hbt := blocksTo_len l k
    have hbl := heads_len l k
    by_cases hlt : k < m
    · obtain ⟨b, off, rfl, hbw, hcs⟩ := HA.out.cell hlt
      have hc := (HB.out.cell hbw).trans (hcs k hlt)
      have HS := Lib.hid (blocksTo_snoc l k)
      clear hcs
      by_cases e0 : gv l k = k
      · rw [e0] at hc
        have HC := Lib.hid (block_calls (M := fun b => M b ∨ u3.ownBlock = some b) (k : Int) (HA.out.below HB.out) (fun b hb => by
          rcases hb with hb | hb
          · have := HM.out b hb; omega
          · exact (HV.out.lt b hb).2))
        have HBL := Lib.hid (show blockL l (k : Int) = blockL l (k : Int) from rfl)
        go_wp2_with (fail)
        go_at_call 22
        refine HC.out.mono ?_
        rintro e w1 ⟨q1, m1, c1, rfl, i1, b1⟩
        have HV1 := Lib.hid (owns_below HV.out b1)
        have HH1 := Lib.hid (HH.out.below b1)
        have HI1 := Lib.hid i1
        have HB1 := Lib.hid (HB.out.trans (b1.mono hsz))
        have hs1 := HB1.out.size
        clear i1 b1 HV HH HB HC
        go_wp2_with (first
          | (refine wpList_build1 rfl _ rfl q1 m1 c1 rfl ?_)
          | (at_builtin; refine wpList_append_own_at _ rfl _ _ 47 rfl _ 23 j0 (.slice none 0 0) 1 24 llU Hj.out hy0 hy1 hy2 rfl (by decide) _ _ _ rfl (HV1.out.alloc _) ⟨w1.heap.size, 0, none⟩ 1 1 [.slice q1 m1 c1] rfl rfl (cell_one_new _ _ _) (by intro u hu; simp at hu; subst hu; rfl) (by unfold maxLen; omega) (by omega) (by simp; omega) ?_; intro v' w3 hown' hgrow hnil hloc))
        have hbA : Below w1.heap.size w1 (w1.alloc (.cells #[.slice q1 m1 c1] 23)) := (by repeat (first | assumption | exact Below.refl _ _ | exact below_beyond _ _ | refine Below.beyond ?_ (by (try simp [size_beyond]) <;> omega) _ | refine Below.drew ?_ | refine Go.Rw.below_drewN ?_ _ | refine Go.Rw.below_setRow ?_ (by (try simp [size_beyond]) <;> omega) _ | refine Below.alloc ?_ (by (try simp [size_beyond]) <;> omega) _ | refine Below.setCell ?_ (by (try simp [size_beyond]) <;> omega) _))
        have HH3 := Lib.hid ((HH1.out.below hbA).snoc (HI1.out.below hbA) hgrow hloc)
        have HB3 := Lib.hid ((HB1.out.trans (hbA.mono hs1)).grown hgrow (by simp; omega) (fun r hr => (HV1.out.lt r hr).1))
        have HV3 := Lib.hid hown'
        clear hown' hgrow hnil hloc hbA
        go_wp2
        go_roundw
        case rel => exact ⟨k + 1, by omega, by go_num, _, Lib.hid (by rw [HS.out, if_pos e0, List.length_append]; exact HV3.out), Lib.hid (by rw [HS.out, if_pos e0]; exact HH3.out), HB3⟩
        case measure => simp [intOf]; omega
      · have HE := Lib.hid e0
        go_wp2
        go_roundw
        case rel => exact ⟨k + 1, by omega, by go_num, vs, Lib.hid (by rw [HS.out, if_neg HE.out, List.append_nil]; exact HV.out), Lib.hid (by rw [HS.out, if_neg HE.out, List.append_nil]; exact HH.out), HB⟩
        case measure => simp [intOf]; omega
    · obtain rfl : k = m := by omega
      go_wp2
      go_ret
      obtain ⟨q, m, c, rfl, hat⟩ := held_ls HV.out HH.out (by omega) HM.out
      exact ⟨q, m, c, rfl, hat, HB.out⟩
end Go.Proofs.Ytjlpjdpaingnkaa.pt
