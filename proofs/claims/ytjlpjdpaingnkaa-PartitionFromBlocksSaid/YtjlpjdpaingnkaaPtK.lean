/-
  The law's same: a partition agrees with its list of representatives.
-/
import Derived.Test.YtjlpjdpaingnkaaPtF
set_option linter.unusedSimpArgs false
set_option linter.unusedVariables false
namespace Go.Proofs.Ytjlpjdpaingnkaa.pt
open Go.RowKit Go.Own Go.Pt Go.Rw
set_option maxHeartbeats 4000000
set_option maxRecDepth 100000

theorem same_calls {M : Nat → Prop} {P g m c : Nat} {q : Option Addr} {w : List Int} {W : World} (h : Pt P g w W) (hat : At M q m c w W) (hMg : M g) :
    Calls Try.prog 14 #[.pointer (some ⟨P, 0, none⟩), .slice q m c] W fun e w' => e = .returned (.bool true) ∧ Eff P g w W w' := by
  have HL := Lib.hid (len_pt h)
  have HN := Lib.hid (num_pt h)
  have HB := Lib.hid (fun X (hX : At M q m c w X) => rblocks_calls (M := fun _ => False) hX (fun _ h => h.elim))
  have HBK := Lib.hid (fun X (hX : Pt P g w X) => blocks_calls (M := fun _ => False) hX (fun _ h => h.elim))
  have HA := Lib.hid hat
  have HMG := Lib.hid hMg
  have HR := Lib.hid h.rep
  have HP := Lib.hid h
  have hm := hat.all.2.1
  have HML := Lib.hid hat.all.1
  have HBT := Lib.hid (show (blocksL w).length = (heads w w.length).length from blocksTo_len _ _)
  have hnn : ¬ ((w.length : Int) ≠ (m : Int)) := by have := HML.out; omega
  rw [← HML.out] at HL HN
  clear h hat hMg
  go_enter Try.func14, Try.ntmps14
  go_wp2_with (fail)
  go_at_call 37
  refine HL.out.mono ?_
  rintro e w1 ⟨rfl, rfl⟩
  go_wp2_with (fail)
  go_at_call 36
  refine HN.out.mono ?_
  rintro e w1 ⟨rfl, rfl⟩
  go_wp2_with (fail)
  go_at_call 39
  refine (HB.out _ HA.out).mono ?_
  rintro e w1 ⟨q1, m1, c1, rfl, h1, h2⟩
  have HA1 := Lib.hid (HA.out.below h2)
  have HE1 : Hid (Eff P g w W w1) := Lib.hid ⟨HP.out.below h2, KeptBut.of_below h2⟩
  have hm1 : m1 = (heads w m).length := by rw [h1.all.1, HBT.out, HML.out]
  clear h1 h2
  subst hm1
  go_wp2_with (fail)
  go_at_call 25
  refine (HBK.out _ HE1.out.pt).mono ?_
  rintro e w2 ⟨q2, m2, c2, rfl, h1, h2⟩
  have HA2 := Lib.hid (HA1.out.kept h2.kept (fun b hb => by rw [hb]; exact HMG.out))
  have HE2 := Lib.hid (HE1.out.trans h2)
  have HL2 := Lib.hid h1
  clear h1 h2 HA1 HE1
  go_wp2_with (fail)
  go_at_call 39
  refine (HB.out _ HA2.out).mono ?_
  rintro e w3 ⟨q3, m3, c3, rfl, h1, h2⟩
  have HA3 := Lib.hid (HA2.out.below h2)
  have HE3 : Hid (Eff P g w W w3) := Lib.hid ⟨HE2.out.pt.below h2, HE2.out.kept.trans (KeptBut.of_below h2)⟩
  have HQ := Lib.hid (alike_calls (HL2.out.below h2) h1)
  rw [decide_eq_true rfl] at HQ
  clear h1 h2 HA2 HE2 HL2
  go_wp2_with (fail)
  go_at_call 38
  refine HQ.out.mono ?_
  rintro e w4 ⟨rfl, h2⟩
  have HA4 := Lib.hid (HA3.out.below h2)
  have HE4 : Hid (Eff P g w W w4) := Lib.hid ⟨HE3.out.pt.below h2, HE3.out.kept.trans (KeptBut.of_below h2)⟩
  clear h2 HA3 HE3 HQ
  go_wp2
  go_loopw [5, 6, 7] (fun i _ _ wr => ∃ k : Nat, k ≤ m ∧ i = .int .i64 k ∧ Hid (Eff P g w W wr)) (fun i _ _ _ => m - (intOf i).toNat)
  case atStart => exact ⟨0, Nat.zero_le _, rfl, HE4⟩
  case round =>
    obtain ⟨k, hk, rfl, HE⟩ := hrel
    by_cases hlt : k < m
    · have hkw : k < w.length := by have := HML.out; omega
      have HF := Lib.hid (find_pt hkw HE.out.pt)
      clear hkw
      go_wp2_with (fail)
      go_at_call 20
      refine HF.out.mono ?_
      rintro e w5 ⟨rfl, h1⟩
      have HE5 := Lib.hid (HE.out.trans h1)
      clear h1 HE HF
      have HA5 := Lib.hid (HA.out.kept HE5.out.kept (fun b hb => by rw [hb]; exact HMG.out))
      obtain ⟨b, off, rfl, hbw, hcs⟩ := HA5.out.cell hlt
      have HSZ := Lib.hid (fun X (hX : Pt P g w X) => size_pt (a := k) (by have := HML.out; omega) hX)
      have HBL := Lib.hid (fun (x : Int) X (hX : At M (some ⟨b, off, none⟩) m c w X) => block_calls (M := fun _ => False) x hX (fun _ h => h.elim))
      have hld : ∀ w', Eff P g w w5 w' → w'.cell? ⟨b, off + k, none⟩ = some (.int .i64 (gv w k)) := fun w' hw' => by
        obtain ⟨b', off', e1, _, hc⟩ := (HA5.out.kept hw'.kept (fun b hb => by rw [hb]; exact HMG.out)).cell hlt
        cases e1
        exact hc k hlt
      have HKA := Lib.hid (fun w' (hw' : Eff P g w w5 w') => HA5.out.kept hw'.kept (fun b hb => by rw [hb]; exact HMG.out))
      clear hcs
      generalize hx : gv w k = x at hld HSZ ⊢
      have hxx : (x != x) = false := by simp
      go_wp2
      have hbd : Below w5.heap.size w5 w5.drew := (Below.refl _ _).drew
      have HEd : Hid (Eff P g w w5 w5.drew) := Lib.hid ⟨HE5.out.pt.below hbd, KeptBut.of_below hbd⟩
      have hagg3 : ∀ w, (isAgg 3).run Try.prog w = .ok false w := fun w => by unfold isAgg; rw [Sem.run_bind, run_underlying Try.underlying3 w]; rfl
      refine wp_region_plan (Eff P g w w5) [([0, 1, 2, 3, 4, 5, 6, 7, 8, 9, 10, 11, 12, 14, 15, 16, 17, 18], 13), ([], 19)] [20, 21, 22] (by kernel_rfl) (by kernel_rfl) (by intro _ _ d _ _ h; cases d <;> exact h) HEd.out ?_
      simp only [wpSegs, pick, List.filterMap, List.size_toArray, List.getElem?_toArray, List.getElem?_cons_zero, List.getElem?_cons_succ]
      go_big_quiet_step (exact fun _ => rfl)
      go_big_quiet_step (exact fun _ => rfl)
      go_big_quiet_step (exact fun _ => rfl)
      go_big_quiet_step (exact fun _ => rfl)
      refine wpQuiet_load_one (by kernel_rfl) 3 (.tmp 48) rfl ⟨b, off + k, none⟩ (.int .i64 x) rfl hld hagg3 ?_
      simp only [Act.put, List.setIfInBounds_toArray, List.set_cons_succ, List.set_cons_zero]
      go_big_quiet_step (exact fun _ => rfl)
      go_big_quiet_step (exact fun _ => rfl)
      go_big_quiet_step (exact fun _ => rfl)
      go_big_quiet_step (exact fun _ => rfl)
      go_big_quiet_step (exact fun _ => rfl)
      go_big_quiet_step (exact fun _ => rfl)
      go_big_quiet_step (exact fun _ => rfl)
      go_big_quiet_step (exact fun _ => rfl)
      go_big_quiet_step (exact fun _ => rfl)
      go_big_quiet_step (exact fun _ => rfl)
      go_big_quiet_step (exact fun _ => rfl)
      go_big_quiet_step (exact fun _ => rfl)
      refine wpQuiet_load_one (by kernel_rfl) 3 (.tmp 62) rfl ⟨b, off + k, none⟩ (.int .i64 x) rfl hld hagg3 ?_
      simp only [Act.put, List.setIfInBounds_toArray, List.set_cons_succ, List.set_cons_zero]
      refine wpQuiet_nil ?_
      go_wp2_with (go_at_call 21; refine (HSZ.out _ HEd.out.pt).mono ?_; rintro e w6 ⟨rfl, h1⟩)
      have HE6 := Lib.hid (HEd.out.trans h1)
      clear h1
      refine And.intro HE6.out (wpQuiet_nil ?_)
      go_wp2_with (go_at_call 22; refine (HBL.out x _ (HKA.out _ HE6.out)).mono ?_; rintro e w7 ⟨q7, m7, c7, rfl, h1, h2⟩)
      have HE7 : Hid (Eff P g w w5 w7) := Lib.hid ⟨HE6.out.pt.below h2, HE6.out.kept.trans (KeptBut.of_below h2)⟩
      have hm7 : m7 = (blockL w x).length := h1.all.1
      subst hm7
      clear h1 h2
      refine And.intro HE7.out ?_
      have HEE := Lib.hid (HE5.out.trans HE7.out)
      go_wp2
      repeat (go_big_quiet_step (exact fun _ => rfl))
      refine wpQuiet_nil ?_
      go_wp2
      exact ⟨⟨k + 1, by omega, by go_num, HEE⟩, by simp [intOf]; omega⟩
    · obtain rfl : k = m := by omega
      go_wp2
      go_ret
      exact ⟨rfl, HE.out⟩
end Go.Proofs.Ytjlpjdpaingnkaa.pt
