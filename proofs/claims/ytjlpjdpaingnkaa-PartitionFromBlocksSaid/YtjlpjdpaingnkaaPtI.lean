/-
  (*Partition).refined.
-/
import Derived.Test.YtjlpjdpaingnkaaPtH
set_option linter.unusedSimpArgs false
set_option linter.unusedVariables false
namespace Go.Proofs.Ytjlpjdpaingnkaa.pt
open Go.RowKit Go.Own Go.Pt Go.Rw Go.Maps Go.WideMaps Go.ChangeShapes Go.ChangeMaps
set_option maxHeartbeats 4000000
set_option maxRecDepth 100000

theorem owns_keep {w w' : World} {P : Program} {k : TypeId} {R : Value → Option (DataW Unit × List MemPlace)} {b n : Nat} {D : DataW Unit} (h : w.ownsMap P k R b n D) (e : w'.heap[b]? = w.heap[b]?) : w'.ownsMap P k R b n D := by
  obtain ⟨es, c, hb, r⟩ := h
  exact ⟨es, c, e.trans hb, r⟩
theorem owns_lt {w : World} {P : Program} {k : TypeId} {R : Value → Option (DataW Unit × List MemPlace)} {b n : Nat} {D : DataW Unit} (h : w.ownsMap P k R b n D) : b < w.heap.size := by
  obtain ⟨es, c, hb, r⟩ := h
  exact (Array.getElem?_eq_some_iff.1 hb).1
theorem owns_kept {w w' : World} {P : Program} {k : TypeId} {R : Value → Option (DataW Unit × List MemPlace)} {b n : Nat} {D : DataW Unit} (h : w.ownsMap P k R b n D) {X : Nat → Prop} (hk : KeptBut X w w') (hX : ¬ X b) : w'.ownsMap P k R b n D := owns_keep h (hk.block b (owns_lt h) hX)
theorem owns_mono {w : World} {P : Program} {k : TypeId} {R : Value → Option (DataW Unit × List MemPlace)} {b n : Nat} {D : DataW Unit} (h : w.ownsMap P k R b n D) : w.ownsMap P k R b (n + 1) D := by
  obtain ⟨es, c, hb, hf, hs, r⟩ := h
  exact ⟨es, c, hb, hf, Nat.le_succ_of_le hs, r⟩
theorem gv_wf {w : List Int} (h : Rep w) (hn : w.length ≤ 4096) (i : Nat) : (Lit.int .i64 (gv w i)).wf = true := by
  refine WalkArith.wf_i64 ?_
  by_cases hi : i < w.length
  · have := h.lo i hi; have := h.le i hi; omega
  · unfold gv; rw [List.getD_eq_getElem?_getD, List.getElem?_eq_none (by omega)]; simp
theorem zeroI (w : World) : (zeroValue 3).run Try.prog w = .ok (.int .i64 0) w := by kernel_rfl
theorem refined_calls {M : Nat → Prop} {P g m c : Nat} {q : Option Addr} {w lab : List Int} {W : World} (h : Pt P g w W) (hat : At M q m c lab W) (hm : m = w.length) (hMg : M g) (hlab : ∀ i, (Lit.int .i64 (gv lab i)).wf = true) :
    Calls Try.prog 46 #[.pointer (some ⟨P, 0, none⟩), .slice q m c] W fun e w' => ∃ g', e = .returned (.slice (some ⟨g', 0, none⟩) w.length w.length) ∧ RowAt g' (byL w lab) w' ∧ W.heap.size ≤ g' ∧ Eff P g w W w' := by
  have hmm := @run_makeMap Try.prog
  obtain ⟨i0, hi, hz0, hz1, hz2⟩ := info_parts tI
  have Hi := Lib.hid hi; clear hi
  have HR := Lib.hid h.rep
  have hn := h.len
  have HPG := Lib.hid (And.intro h.gl h.pl)
  have HLN := Lib.hid (show ∀ X, Pt P g w X → _ from fun X hX => len_pt hX)
  have HA := Lib.hid hat; clear hat
  have HML := Lib.hid hm
  have HMG := Lib.hid hMg
  have HLAB := Lib.hid hlab
  have HWF := Lib.hid (fun i => gv_wf h.rep h.len i)
  have HP := Lib.hid h; clear h hMg hlab
  subst hm
  go_enter Try.func46, Try.ntmps46
  go_wp2_with (fail)
  go_at_call 37
  have hb0 : Below W.heap.size W (W.alloc (.map #[] 0)) := (by repeat (first | assumption | exact Below.refl _ _ | exact below_beyond _ _ | refine Below.beyond ?_ (by (try simp [size_beyond]) <;> omega) _ | refine Below.drew ?_ | refine Go.Rw.below_drewN ?_ _ | refine Go.Rw.below_setRow ?_ (by (try simp [size_beyond]) <;> omega) _ | refine Below.alloc ?_ (by (try simp [size_beyond]) <;> omega) _ | refine Below.setCell ?_ (by (try simp [size_beyond]) <;> omega) _))
  have HP1 := Lib.hid (HP.out.below hb0)
  refine (HLN.out _ HP1.out).mono ?_
  rintro e w1 ⟨rfl, rfl⟩
  go_wp2_with (at_make; refine wpList_make_full _ rfl _ _ 23 rfl (W.heap.size + 1) 3 i0 (.int .i64 0) 1 Try.underlying23 Hi.out hz0 hz1 _ _ _ _ w.length rfl rfl rfl rfl (by rw [hz2]; omega) (by unfold maxLen; omega) (by simp) ?_)
  intro w1 hown hgr
  have HF := Lib.hid (RowAt.made hown)
  have HK1 := Lib.hid (grown_kept hgr)
  have HE1 : Hid (Eff P g w W w1) := Lib.hid ⟨HP1.out.kept HK1.out (fun h => by cases h) (fun h => by cases h), (KeptBut.of_below hb0).trans (HK1.out.mono0 (fun b h => by cases h))⟩
  have HO1 : Hid (w1.ownsMap (H := Unit) Try.prog 81 (plainElem Try.prog 3) W.heap.size 0 (.map [])) := Lib.hid (owns_kept (World.ownsMap_made W _ _ _) HK1.out (fun h => by cases h))
  have hs1 : W.heap.size + 2 ≤ w1.heap.size := by have := HF.out.lt; omega
  clear hown hgr
  go_wp2_with (fail)
  go_at_call 37
  refine (HLN.out _ HE1.out.pt).mono ?_
  rintro e w2 ⟨rfl, rfl⟩
  go_wp2
  go_loopw [7, 8, 9, 10, 17] (fun _ _ _ _ i wr => ∃ k : Nat, ∃ lst : List Int, k ≤ w.length ∧ i = .int .i64 k ∧ lst.length = w.length ∧ Hid (lst.take k = byTo w lab k) ∧ Hid (RowAt (W.heap.size + 1) lst wr) ∧ Hid (wr.ownsMap (H := Unit) Try.prog 81 (plainElem Try.prog 3) W.heap.size k (Fm w lab k)) ∧ Hid (Eff P g w W wr) ∧ W.heap.size + 2 ≤ wr.heap.size) (fun _ _ _ _ i _ => w.length - (intOf i).toNat)
  case atStart => exact ⟨0, List.replicate w.length 0, Nat.zero_le _, rfl, by simp, Lib.hid rfl, Lib.hid (by have := HF.out; first | exact this | simpa using this), HO1, HE1, hs1⟩
  case round =>
    obtain ⟨k, lst, hk, rfl, hl, HT, HRW, HO, HE, hs⟩ := hrel
    by_cases hlt : k < w.length
    · obtain ⟨b, off, rfl, hbw, hcs⟩ := HA.out.cell hlt
      have HAr := Lib.hid (HA.out.kept HE.out.kept (fun b hb => by rw [hb]; exact HMG.out))
      go_upto_region 6 with fail
      go_cut [8] from 20 to 27 (fun v wx => ∃ κ, v = .pointer (some ⟨κ, 0, none⟩) ∧ Hid (BlkAt κ #[.int .i64 (gv w k), .int .i64 (gv lab k)] 81 wx) ∧ Hid (Eff P g w wr wx) ∧ wr.heap.size ≤ κ)
      case first =>
        have hagg3 : ∀ w, (isAgg 3).run Try.prog w = .ok false w := fun w => by unfold isAgg; rw [Sem.run_bind, run_underlying Try.underlying3 w]; rfl
        have hld : ∀ w', Eff P g w wr w' → w'.cell? ⟨b, off + k, none⟩ = some (.int .i64 (gv lab k)) := fun w' hw' => by
          obtain ⟨b', off', e1, _, hc⟩ := (HAr.out.kept hw'.kept (fun b hb => by rw [hb]; exact HMG.out)).cell hlt
          cases e1
          exact hc k hlt
        have hbd : Below wr.heap.size wr wr.drew := (Below.refl _ _).drew
        have HEd : Hid (Eff P g w wr wr.drew) := Lib.hid ⟨HE.out.pt.below hbd, KeptBut.of_below hbd⟩
        refine wp_region_fork (Eff P g w wr) [0, 1, 3, 4, 5, 6] [(2, [([7], 8), ([], 9)], []), (8, [([], 2), ([7], 9)], [])] (by kernel_rfl) (by kernel_rfl) (by kernel_rfl) (by intro _ _ d _ _ h; cases d <;> exact h) HEd.out ?_
        simp only [pick, List.filterMap, List.size_toArray, List.getElem?_toArray, List.getElem?_cons_zero, List.getElem?_cons_succ]
        go_big_quiet_step (exact fun _ => rfl)
        go_big_quiet_step (exact fun _ => rfl)
        go_big_quiet_step (exact fun _ => rfl)
        go_big_quiet_step (exact fun _ => rfl)
        go_big_quiet_step (exact fun _ => rfl)
        refine wpQuiet_load_one (by kernel_rfl) 3 (.tmp 25) rfl ⟨b, off + k, none⟩ (.int .i64 (gv lab k)) rfl hld hagg3 ?_
        simp only [Act.put, List.setIfInBounds_toArray, List.set_cons_succ, List.set_cons_zero]
        refine wpQuiet_nil ?_
        intro br hbr
        simp only [List.mem_cons, List.not_mem_nil, or_false] at hbr
        have HC := Lib.hid (fun X (hX : Pt P g w X) => root_pt hlt hX)
        rcases hbr with rfl | rfl
        · simp only [pick, List.filterMap, List.size_toArray, List.getElem?_toArray, List.getElem?_cons_zero, List.getElem?_cons_succ]
          go_wp2_with (go_at_call 42; refine (HC.out _ HEd.out.pt).mono ?_; rintro e w3 ⟨rfl, h3⟩)
          have HE3 := Lib.hid (HEd.out.trans h3); clear h3
          refine And.intro HE3.out ?_
          simp only [wpSegs, pick, List.filterMap, List.size_toArray, List.getElem?_toArray, List.getElem?_cons_zero, List.getElem?_cons_succ]
          go_big_quiet_step (exact fun _ => rfl)
          refine wpQuiet_nil ?_
          go_wp2
          have hs3 := HE3.out.kept.size
          have HBA : BlkAt w3.heap.size #[.int .i64 0, .int .i64 0] 81 (w3.alloc (.cells #[.int .i64 0, .int .i64 0] 81)) := ⟨blockOf_alloc_at _ _ _ rfl⟩
          have HEA := Lib.hid (HE3.out.new (by have := HPG.out; omega) (by have := HPG.out; omega) (KeptBut.of_below (X := fun _ => False) (show Below w3.heap.size w3 (w3.alloc (.cells #[.int .i64 0, .int .i64 0] 81)) from (by repeat (first | assumption | exact Below.refl _ _ | exact below_beyond _ _ | refine Below.beyond ?_ (by (try simp [size_beyond]) <;> omega) _ | refine Below.drew ?_ | refine Go.Rw.below_drewN ?_ _ | refine Go.Rw.below_setRow ?_ (by (try simp [size_beyond]) <;> omega) _ | refine Below.alloc ?_ (by (try simp [size_beyond]) <;> omega) _ | refine Below.setCell ?_ (by (try simp [size_beyond]) <;> omega) _)))) (fun _ h => h.elim))
          refine And.intro HEA.out (wpQuiet_nil ?_)
          have HEB := Lib.hid (HEA.out.new (by have := HPG.out; omega) (by have := HPG.out; omega) (ksetRow _ w3.heap.size #[.int .i64 (gv w k), .int .i64 (gv lab k)]) (fun b h => by omega))
          have HBB := Lib.hid (blk_set (cs := #[.int .i64 (gv w k), .int .i64 (gv lab k)]) HBA)
          refine wpList_store_block rfl 81 (.tmp 8) (.tmp 27) rfl w3.heap.size #[.int .i64 (gv w k), .int .i64 (gv lab k)] 81 #[.int .i64 0, .int .i64 0] rfl rfl HBA.all infoPart rfl (by simp [Value.oneCell']) ?_
          generalize World.setRow _ _ _ = wB at HEB HBB ⊢
          go_wp2
          refine And.intro HEB.out (wpQuiet_nil ?_)
          go_wp2
          go_meet
          exact ⟨_, rfl, HBB, HEB, hs3⟩
        · simp only [pick, List.filterMap, List.size_toArray, List.getElem?_toArray, List.getElem?_cons_zero, List.getElem?_cons_succ]
          have hbA : Below wr.heap.size wr (wr.alloc (.cells #[.int .i64 0, .int .i64 0] 81)).drew := (by repeat (first | assumption | exact Below.refl _ _ | exact below_beyond _ _ | refine Below.beyond ?_ (by (try simp [size_beyond]) <;> omega) _ | refine Below.drew ?_ | refine Go.Rw.below_drewN ?_ _ | refine Go.Rw.below_setRow ?_ (by (try simp [size_beyond]) <;> omega) _ | refine Below.alloc ?_ (by (try simp [size_beyond]) <;> omega) _ | refine Below.setCell ?_ (by (try simp [size_beyond]) <;> omega) _))
          have HEA := Lib.hid (HE.out.new2 (by have := HPG.out; omega) (by have := HPG.out; omega) hbA)
          have HBA : BlkAt wr.heap.size #[.int .i64 0, .int .i64 0] 81 (wr.alloc (.cells #[.int .i64 0, .int .i64 0] 81)).drew := ⟨blockOf_alloc_at _ _ _ rfl⟩
          go_wp2
          refine And.intro HEA.out (wpQuiet_nil ?_)
          generalize (World.drew _) = wA at HEA HBA ⊢
          go_wp2_with (go_at_call 42; refine (HC.out _ HEA.out.pt).mono ?_; rintro e w3 ⟨rfl, h3⟩)
          have HE3 := Lib.hid (HEA.out.trans h3)
          have HBA3 := HBA.kept h3.kept (by have := HPG.out; omega)
          clear h3 HBA
          refine And.intro HE3.out ?_
          simp only [wpSegs, pick, List.filterMap, List.size_toArray, List.getElem?_toArray, List.getElem?_cons_zero, List.getElem?_cons_succ]
          go_big_quiet_step (exact fun _ => rfl)
          refine wpQuiet_nil ?_
          have HEB := Lib.hid (HE3.out.new (by have := HPG.out; omega) (by have := HPG.out; omega) (ksetRow _ wr.heap.size #[.int .i64 (gv w k), .int .i64 (gv lab k)]) (fun b h => by omega))
          have HBB := Lib.hid (blk_set (cs := #[.int .i64 (gv w k), .int .i64 (gv lab k)]) HBA3)
          refine wpList_store_block rfl 81 (.tmp 8) (.tmp 27) rfl wr.heap.size #[.int .i64 (gv w k), .int .i64 (gv lab k)] 81 #[.int .i64 0, .int .i64 0] rfl rfl HBA3.all infoPart rfl (by simp [Value.oneCell']) ?_
          generalize World.setRow _ _ _ = wB at HEB HBB ⊢
          go_wp2
          refine And.intro HEB.out (wpQuiet_nil ?_)
          go_wp2
          go_meet
          exact ⟨_, rfl, HBB, HEB, Nat.le_refl _⟩
      case rest =>
        obtain ⟨κ, rfl, HK, HE2, hκ⟩ := hcut
        have HRW2 := Lib.hid (HRW.out.kept HE2.out.kept (by have := HPG.out; omega))
        have HO2 := Lib.hid (owns_kept HO.out HE2.out.kept (by have := HPG.out; omega))
        have HE3 := Lib.hid (HE.out.trans HE2.out)
        have hs3 : wr.heap.size ≤ wc.heap.size := HE2.out.kept.size
        have hkey : keyOf Try.prog 81 (.agg #[.int .i64 (gv w k), .int .i64 (gv lab k)]) = some (keyL (gv w k) (gv lab k)) := keyL_eq (HWF.out k) (HLAB.out k)
        obtain ⟨hhas, hval⟩ := Fm_spec HWF.out HLAB.out k k
        have HV := Lib.hid hval
        have hby := (byAt_spec w lab k).1
        have hcell := HRW2.out.cell (a := k) (by omega)
        have hfz := HRW2.out.frozen k
        clear hval HRW HO HE HE2
        by_cases e : byAt w lab k < k
        · rw [decide_eq_true e] at hhas
          have HF1 := Lib.hid (show Fm w lab (k + 1) = Fm w lab k by conv => lhs; unfold Fm; rw [if_neg (by omega)])
          go_wp2_with (first
            | (refine wpList_load_block rfl 81 (.tmp 8) rfl κ #[.int .i64 (gv w k), .int .i64 (gv lab k)] 81 _ rfl HK.out.all Try.underlying81 rfl infoPart ?_)
            | (at_lookup; refine wpList_lookup_own_ok_int _ rfl _ _ 79 rfl 81 3 .i64 lawP Try.underlying79 Try.underlying3 (zeroI _) W.heap.size k _ rfl HO2.out _ _ rfl hkey ?_; intro x1 hat1 hwc1; rw [hhas])
            | (at_lookup; refine wpList_lookup_own_int _ rfl _ _ 79 rfl 81 3 .i64 lawP Try.underlying79 Try.underlying3 (zeroI _) W.heap.size k _ rfl HO2.out _ _ rfl hkey ?_; intro x2 hat2 hwc2)
            | fail)
          have hx2 : x2 = (byAt w lab k : Int) := by rw [HV.out e] at hat2; injection hat2 with h1; injection h1 with h2 h3; exact h3.symm
          subst hx2
          clear hat2 hat1
          go_roundw
          case rel => exact ⟨k + 1, lst.set k (byAt w lab k : Int), by omega, by go_num, by simpa using hl, Lib.hid (take_set (f := fun i => (byAt w lab i : Int)) hl hlt HT.out), Lib.hid (HRW2.out.set (by omega) _), Lib.hid (by rw [HF1.out]; exact owns_mono (owns_kept HO2.out (kset _ _ _ _) (by omega))), Lib.hid (HE3.out.new HPG.out.1 HPG.out.2 (kset _ _ _ _) (fun b h => by omega)), by simp; omega⟩
          case measure => simp [intOf]; omega
        · rw [decide_eq_false e] at hhas
          have hbk : byAt w lab k = k := by omega
          have HF1 := Lib.hid (show Fm w lab (k + 1) = (Fm w lab k).put (keyL (gv w k) (gv lab k)) (.lit (.int .i64 k)) by conv => lhs; unfold Fm; rw [if_pos hbk])
          go_wp2_with (first
            | (refine wpList_load_block rfl 81 (.tmp 8) rfl κ #[.int .i64 (gv w k), .int .i64 (gv lab k)] 81 _ rfl HK.out.all Try.underlying81 rfl infoPart ?_)
            | (at_lookup; refine wpList_lookup_own_ok_int _ rfl _ _ 79 rfl 81 3 .i64 lawP Try.underlying79 Try.underlying3 (zeroI _) W.heap.size k _ rfl HO2.out _ _ rfl hkey ?_; intro x1 hat1 hwc1; rw [hhas])
            | (at_mapUpdate; refine wpList_mapUpdate_own _ rfl _ _ _ 79 rfl 81 3 lawP Try.underlying79 _ W.heap.size k _ rfl HO2.out (by unfold maxLen; omega) _ _ _ rfl rfl hkey _ [] (plainElem_int Try.underlying3 (WalkArith.wf_i64 (by omega))) ?_)
            | fail)
          intro w4 hown4 hgrow4
          have hk4 := grown_kept hgrow4
          have HK4 := Lib.hid (HK.out.kept hk4 (fun h => by cases h; omega))
          have HRW4 := Lib.hid (HRW2.out.kept hk4 (fun h => by injection h with h; omega))
          have HE4 := Lib.hid (HE3.out.new HPG.out.1 HPG.out.2 hk4 (fun b h => by cases h; exact Nat.le_refl _))
          have HO4 : Hid (w4.ownsMap (H := Unit) Try.prog 81 (plainElem Try.prog 3) W.heap.size (k + 1) (Fm w lab (k + 1))) := Lib.hid (by rw [HF1.out]; exact hown4)
          have hs4 : wc.heap.size ≤ w4.heap.size := hk4.size
          have hcell := HRW4.out.cell (a := k) (by omega)
          have hfz := HRW4.out.frozen k
          obtain ⟨_, hval⟩ := Fm_spec HWF.out HLAB.out k (k + 1)
          have HV4 := Lib.hid (hval (by omega)); clear hval
          clear hown4 hgrow4 hk4 HK HRW2 HO2 HE3 hat1
          go_wp2_with (first
            | (refine wpList_load_block rfl 81 (.tmp 8) rfl κ #[.int .i64 (gv w k), .int .i64 (gv lab k)] 81 _ rfl HK4.out.all Try.underlying81 rfl infoPart ?_)
            | (at_lookup; refine wpList_lookup_own_int _ rfl _ _ 79 rfl 81 3 .i64 lawP Try.underlying79 Try.underlying3 (zeroI _) W.heap.size (k + 1) _ rfl HO4.out _ _ rfl hkey ?_; intro x2 hat2 hwc2)
            | fail)
          have hx2 : x2 = (byAt w lab k : Int) := by rw [HV4.out] at hat2; injection hat2 with h1; injection h1 with h2 h3; exact h3.symm
          subst hx2
          clear hat2
          go_roundw
          case rel => exact ⟨k + 1, lst.set k (byAt w lab k : Int), by omega, by go_num, by simpa using hl, Lib.hid (take_set (f := fun i => (byAt w lab i : Int)) hl hlt HT.out), Lib.hid (HRW4.out.set (by omega) _), Lib.hid (owns_kept HO4.out (kset _ _ _ _) (by omega)), Lib.hid (HE4.out.new HPG.out.1 HPG.out.2 (kset _ _ _ _) (fun b h => by omega)), by simp; omega⟩
          case measure => simp [intOf]; omega
    · obtain rfl : k = w.length := by omega
      go_wp2
      go_ret
      have := HT.out
      rw [List.take_of_length_le (by omega)] at this
      exact ⟨_, rfl, (show lst = byL w lab from this) ▸ HRW.out, by omega, HE.out⟩
end Go.Proofs.Ytjlpjdpaingnkaa.pt
