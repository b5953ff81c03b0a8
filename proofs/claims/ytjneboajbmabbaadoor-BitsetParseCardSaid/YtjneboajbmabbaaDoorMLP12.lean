/-
  BitsetParse: the walk.
-/
import Derived.Test.YtjneboajbmabbaaDoorMB1
import Derived.Test.YtjneboajbmabbaaDoorMB2
import Derived.Test.YtjneboajbmabbaaDoorMLP1
import Derived.Test.YtjneboajbmabbaaDoorMLP2
import Derived.Test.YtjneboajbmabbaaDoorMLP3
import Derived.Test.YtjneboajbmabbaaDoorMLP4
import Derived.Test.YtjneboajbmabbaaDoorMLP5
import Derived.Test.YtjneboajbmabbaaDoorMLP6
import Derived.Test.YtjneboajbmabbaaDoorMLP7
import Derived.Test.YtjneboajbmabbaaDoorMLP8
import Derived.Test.YtjneboajbmabbaaDoorMLP9
import Derived.Test.YtjneboajbmabbaaDoorMLP10
import Derived.Test.YtjneboajbmabbaaDoorMLP11
set_option linter.unusedSimpArgs false
set_option linter.unusedVariables false
namespace Go.Proofs.YtjneboajbmabbaaDoor.bitsetParse
open Go.RowKit Go.Own Go.Rw Go.SetL Go.Bits Go.SetT Go.Tz Go.PlainAid Go.Proofs.YtjneboajbmabbaaDoor.ref1
set_option maxHeartbeats 4000000
set_option maxRecDepth 100000
attribute [local irreducible] beyond grow over

theorem sumsS : Can.RecOk Tryd.prog [0, 1, 2] (Can.knownSm 24 tab [0, 1, 2]) := Can.knownSm_ok pc (Can.noSm_ok) tabAt tabPlain knownTrue
/-- the examples hold in every world that comes behind one where the tables are laid -/
theorem known_calls {W : World} (hL : laidMetH Tryd.prog Rows.bitsetParseRow.laid W) (X : World) (hb : Below W.heap.size W X) : Calls Tryd.prog 24 #[] X fun e w' => e = .returned (.bool true) ∧ ∃ y, w' = beyond X y := by
  have hk : Can.Known (H0 (Can.tyAt W)) (Can.onG [0, 1, 2]) X := by
    refine Can.known_onG fun g hg => ?_
    have hg' := hg
    simp only [List.mem_cons, List.not_mem_nil, or_false] at hg
    rcases hg with rfl | rfl | rfl
    · have h0 : W.heap[0]? = some (.cells (tab 0) (Can.tyAt W 0) (0, 0)) := Can.laid_tab hL (by kernel_rfl) (List.mem_of_getElem? (i := 1) rfl) (by kernel_rfl) (by kernel_rfl) (by decide +kernel)
      exact ⟨tab 0, Can.tyAt W 0, rfl, (hb.block 0 (Array.getElem?_eq_some_iff.1 h0).1).trans h0, by kernel_rfl⟩
    · have h0 : W.heap[1]? = some (.cells (tab 1) (Can.tyAt W 1) (0, 0)) := Can.laid_tab hL (by kernel_rfl) (List.mem_of_getElem? (i := 2) rfl) (by kernel_rfl) (by kernel_rfl) (by decide +kernel)
      exact ⟨tab 1, Can.tyAt W 1, rfl, (hb.block 1 (Array.getElem?_eq_some_iff.1 h0).1).trans h0, by kernel_rfl⟩
    · have h0 : W.heap[2]? = some (.cells (tab 2) (Can.tyAt W 2) (0, 0)) := Can.laid_tab hL (by kernel_rfl) (List.mem_of_getElem? (i := 0) rfl) (by kernel_rfl) (by kernel_rfl) (by decide +kernel)
      exact ⟨tab 2, Can.tyAt W 2, rfl, (hb.block 2 (Array.getElem?_eq_some_iff.1 h0).1).trans h0, by kernel_rfl⟩
  exact Can.true_callsS pc sumsS (n := 5) (by kernel_rfl) hk (Can.gl_onG _) (Can.plain_args (by kernel_rfl))
theorem tzW {W : World} (hL : laidMetH Tryd.prog Rows.bitsetParseRow.laid W) : TzW W :=
  tzW_of (T := Can.tyAt W 0) (Can.laid_tab hL (by kernel_rfl) (List.mem_of_getElem? (i := 1) rfl) (by kernel_rfl) (by kernel_rfl) (by decide +kernel))
theorem decW {W : World} (hL : laidMetH Tryd.prog Rows.bitsetParseRow.laid W) : DecW W :=
  decW_of (T := Can.tyAt W 1) (Can.laid_tab hL (by kernel_rfl) (List.mem_of_getElem? (i := 2) rfl) (by kernel_rfl) (by kernel_rfl) (by decide +kernel))
theorem big {W : World} (hL : laidMetH Tryd.prog Rows.bitsetParseRow.laid W) : 3 ≤ W.heap.size := by
  have h0 : W.heap[2]? = some (.cells (tab 2) (Can.tyAt W 2) (0, 0)) := Can.laid_tab hL (by kernel_rfl) (List.mem_of_getElem? (i := 0) rfl) (by kernel_rfl) (by kernel_rfl) (by decide +kernel)
  exact (Array.getElem?_eq_some_iff.1 h0).1
theorem walk {W : World} (hL : laidMetH Tryd.prog Rows.bitsetParseRow.laid W) (s : ByteArray) (hs : (s.size : Int) ≤ IntKind.i64.max) :
    Calls Tryd.prog 11 #[.string s] W fun e w' => e = .returned (.bool true) ∧ ∃ x, w' = beyond W x := by
  have KK := Lib.hid (fun X hb => known_calls hL X hb)
  have TZ := Lib.hid (tzW hL)
  have DZ := Lib.hid (decW hL)
  have h3 := big hL
  clear hL
  go_enter Tryd.func11, Tryd.ntmps11
  go_upto_if 9 with fail
  go_cut [0] from 10 to 11 (fun v wx => ∃ t : ByteArray, v = .string t ∧ t.size ≤ 6000 ∧ wx = W)
  case first =>
    by_cases hbig : 6000 < s.size
    · go_wp2
      go_meet
      exact ⟨s.extract 0 6000, rfl, by rw [ByteArray.size_extract]; omega, rfl⟩
    · go_wp2
      go_meet
      exact ⟨s, rfl, by omega, rfl⟩
  case rest =>
  clear hs
  obtain ⟨t, rfl, ht, rfl⟩ := hcut
  have HPA := Lib.hid (parse_calls t (by omega))
  have HRP := Lib.hid (rparse_calls t (by omega))
  have HFI := Lib.hid (fun l h => parse_fine (l := l) t h)
  obtain ⟨pp, hpp⟩ : ∃ x, x = parseS (bt t) t.size := ⟨_, rfl⟩
  rw [← hpp] at HPA HRP HFI
  clear hpp
  obtain ⟨l, en⟩ := pp
  have HLN := Lib.hid (rowOf_len l)
  have HZ3 := Lib.hid (show (rowW (rowOf l)).size = 16 by rw [rowW_size, HLN.out])
  go_upto_region 3 with fail
  go_wp2_with (fail)
  go_at_call 50
  refine (HPA.out _).mono ?_
  rintro e w1 ⟨rfl, y2, rfl⟩
  go_wp2_with (refine wpList_store_fresh rfl 25 (.tmp 3) (.tmp 15) rfl (rowW (rowOf l)) 25 _ _ rfl rfl rfl (by rw [HZ3.out]; exact sInfo) (by rw [HZ3.out] <;> rfl) (rowW_one _) ?_; intro wr hbel KF; have HWB : Below wc.heap.size wc wr := Below.trans (by repeat (first | assumption | exact Below.refl _ _ | exact below_beyond _ _ | refine Below.beyond ?_ (by (try simp [size_beyond]) <;> omega) _ | refine Below.drew ?_ | refine Go.Rw.below_drewN ?_ _ | refine Go.Rw.below_setRow ?_ (by (try simp [size_beyond]) <;> omega) _ | refine Below.alloc ?_ (by (try simp [size_beyond]) <;> omega) _ | refine Below.setCell ?_ (by (try simp [size_beyond]) <;> omega) _)) (Below.mono hbel (by simp [size_beyond] <;> omega)); have hws := HWB.size; clear hbel)
  go_at_call 52
  refine (HRP.out _).mono ?_
  rintro e w1 ⟨q, m, c, y3, rfl, rfl, H1⟩
  generalize (beyond wc y2).heap.size = gF at KF ⊢
  by_cases hen : en = 0
  · subst hen
    have hte := HFI.out l rfl
    have HTX := Lib.hid (show ∀ w : World, TzW w → DecW w → 3 ≤ w.heap.size → Calls Tryd.prog 49 #[.agg (rowW (rowOf l))] w fun e w' => e = .returned (.string t) ∧ ∃ y, w' = beyond w y from fun w a b c => by
      have h := text_calls (rowOf_len l) w a b c
      rw [← hte] at h
      exact h.mono fun e w' hh => ⟨hh.1, beyond_of hh.2⟩)
    clear hte HFI
    go_wp2
    refine wp_region_plan (fun w' => ∃ x, w' = beyond wr x) [([], 0), ([1, 2, 3, 4, 5, 6, 7, 8], 9), ([10, 11, 12, 13, 14, 15, 16, 18], 17)] [19, 20, 21, 22] (by kernel_rfl) (by kernel_rfl) (by intro _ _ d _ _ h; cases d <;> exact h) (beyond_of (by repeat (first | assumption | exact Below.refl _ _ | exact below_beyond _ _ | refine Below.beyond ?_ (by (try simp [size_beyond]) <;> omega) _ | refine Below.drew ?_ | refine Go.Rw.below_drewN ?_ _ | refine Go.Rw.below_setRow ?_ (by (try simp [size_beyond]) <;> omega) _ | refine Below.alloc ?_ (by (try simp [size_beyond]) <;> omega) _ | refine Below.setCell ?_ (by (try simp [size_beyond]) <;> omega) _))) ?_
    simp only [wpSegs, pick, List.filterMap, List.size_toArray, List.getElem?_toArray, List.getElem?_cons_zero, List.getElem?_cons_succ]
    refine wpQuiet_nil ?_
    go_wp2_with (go_at_call 24; refine (KK.out _ (by repeat (first | assumption | exact Below.refl _ _ | exact below_beyond _ _ | refine Below.beyond ?_ (by (try simp [size_beyond]) <;> omega) _ | refine Below.drew ?_ | refine Go.Rw.below_drewN ?_ _ | refine Go.Rw.below_setRow ?_ (by (try simp [size_beyond]) <;> omega) _ | refine Below.alloc ?_ (by (try simp [size_beyond]) <;> omega) _ | refine Below.setCell ?_ (by (try simp [size_beyond]) <;> omega) _))).mono ?_; rintro e w1 ⟨rfl, y5, rfl⟩)
    refine ⟨beyond_of (by repeat (first | assumption | exact Below.refl _ _ | exact below_beyond _ _ | refine Below.beyond ?_ (by (try simp [size_beyond]) <;> omega) _ | refine Below.drew ?_ | refine Go.Rw.below_drewN ?_ _ | refine Go.Rw.below_setRow ?_ (by (try simp [size_beyond]) <;> omega) _ | refine Below.alloc ?_ (by (try simp [size_beyond]) <;> omega) _ | refine Below.setCell ?_ (by (try simp [size_beyond]) <;> omega) _)), ?_⟩
    iterate 6 (go_big_quiet_step (fail))
    refine wpQuiet_load_row (by kernel_rfl) 25 (.tmp 3) rfl gF (rowW (rowOf l)) 25 _ rfl (by rintro _ ⟨x, rfl⟩; exact (BlkAt.below KF (below_beyond _ _)).all) Tryd.underlying25 rfl (by rw [HZ3.out]; exact sInfo) ?_
    simp only [Act.put, List.setIfInBounds_toArray, List.set_cons_succ, List.set_cons_zero]
    go_big_quiet_step (fail)
    refine wpQuiet_nil ?_
    go_wp2_with (go_at_call 46; refine (from_at (by first | (with_reducible assumption) | (refine IsAt.below (by with_reducible assumption) ?_; exact (by repeat (first | assumption | exact Below.refl _ _ | exact below_beyond _ _ | refine Below.beyond ?_ (by (try simp [size_beyond]) <;> omega) _ | refine Below.drew ?_ | refine Go.Rw.below_drewN ?_ _ | refine Go.Rw.below_setRow ?_ (by (try simp [size_beyond]) <;> omega) _ | refine Below.alloc ?_ (by (try simp [size_beyond]) <;> omega) _ | refine Below.setCell ?_ (by (try simp [size_beyond]) <;> omega) _))))).mono ?_; rintro e w1 ⟨rfl, y6, rfl⟩)
    refine ⟨beyond_of (by repeat (first | assumption | exact Below.refl _ _ | exact below_beyond _ _ | refine Below.beyond ?_ (by (try simp [size_beyond]) <;> omega) _ | refine Below.drew ?_ | refine Go.Rw.below_drewN ?_ _ | refine Go.Rw.below_setRow ?_ (by (try simp [size_beyond]) <;> omega) _ | refine Below.alloc ?_ (by (try simp [size_beyond]) <;> omega) _ | refine Below.setCell ?_ (by (try simp [size_beyond]) <;> omega) _)), ?_⟩
    refine wpQuiet_eqRow (by kernel_rfl) (.tmp 29) (.tmp 31) rfl sU wU wI sG HLN.out HLN.out rfl rfl ?_
    simp only [Act.put, List.setIfInBounds_toArray, List.set_cons_succ, List.set_cons_zero]
    try rw [decide_eq_true rfl]
    iterate 5 (go_big_quiet_step (fail))
    refine wpQuiet_load_row (by kernel_rfl) 25 (.tmp 3) rfl gF (rowW (rowOf l)) 25 _ rfl (by rintro _ ⟨x, rfl⟩; exact (BlkAt.below KF (below_beyond _ _)).all) Tryd.underlying25 rfl (by rw [HZ3.out]; exact sInfo) ?_
    simp only [Act.put, List.setIfInBounds_toArray, List.set_cons_succ, List.set_cons_zero]
    go_big_quiet_step (fail)
    refine wpQuiet_nil ?_
    have hTz : TzW wr := TZ.out.below HWB
    have hDz : DecW wr := DZ.out.below (B := wc.heap.size) h3 HWB
    go_wp2_with (go_at_call 49; refine (HTX.out _ (hTz.below (by repeat (first | assumption | exact Below.refl _ _ | exact below_beyond _ _ | refine Below.beyond ?_ (by (try simp [size_beyond]) <;> omega) _ | refine Below.drew ?_ | refine Go.Rw.below_drewN ?_ _ | refine Go.Rw.below_setRow ?_ (by (try simp [size_beyond]) <;> omega) _ | refine Below.alloc ?_ (by (try simp [size_beyond]) <;> omega) _ | refine Below.setCell ?_ (by (try simp [size_beyond]) <;> omega) _))) (hDz.below (B := wr.heap.size) (by omega) (by repeat (first | assumption | exact Below.refl _ _ | exact below_beyond _ _ | refine Below.beyond ?_ (by (try simp [size_beyond]) <;> omega) _ | refine Below.drew ?_ | refine Go.Rw.below_drewN ?_ _ | refine Go.Rw.below_setRow ?_ (by (try simp [size_beyond]) <;> omega) _ | refine Below.alloc ?_ (by (try simp [size_beyond]) <;> omega) _ | refine Below.setCell ?_ (by (try simp [size_beyond]) <;> omega) _))) (by simp [size_beyond]; omega)).mono ?_; rintro e w1 ⟨rfl, y7, rfl⟩)
    refine ⟨beyond_of (by repeat (first | assumption | exact Below.refl _ _ | exact below_beyond _ _ | refine Below.beyond ?_ (by (try simp [size_beyond]) <;> omega) _ | refine Below.drew ?_ | refine Go.Rw.below_drewN ?_ _ | refine Go.Rw.below_setRow ?_ (by (try simp [size_beyond]) <;> omega) _ | refine Below.alloc ?_ (by (try simp [size_beyond]) <;> omega) _ | refine Below.setCell ?_ (by (try simp [size_beyond]) <;> omega) _)), ?_⟩
    repeat (go_big_quiet_step (fail))
    refine wpQuiet_nil ?_
    go_wp2
    go_ret
    exact ⟨rfl, beyond_of (by repeat (first | assumption | exact Below.refl _ _ | exact below_beyond _ _ | refine Below.beyond ?_ (by (try simp [size_beyond]) <;> omega) _ | refine Below.drew ?_ | refine Go.Rw.below_drewN ?_ _ | refine Go.Rw.below_setRow ?_ (by (try simp [size_beyond]) <;> omega) _ | refine Below.alloc ?_ (by (try simp [size_beyond]) <;> omega) _ | refine Below.setCell ?_ (by (try simp [size_beyond]) <;> omega) _))⟩
  · have hen2 : (en != 0) = true := bne_iff_ne.2 hen
    have hen3 : (en == 0) = false := beq_eq_false_iff_ne.2 hen
    go_wp2
    refine wp_region_plan (fun w' => ∃ x, w' = beyond wr x) [([], 0), ([1, 2, 3, 4, 5, 6, 7, 8], 9), ([10, 11, 12, 13, 14, 15, 16, 18], 17)] [19, 20, 21, 22] (by kernel_rfl) (by kernel_rfl) (by intro _ _ d _ _ h; cases d <;> exact h) (beyond_of (by repeat (first | assumption | exact Below.refl _ _ | exact below_beyond _ _ | refine Below.beyond ?_ (by (try simp [size_beyond]) <;> omega) _ | refine Below.drew ?_ | refine Go.Rw.below_drewN ?_ _ | refine Go.Rw.below_setRow ?_ (by (try simp [size_beyond]) <;> omega) _ | refine Below.alloc ?_ (by (try simp [size_beyond]) <;> omega) _ | refine Below.setCell ?_ (by (try simp [size_beyond]) <;> omega) _))) ?_
    simp only [wpSegs, pick, List.filterMap, List.size_toArray, List.getElem?_toArray, List.getElem?_cons_zero, List.getElem?_cons_succ]
    refine wpQuiet_nil ?_
    go_wp2_with (go_at_call 24; refine (KK.out _ (by repeat (first | assumption | exact Below.refl _ _ | exact below_beyond _ _ | refine Below.beyond ?_ (by (try simp [size_beyond]) <;> omega) _ | refine Below.drew ?_ | refine Go.Rw.below_drewN ?_ _ | refine Go.Rw.below_setRow ?_ (by (try simp [size_beyond]) <;> omega) _ | refine Below.alloc ?_ (by (try simp [size_beyond]) <;> omega) _ | refine Below.setCell ?_ (by (try simp [size_beyond]) <;> omega) _))).mono ?_; rintro e w1 ⟨rfl, y5, rfl⟩)
    refine ⟨beyond_of (by repeat (first | assumption | exact Below.refl _ _ | exact below_beyond _ _ | refine Below.beyond ?_ (by (try simp [size_beyond]) <;> omega) _ | refine Below.drew ?_ | refine Go.Rw.below_drewN ?_ _ | refine Go.Rw.below_setRow ?_ (by (try simp [size_beyond]) <;> omega) _ | refine Below.alloc ?_ (by (try simp [size_beyond]) <;> omega) _ | refine Below.setCell ?_ (by (try simp [size_beyond]) <;> omega) _)), ?_⟩
    iterate 6 (go_big_quiet_step (fail))
    refine wpQuiet_load_row (by kernel_rfl) 25 (.tmp 3) rfl gF (rowW (rowOf l)) 25 _ rfl (by rintro _ ⟨x, rfl⟩; exact (BlkAt.below KF (below_beyond _ _)).all) Tryd.underlying25 rfl (by rw [HZ3.out]; exact sInfo) ?_
    simp only [Act.put, List.setIfInBounds_toArray, List.set_cons_succ, List.set_cons_zero]
    go_big_quiet_step (fail)
    refine wpQuiet_nil ?_
    go_wp2_with (go_at_call 46; refine (from_at (by first | (with_reducible assumption) | (refine IsAt.below (by with_reducible assumption) ?_; exact (by repeat (first | assumption | exact Below.refl _ _ | exact below_beyond _ _ | refine Below.beyond ?_ (by (try simp [size_beyond]) <;> omega) _ | refine Below.drew ?_ | refine Go.Rw.below_drewN ?_ _ | refine Go.Rw.below_setRow ?_ (by (try simp [size_beyond]) <;> omega) _ | refine Below.alloc ?_ (by (try simp [size_beyond]) <;> omega) _ | refine Below.setCell ?_ (by (try simp [size_beyond]) <;> omega) _))))).mono ?_; rintro e w1 ⟨rfl, y6, rfl⟩)
    refine ⟨beyond_of (by repeat (first | assumption | exact Below.refl _ _ | exact below_beyond _ _ | refine Below.beyond ?_ (by (try simp [size_beyond]) <;> omega) _ | refine Below.drew ?_ | refine Go.Rw.below_drewN ?_ _ | refine Go.Rw.below_setRow ?_ (by (try simp [size_beyond]) <;> omega) _ | refine Below.alloc ?_ (by (try simp [size_beyond]) <;> omega) _ | refine Below.setCell ?_ (by (try simp [size_beyond]) <;> omega) _)), ?_⟩
    refine wpQuiet_eqRow (by kernel_rfl) (.tmp 29) (.tmp 31) rfl sU wU wI sG HLN.out HLN.out rfl rfl ?_
    simp only [Act.put, List.setIfInBounds_toArray, List.set_cons_succ, List.set_cons_zero]
    try rw [decide_eq_true rfl]
    repeat (go_big_quiet_step (fail))
    refine wpQuiet_nil ?_
    go_wp2
    refine ⟨beyond_of (by repeat (first | assumption | exact Below.refl _ _ | exact below_beyond _ _ | refine Below.beyond ?_ (by (try simp [size_beyond]) <;> omega) _ | refine Below.drew ?_ | refine Go.Rw.below_drewN ?_ _ | refine Go.Rw.below_setRow ?_ (by (try simp [size_beyond]) <;> omega) _ | refine Below.alloc ?_ (by (try simp [size_beyond]) <;> omega) _ | refine Below.setCell ?_ (by (try simp [size_beyond]) <;> omega) _)), ?_⟩
    repeat (go_big_quiet_step (fail))
    refine wpQuiet_nil ?_
    go_wp2
    go_ret
    exact ⟨rfl, beyond_of (by repeat (first | assumption | exact Below.refl _ _ | exact below_beyond _ _ | refine Below.beyond ?_ (by (try simp [size_beyond]) <;> omega) _ | refine Below.drew ?_ | refine Go.Rw.below_drewN ?_ _ | refine Go.Rw.below_setRow ?_ (by (try simp [size_beyond]) <;> omega) _ | refine Below.alloc ?_ (by (try simp [size_beyond]) <;> omega) _ | refine Below.setCell ?_ (by (try simp [size_beyond]) <;> omega) _))⟩
end Go.Proofs.YtjneboajbmabbaaDoor.bitsetParse
