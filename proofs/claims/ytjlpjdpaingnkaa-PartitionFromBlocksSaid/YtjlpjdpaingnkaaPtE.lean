/-
  Clone, Meet, Join, Refines, Equal.
-/
import Derived.Test.YtjlpjdpaingnkaaPtD
set_option linter.unusedSimpArgs false
set_option linter.unusedVariables false
namespace Go.Proofs.Ytjlpjdpaingnkaa.pt
open Go.RowKit Go.Own Go.Pt Go.Rw Go.Maps
set_option maxHeartbeats 4000000
set_option maxRecDepth 100000

theorem comp_pt {P g P2 g2 : Nat} {w v : List Int} {W : World} (h : Pt P g w W) (h2 : Pt P2 g2 v W) {b : Bool} (hb : decide (w.length = v.length) = b) :
    Calls Try.prog 48 #[.pointer (some ⟨P, 0, none⟩), .pointer (some ⟨P2, 0, none⟩)] W fun e w' => e = .returned (.bool b) ∧ W = w' := by
  have HL := Lib.hid (len_pt h)
  have HL2 := Lib.hid (len_pt h2)
  have HB := Lib.hid (show ((w.length : Int) == (v.length : Int)) = b by rw [← hb, Bool.eq_iff_iff]; simp; omega)
  clear hb
  go_enter Try.func48, Try.ntmps48
  go_wp2_with (fail)
  go_at_call 37
  refine HL.out.mono ?_
  rintro e w1 ⟨rfl, rfl⟩
  go_wp2_with (fail)
  go_at_call 37
  refine HL2.out.mono ?_
  rintro e w1 ⟨rfl, rfl⟩
  go_wp2
  go_ret
  exact ⟨ret_bool HB.out, rfl⟩
theorem comp_nil1 (x : Option Addr) (W : World) :
    Calls Try.prog 48 #[.pointer none, .pointer x] W fun e w' => e = .returned (.bool false) ∧ W = w' := by
  go_enter Try.func48, Try.ntmps48
  go_wp2
  go_ret
  exact ⟨rfl, rfl⟩
theorem comp_nil2 (P : Nat) (W : World) :
    Calls Try.prog 48 #[.pointer (some ⟨P, 0, none⟩), .pointer none] W fun e w' => e = .returned (.bool false) ∧ W = w' := by
  go_enter Try.func48, Try.ntmps48
  go_wp2
  go_ret
  exact ⟨rfl, rfl⟩
theorem own_row {w : World} {B n : Nat} {v : Value} {l : List Int} (hn : n = l.length) (h : w.ownsRow B 3 1 v n (l.map (Value.int .i64))) (hv : v ≠ .slice none 0 0) : ∃ g' c', v = .slice (some ⟨g', 0, none⟩) n c' ∧ RowAt g' l w ∧ B ≤ g' ∧ n ≤ c' ∧ c' ≤ maxLen := by
  subst hn
  rcases h.2 with ⟨rfl, hk⟩ | ⟨g, cap, cur, rfl, hb, hgg, hn, hc, hs, ht⟩
  · exact absurd rfl hv
  · refine ⟨g, cap, rfl, ⟨cur.toList.drop l.length, ?_⟩, hb, hn, hc⟩
    rw [hgg]
    congr 2
    apply Array.toList_inj.1
    have := List.take_append_drop l.length cur.toList
    rw [show cur.toList.take l.length = l.map (Value.int .i64) by simpa using ht] at this
    exact this.symm
theorem sclone_calls {g c : Nat} {l : List Int} {W : World} (h : RowAt g l W) (hl : l.length ≤ 4096) :
    Calls Try.prog 45 #[.slice (some ⟨g, 0, none⟩) l.length c] W fun e w' => ∃ g' c', e = .returned (.slice (some ⟨g', 0, none⟩) l.length c') ∧ RowAt g' l w' ∧ W.heap.size ≤ g' ∧ l.length ≤ c' ∧ c' ≤ maxLen ∧ Below W.heap.size W w' := by
  obtain ⟨i0, hi, hz0, hz1, hz2⟩ := info_parts tI
  have Hi := Lib.hid hi; clear hi
  have hb0 : Below W.heap.size W (W.alloc (.cells #[] 3)) := (by repeat (first | assumption | exact Below.refl _ _ | exact below_beyond _ _ | refine Below.beyond ?_ (by (try simp [size_beyond]) <;> omega) _ | refine Below.drew ?_ | refine Go.Rw.below_drewN ?_ _ | refine Go.Rw.below_setRow ?_ (by (try simp [size_beyond]) <;> omega) _ | refine Below.alloc ?_ (by (try simp [size_beyond]) <;> omega) _ | refine Below.setCell ?_ (by (try simp [size_beyond]) <;> omega) _))
  have HO := Lib.hid (World.ownsRow_made (e := 3) (size := 1) (base := W.heap.size) W #[] 0 (Nat.le_refl _) (Nat.zero_le _) (by simp))
  have HR := Lib.hid (h.below hb0)
  have HC := Lib.hid (show ∀ (j : Nat) (u : Value), (l.map (Value.int .i64))[j]? = some u → (W.alloc (.cells #[] 3)).cell? ((⟨g, 0, none⟩ : Addr).add j) = some u from fun j u hu => by
    obtain ⟨hj, e⟩ := List.getElem?_eq_some_iff.1 hu
    have hj' : j < l.length := by simpa using hj
    have e2 : (⟨g, 0, Option.none⟩ : Addr).add j = ⟨g, j, Option.none⟩ := by unfold Addr.add; split <;> simp_all
    rw [e2, HR.out.cell hj', ← hu, List.getElem?_map, some_gv hj']; rfl)
  have HB0 := Lib.hid hb0; clear hb0
  have hq : ∀ w, (binOp .eql 23 (.slice (some ⟨g, 0, none⟩) l.length c) (.slice none 0 0)).run Try.prog w = .ok (.bool false) w := fun w => Lib.run_eql_slice_nil w _ _ _ _ _ _ _ iU
  go_enter Try.func45, Try.ntmps45
  go_wp2_with (first
    | (at_builtin; refine wpList_append_own_at _ rfl _ _ 23 rfl W.heap.size 3 i0 (.int .i64 0) 1 8 iU Hi.out hz0 hz1 hz2 rfl (by decide) _ 0 [] rfl HO.out ⟨g, 0, none⟩ l.length c (l.map (Value.int .i64)) rfl (by simp) HC.out (by simp [Value.oneCell']) (by unfold maxLen; omega) (by omega) (by simp) ?_; intro v' w3 hown' hgrow hnil hloc)
    | fail)
  go_ret
  obtain ⟨g', c', rfl, h1, h2, h3, h4⟩ := own_row (n := l.length) (l := l) rfl (by simpa using hown') (fun h => absurd (hnil.1 h).1 (by intro h; cases h))
  refine ⟨g', c', rfl, h1, h2, h3, h4, HB0.out.grown hgrow (by simp) (fun r hr => by cases hr; exact Nat.le_refl _)⟩
theorem pt_make2 {w : World} {g c : Nat} {u : List Nat} (hu : Up u) (hn : u.length ≤ 4096) (hc : u.length ≤ c) (hm : c ≤ maxLen) (h : RowAt g (u.map fun (x : Nat) => (x : Int)) w) :
    Pt w.heap.size g (reps u) (w.alloc (.cells #[.slice (some ⟨g, 0, none⟩) u.length c] 68)) := by
  have hg := h.lt
  obtain ⟨r, hrow⟩ := h.ex
  refine ⟨c, u, hu, hn, rfl, hc, hm, ⟨heap_alloc_new w _, ⟨r, ?_⟩, by omega⟩⟩
  rw [show (w.alloc (.cells #[.slice (some ⟨g, 0, none⟩) u.length c] 68)).heap[g]? = w.heap[g]? from blockOf_alloc_past _ _ _ (inW_iff.2 hg), hrow]
  simp [Function.comp_def]
theorem clone_pt {P g : Nat} {w : List Int} {W : World} (h : Pt P g w W) :
    Calls Try.prog 27 #[.pointer (some ⟨P, 0, none⟩)] W fun e w' => ∃ P' g', e = .returned (.pointer (some ⟨P', 0, none⟩)) ∧ Pt P' g' w w' ∧ W.heap.size ≤ P' ∧ W.heap.size ≤ g' ∧ Below W.heap.size W w' := by
  obtain ⟨c, u, h3, h4, rfl, h6, h7, h8⟩ := h.ex
  have hcs := h8.cellP
  have hrow : RowAt g (u.map fun (x : Nat) => (x : Int)) W := by
    obtain ⟨r, hr⟩ := h8.row
    exact ⟨r, by rw [hr]; simp [Function.comp_def]⟩
  have HC := Lib.hid (sclone_calls (c := c) hrow (by simpa using h4))
  rw [List.length_map] at HC
  clear h8 hrow h
  go_enter Try.func27, Try.ntmps27
  go_wp2_with (fail)
  go_at_call 45
  refine HC.out.mono ?_
  rintro e w1 ⟨g', c', rfl, k1, k2, k3, k4, k5⟩
  have HP := Lib.hid (pt_make2 h3 h4 k3 k4 k1)
  have hs := k5.size
  go_wp2
  go_ret
  exact ⟨_, g', rfl, HP.out, hs, k2, (by repeat (first | assumption | exact Below.refl _ _ | exact below_beyond _ _ | refine Below.beyond ?_ (by (try simp [size_beyond]) <;> omega) _ | refine Below.drew ?_ | refine Go.Rw.below_drewN ?_ _ | refine Go.Rw.below_setRow ?_ (by (try simp [size_beyond]) <;> omega) _ | refine Below.alloc ?_ (by (try simp [size_beyond]) <;> omega) _ | refine Below.setCell ?_ (by (try simp [size_beyond]) <;> omega) _))⟩
theorem clone_nil (W : World) : Calls Try.prog 27 #[.pointer none] W fun e w' => e = .returned (.pointer none) ∧ W = w' := by
  go_enter Try.func27, Try.ntmps27
  go_wp2
  go_ret
  exact ⟨rfl, rfl⟩
/-- two partitions that share nothing -/
structure Ap (P g P2 g2 : Nat) : Prop where
  gg : g ≠ g2
  pg : P ≠ g2
  gp : P2 ≠ g
/-- both are still what they were; nothing but their parents has changed -/
structure Two (P g P2 g2 : Nat) (w v : List Int) (W w' : World) : Prop where
  one : Pt P g w w'
  two : Pt P2 g2 v w'
  kept : KeptBut (fun k => k = g ∨ k = g2) W w'
theorem meet_pt {P g P2 g2 : Nat} {w v : List Int} {W : World} (h : Pt P g w W) (h2 : Pt P2 g2 v W) (ha : Ap P g P2 g2) (hl : w.length = v.length) :
    Calls Try.prog 31 #[.pointer (some ⟨P, 0, none⟩), .pointer (some ⟨P2, 0, none⟩)] W fun e w' => ∃ P' g', e = .returned (.tuple #[.pointer (some ⟨P', 0, none⟩), .int .i64 0]) ∧ Pt P' g' (byL w v) w' ∧ W.heap.size ≤ P' ∧ W.heap.size ≤ g' ∧ Two P g P2 g2 w v W w' := by
  have HC := Lib.hid (comp_pt h h2 (decide_eq_true hl))
  have HR := Lib.hid (roots_pt h2)
  have hn := h.len
  have HH := Lib.hid (And.intro h.gl (And.intro h.pl (And.intro h2.gl h2.pl)))
  have HA := Lib.hid ha
  have HP := Lib.hid h
  have HRV := Lib.hid (And.intro h2.rep h2.len)
  have HLL := Lib.hid hl
  clear h2 ha h hl
  go_enter Try.func31, Try.ntmps31
  go_wp2_with (first | (go_at_call 48; refine HC.out.mono ?_; rintro e w1 ⟨rfl, rfl⟩) | fail)
  go_at_call 44
  refine HR.out.mono ?_
  rintro e w1 ⟨g1, rfl, k1, k2, k3⟩
  have hp1 : Pt P g w w1 := HP.out.kept k3.kept (by exact HA.out.pg) (by exact HA.out.gg)
  have HRF := Lib.hid (refined_calls hp1 (at_row (M := fun k => k = g) k1 (by have := HRV.out.2; omega) (Nat.le_refl _) (by have := HRV.out.2; unfold maxLen; omega) (by have := HH.out; omega)) HLL.out.symm rfl (fun i => gv_wf HRV.out.1 HRV.out.2 i))
  have HK := Lib.hid k3
  have hs1 := k3.kept.size
  clear k1 k3 hp1
  go_wp2_with (fail)
  go_at_call 46
  refine HRF.out.mono ?_
  rintro e w2 ⟨g', rfl, j1, j2, j3⟩
  have hlen : (byL w v).length = w.length := byTo_len _ _ _
  have HPM := Lib.hid (pt_make (n := 0) (c := w.length) (byL_rep w v) (by omega) (by omega) (by unfold maxLen; omega) j1)
  rw [hlen] at HPM
  have hb : Below w2.heap.size w2 (w2.alloc (.cells #[.slice (some ⟨g', 0, none⟩) w.length w.length] 68)) := (by repeat (first | assumption | exact Below.refl _ _ | exact below_beyond _ _ | refine Below.beyond ?_ (by (try simp [size_beyond]) <;> omega) _ | refine Below.drew ?_ | refine Go.Rw.below_drewN ?_ _ | refine Go.Rw.below_setRow ?_ (by (try simp [size_beyond]) <;> omega) _ | refine Below.alloc ?_ (by (try simp [size_beyond]) <;> omega) _ | refine Below.setCell ?_ (by (try simp [size_beyond]) <;> omega) _))
  have HT : Hid (Two P g P2 g2 w v W (w2.alloc (.cells #[.slice (some ⟨g', 0, none⟩) w.length w.length] 68))) := Lib.hid ⟨j3.pt.below hb, (HK.out.pt.kept j3.kept (by exact HA.out.gp) (fun e => HA.out.gg e.symm)).below hb, ((HK.out.kept.sub (fun b h => .inr h)).trans (j3.kept.sub (fun b h => .inl h))).trans (KeptBut.of_below hb)⟩
  have hs2 := j3.kept.size
  have hg' : W.heap.size ≤ g' := by omega
  clear j1 j3 hb HRF
  go_wp2
  go_ret2
  exact ⟨_, g', rfl, HPM.out, by omega, hg', HT.out⟩
theorem join_pt {P g P2 g2 : Nat} {w v : List Int} {W : World} (h : Pt P g w W) (h2 : Pt P2 g2 v W) (ha : Ap P g P2 g2) (hl : w.length = v.length) :
    Calls Try.prog 32 #[.pointer (some ⟨P, 0, none⟩), .pointer (some ⟨P2, 0, none⟩)] W fun e w' => ∃ P' g', e = .returned (.tuple #[.pointer (some ⟨P', 0, none⟩), .int .i64 0]) ∧ Pt P' g' (overL w v) w' ∧ W.heap.size ≤ P' ∧ W.heap.size ≤ g' ∧ Two P g P2 g2 w v W w' := by
  have HC := Lib.hid (comp_pt h h2 (decide_eq_true hl))
  have HCL := Lib.hid (clone_pt h)
  have hn := h.len
  have HH := Lib.hid (And.intro h.gl (And.intro h.pl (And.intro h2.gl h2.pl)))
  have HA := Lib.hid ha
  have HP := Lib.hid h
  have HP2 := Lib.hid h2
  have HLL := Lib.hid hl
  have HRV := Lib.hid h2.rep
  have HL := Lib.hid (show overL w v = overTo w v w.length by unfold overL; rw [hl])
  rw [HL.out]
  clear h2 ha h hl
  go_enter Try.func32, Try.ntmps32
  go_wp2_with (first | (go_at_call 48; refine HC.out.mono ?_; rintro e w1 ⟨rfl, rfl⟩) | fail)
  go_at_call 27
  refine HCL.out.mono ?_
  rintro e w1 ⟨P1, g1, rfl, k1, k2, k3, k4⟩
  have HR := Lib.hid (roots_pt (HP2.out.below k4))
  have HK1 := Lib.hid k1
  have HB1 := Lib.hid k4
  have hs1 := k4.size
  clear k1 k4
  go_wp2_with (fail)
  go_at_call 44
  refine HR.out.mono ?_
  rintro e w2 ⟨g3, rfl, j1, j2, j3⟩
  have HH1 := Lib.hid (And.intro HK1.out.gl HK1.out.pl)
  have HK2 := Lib.hid (HK1.out.kept j3.kept (by have := HH.out; omega) (by have := HH.out; omega))
  have HT2 : Hid (Two P g P2 g2 w v W w2) := Lib.hid ⟨(HP.out.below HB1.out).kept j3.kept (by exact HA.out.pg) (by exact HA.out.gg), j3.pt, (KeptBut.of_below HB1.out).trans (j3.kept.sub (fun b h => .inr h))⟩
  have HR3 := Lib.hid j1
  have hs2 := j3.kept.size
  have hvl : v.length = w.length := HLL.out.symm
  rw [hvl] 
  clear j1 j3 HR HK1 HB1
  go_wp2
  go_loopw [7, 8, 18] (fun _ _ i wr => ∃ k : Nat, k ≤ w.length ∧ i = .int .i64 k ∧ Hid (Eff P1 g1 (overTo w v k) w2 wr)) (fun _ _ i _ => w.length - (intOf i).toNat)
  case atStart => exact ⟨0, Nat.zero_le _, rfl, Lib.hid (Eff.refl HK2.out)⟩
  case round =>
    obtain ⟨k, hk, rfl, HE⟩ := hrel
    by_cases hlt : k < w.length
    · have hrow := HR3.out.kept HE.out.kept (by have := HH1.out; omega)
      have hcell := hrow.cell (a := k) (by omega)
      have hlen := overTo_len w v k
      have hlo := HRV.out.lo k (by omega)
      have hlt2 := HRV.out.lt (i := k) (by omega)
      have hcast : gv v k = (((gv v k).toNat : Nat) : Int) := by omega
      have HM := Lib.hid (merge_pt (a := k) (b := (gv v k).toNat) (by omega) (by omega) HE.out.pt)
      have HS := Lib.hid (overTo_succ w v k)
      rw [hcast] at hcell
      clear hrow hcast hlo
      generalize (gv v k).toNat = r at hcell HM HS hlt2
      go_wp2_with (fail)
      go_at_call 41
      refine HM.out.mono ?_
      rintro e w3 ⟨rfl, h3⟩
      have HE3 := Lib.hid (HE.out.trans h3)
      clear h3
      go_wp2
      go_roundw
      case rel => exact ⟨k + 1, by omega, by go_num, Lib.hid (by rw [HS.out]; exact HE3.out)⟩
      case measure => simp [intOf]; omega
    · obtain rfl : k = w.length := by omega
      go_wp2
      go_ret2
      have ht := HT2.out
      have hh1 := HH.out
      have hh2 := HH1.out
      have hE := HE.out
      refine ⟨P1, g1, rfl, hE.pt, k2, k3, ht.one.kept hE.kept (by omega) (by omega), ht.two.kept hE.kept (by omega) (by omega), kept_new ht.kept hE.kept (fun b h => by omega)⟩
theorem meet_bad {P g P2 g2 : Nat} {w v : List Int} {W : World} (h : Pt P g w W) (h2 : Pt P2 g2 v W) (hl : w.length ≠ v.length) :
    Calls Try.prog 31 #[.pointer (some ⟨P, 0, none⟩), .pointer (some ⟨P2, 0, none⟩)] W fun e w' => e = .returned (.tuple #[.pointer none, .int .i64 1]) ∧ W = w' := by
  have HC := Lib.hid (comp_pt h h2 (decide_eq_false hl))
  go_enter Try.func31, Try.ntmps31
  go_wp2_with (first | (go_at_call 48; refine HC.out.mono ?_; rintro e w1 ⟨rfl, rfl⟩) | fail)
  go_ret2
  exact ⟨rfl, rfl⟩
theorem join_bad {P g P2 g2 : Nat} {w v : List Int} {W : World} (h : Pt P g w W) (h2 : Pt P2 g2 v W) (hl : w.length ≠ v.length) :
    Calls Try.prog 32 #[.pointer (some ⟨P, 0, none⟩), .pointer (some ⟨P2, 0, none⟩)] W fun e w' => e = .returned (.tuple #[.pointer none, .int .i64 1]) ∧ W = w' := by
  have HC := Lib.hid (comp_pt h h2 (decide_eq_false hl))
  go_enter Try.func32, Try.ntmps32
  go_wp2_with (first | (go_at_call 48; refine HC.out.mono ?_; rintro e w1 ⟨rfl, rfl⟩) | fail)
  go_ret2
  exact ⟨rfl, rfl⟩
theorem refines_bad {P g P2 g2 : Nat} {w v : List Int} {W : World} (h : Pt P g w W) (h2 : Pt P2 g2 v W) (hl : w.length ≠ v.length) :
    Calls Try.prog 30 #[.pointer (some ⟨P, 0, none⟩), .pointer (some ⟨P2, 0, none⟩)] W fun e w' => e = .returned (.bool false) ∧ W = w' := by
  have HC := Lib.hid (comp_pt h h2 (decide_eq_false hl))
  go_enter Try.func30, Try.ntmps30
  go_wp2_with (first | (go_at_call 48; refine HC.out.mono ?_; rintro e w1 ⟨rfl, rfl⟩) | fail)
  go_ret
  exact ⟨rfl, rfl⟩
theorem refines_pt {P g P2 g2 : Nat} {w v : List Int} {W : World} (h : Pt P g w W) (h2 : Pt P2 g2 v W) (ha : Ap P g P2 g2) (hl : w.length = v.length) :
    Calls Try.prog 30 #[.pointer (some ⟨P, 0, none⟩), .pointer (some ⟨P2, 0, none⟩)] W fun e w' => e = .returned (.bool (finerL w v)) ∧ Two P g P2 g2 w v W w' := by
  have HC := Lib.hid (comp_pt h h2 (decide_eq_true hl))
  have HR := Lib.hid (roots_pt h)
  have hn := h.len
  have HH := Lib.hid (And.intro h.gl (And.intro h.pl (And.intro h2.gl h2.pl)))
  have HA := Lib.hid ha
  have HP2 := Lib.hid h2
  have HLL := Lib.hid hl
  have HRW := Lib.hid h.rep
  clear h2 ha h
  go_enter Try.func30, Try.ntmps30
  go_wp2_with (first | (go_at_call 48; refine HC.out.mono ?_; rintro e w1 ⟨rfl, rfl⟩) | fail)
  go_at_call 44
  refine HR.out.mono ?_
  rintro e w2 ⟨g3, rfl, j1, j2, j3⟩
  have HK2 := Lib.hid (HP2.out.kept j3.kept (by exact HA.out.gp) (fun e => HA.out.gg e.symm))
  have HE2 := Lib.hid j3
  have HR3 := Lib.hid j1
  have hs2 := j3.kept.size
  clear j1 j3 HR
  go_wp2
  go_loopw [5, 6, 14] (fun _ _ i wr => ∃ k : Nat, k ≤ w.length ∧ i = .int .i64 k ∧ Hid (finerTo w v k) ∧ Hid (Eff P2 g2 v w2 wr)) (fun _ _ i _ => w.length - (intOf i).toNat)
  case atStart => exact ⟨0, Nat.zero_le _, rfl, Lib.hid (fun i hi => absurd hi (Nat.not_lt_zero _)), Lib.hid (Eff.refl HK2.out)⟩
  case round =>
    obtain ⟨k, hk, rfl, HF, HE⟩ := hrel
    have HFIN : Hid (∀ X, Eff P2 g2 v w2 X → Two P g P2 g2 w v W X) := Lib.hid (fun X hX => ⟨HE2.out.pt.kept hX.kept (by exact HA.out.pg) (by exact HA.out.gg), hX.pt, (HE2.out.kept.sub (fun b h => .inl h)).trans (hX.kept.sub (fun b h => .inr h))⟩)
    by_cases hlt : k < w.length
    · have hrow := HR3.out.kept HE.out.kept (by have := HH.out; omega)
      have hcell := hrow.cell (a := k) (by omega)
      have hlo := HRW.out.lo k (by omega)
      have hlt2 := HRW.out.lt (i := k) (by omega)
      have hcast : gv w k = (((gv w k).toNat : Nat) : Int) := by omega
      have HS := Lib.hid (show gv v k = gv v (gv w k).toNat → finerTo w v (k + 1) from fun e i hi => by
        by_cases h : i < k
        · exact HF.out i h
        · obtain rfl : i = k := by omega
          exact e)
      have HN := Lib.hid (show gv v k ≠ gv v (gv w k).toNat → finerL w v = false from fun e => decide_eq_false (fun h => e (h k hlt)))
      have HM := Lib.hid (root_pt (a := k) (by omega) HE.out.pt)
      rw [hcast] at hcell
      clear hrow hcast hlo
      generalize (gv w k).toNat = r at hcell HS HN hlt2
      go_wp2_with (fail)
      go_at_call 42
      refine HM.out.mono ?_
      rintro e w3 ⟨rfl, h3⟩
      have HE3 := Lib.hid (HE.out.trans h3)
      have HM2 := Lib.hid (root_pt (a := r) (by omega) HE3.out.pt)
      clear h3 HM HE
      go_wp2_with (fail)
      go_at_call 42
      refine HM2.out.mono ?_
      rintro e w4 ⟨rfl, h4⟩
      have HE4 := Lib.hid (HE3.out.trans h4)
      clear h4 HM2 HE3 hcell
      generalize gv v k = x at HS HN ⊢
      generalize gv v r = y at HS HN ⊢
      by_cases e : x = y
      · have HS2 := Lib.hid (HS.out e)
        clear HS HN
        go_wp2
        go_roundw
        case rel => exact ⟨k + 1, by omega, by go_num, HS2, HE4⟩
        case measure => simp [intOf]; omega
      · have HN2 := Lib.hid (HN.out e)
        clear HS HN
        go_wp2
        go_ret
        exact ⟨ret_bool HN2.out.symm, HFIN.out _ HE4.out⟩
    · obtain rfl : k = w.length := by omega
      have HT := Lib.hid (show finerL w v = true from decide_eq_true HF.out)
      go_wp2
      go_ret
      exact ⟨ret_bool HT.out.symm, HFIN.out _ HE.out⟩
theorem equal_pt {P g P2 g2 : Nat} {w v : List Int} {W : World} (h : Pt P g w W) (h2 : Pt P2 g2 v W) (ha : Ap P g P2 g2) :
    Calls Try.prog 26 #[.pointer (some ⟨P, 0, none⟩), .pointer (some ⟨P2, 0, none⟩)] W fun e w' => e = .returned (.bool (decide (w = v))) ∧ Two P g P2 g2 w v W w' := by
  have HR := Lib.hid (roots_pt h)
  have hn := h.len
  have hn2 := h2.len
  have HH := Lib.hid (And.intro h.gl (And.intro h.pl (And.intro h2.gl h2.pl)))
  have HA := Lib.hid ha
  have HP2 := Lib.hid h2
  clear h2 ha h
  go_enter Try.func26, Try.ntmps26
  go_wp2_with (fail)
  go_at_call 44
  refine HR.out.mono ?_
  rintro e w2 ⟨g3, rfl, j1, j2, j3⟩
  have HK2 := Lib.hid (HP2.out.kept j3.kept (by exact HA.out.gp) (fun e => HA.out.gg e.symm))
  have HE2 := Lib.hid j3
  have HR3 := Lib.hid j1
  have hs2 := j3.kept.size
  clear j1 j3 HR
  have HR := Lib.hid (roots_pt HK2.out)
  go_wp2_with (fail)
  go_at_call 44
  refine HR.out.mono ?_
  rintro e w3 ⟨g4, rfl, j1, j4, j3⟩
  have HT : Hid (Two P g P2 g2 w v W w3) := Lib.hid ⟨HE2.out.pt.kept j3.kept (by exact HA.out.pg) (by exact HA.out.gg), j3.pt, (HE2.out.kept.sub (fun b h => .inl h)).trans (j3.kept.sub (fun b h => .inr h))⟩
  have HQ := Lib.hid (equalS_calls (at_row (M := fun _ => False) (HR3.out.kept j3.kept (by have := HH.out; omega)) (by omega) (Nat.le_refl _) (by unfold maxLen; omega) (fun h => h)) (at_row (M := fun _ => False) j1 (by omega) (Nat.le_refl _) (by unfold maxLen; omega) (fun h => h)))
  clear j1 j3 HR
  go_wp2_with (fail)
  go_at_call 43
  refine HQ.out.mono ?_
  rintro e w4 ⟨rfl, hb⟩
  have HT2 : Hid (Two P g P2 g2 w v W w4) := Lib.hid ⟨HT.out.one.below hb, HT.out.two.below hb, HT.out.kept.trans (KeptBut.of_below hb)⟩
  clear hb
  go_wp2
  go_ret
  exact ⟨rfl, HT2.out⟩
theorem equal_nil2 (P : Nat) (W : World) :
    Calls Try.prog 26 #[.pointer (some ⟨P, 0, none⟩), .pointer none] W fun e w' => e = .returned (.bool false) ∧ W = w' := by
  go_enter Try.func26, Try.ntmps26
  go_wp2
  go_ret
  exact ⟨rfl, rfl⟩
theorem equal_nil1 (P : Nat) (W : World) :
    Calls Try.prog 26 #[.pointer none, .pointer (some ⟨P, 0, none⟩)] W fun e w' => e = .returned (.bool false) ∧ W = w' := by
  go_enter Try.func26, Try.ntmps26
  go_wp2
  go_ret
  exact ⟨rfl, rfl⟩
theorem equal_nil (W : World) :
    Calls Try.prog 26 #[.pointer none, .pointer none] W fun e w' => e = .returned (.bool true) ∧ W = w' := by
  go_enter Try.func26, Try.ntmps26
  go_wp2
  go_ret
  exact ⟨rfl, rfl⟩
theorem meet_nil1 (x : Option Addr) (W : World) :
    Calls Try.prog 31 #[.pointer none, .pointer x] W fun e w' => e = .returned (.tuple #[.pointer none, .int .i64 1]) ∧ W = w' := by
  go_enter Try.func31, Try.ntmps31
  go_wp2_with (first | (go_at_call 48; refine (comp_nil1 x W).mono ?_; rintro e w1 ⟨rfl, rfl⟩) | fail)
  go_ret2
  exact ⟨rfl, rfl⟩
theorem meet_nil2 (P : Nat) (W : World) :
    Calls Try.prog 31 #[.pointer (some ⟨P, 0, none⟩), .pointer none] W fun e w' => e = .returned (.tuple #[.pointer none, .int .i64 1]) ∧ W = w' := by
  go_enter Try.func31, Try.ntmps31
  go_wp2_with (first | (go_at_call 48; refine (comp_nil2 P W).mono ?_; rintro e w1 ⟨rfl, rfl⟩) | fail)
  go_ret2
  exact ⟨rfl, rfl⟩
theorem join_nil1 (x : Option Addr) (W : World) :
    Calls Try.prog 32 #[.pointer none, .pointer x] W fun e w' => e = .returned (.tuple #[.pointer none, .int .i64 1]) ∧ W = w' := by
  go_enter Try.func32, Try.ntmps32
  go_wp2_with (first | (go_at_call 48; refine (comp_nil1 x W).mono ?_; rintro e w1 ⟨rfl, rfl⟩) | fail)
  go_ret2
  exact ⟨rfl, rfl⟩
theorem refines_nil1 (x : Option Addr) (W : World) :
    Calls Try.prog 30 #[.pointer none, .pointer x] W fun e w' => e = .returned (.bool false) ∧ W = w' := by
  go_enter Try.func30, Try.ntmps30
  go_wp2_with (first | (go_at_call 48; refine (comp_nil1 x W).mono ?_; rintro e w1 ⟨rfl, rfl⟩) | fail)
  go_ret
  exact ⟨rfl, rfl⟩
theorem refines_nil2 (P : Nat) (W : World) :
    Calls Try.prog 30 #[.pointer (some ⟨P, 0, none⟩), .pointer none] W fun e w' => e = .returned (.bool false) ∧ W = w' := by
  go_enter Try.func30, Try.ntmps30
  go_wp2_with (first | (go_at_call 48; refine (comp_nil2 P W).mono ?_; rintro e w1 ⟨rfl, rfl⟩) | fail)
  go_ret
  exact ⟨rfl, rfl⟩
end Go.Proofs.Ytjlpjdpaingnkaa.pt
