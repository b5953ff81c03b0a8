/-
  The reference's by, Split, Meet, Over, Finer.
-/
import Derived.Test.YtjlpjdpaingnkaaPtE
set_option linter.unusedSimpArgs false
set_option linter.unusedVariables false
namespace Go.Proofs.Ytjlpjdpaingnkaa.pt
open Go.RowKit Go.Own Go.Pt Go.Rw
set_option maxHeartbeats 4000000
set_option maxRecDepth 100000

theorem rjoin_calls {M : Nat → Prop} {q : Option Addr} {m c a b : Nat} {l : List Int} {W : World} (ha : a < m) (hb : b < m) (h : At M q m c l W) (hM : ∀ k, M k → k < W.heap.size) :
    Calls Try.prog 18 #[.slice q m c, .int .i64 (a : Int), .int .i64 (b : Int)] W fun e w' => ∃ q m c, e = .returned (.tuple #[.slice q m c, .bool (decide (gv l a ≠ gv l b))]) ∧ At M q m c (joinL l a b) w' ∧ Below W.heap.size W w' := by
  by_cases hab : gv l a = gv l b
  · rw [decide_eq_false (fun h => h hab), joinL_same hab]
    refine (rjoin_same ha hb hab h).mono fun e w' hh => ⟨q, m, c, hh.1, h.below hh.2, hh.2⟩
  · rw [decide_eq_true hab]
    exact rjoin_other ha hb hab h hM
theorem agree_no1 {a b : List Int} {t i : Nat} (h : gv a t ≠ gv a i) : agree a b t i = false := by simp [agree, h]
theorem agree_no2 {a b : List Int} {t i : Nat} (h : gv b t ≠ gv b i) : agree a b t i = false := by simp [agree, h]
theorem agree_yes {a b : List Int} {t i : Nat} (h : gv a t = gv a i) (h2 : gv b t = gv b i) : agree a b t i = true := by simp [agree, h, h2]
theorem by_more {a b : List Int} {t i : Nat} (ht : t ≤ byAt a b i) (h : agree a b t i = false) : t + 1 ≤ byAt a b i := by
  rcases Nat.lt_or_eq_of_le ht with h1 | h1
  · exact h1
  · have := (byAt_spec a b i).2.1; rw [← h1, h] at this; cases this
theorem by_end {a b : List Int} {t i : Nat} (ht : t ≤ byAt a b i) (h : agree a b t i = true) : t = byAt a b i := by
  rcases Nat.lt_or_eq_of_le ht with h1 | h1
  · have := (byAt_spec a b i).2.2 t h1; rw [h] at this; cases this
  · exact h1
theorem by_calls {M M1 M2 : Nat → Prop} {q q2 : Option Addr} {m c m2 c2 : Nat} {a b : List Int} {W : World} (h : At M1 q m c a W) (h2 : At M2 q2 m2 c2 b W) (hm : m = m2) (hM : ∀ k, M k → k < W.heap.size) :
    Calls Try.prog 47 #[.slice q m c, .slice q2 m2 c2] W (RetA M W (byL a b)) := by
  subst hm
  have HM := Lib.hid hM; clear hM
  have HA := Lib.hid h; clear h
  have HA2 := Lib.hid h2; clear h2
  have hm := HA.out.all.2.1
  have HL := Lib.hid (show byL a b = byTo a b m by unfold byL; rw [← HA.out.all.1])
  rw [HL.out]
  go_enter Try.func47, Try.ntmps47
  go_wp2
  go_loopw [5, 6, 7] (fun v i _ wr => ∃ j : Nat, j ≤ m ∧ i = .int .i64 j ∧ Hid (Go.Rw.Own wr W.heap.size 3 v (byTo a b j)) ∧ Hid (Below W.heap.size W wr)) (fun _ i _ _ => m - (intOf i).toNat)
  case atStart => exact ⟨0, Nat.zero_le _, rfl, Lib.hid (Go.Rw.Own.empty _ _ _), Lib.hid (by repeat (first | assumption | exact Below.refl _ _ | exact below_beyond _ _ | refine Below.beyond ?_ (by (try simp [size_beyond]) <;> omega) _ | refine Below.drew ?_ | refine Go.Rw.below_drewN ?_ _ | refine Go.Rw.below_setRow ?_ (by (try simp [size_beyond]) <;> omega) _ | refine Below.alloc ?_ (by (try simp [size_beyond]) <;> omega) _ | refine Below.setCell ?_ (by (try simp [size_beyond]) <;> omega) _))⟩
  case round =>
    obtain ⟨j, hj, rfl, HO, HB⟩ := hrel
    have hB : W.heap.size ≤ wr.heap.size := HB.out.size
    by_cases hlt : j < m
    · obtain ⟨p, off, rfl, hpw, hcs⟩ := HA.out.cell hlt
      obtain ⟨p2, off2, rfl, hpw2, hcs2⟩ := HA2.out.cell hlt
      have HCS := Lib.hid (fun i hi => (HB.out.cell hpw).trans (hcs i hi))
      have HCS2 := Lib.hid (fun i hi => (HB.out.cell hpw2).trans (hcs2 i hi))
      have hpr : p < wr.heap.size := by omega
      have hpr2 : p2 < wr.heap.size := by omega
      have hbj := (byAt_spec a b j).1
      have HS := Lib.hid (byTo_snoc a b j)
      clear hcs hcs2
      go_wp2
      go_loopw [7] (fun x wr2 => ∃ t : Nat, t ≤ byAt a b j ∧ x = .int .i64 t ∧ Hid (Below wr.heap.size wr wr2)) (fun x _ => byAt a b j - (intOf x).toNat)
      case atStart => exact ⟨0, Nat.zero_le _, rfl, Lib.hid (Below.refl _ _)⟩
      case round =>
        obtain ⟨t, ht, rfl, HB2⟩ := hrel
        have hc1 := (HB2.out.cell hpr).trans (HCS.out t (by omega))
        have hc2 := (HB2.out.cell hpr).trans (HCS.out j hlt)
        have hc3 := (HB2.out.cell hpr2).trans (HCS2.out t (by omega))
        have hc4 := (HB2.out.cell hpr2).trans (HCS2.out j hlt)
        have HN1 := Lib.hid (fun h => by_more ht (agree_no1 (a := a) (b := b) (t := t) (i := j) h))
        have HN2 := Lib.hid (fun h => by_more ht (agree_no2 (a := a) (b := b) (t := t) (i := j) h))
        have HYY := Lib.hid (fun h h2 => by_end ht (agree_yes (a := a) (b := b) (t := t) (i := j) h h2))
        have hsz2 := HB2.out.size
        have HBB := HB2.out
        generalize gv a t = x1 at hc1 HN1 HYY
        generalize gv a j = x2 at hc2 HN1 HYY
        generalize gv b t = x3 at hc3 HN2 HYY
        generalize gv b j = x4 at hc4 HN2 HYY
        by_cases e1 : x1 = x2
        · by_cases e2 : x3 = x4
          · have HTE := Lib.hid (HYY.out e1 e2)
            subst e1 e2
            have hb1 : (x1 != x1) = false := by simp
            have hb2 : (x3 != x3) = false := by simp
            clear HN1 HN2 HYY
            go_wp2
            go_quiet (fail)
            have HBq := Lib.hid (Go.Rw.below_drewN HBB nq)
            have HOq := Lib.hid (HO.out.below HBq.out)
            have HBq2 := Lib.hid (HB.out.trans (HBq.out.mono hB))
            clear hc1 hc2 hc3 hc4 HBq HBB HB2 hsz2
            generalize World.drewN _ nq = wz at HOq HBq2 ⊢
            have hBz : W.heap.size ≤ wz.heap.size := HBq2.out.size
            go_wp2_with (at_builtin; refine wpList_app wz rfl _ _ _ rfl cU tI HOq.out hBz (by rw [byTo_len]; omega) t rfl rfl ?_)
            intro v' w' hown hbel
            have HO2 := Lib.hid hown; clear hown
            have HB3 := Lib.hid (HBq2.out.trans hbel); clear hbel
            go_wp2
            go_roundw
            case rel => exact ⟨j + 1, by omega, by go_num, Lib.hid (by rw [HS.out, ← HTE.out]; exact HO2.out), HB3⟩
            case measure => simp [intOf]; omega
          · have hmore := HN2.out e2
            subst e1
            have hb1 : (x1 != x1) = false := by simp
            have hb2 : (x3 != x4) = true := bne_iff_ne.2 e2
            clear HN1 HN2 HYY
            go_wp2
            go_quiet (fail)
            go_wp2
            go_roundw
            case rel => exact ⟨t + 1, hmore, by go_num, Lib.hid (by repeat (first | assumption | exact Below.refl _ _ | exact below_beyond _ _ | refine Below.beyond ?_ (by (try simp [size_beyond]) <;> omega) _ | refine Below.drew ?_ | refine Go.Rw.below_drewN ?_ _ | refine Go.Rw.below_setRow ?_ (by (try simp [size_beyond]) <;> omega) _ | refine Below.alloc ?_ (by (try simp [size_beyond]) <;> omega) _ | refine Below.setCell ?_ (by (try simp [size_beyond]) <;> omega) _))⟩
            case measure => simp [intOf]; omega
        · have hmore := HN1.out e1
          have hb1 : (x1 != x2) = true := bne_iff_ne.2 e1
          clear HN1 HN2 HYY
          go_wp2
          go_quiet (fail)
          go_wp2
          go_roundw
          case rel => exact ⟨t + 1, hmore, by go_num, Lib.hid (by repeat (first | assumption | exact Below.refl _ _ | exact below_beyond _ _ | refine Below.beyond ?_ (by (try simp [size_beyond]) <;> omega) _ | refine Below.drew ?_ | refine Go.Rw.below_drewN ?_ _ | refine Go.Rw.below_setRow ?_ (by (try simp [size_beyond]) <;> omega) _ | refine Below.alloc ?_ (by (try simp [size_beyond]) <;> omega) _ | refine Below.setCell ?_ (by (try simp [size_beyond]) <;> omega) _))⟩
          case measure => simp [intOf]; omega
    · obtain rfl : j = m := by omega
      go_wp2
      go_ret
      obtain ⟨q, m, c, rfl, hat⟩ := own_at HO.out (by rw [byTo_len]; omega) HM.out
      exact ⟨q, m, c, rfl, hat, HB.out⟩
theorem over_calls {M M2 : Nat → Prop} {q q2 : Option Addr} {m c m2 c2 : Nat} {w v : List Int} {W : World} (h : At M q m c w W) (h2 : At M2 q2 m2 c2 v W) (hm : m = m2) (hv : Rep v) (hM : ∀ k, M k → k < W.heap.size) :
    Calls Try.prog 34 #[.slice q m c, .slice q2 m2 c2] W (RetA M W (overL w v)) := by
  subst hm
  have HM := Lib.hid hM; clear hM
  have HA2 := Lib.hid h2; clear h2
  have HA := Lib.hid h; clear h
  have hm := HA2.out.all.2.1
  have HV := Lib.hid hv; clear hv
  have HL := Lib.hid (show overL w v = overTo w v m by unfold overL; rw [← HA2.out.all.1])
  have HML := Lib.hid HA.out.all.1
  rw [HL.out]
  go_enter Try.func34, Try.ntmps34
  go_wp2
  go_loopw [5, 6] (fun x i wr => ∃ (k : Nat) (q1 : Option Addr) (c1 : Nat), k ≤ m ∧ i = .int .i64 k ∧ x = .slice q1 m c1 ∧ Hid (At M q1 m c1 (overTo w v k) wr) ∧ Hid (Below W.heap.size W wr)) (fun _ i _ => m - (intOf i).toNat)
  case atStart => exact ⟨0, q, c, Nat.zero_le _, rfl, rfl, HA, Lib.hid (by repeat (first | assumption | exact Below.refl _ _ | exact below_beyond _ _ | refine Below.beyond ?_ (by (try simp [size_beyond]) <;> omega) _ | refine Below.drew ?_ | refine Go.Rw.below_drewN ?_ _ | refine Go.Rw.below_setRow ?_ (by (try simp [size_beyond]) <;> omega) _ | refine Below.alloc ?_ (by (try simp [size_beyond]) <;> omega) _ | refine Below.setCell ?_ (by (try simp [size_beyond]) <;> omega) _))⟩
  case round =>
    obtain ⟨k, q1, c1, hk, rfl, rfl, HO, HB⟩ := hrel
    have hB : W.heap.size ≤ wr.heap.size := HB.out.size
    by_cases hlt : k < m
    · obtain ⟨p, off, rfl, hpw, hcs⟩ := HA2.out.cell hlt
      have hcell := (HB.out.cell hpw).trans (hcs k hlt)
      have hvl : v.length = m := HA2.out.all.1.symm
      have hlo := HV.out.lo k (by omega)
      have hlt2 := HV.out.lt (i := k) (by omega)
      have hcast : gv v k = (((gv v k).toNat : Nat) : Int) := by omega
      have HS := Lib.hid (overTo_succ w v k)
      rw [hcast] at hcell
      clear hcs hcast hlo
      generalize (gv v k).toNat = r at hcell HS hlt2
      have HJ := Lib.hid (rjoin_calls hlt (b := r) (by omega) HO.out (fun k hk => by have := HM.out k hk; omega))
      have HLN := Lib.hid (show (joinL (overTo w v k) k r).length = m by rw [joinL_len, overTo_len, HML.out])
      clear hvl
      go_wp2_with (fail)
      go_at_call 18
      refine HJ.out.mono ?_
      rintro e w1 ⟨q2, m2, c2, rfl, h1, h2⟩
      have hm2 : m2 = m := h1.all.1.trans HLN.out
      subst hm2
      have HO1 := Lib.hid h1
      have HB1 := Lib.hid (HB.out.trans (h2.mono hB))
      clear h1 h2
      go_wp2
      go_roundw
      case rel => exact ⟨k + 1, q2, c2, by omega, by go_num, rfl, Lib.hid (by rw [HS.out]; exact HO1.out), HB1⟩
      case measure => simp [intOf]; omega
    · obtain rfl : k = m := by omega
      go_wp2
      go_ret
      exact ⟨q1, _, c1, rfl, HO.out, HB.out⟩
theorem finer_calls {M1 M2 : Nat → Prop} {q q2 : Option Addr} {m c m2 c2 : Nat} {w v : List Int} {W : World} (h : At M1 q m c w W) (h2 : At M2 q2 m2 c2 v W) (hm : m = m2) (hw : Rep w) :
    Calls Try.prog 35 #[.slice q m c, .slice q2 m2 c2] W fun e w' => e = .returned (.bool (finerL w v)) ∧ Below W.heap.size W w' := by
  subst hm
  have HA := Lib.hid h; clear h
  have HA2 := Lib.hid h2; clear h2
  have hm := HA.out.all.2.1
  have HW := Lib.hid hw; clear hw
  have HML := Lib.hid HA.out.all.1
  go_enter Try.func35, Try.ntmps35
  go_wp2
  go_loopw [5] (fun i wr => ∃ k : Nat, k ≤ m ∧ i = .int .i64 k ∧ Hid (finerTo w v k) ∧ Hid (Below W.heap.size W wr)) (fun i _ => m - (intOf i).toNat)
  case atStart => exact ⟨0, Nat.zero_le _, rfl, Lib.hid (fun i hi => absurd hi (Nat.not_lt_zero _)), Lib.hid (by repeat (first | assumption | exact Below.refl _ _ | exact below_beyond _ _ | refine Below.beyond ?_ (by (try simp [size_beyond]) <;> omega) _ | refine Below.drew ?_ | refine Go.Rw.below_drewN ?_ _ | refine Go.Rw.below_setRow ?_ (by (try simp [size_beyond]) <;> omega) _ | refine Below.alloc ?_ (by (try simp [size_beyond]) <;> omega) _ | refine Below.setCell ?_ (by (try simp [size_beyond]) <;> omega) _))⟩
  case round =>
    obtain ⟨k, hk, rfl, HF, HB⟩ := hrel
    by_cases hlt : k < m
    · obtain ⟨p, off, rfl, hpw, hcs⟩ := HA.out.cell hlt
      obtain ⟨p2, off2, rfl, hpw2, hcs2⟩ := HA2.out.cell hlt
      have hlo := HW.out.lo k (by rw [← HML.out]; exact hlt)
      have hlt2 : (gv w k).toNat < m := by have := HW.out.lt (i := k) (by rw [← HML.out]; exact hlt); rwa [← HML.out] at this
      have hcast : gv w k = (((gv w k).toNat : Nat) : Int) := by omega
      have hc1 := (HB.out.cell hpw2).trans (hcs2 k hlt)
      have hc2 := (HB.out.cell hpw).trans (hcs k hlt)
      have hc3 := (HB.out.cell hpw2).trans (hcs2 _ hlt2)
      have HS := Lib.hid (show gv v k = gv v (gv w k).toNat → finerTo w v (k + 1) from fun e i hi => by
        by_cases h : i < k
        · exact HF.out i h
        · obtain rfl : i = k := by omega
          exact e)
      have HN := Lib.hid (show gv v k ≠ gv v (gv w k).toNat → finerL w v = false from fun e => decide_eq_false (fun h => e (h k (by rw [← HML.out]; exact hlt))))
      rw [hcast] at hc2
      clear hcs hcs2 hcast hlo
      have HBS := HB.out
      generalize (gv w k).toNat = r at hc2 hc3 HS HN hlt2
      generalize gv v k = x at HS HN hc1
      generalize gv v r = y at HS HN hc3
      by_cases e : x = y
      · have HS2 := Lib.hid (HS.out e)
        subst e
        clear HS HN
        go_wp2
        go_quiet (fail)
        go_wp2
        go_roundw
        case rel => exact ⟨k + 1, by omega, by go_num, HS2, Lib.hid (by repeat (first | assumption | exact Below.refl _ _ | exact below_beyond _ _ | refine Below.beyond ?_ (by (try simp [size_beyond]) <;> omega) _ | refine Below.drew ?_ | refine Go.Rw.below_drewN ?_ _ | refine Go.Rw.below_setRow ?_ (by (try simp [size_beyond]) <;> omega) _ | refine Below.alloc ?_ (by (try simp [size_beyond]) <;> omega) _ | refine Below.setCell ?_ (by (try simp [size_beyond]) <;> omega) _))⟩
        case measure => simp [intOf]; omega
      · have HN2 := Lib.hid (HN.out e)
        clear HS HN
        go_wp2
        go_quiet (fail)
        go_wp2
        go_ret
        exact ⟨ret_bool HN2.out.symm, (by repeat (first | assumption | exact Below.refl _ _ | exact below_beyond _ _ | refine Below.beyond ?_ (by (try simp [size_beyond]) <;> omega) _ | refine Below.drew ?_ | refine Go.Rw.below_drewN ?_ _ | refine Go.Rw.below_setRow ?_ (by (try simp [size_beyond]) <;> omega) _ | refine Below.alloc ?_ (by (try simp [size_beyond]) <;> omega) _ | refine Below.setCell ?_ (by (try simp [size_beyond]) <;> omega) _))⟩
    · obtain rfl : k = m := by omega
      have HT := Lib.hid (show finerL w v = true from decide_eq_true (by rw [← HML.out]; exact HF.out))
      go_wp2
      go_ret
      exact ⟨ret_bool HT.out.symm, HB.out⟩
theorem rsplit_calls {M M1 M2 : Nat → Prop} {q q2 : Option Addr} {m c m2 c2 : Nat} {a b : List Int} {W : World} (h : At M1 q m c a W) (h2 : At M2 q2 m2 c2 b W) (hm : m = m2) (hM : ∀ k, M k → k < W.heap.size) :
    Calls Try.prog 29 #[.slice q m c, .slice q2 m2 c2] W (RetA M W (byL a b)) := by
  have HB := Lib.hid (by_calls h h2 hm hM)
  clear h h2 hm hM
  go_enter Try.func29, Try.ntmps29
  go_wp2_with (fail)
  go_at_call 47
  refine HB.out.mono ?_
  rintro e w1 ⟨q1, m1, c1, rfl, h1, h2⟩
  go_wp2
  go_ret
  exact ⟨q1, m1, c1, rfl, h1, h2⟩
theorem rmeet_calls {M M1 M2 : Nat → Prop} {q q2 : Option Addr} {m c m2 c2 : Nat} {a b : List Int} {W : World} (h : At M1 q m c a W) (h2 : At M2 q2 m2 c2 b W) (hm : m = m2) (hM : ∀ k, M k → k < W.heap.size) :
    Calls Try.prog 33 #[.slice q m c, .slice q2 m2 c2] W (RetA M W (byL a b)) := by
  have HB := Lib.hid (by_calls h h2 hm hM)
  clear h h2 hm hM
  go_enter Try.func33, Try.ntmps33
  go_wp2_with (fail)
  go_at_call 47
  refine HB.out.mono ?_
  rintro e w1 ⟨q1, m1, c1, rfl, h1, h2⟩
  go_wp2
  go_ret
  exact ⟨q1, m1, c1, rfl, h1, h2⟩
end Go.Proofs.Ytjlpjdpaingnkaa.pt
