/-
  Contracts of bignat: Cmp, Equal.
-/
import Derived.Test.YtogjobmekjighaaDoorBnC
set_option linter.unusedSimpArgs false
set_option linter.unusedVariables false
namespace Go.Proofs.YtogjobmekjighaaDoor.bn
open Go.RowKit Go.Own Go.Bn
set_option maxHeartbeats 4000000
set_option maxRecDepth 100000

def cmpV (x y : Int) : Int := if x < y then -1 else if y < x then 1 else 0
theorem nan_int (x : Int) (w : World) : Calls Tryd.prog 71 #[.int .i64 x] w fun e w' => e = .returned (.bool false) ∧ w' = w := by
  go_enter Tryd.func71, Tryd.ntmps71
  go_wp2
  go_ret
  exact ⟨ret_bool (by simp), rfl⟩
theorem cmp_int (x y : Int) (w : World) : Calls Tryd.prog 61 #[.int .i64 x, .int .i64 y] w fun e w' => e = .returned (.int .i64 (cmpV x y)) ∧ w' = w := by
  rcases Int.lt_trichotomy x y with h | h | h
  · rw [show cmpV x y = -1 by simp [cmpV, h]]
    go_enter Tryd.func61, Tryd.ntmps61
    go_wp2_with ((go_at_call 71; refine (nan_int _ _).mono ?_; rintro e w1 ⟨rfl, rfl⟩))
    go_ret
    exact ⟨rfl, rfl⟩
  · subst h
    rw [show cmpV x x = 0 by simp [cmpV]]
    go_enter Tryd.func61, Tryd.ntmps61
    go_wp2_with ((go_at_call 71; refine (nan_int _ _).mono ?_; rintro e w1 ⟨rfl, rfl⟩))
    go_ret
    exact ⟨rfl, rfl⟩
  · rw [show cmpV x y = 1 by simp [cmpV, h]; omega]
    have h2 : ¬ x < y := by omega
    go_enter Tryd.func61, Tryd.ntmps61
    go_wp2_with ((go_at_call 71; refine (nan_int _ _).mono ?_; rintro e w1 ⟨rfl, rfl⟩))
    go_ret
    exact ⟨rfl, rfl⟩
theorem nan_u32 (x : Int) (w : World) : Calls Tryd.prog 72 #[.int .u32 x] w fun e w' => e = .returned (.bool false) ∧ w' = w := by
  go_enter Tryd.func72, Tryd.ntmps72
  go_wp2
  go_ret
  exact ⟨ret_bool (by simp), rfl⟩
theorem cmp_u32 (x y : Int) (w : World) : Calls Tryd.prog 62 #[.int .u32 x, .int .u32 y] w fun e w' => e = .returned (.int .i64 (cmpV x y)) ∧ w' = w := by
  rcases Int.lt_trichotomy x y with h | h | h
  · rw [show cmpV x y = -1 by simp [cmpV, h]]
    go_enter Tryd.func62, Tryd.ntmps62
    go_wp2_with ((go_at_call 72; refine (nan_u32 _ _).mono ?_; rintro e w1 ⟨rfl, rfl⟩))
    go_ret
    exact ⟨rfl, rfl⟩
  · subst h
    rw [show cmpV x x = 0 by simp [cmpV]]
    go_enter Tryd.func62, Tryd.ntmps62
    go_wp2_with ((go_at_call 72; refine (nan_u32 _ _).mono ?_; rintro e w1 ⟨rfl, rfl⟩))
    go_ret
    exact ⟨rfl, rfl⟩
  · rw [show cmpV x y = 1 by simp [cmpV, h]; omega]
    have h2 : ¬ x < y := by omega
    go_enter Tryd.func62, Tryd.ntmps62
    go_wp2_with ((go_at_call 72; refine (nan_u32 _ _).mono ?_; rintro e w1 ⟨rfl, rfl⟩))
    go_ret
    exact ⟨rfl, rfl⟩
theorem cmpV_lt {a b : Nat} (h : a < b) : cmpV (a : Int) (b : Int) = -1 := by simp [cmpV, h]
theorem cmpV_gt {a b : Nat} (h : b < a) : cmpV (a : Int) (b : Int) = 1 := by simp [cmpV, h]; omega
theorem cmpV_eq (a : Int) : cmpV a a = 0 := by simp [cmpV]
theorem Cmp_calls {v v2 : Value} {n n2 : Nat} {W : World} (h : NatAt v n W) (h2 : NatAt v2 n2 W) :
    Calls Tryd.prog 39 #[v, v2] W fun e w' => e = .returned (.int .i64 (cmpV (n : Int) (n2 : Int))) ∧ Below W.heap.size W w' := by
  obtain ⟨q, m, c, ds, rfl, hA, hN, hv⟩ := h.ex
  obtain ⟨q2, m2, c2, ds2, rfl, hA2, hN2, hv2⟩ := h2.ex
  have hm : m = ds.length := hA.all.1
  have hmm : m2 = ds2.length := hA2.all.1
  have hml : m ≤ 999000 := hA.all.2.1
  have hml2 : m2 ≤ 999000 := hA2.all.2.1
  have hD := hA.all.2.2.2.2.1
  have hD2 := hA2.all.2.2.2.2.1
  by_cases hne : m = m2
  · subst hne
    have HX := Lib.hid (And.intro hv hv2)
    have HM := Lib.hid (And.intro hm hmm)
    have HA := Lib.hid hA
    have HA2 := Lib.hid hA2
    have HDD := Lib.hid (And.intro hD hD2)
    clear hA hA2 hN hN2 hv hv2 hm hmm hD hD2 h h2 hml2
    go_enter Tryd.func39, Tryd.ntmps39
    go_wp2_with (go_at_call 61; refine (cmp_int _ _ _).mono ?_; rw [cmpV_eq]; rintro e w1 ⟨rfl, rfl⟩)
    go_loopw [6, 7] (fun i _ wr => ∃ k : Nat, k ≤ m ∧ i = .int .i64 ((k : Int) - 1) ∧ Hid (∀ i, k ≤ i → i < m → dg ds i = dg ds2 i) ∧ Hid (Below W.heap.size W wr) ∧ wr.cell? ⟨W.heap.size, 0, none⟩ = some (.slice q m c) ∧ wr.cell? ⟨W.heap.size + 1, 0, none⟩ = some (.slice q2 m c2)) (fun i _ _ => (intOf i + 1).toNat)
    case atStart => exact ⟨m, Nat.le_refl _, rfl, Lib.hid (fun i h1 h2 => by omega), Lib.hid (by repeat (first | assumption | exact Below.refl _ _ | exact below_beyond _ _ | refine Below.beyond ?_ (by (try simp [size_beyond]) <;> omega) _ | refine Below.drew ?_ | refine Go.Rw.below_drewN ?_ _ | refine Go.Rw.below_setRow ?_ (by (try simp [size_beyond]) <;> omega) _ | refine Below.alloc ?_ (by (try simp [size_beyond]) <;> omega) _ | refine Below.setCell ?_ (by (try simp [size_beyond]) <;> omega) _)), by simp [go_sem], by simp [go_sem]⟩
    case round =>
      obtain ⟨k, hk, rfl, HQ, HB, hx1, hx2⟩ := hrel
      by_cases hk0 : 0 < k
      · obtain ⟨k, rfl⟩ : ∃ j, k = j + 1 := ⟨k - 1, by omega⟩
        have ek : (((k + 1 : Nat) : Int) - 1) = (k : Int) := by omega
        rw [ek]
        obtain ⟨p, off, rfl, hpw, hcs⟩ := HA.out.cell (k := k) (by omega)
        obtain ⟨p2, off2, rfl, hpw2, hcs2⟩ := HA2.out.cell (k := k) (by omega)
        have hB := HB.out
        have hb1 : (k : Int) < (m : Int) := by omega
        have hc1 := (hB.cell hpw).trans (hcs k (by omega))
        have hc2 := (hB.cell hpw2).trans (hcs2 k (by omega))
        clear hcs hcs2 hB hk
        have HLT := Lib.hid (show dg ds k < dg ds2 k → cmpV (n : Int) (n2 : Int) = -1 from fun h => by
          rw [cmpV_lt]; rw [← HX.out.1, ← HX.out.2]
          exact cmp_dg HDD.out.1 (HM.out.1.symm.trans HM.out.2) (by rw [← HM.out.1]; omega) (fun i h1 h2 => HQ.out i h1 (by rw [HM.out.1]; exact h2)) h)
        have HGT := Lib.hid (show dg ds2 k < dg ds k → cmpV (n : Int) (n2 : Int) = 1 from fun h => by
          rw [cmpV_gt]; rw [← HX.out.1, ← HX.out.2]
          exact cmp_dg HDD.out.2 (HM.out.2.symm.trans HM.out.1) (by rw [← HM.out.2]; omega) (fun i h1 h2 => (HQ.out i h1 (by rw [HM.out.2]; exact h2)).symm) h)
        have HEQ := Lib.hid (show dg ds k = dg ds2 k → ∀ i, k ≤ i → i < m → dg ds i = dg ds2 i from fun h i h1 h2 => by
          by_cases e : i = k
          · rw [e]; exact h
          · exact HQ.out i (by omega) h2)
        clear HQ
        generalize dg ds k = x at hc1 HLT HGT HEQ
        generalize dg ds2 k = y at hc2 HLT HGT HEQ
        rcases Nat.lt_trichotomy x y with h | h | h
        · have HR := Lib.hid (HLT.out h)
          have HC := Lib.hid (fun w => by have := cmp_u32 (x : Int) (y : Int) w; rw [cmpV_lt h] at this; exact this)
          clear HLT HGT HEQ
          go_wp2
          go_quiet ((go_at_call 62; refine Calls.quiet_of_same (HC.out _)))
          go_wp2
          go_ret
          exact ⟨by rw [HR.out]; rfl, (by repeat (first | assumption | exact Below.refl _ _ | exact below_beyond _ _ | refine Below.beyond ?_ (by (try simp [size_beyond]) <;> omega) _ | refine Below.drew ?_ | refine Go.Rw.below_drewN ?_ _ | refine Go.Rw.below_setRow ?_ (by (try simp [size_beyond]) <;> omega) _ | refine Below.alloc ?_ (by (try simp [size_beyond]) <;> omega) _ | refine Below.setCell ?_ (by (try simp [size_beyond]) <;> omega) _))⟩
        · subst h
          have HH := Lib.hid (HEQ.out rfl)
          have HC := Lib.hid (fun w => by have := cmp_u32 (x : Int) (x : Int) w; rw [cmpV_eq] at this; exact this)
          clear HLT HGT HEQ
          go_wp2
          go_quiet ((go_at_call 62; refine Calls.quiet_of_same (HC.out _)))
          go_wp2
          refine ⟨⟨k, by omega, rfl, HH, Lib.hid (by repeat (first | assumption | exact Below.refl _ _ | exact below_beyond _ _ | refine Below.beyond ?_ (by (try simp [size_beyond]) <;> omega) _ | refine Below.drew ?_ | refine Go.Rw.below_drewN ?_ _ | refine Go.Rw.below_setRow ?_ (by (try simp [size_beyond]) <;> omega) _ | refine Below.alloc ?_ (by (try simp [size_beyond]) <;> omega) _ | refine Below.setCell ?_ (by (try simp [size_beyond]) <;> omega) _)), by simpa [go_sem] using hx1, by simpa [go_sem] using hx2⟩, ?_⟩
          show ((k : Int) - 1 + 1).toNat < ((k : Int) + 1).toNat
          omega
        · have HR := Lib.hid (HGT.out h)
          have HC := Lib.hid (fun w => by have := cmp_u32 (x : Int) (y : Int) w; rw [cmpV_gt h] at this; exact this)
          clear HLT HGT HEQ
          go_wp2
          go_quiet ((go_at_call 62; refine Calls.quiet_of_same (HC.out _)))
          go_wp2
          go_ret
          exact ⟨by rw [HR.out]; rfl, (by repeat (first | assumption | exact Below.refl _ _ | exact below_beyond _ _ | refine Below.beyond ?_ (by (try simp [size_beyond]) <;> omega) _ | refine Below.drew ?_ | refine Go.Rw.below_drewN ?_ _ | refine Go.Rw.below_setRow ?_ (by (try simp [size_beyond]) <;> omega) _ | refine Below.alloc ?_ (by (try simp [size_beyond]) <;> omega) _ | refine Below.setCell ?_ (by (try simp [size_beyond]) <;> omega) _))⟩
      · obtain rfl : k = 0 := by omega
        have HE := Lib.hid (show cmpV (n : Int) (n2 : Int) = 0 by
          rw [← HX.out.1, ← HX.out.2, eq_dg (HM.out.1.symm.trans HM.out.2) (fun i hi => HQ.out i (Nat.zero_le _) (by rw [HM.out.1]; exact hi)), cmpV_eq])
        go_wp2
        go_ret
        exact ⟨by rw [HE.out]; rfl, (by repeat (first | assumption | exact Below.refl _ _ | exact below_beyond _ _ | refine Below.beyond ?_ (by (try simp [size_beyond]) <;> omega) _ | refine Below.drew ?_ | refine Go.Rw.below_drewN ?_ _ | refine Go.Rw.below_setRow ?_ (by (try simp [size_beyond]) <;> omega) _ | refine Below.alloc ?_ (by (try simp [size_beyond]) <;> omega) _ | refine Below.setCell ?_ (by (try simp [size_beyond]) <;> omega) _))⟩
  · have HE := Lib.hid (show cmpV (m : Int) (m2 : Int) = cmpV (n : Int) (n2 : Int) by
      rcases Nat.lt_or_ge m m2 with hl | hl
      · rw [cmpV_lt hl, cmpV_lt (by rw [← hv, ← hv2]; exact val_lt_len hD hN2 (by omega))]
      · rw [cmpV_gt (by omega), cmpV_gt (by rw [← hv, ← hv2]; exact val_lt_len hD2 hN (by omega))])
    have hc : (cmpV (m : Int) (m2 : Int) != 0) = true := by
      rcases Nat.lt_or_ge m m2 with hl | hl
      · rw [cmpV_lt hl]; rfl
      · rw [cmpV_gt (by omega)]; rfl
    rw [← HE.out]
    clear hA hA2 hN hN2 hv hv2 hm hmm hD hD2 HE h h2
    generalize hz : cmpV (m : Int) (m2 : Int) = z at hc
    have HZ := Lib.hid hz; clear hz
    go_enter Tryd.func39, Tryd.ntmps39
    go_wp2_with (go_at_call 61; refine (cmp_int _ _ _).mono ?_; rw [HZ.out]; rintro e w1 ⟨rfl, rfl⟩)
    go_ret
    exact ⟨rfl, (by repeat (first | assumption | exact Below.refl _ _ | exact below_beyond _ _ | refine Below.beyond ?_ (by (try simp [size_beyond]) <;> omega) _ | refine Below.drew ?_ | refine Go.Rw.below_drewN ?_ _ | refine Go.Rw.below_setRow ?_ (by (try simp [size_beyond]) <;> omega) _ | refine Below.alloc ?_ (by (try simp [size_beyond]) <;> omega) _ | refine Below.setCell ?_ (by (try simp [size_beyond]) <;> omega) _))⟩
theorem NatAt.shape {v : Value} {n : Nat} {W : World} (h : NatAt v n W) : ∃ q m c, v = .agg #[.slice q m c] := by
  obtain ⟨q, m, c, ds, rfl, _⟩ := h.ex; exact ⟨q, m, c, rfl⟩
theorem Equal_calls {v v2 : Value} {n n2 : Nat} {W : World} (h : NatAt v n W) (h2 : NatAt v2 n2 W) :
    Calls Tryd.prog 28 #[v, v2] W fun e w' => e = .returned (.bool (decide (n = n2))) ∧ Below W.heap.size W w' := by
  have HE := Lib.hid (show (cmpV (n : Int) (n2 : Int) == 0) = decide (n = n2) by
    rcases Nat.lt_trichotomy n n2 with h | h | h
    · rw [cmpV_lt h, decide_eq_false (by omega)]; rfl
    · subst h; rw [cmpV_eq, decide_eq_true rfl]; rfl
    · rw [cmpV_gt h, decide_eq_false (by omega)]; rfl)
  rw [← HE.out]
  have HC := Lib.hid (show ∀ w, Below W.heap.size W w → Calls Tryd.prog 39 #[v, v2] w (fun e w' => e = .returned (.int .i64 (cmpV (n : Int) (n2 : Int))) ∧ Below W.heap.size W w') from fun w hb => (Cmp_calls (h.below hb) (h2.below hb)).mono fun e w' hh => ⟨hh.1, hb.trans (hh.2.mono hb.size)⟩)
  obtain ⟨q, m, c, rfl⟩ := h.shape
  obtain ⟨q2, m2, c2, rfl⟩ := h2.shape
  clear h h2 HE
  generalize cmpV (n : Int) (n2 : Int) = z at HC ⊢
  go_enter Tryd.func28, Tryd.ntmps28
  go_wp2_with (go_at_call 39; refine (HC.out _ (by repeat (first | assumption | exact Below.refl _ _ | exact below_beyond _ _ | refine Below.beyond ?_ (by (try simp [size_beyond]) <;> omega) _ | refine Below.drew ?_ | refine Go.Rw.below_drewN ?_ _ | refine Go.Rw.below_setRow ?_ (by (try simp [size_beyond]) <;> omega) _ | refine Below.alloc ?_ (by (try simp [size_beyond]) <;> omega) _ | refine Below.setCell ?_ (by (try simp [size_beyond]) <;> omega) _))).mono ?_; rintro e w1 ⟨rfl, hb⟩)
  go_ret
  exact ⟨rfl, (by repeat (first | assumption | exact Below.refl _ _ | exact below_beyond _ _ | refine Below.beyond ?_ (by (try simp [size_beyond]) <;> omega) _ | refine Below.drew ?_ | refine Go.Rw.below_drewN ?_ _ | refine Go.Rw.below_setRow ?_ (by (try simp [size_beyond]) <;> omega) _ | refine Below.alloc ?_ (by (try simp [size_beyond]) <;> omega) _ | refine Below.setCell ?_ (by (try simp [size_beyond]) <;> omega) _))⟩
end Go.Proofs.YtogjobmekjighaaDoor.bn
