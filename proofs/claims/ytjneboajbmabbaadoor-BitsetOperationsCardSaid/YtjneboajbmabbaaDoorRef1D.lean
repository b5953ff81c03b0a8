/-
  The reference's functions on sorted lists: the order of two lists.
-/
import Derived.Test.YtjneboajbmabbaaDoorRef1C
set_option linter.unusedSimpArgs false
set_option linter.unusedVariables false
namespace Go.Proofs.YtjneboajbmabbaaDoor.ref1
open Go.RowKit Go.Own Go.Rw Go.SetL
set_option maxHeartbeats 1000000
set_option maxRecDepth 100000

theorem cmp_calls {q q2 : Option Addr} {m c m2 c2 : Nat} {l p : List Int} {w : World} (hm : m = l.length) (hb : m ≤ 999990) (h : Reads w q l) (hm2 : m2 = p.length) (hb2 : m2 ≤ 999990) (h2 : Reads w q2 p) :
    Calls Tryd.prog 40 #[.slice q m c, .slice q2 m2 c2] w fun e w' => e = .returned (.int .i64 (cmpL l p)) ∧ ∃ x, w' = beyond w x := by
  have HR := Lib.hid h; clear h
  have HM := Lib.hid hm; clear hm
  have HR2 := Lib.hid h2; clear h2
  have HM2 := Lib.hid hm2; clear hm2
  go_enter Tryd.func40, Tryd.ntmps40
  go_wp2
  go_loopw [5, 6] (fun i k wr => ∃ (x y : Int) (ix ky : Nat), i = .int .i64 x ∧ k = .int .i64 y ∧ -1 ≤ x ∧ x < m ∧ -1 ≤ y ∧ y < m2 ∧ Hid (x + 1 = ix) ∧ Hid (y + 1 = ky) ∧ Hid (cmpL l p = cmpL (l.take ix) (p.take ky)) ∧ ∃ z, wr = beyond w z)
    (fun i _ _ => (intOf i + 1).toNat)
  case atStart => exact ⟨_, _, m, m2, rfl, rfl, by omega, by omega, by omega, by omega, Lib.hid (by omega), Lib.hid (by omega), Lib.hid (by rw [HM.out, HM2.out, List.take_length, List.take_length]), beyond_of (by repeat (first | assumption | exact Below.refl _ _ | exact below_beyond _ _ | refine Below.beyond ?_ (by (try simp [size_beyond]) <;> omega) _ | refine Below.drew ?_ | refine Go.Rw.below_drewN ?_ _ | refine Go.Rw.below_setRow ?_ (by (try simp [size_beyond]) <;> omega) _ | refine Below.alloc ?_ (by (try simp [size_beyond]) <;> omega) _ | refine Below.setCell ?_ (by (try simp [size_beyond]) <;> omega) _))⟩
  case round =>
    obtain ⟨x, y, ix, ky, rfl, rfl, hx1, hx2, hy1, hy2, HX, HY, HC, z, rfl⟩ := hrel
    by_cases hx0 : 0 ≤ x
    · obtain ⟨j, rfl⟩ := Int.eq_ofNat_of_zero_le hx0
      obtain rfl : ix = j + 1 := by have := HX.out; omega
      by_cases hy0 : 0 ≤ y
      · obtain ⟨t, rfl⟩ := Int.eq_ofNat_of_zero_le hy0
        obtain rfl : ky = t + 1 := by have := HY.out; omega
        obtain ⟨b, off, u, rfl, hu, hbw, hc⟩ := HR.out.at (k := j) (by rw [← HM.out]; omega)
        obtain ⟨b2, off2, v, rfl, hv, hbw2, hc2⟩ := HR2.out.at (k := t) (by rw [← HM2.out]; omega)
        have HS := Lib.hid (cmpL_step hu hv)
        have hc := ((below_beyond w z).cell hbw).trans hc
        have hc2 := ((below_beyond w z).cell hbw2).trans hc2
        clear hu hv
        by_cases h1 : v < u
        · go_wp2
          go_quiet (fail)
          go_wp2
          go_ret
          exact ⟨ret_int (by rw [HC.out, HS.out, if_pos h1]), beyond_of (by repeat (first | assumption | exact Below.refl _ _ | exact below_beyond _ _ | refine Below.beyond ?_ (by (try simp [size_beyond]) <;> omega) _ | refine Below.drew ?_ | refine Go.Rw.below_drewN ?_ _ | refine Go.Rw.below_setRow ?_ (by (try simp [size_beyond]) <;> omega) _ | refine Below.alloc ?_ (by (try simp [size_beyond]) <;> omega) _ | refine Below.setCell ?_ (by (try simp [size_beyond]) <;> omega) _))⟩
        by_cases h2 : u < v
        · go_wp2
          go_quiet (fail)
          go_wp2
          go_quiet (fail)
          go_wp2
          go_ret
          exact ⟨ret_int (by rw [HC.out, HS.out, if_neg (by omega), if_pos (by omega)]), beyond_of (by repeat (first | assumption | exact Below.refl _ _ | exact below_beyond _ _ | refine Below.beyond ?_ (by (try simp [size_beyond]) <;> omega) _ | refine Below.drew ?_ | refine Go.Rw.below_drewN ?_ _ | refine Go.Rw.below_setRow ?_ (by (try simp [size_beyond]) <;> omega) _ | refine Below.alloc ?_ (by (try simp [size_beyond]) <;> omega) _ | refine Below.setCell ?_ (by (try simp [size_beyond]) <;> omega) _))⟩
        · go_wp2
          go_quiet (fail)
          go_wp2
          go_quiet (fail)
          go_wp2
          go_roundw
          case rel => exact ⟨_, _, j, t, rfl, rfl, by omega, by omega, by omega, by omega, Lib.hid (by omega), Lib.hid (by omega), Lib.hid (by rw [HC.out, HS.out, if_neg (by omega), if_neg (by omega)]), beyond_of (by repeat (first | assumption | exact Below.refl _ _ | exact below_beyond _ _ | refine Below.beyond ?_ (by (try simp [size_beyond]) <;> omega) _ | refine Below.drew ?_ | refine Go.Rw.below_drewN ?_ _ | refine Go.Rw.below_setRow ?_ (by (try simp [size_beyond]) <;> omega) _ | refine Below.alloc ?_ (by (try simp [size_beyond]) <;> omega) _ | refine Below.setCell ?_ (by (try simp [size_beyond]) <;> omega) _))⟩
          case measure => simp [intOf] <;> omega
      · obtain rfl : ky = 0 := by have := HY.out; omega
        have HS := Lib.hid (cmpL_left (a := l) (i := j) (by rw [← HM.out]; omega))
        go_wp2
        go_ret
        exact ⟨ret_int (by rw [HC.out, List.take_zero, HS.out]), beyond_of (by repeat (first | assumption | exact Below.refl _ _ | exact below_beyond _ _ | refine Below.beyond ?_ (by (try simp [size_beyond]) <;> omega) _ | refine Below.drew ?_ | refine Go.Rw.below_drewN ?_ _ | refine Go.Rw.below_setRow ?_ (by (try simp [size_beyond]) <;> omega) _ | refine Below.alloc ?_ (by (try simp [size_beyond]) <;> omega) _ | refine Below.setCell ?_ (by (try simp [size_beyond]) <;> omega) _))⟩
    · obtain rfl : ix = 0 := by have := HX.out; omega
      by_cases hy0 : 0 ≤ y
      · obtain ⟨t, rfl⟩ := Int.eq_ofNat_of_zero_le hy0
        obtain rfl : ky = t + 1 := by have := HY.out; omega
        have HS := Lib.hid (cmpL_right (b := p) (k := t) (by rw [← HM2.out]; omega))
        go_wp2
        go_ret
        exact ⟨ret_int (by rw [HC.out, List.take_zero, HS.out]), beyond_of (by repeat (first | assumption | exact Below.refl _ _ | exact below_beyond _ _ | refine Below.beyond ?_ (by (try simp [size_beyond]) <;> omega) _ | refine Below.drew ?_ | refine Go.Rw.below_drewN ?_ _ | refine Go.Rw.below_setRow ?_ (by (try simp [size_beyond]) <;> omega) _ | refine Below.alloc ?_ (by (try simp [size_beyond]) <;> omega) _ | refine Below.setCell ?_ (by (try simp [size_beyond]) <;> omega) _))⟩
      · obtain rfl : ky = 0 := by have := HY.out; omega
        go_wp2
        go_ret
        exact ⟨ret_int (by rw [HC.out, List.take_zero, List.take_zero]; rfl), beyond_of (by repeat (first | assumption | exact Below.refl _ _ | exact below_beyond _ _ | refine Below.beyond ?_ (by (try simp [size_beyond]) <;> omega) _ | refine Below.drew ?_ | refine Go.Rw.below_drewN ?_ _ | refine Go.Rw.below_setRow ?_ (by (try simp [size_beyond]) <;> omega) _ | refine Below.alloc ?_ (by (try simp [size_beyond]) <;> omega) _ | refine Below.setCell ?_ (by (try simp [size_beyond]) <;> omega) _))⟩
theorem same_calls {q q2 : Option Addr} {m c m2 c2 : Nat} {l p : List Int} {w : World} (hm : m = l.length) (hb : m ≤ 999990) (h : Reads w q l) (hm2 : m2 = p.length) (hb2 : m2 ≤ 999990) (h2 : Reads w q2 p) :
    Calls Tryd.prog 17 #[.slice q m c, .slice q2 m2 c2] w fun e w' => e = .returned (.bool (decide (l = p))) ∧ ∃ x, w' = beyond w x := by
  have HC := Lib.hid (cmp_calls (c := c) (c2 := c2) hm hb h hm2 hb2 h2)
  have HE := Lib.hid (show (cmpL l p == 0) = decide (l = p) by rw [Bool.eq_iff_iff]; simp [cmpL_zero])
  clear h h2 hm hm2
  go_enter Tryd.func17, Tryd.ntmps17
  go_wp2_with fail
  refine HC.out.mono ?_
  rintro e w1 ⟨rfl, x, rfl⟩
  go_wp2
  go_ret
  exact ⟨ret_bool HE.out, beyond_of (by repeat (first | assumption | exact Below.refl _ _ | exact below_beyond _ _ | refine Below.beyond ?_ (by (try simp [size_beyond]) <;> omega) _ | refine Below.drew ?_ | refine Go.Rw.below_drewN ?_ _ | refine Go.Rw.below_setRow ?_ (by (try simp [size_beyond]) <;> omega) _ | refine Below.alloc ?_ (by (try simp [size_beyond]) <;> omega) _ | refine Below.setCell ?_ (by (try simp [size_beyond]) <;> omega) _))⟩
end Go.Proofs.YtjneboajbmabbaaDoor.ref1
