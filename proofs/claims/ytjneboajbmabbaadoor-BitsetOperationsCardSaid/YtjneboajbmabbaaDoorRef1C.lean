/-
  The reference's functions on sorted lists: intersection, difference, union, and a list's set.
-/
import Derived.Test.YtjneboajbmabbaaDoorRef1B
set_option linter.unusedSimpArgs false
set_option linter.unusedVariables false
namespace Go.Proofs.YtjneboajbmabbaaDoor.ref1
open Go.RowKit Go.Own Go.Rw Go.SetL
set_option maxHeartbeats 1000000
set_option maxRecDepth 100000

theorem and_snoc {l p : List Int} {k : Nat} {x : Int} (hx : l[k]? = some x) : andL (l.take (k + 1)) p = andL (l.take k) p ++ if p.contains x = true then [x] else [] := by
  unfold andL; rw [List.take_add_one, hx, List.filter_append]
  cases h : p.contains x <;> simp [List.filter_cons, -List.contains_eq_mem, h]
theorem and_calls {q q2 : Option Addr} {m c m2 c2 : Nat} {l p : List Int} {w : World} (hm : m = l.length) (hb : m ≤ 999990) (h : Reads w q l) (hm2 : m2 = p.length) (hb2 : m2 ≤ 999990) (h2 : Reads w q2 p) :
    Calls Tryd.prog 30 #[.slice q m c, .slice q2 m2 c2] w (Gives w (andL l p)) := by
  have HR := Lib.hid h; clear h
  have HM := Lib.hid hm; clear hm
  have HR2 := Lib.hid h2; clear h2
  have HM2 := Lib.hid hm2; clear hm2
  go_enter Tryd.func30, Tryd.ntmps30
  go_wp2
  go_loopw [5, 6] (fun v i wr => ∃ k : Nat, k ≤ m ∧ i = .int .i64 k ∧ Hid (Own wr w.heap.size 3 v (andL (l.take k) p)) ∧ Hid (Below w.heap.size w wr))
    (fun _ i _ => m - (intOf i).toNat)
  case atStart => exact ⟨0, Nat.zero_le _, rfl, Lib.hid (Own.made _ (Nat.le_refl _)), Lib.hid (by repeat (first | assumption | exact Below.refl _ _ | exact below_beyond _ _ | refine Below.beyond ?_ (by (try simp [size_beyond]) <;> omega) _ | refine Below.drew ?_ | refine Go.Rw.below_drewN ?_ _ | refine Go.Rw.below_setRow ?_ (by (try simp [size_beyond]) <;> omega) _ | refine Below.alloc ?_ (by (try simp [size_beyond]) <;> omega) _ | refine Below.setCell ?_ (by (try simp [size_beyond]) <;> omega) _))⟩
  case round =>
    obtain ⟨k, hk, rfl, HO, HB⟩ := hrel
    by_cases hlt : k < m
    · obtain ⟨b, off, x, rfl, hx, hbw, hc⟩ := (HR.out.below HB.out).at (k := k) (by rw [← HM.out]; exact hlt)
      have HC := Lib.hid (and_snoc (p := p) hx); clear hx
      have HL : (andL (l.take k) p).length ≤ 1000000 := Nat.le_trans (List.length_filter_le _ _) (by simp; omega)
      have hB : w.heap.size ≤ wr.heap.size := HB.out.size
      cases hx : p.contains x
      all_goals
        have HX := Lib.hid hx; clear hx
      · go_wp2_with (go_at_call 22; refine (has_calls (l := p) _ HM2.out (by omega) (HR2.out.below HB.out)).mono ?_; rw [HX.out]; rintro e w1 ⟨rfl, rfl⟩)
        go_roundw
        case rel => exact ⟨k + 1, by omega, by go_num, Lib.hid (by rw [HC.out, HX.out, if_neg (by decide), List.append_nil]; exact HO.out), HB⟩
        case measure => simp [intOf]; omega
      · go_wp2_with (first | (go_at_call 22; refine (has_calls (l := p) _ HM2.out (by omega) (HR2.out.below HB.out)).mono ?_; rw [HX.out]; rintro e w1 ⟨rfl, rfl⟩) | (at_builtin; refine wpList_app wr rfl _ _ _ rfl uI tI HO.out hB HL x rfl rfl ?_))
        intro v' w' hown hbel
        have HO2 := Lib.hid hown; clear hown
        have HB2 := Lib.hid (HB.out.trans hbel); clear hbel
        go_wp2
        go_roundw
        case rel => exact ⟨k + 1, by omega, by go_num, Lib.hid (by rw [HC.out, HX.out, if_pos rfl]; exact HO2.out), HB2⟩
        case measure => simp [intOf]; omega
    · obtain rfl : k = m := by omega
      go_wp2
      go_ret
      have := HO.out
      rw [List.take_of_length_le (by rw [← HM.out]; exact Nat.le_refl _)] at this
      exact this.gives HB.out

theorem minus_snoc {l p : List Int} {k : Nat} {x : Int} (hx : l[k]? = some x) : minusL (l.take (k + 1)) p = minusL (l.take k) p ++ if p.contains x = false then [x] else [] := by
  unfold minusL; rw [List.take_add_one, hx, List.filter_append]
  cases h : p.contains x <;> simp [List.filter_cons, -List.contains_eq_mem, h]
theorem minus_calls {q q2 : Option Addr} {m c m2 c2 : Nat} {l p : List Int} {w : World} (hm : m = l.length) (hb : m ≤ 999990) (h : Reads w q l) (hm2 : m2 = p.length) (hb2 : m2 ≤ 999990) (h2 : Reads w q2 p) :
    Calls Tryd.prog 34 #[.slice q m c, .slice q2 m2 c2] w (Gives w (minusL l p)) := by
  have HR := Lib.hid h; clear h
  have HM := Lib.hid hm; clear hm
  have HR2 := Lib.hid h2; clear h2
  have HM2 := Lib.hid hm2; clear hm2
  go_enter Tryd.func34, Tryd.ntmps34
  go_wp2
  go_loopw [5, 6] (fun v i wr => ∃ k : Nat, k ≤ m ∧ i = .int .i64 k ∧ Hid (Own wr w.heap.size 3 v (minusL (l.take k) p)) ∧ Hid (Below w.heap.size w wr))
    (fun _ i _ => m - (intOf i).toNat)
  case atStart => exact ⟨0, Nat.zero_le _, rfl, Lib.hid (Own.made _ (Nat.le_refl _)), Lib.hid (by repeat (first | assumption | exact Below.refl _ _ | exact below_beyond _ _ | refine Below.beyond ?_ (by (try simp [size_beyond]) <;> omega) _ | refine Below.drew ?_ | refine Go.Rw.below_drewN ?_ _ | refine Go.Rw.below_setRow ?_ (by (try simp [size_beyond]) <;> omega) _ | refine Below.alloc ?_ (by (try simp [size_beyond]) <;> omega) _ | refine Below.setCell ?_ (by (try simp [size_beyond]) <;> omega) _))⟩
  case round =>
    obtain ⟨k, hk, rfl, HO, HB⟩ := hrel
    by_cases hlt : k < m
    · obtain ⟨b, off, x, rfl, hx, hbw, hc⟩ := (HR.out.below HB.out).at (k := k) (by rw [← HM.out]; exact hlt)
      have HC := Lib.hid (minus_snoc (p := p) hx); clear hx
      have HL : (minusL (l.take k) p).length ≤ 1000000 := Nat.le_trans (List.length_filter_le _ _) (by simp; omega)
      have hB : w.heap.size ≤ wr.heap.size := HB.out.size
      cases hx : p.contains x
      all_goals
        have HX := Lib.hid hx; clear hx
      · go_wp2_with (first | (go_at_call 22; refine (has_calls (l := p) _ HM2.out (by omega) (HR2.out.below HB.out)).mono ?_; rw [HX.out]; rintro e w1 ⟨rfl, rfl⟩) | (at_builtin; refine wpList_app wr rfl _ _ _ rfl uI tI HO.out hB HL x rfl rfl ?_))
        intro v' w' hown hbel
        have HO2 := Lib.hid hown; clear hown
        have HB2 := Lib.hid (HB.out.trans hbel); clear hbel
        go_wp2
        go_roundw
        case rel => exact ⟨k + 1, by omega, by go_num, Lib.hid (by rw [HC.out, HX.out, if_pos rfl]; exact HO2.out), HB2⟩
        case measure => simp [intOf]; omega
      · go_wp2_with (go_at_call 22; refine (has_calls (l := p) _ HM2.out (by omega) (HR2.out.below HB.out)).mono ?_; rw [HX.out]; rintro e w1 ⟨rfl, rfl⟩)
        go_roundw
        case rel => exact ⟨k + 1, by omega, by go_num, Lib.hid (by rw [HC.out, HX.out, if_neg (by decide), List.append_nil]; exact HO.out), HB⟩
        case measure => simp [intOf]; omega
    · obtain rfl : k = m := by omega
      go_wp2
      go_ret
      have := HO.out
      rw [List.take_of_length_le (by rw [← HM.out]; exact Nat.le_refl _)] at this
      exact this.gives HB.out

/-- a slice that reads as a list -/
def Is (w : World) (v : Value) (l : List Int) : Prop := ∃ q m c, v = .slice q m c ∧ m = l.length ∧ m ≤ c ∧ c ≤ maxLen ∧ Reads w q l
theorem withL_len (l : List Int) (n : Int) : (withL l n).length ≤ l.length + 1 := by
  unfold withL
  split
  · omega
  · have h := insF_len n l
    unfold insL
    cases hb : (insF n l).2
    · rw [hb] at h; simp at h ⊢; omega
    · rw [hb] at h; simp at h ⊢; omega
theorem foldl_len : ∀ (p l : List Int), (p.foldl withL l).length ≤ l.length + p.length
  | [], l => Nat.le_refl _
  | x :: p, l => by
    have h1 := foldl_len p (withL l x)
    have h2 := withL_len l x
    simp only [List.foldl_cons, List.length_cons]; omega

theorem or_calls {q q2 : Option Addr} {m c m2 c2 : Nat} {l p : List Int} {w : World} (hm : m = l.length) (hmc : m ≤ c) (hc : c ≤ maxLen) (h : Reads w q l) (hm2 : m2 = p.length) (hb2 : m + m2 ≤ 999980) (h2 : Reads w q2 p) :
    Calls Tryd.prog 32 #[.slice q m c, .slice q2 m2 c2] w (Gives w (orL l p)) := by
  have HR2 := Lib.hid h2; clear h2
  have HM2 := Lib.hid hm2; clear hm2
  have HR := Lib.hid h; clear h
  have HM := Lib.hid hm; clear hm
  have HS := Lib.hid (And.intro hmc hc); clear hmc hc
  go_enter Tryd.func32, Tryd.ntmps32
  go_wp2
  go_loopw [5, 6] (fun v i wr => ∃ k : Nat, k ≤ m2 ∧ i = .int .i64 k ∧ Hid (Is wr v ((p.take k).foldl withL l)) ∧ Hid (Below w.heap.size w wr))
    (fun _ i _ => m2 - (intOf i).toNat)
  case atStart => exact ⟨0, Nat.zero_le _, rfl, Lib.hid ⟨q, m, c, rfl, HM.out, HS.out.1, HS.out.2, HR.out⟩, Lib.hid (by repeat (first | assumption | exact Below.refl _ _ | exact below_beyond _ _ | refine Below.beyond ?_ (by (try simp [size_beyond]) <;> omega) _ | refine Below.drew ?_ | refine Go.Rw.below_drewN ?_ _ | refine Go.Rw.below_setRow ?_ (by (try simp [size_beyond]) <;> omega) _ | refine Below.alloc ?_ (by (try simp [size_beyond]) <;> omega) _ | refine Below.setCell ?_ (by (try simp [size_beyond]) <;> omega) _))⟩
  case round =>
    obtain ⟨k, hk, rfl, HI, HB⟩ := hrel
    obtain ⟨q3, m3, c3, rfl, hm3, hmc3, hc3, hr3⟩ := HI.out
    have hlen := foldl_len (p.take k) l
    have htk : (p.take k).length ≤ k := List.length_take_le _ _
    have hb3 : m3 ≤ m + m2 := by have := HM.out; omega
    have HM3 := Lib.hid hm3
    have HR3 := Lib.hid hr3
    have HH := Lib.hid (And.intro hmc3 hc3)
    clear hm3 hr3 hlen htk HI hmc3 hc3
    by_cases hlt : k < m2
    · obtain ⟨b, off, x, rfl, hx, hbw, hc⟩ := (HR2.out.below HB.out).at (k := k) (by rw [← HM2.out]; exact hlt)
      have HX := Lib.hid hx; clear hx
      go_wp2_with fail
      refine (with_calls x HM3.out (by omega) HH.out.1 HH.out.2 HR3.out).mono ?_
      rintro e w1 ⟨q4, m4, c4, rfl, hm4, hmc4, hc4, hr4, hb4⟩
      have HI4 := Lib.hid (show Is w1 (.slice q4 m4 c4) ((p.take (k + 1)).foldl withL l) from ⟨q4, m4, c4, rfl, by rw [List.take_add_one, HX.out, List.foldl_append]; exact hm4, hmc4, hc4, by rw [List.take_add_one, HX.out, List.foldl_append]; exact hr4⟩)
      have HB4 := Lib.hid (HB.out.trans (hb4.mono HB.out.size))
      clear hm4 hmc4 hc4 hr4 hb4
      go_wp2
      go_roundw
      case rel => exact ⟨k + 1, by omega, by go_num, HI4, HB4⟩
      case measure => simp [intOf]; omega
    · obtain rfl : k = m2 := by omega
      have HT := Lib.hid (show p.take k = p from List.take_of_length_le (by rw [← HM2.out]; exact Nat.le_refl _))
      go_wp2
      go_ret
      have h1 := HM3.out
      have h2 := HR3.out
      rw [HT.out] at h1 h2
      exact ⟨q3, m3, c3, rfl, h1, HH.out.1, HH.out.2, h2, HB.out⟩

theorem of_calls {q2 : Option Addr} {m2 c2 : Nat} {p : List Int} {w : World}  (hm2 : m2 = p.length) (hb2 : m2 ≤ 999980) (h2 : Reads w q2 p) :
    Calls Tryd.prog 14 #[.slice q2 m2 c2] w (Gives w (ofL p)) := by
  have HR2 := Lib.hid h2; clear h2
  have HM2 := Lib.hid hm2; clear hm2

  go_enter Tryd.func14, Tryd.ntmps14
  go_wp2
  go_loopw [3, 4] (fun v i wr => ∃ k : Nat, k ≤ m2 ∧ i = .int .i64 k ∧ Hid (Is wr v ((p.take k).foldl withL [])) ∧ Hid (Below w.heap.size w wr))
    (fun _ i _ => m2 - (intOf i).toNat)
  case atStart => exact ⟨0, Nat.zero_le _, rfl, Lib.hid ⟨_, _, _, rfl, rfl, Nat.le_refl _, Nat.zero_le _, .nil _ _⟩, Lib.hid (by repeat (first | assumption | exact Below.refl _ _ | exact below_beyond _ _ | refine Below.beyond ?_ (by (try simp [size_beyond]) <;> omega) _ | refine Below.drew ?_ | refine Go.Rw.below_drewN ?_ _ | refine Go.Rw.below_setRow ?_ (by (try simp [size_beyond]) <;> omega) _ | refine Below.alloc ?_ (by (try simp [size_beyond]) <;> omega) _ | refine Below.setCell ?_ (by (try simp [size_beyond]) <;> omega) _))⟩
  case round =>
    obtain ⟨k, hk, rfl, HI, HB⟩ := hrel
    obtain ⟨q3, m3, c3, rfl, hm3, hmc3, hc3, hr3⟩ := HI.out
    have hlen := foldl_len (p.take k) []
    have htk : (p.take k).length ≤ k := List.length_take_le _ _
    have hb3 : m3 ≤ m2 := by simp at hlen; omega
    have HM3 := Lib.hid hm3
    have HR3 := Lib.hid hr3
    have HH := Lib.hid (And.intro hmc3 hc3)
    clear hm3 hr3 hlen htk HI hmc3 hc3
    by_cases hlt : k < m2
    · obtain ⟨b, off, x, rfl, hx, hbw, hc⟩ := (HR2.out.below HB.out).at (k := k) (by rw [← HM2.out]; exact hlt)
      have HX := Lib.hid hx; clear hx
      go_wp2_with fail
      refine (with_calls x HM3.out (by omega) HH.out.1 HH.out.2 HR3.out).mono ?_
      rintro e w1 ⟨q4, m4, c4, rfl, hm4, hmc4, hc4, hr4, hb4⟩
      have HI4 := Lib.hid (show Is w1 (.slice q4 m4 c4) ((p.take (k + 1)).foldl withL []) from ⟨q4, m4, c4, rfl, by rw [List.take_add_one, HX.out, List.foldl_append]; exact hm4, hmc4, hc4, by rw [List.take_add_one, HX.out, List.foldl_append]; exact hr4⟩)
      have HB4 := Lib.hid (HB.out.trans (hb4.mono HB.out.size))
      clear hm4 hmc4 hc4 hr4 hb4
      go_wp2
      go_roundw
      case rel => exact ⟨k + 1, by omega, by go_num, HI4, HB4⟩
      case measure => simp [intOf]; omega
    · obtain rfl : k = m2 := by omega
      have HT := Lib.hid (show p.take k = p from List.take_of_length_le (by rw [← HM2.out]; exact Nat.le_refl _))
      go_wp2
      go_ret
      have h1 := HM3.out
      have h2 := HR3.out
      rw [HT.out] at h1 h2
      exact ⟨q3, m3, c3, rfl, h1, HH.out.1, HH.out.2, h2, HB.out⟩

theorem within_calls {q q2 : Option Addr} {m c m2 c2 : Nat} {l p : List Int} {w : World} (hm : m = l.length) (hb : m ≤ 999990) (h : Reads w q l) (hm2 : m2 = p.length) (hb2 : m2 ≤ 999990) (h2 : Reads w q2 p) :
    Calls Tryd.prog 36 #[.slice q m c, .slice q2 m2 c2] w fun e w' => e = .returned (.bool ((minusL l p).length == 0)) ∧ ∃ x, w' = beyond w x := by
  have HH := Lib.hid (And.intro hm (And.intro h (And.intro hm2 h2))); clear hm h hm2 h2
  go_enter Tryd.func36, Tryd.ntmps36
  go_wp2_with fail
  refine (minus_calls HH.out.1 hb HH.out.2.1 HH.out.2.2.1 hb2 HH.out.2.2.2).mono ?_
  rintro e w1 ⟨q4, m4, c4, rfl, hm4, hmc4, hc4, hr4, hb4⟩
  have HM4 := Lib.hid hm4; clear hm4
  go_wp2
  go_ret
  exact ⟨ret_bool (by rw [← HM4.out, Bool.eq_iff_iff]; simp), beyond_of hb4⟩
end Go.Proofs.YtjneboajbmabbaaDoor.ref1
