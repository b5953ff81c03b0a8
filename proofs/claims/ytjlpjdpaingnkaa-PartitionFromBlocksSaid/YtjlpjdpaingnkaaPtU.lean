/-
  Union and Find.
-/
import Derived.Test.YtjlpjdpaingnkaaPtR
set_option linter.unusedSimpArgs false
set_option linter.unusedVariables false
namespace Go.Proofs.Ytjlpjdpaingnkaa.pt
open Go.RowKit Go.Own Go.Pt
set_option maxHeartbeats 4000000
set_option maxRecDepth 100000

theorem has_calls {P g c : Nat} {u : List Nat} {W : World} (a : Int) {b : Bool} (hb : b = decide (0 ≤ a ∧ a < u.length)) (hP : PtAt P g c u W) :
    Calls Try.prog 40 #[.pointer (some ⟨P, 0, none⟩), .int .i64 a] W fun e w' => e = .returned (.bool b) ∧ W = w' := by
  have hcs := hP.cellP
  by_cases h0 : 0 ≤ a
  · by_cases h1 : a < u.length
    · obtain rfl : b = true := hb.trans (decide_eq_true ⟨h0, h1⟩)
      clear hb
      go_enter Try.func40, Try.ntmps40
      go_wp2
      go_ret
      exact ⟨rfl, rfl⟩
    · obtain rfl : b = false := hb.trans (decide_eq_false (fun h => h1 h.2))
      clear hb
      go_enter Try.func40, Try.ntmps40
      go_wp2
      go_ret
      exact ⟨rfl, rfl⟩
  · obtain rfl : b = false := hb.trans (decide_eq_false (fun h => h0 h.1))
    clear hb
    go_enter Try.func40, Try.ntmps40
    go_wp2
    go_ret
    exact ⟨rfl, rfl⟩
/-- what a call that joins the blocks of a and b does -/
def Joined (P g c ra rb : Nat) (u : List Nat) (W w : World) : Prop := ∃ u', u'.length = u.length ∧ Up u' ∧ (∀ i, root u' i = if root u i = max ra rb then min ra rb else root u i) ∧ PtAt P g c u' w ∧ KeptBut (· = g) W w
theorem merge_calls {P g c a b ra rb : Nat} {u : List Nat} {W : World} (hra : root u a = ra) (hrb : root u b = rb) (hU : Up u) (ha : a < u.length) (hb : b < u.length) (hn : u.length ≤ 4096) (hP : PtAt P g c u W) :
    Calls Try.prog 41 #[.pointer (some ⟨P, 0, none⟩), .int .i64 (a : Int), .int .i64 (b : Int)] W fun e w' => e = .returned (.bool (decide (ra ≠ rb))) ∧ Joined P g c ra rb u W w' := by
  have HR := Lib.hid (root_calls hU ha hn hP)
  rw [hra] at HR
  go_enter Try.func41, Try.ntmps41
  go_wp2_with (fail)
  go_at_call 42
  refine HR.out.mono ?_
  rintro e w1 ⟨rfl, u1, h1, h2, h3, h4, h5⟩
  have HR1 := Lib.hid (root_calls h2 (a := b) (by omega) (by omega) h4)
  go_wp2_with (fail)
  go_at_call 42
  refine HR1.out.mono ?_
  rintro e w2 ⟨rfl, u2, k1, k2, k3, k4, k5⟩
  rw [h3 b, hrb]
  have HS := Lib.hid (fun i => (k3 i).trans (h3 i))
  have HN := Lib.hid (k1.trans h1)
  have HKK := Lib.hid (h5.trans k5)
  have fa : par u2 ra = ra := by have := root_fix k2 a; rwa [HS.out a, hra] at this
  have fb : par u2 rb = rb := by have := root_fix k2 b; rwa [HS.out b, hrb] at this
  have la : ra < u.length := hra ▸ Nat.lt_of_le_of_lt (root_le hU a) ha
  have lb : rb < u.length := hrb ▸ Nat.lt_of_le_of_lt (root_le hU b) hb
  have HJ := Lib.hid (fun (hi lo : Nat) (hh : hi < u2.length) (e1 : par u2 hi = hi) (e2 : par u2 lo = lo) (hl : lo ≤ hi) => root_join k2 hh e1 e2 hl)
  clear h1 h2 h3 h4 h5 k3 k5 HR HR1
  clear hra hrb
  have hcs := k4.cellP
  rw [HN.out] at hcs
  have hn2 := HN.out
  have HQ := Lib.hid (show ((ra : Int) != (rb : Int)) = decide (ra ≠ rb) by rw [Bool.eq_iff_iff]; simp; omega)
  rcases Nat.lt_trichotomy ra rb with hlt | heq | hge
  · have hc := k4.cell (a := rb) (by omega)
    have hf := k4.frozen rb
    obtain ⟨s1, s2⟩ := k4.set (a := rb) (by omega) ra
    have HF := Lib.hid (show (u2.set rb ra).length = u.length ∧ Up (u2.set rb ra) ∧ (∀ i, root (u2.set rb ra) i = if root u i = max ra rb then min ra rb else root u i) from ⟨by simp [HN.out], up_set k2 (by omega), fun i => by rw [HJ.out rb ra (by omega) fb fa (by omega), HS.out i, Nat.max_eq_right (by omega), Nat.min_eq_left (by omega)]⟩)
    have S1 := Lib.hid s1
    have S2 := Lib.hid (HKK.out.trans s2)
    have hmx : max (ra : Int) (rb : Int) = (rb : Int) := by omega
    have hmn : min (ra : Int) (rb : Int) = (ra : Int) := by omega
    clear s1 s2 HJ
    go_wp2
    go_ret
    refine ⟨?_, _, HF.out.1, HF.out.2.1, HF.out.2.2, S1.out, S2.out⟩
    first | (rw [← HQ.out]; rfl) | (simp; done) | (rw [show (!decide (ra = rb)) = ((ra : Int) != (rb : Int)) from by rw [HQ.out]; simp]; rfl)
  · subst heq
    have hc := k4.cell (a := ra) (by omega)
    have hf := k4.frozen ra
    obtain ⟨s1, s2⟩ := k4.set (a := ra) (by omega) ra
    have HF := Lib.hid (show (u2.set ra ra).length = u.length ∧ Up (u2.set ra ra) ∧ (∀ i, root (u2.set ra ra) i = if root u i = max ra ra then min ra ra else root u i) from ⟨by simp [HN.out], up_set k2 (by omega), fun i => by rw [HJ.out ra ra (by omega) fa fb (by omega), HS.out i, Nat.max_eq_left (by omega), Nat.min_eq_right (by omega)]⟩)
    have S1 := Lib.hid s1
    have S2 := Lib.hid (HKK.out.trans s2)
    have hmx : max (ra : Int) (ra : Int) = (ra : Int) := by omega
    have hmn : min (ra : Int) (ra : Int) = (ra : Int) := by omega
    clear s1 s2 HJ
    go_wp2
    go_ret
    refine ⟨?_, _, HF.out.1, HF.out.2.1, HF.out.2.2, S1.out, S2.out⟩
    first | (rw [← HQ.out]; rfl) | (simp; done) | (rw [show (!decide (ra = ra)) = ((ra : Int) != (ra : Int)) from by rw [HQ.out]; simp]; rfl)
  · have hc := k4.cell (a := ra) (by omega)
    have hf := k4.frozen ra
    obtain ⟨s1, s2⟩ := k4.set (a := ra) (by omega) rb
    have HF := Lib.hid (show (u2.set ra rb).length = u.length ∧ Up (u2.set ra rb) ∧ (∀ i, root (u2.set ra rb) i = if root u i = max ra rb then min ra rb else root u i) from ⟨by simp [HN.out], up_set k2 (by omega), fun i => by rw [HJ.out ra rb (by omega) fa fb (by omega), HS.out i, Nat.max_eq_left (by omega), Nat.min_eq_right (by omega)]⟩)
    have S1 := Lib.hid s1
    have S2 := Lib.hid (HKK.out.trans s2)
    have hmx : max (ra : Int) (rb : Int) = (ra : Int) := by omega
    have hmn : min (ra : Int) (rb : Int) = (rb : Int) := by omega
    clear s1 s2 HJ
    go_wp2
    go_ret
    refine ⟨?_, _, HF.out.1, HF.out.2.1, HF.out.2.2, S1.out, S2.out⟩
    first | (rw [← HQ.out]; rfl) | (simp; done) | (rw [show (!decide (ra = rb)) = ((ra : Int) != (rb : Int)) from by rw [HQ.out]; simp]; rfl)
theorem find_calls {P g c a : Nat} {u : List Nat} {W : World} (hU : Up u) (ha : a < u.length) (hn : u.length ≤ 4096) (hP : PtAt P g c u W) :
    Calls Try.prog 20 #[.pointer (some ⟨P, 0, none⟩), .int .i64 (a : Int)] W fun e w' => e = .returned (.tuple #[.int .i64 (root u a : Int), .int .i64 0]) ∧ Same P g c u W w' := by
  have HH := Lib.hid (has_calls (a : Int) (b := true) (decide_eq_true (p := 0 ≤ (a : Int) ∧ (a : Int) < u.length) ⟨by omega, by omega⟩).symm hP)
  have HR := Lib.hid (root_calls hU ha hn hP)
  go_enter Try.func20, Try.ntmps20
  go_wp2_with (first | (go_at_call 40; refine HH.out.mono ?_; rintro e w1 ⟨rfl, rfl⟩) | (go_at_call 42; refine HR.out.mono ?_; rintro e w1 ⟨rfl, hS⟩))
  go_ret2
  exact ⟨rfl, hS⟩
theorem union_calls {P g c a b ra rb : Nat} {u : List Nat} {W : World} (hra : root u a = ra) (hrb : root u b = rb) (hU : Up u) (ha : a < u.length) (hb : b < u.length) (hn : u.length ≤ 4096) (hP : PtAt P g c u W) :
    Calls Try.prog 15 #[.pointer (some ⟨P, 0, none⟩), .int .i64 (a : Int), .int .i64 (b : Int)] W fun e w' => e = .returned (.tuple #[.bool (decide (ra ≠ rb)), .int .i64 0]) ∧ Joined P g c ra rb u W w' := by
  have HH := Lib.hid (has_calls (a : Int) (b := true) (decide_eq_true (p := 0 ≤ (a : Int) ∧ (a : Int) < u.length) ⟨by omega, by omega⟩).symm hP)
  have HH2 := Lib.hid (has_calls (b : Int) (b := true) (decide_eq_true (p := 0 ≤ (b : Int) ∧ (b : Int) < u.length) ⟨by omega, by omega⟩).symm hP)
  have HR := Lib.hid (merge_calls hra hrb hU ha hb hn hP)
  go_enter Try.func15, Try.ntmps15
  go_wp2_with (fail)
  go_at_call 40
  refine HH.out.mono ?_
  rintro e w1 ⟨rfl, rfl⟩
  go_wp2_with (fail)
  go_at_call 40
  refine HH2.out.mono ?_
  rintro e w1 ⟨rfl, rfl⟩
  go_wp2_with (fail)
  go_at_call 41
  refine HR.out.mono ?_
  rintro e w1 ⟨rfl, hS⟩
  go_wp2_with (fail)
  go_ret2
  exact ⟨by simp, hS⟩
end Go.Proofs.Ytjlpjdpaingnkaa.pt
