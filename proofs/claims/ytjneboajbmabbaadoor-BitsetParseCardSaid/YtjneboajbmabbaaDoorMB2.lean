/-
  More of the same: blocks that hold a row, the set of a list, the number of elements; a row that is laid into a new variable.
-/
import Derived.Test.YtjneboajbmabbaaDoorMB1
import Derived.Test.YtjneboajbmabbaaDoorProg
import Derived.Test.YtjneboajbmabbaaDoorCanAF
import Derived.Test.YtjneboajbmabbaaDoorRows
import Derived.Lib.Tables
set_option linter.unusedSimpArgs false
set_option linter.unusedVariables false
namespace Go.Proofs.YtjneboajbmabbaaDoor.ref1
open Go.RowKit Go.Own Go.Rw Go.SetL
set_option maxHeartbeats 1000000
set_option maxRecDepth 100000

theorem has_calls {q : Option Addr} {m c : Nat} {l : List Int} {w : World} (n : Int) (hm : m = l.length) (hb : m ≤ 1000000) (h : Reads w q l) :
    Calls Tryd.prog 22 #[.slice q m c, .int .i64 n] w fun e w' => e = .returned (.bool (l.contains n)) ∧ w = w' := by
  have HR := Lib.hid h; clear h
  have HM := Lib.hid hm; clear hm
  go_enter Tryd.func22, Tryd.ntmps22
  go_wp2
  go_loop [5] (fun i => ∃ k : Nat, k ≤ m ∧ i = .int .i64 k ∧ Hid (n ∉ l.take k)) (fun i => m - (intOf i).toNat)
  case atStart => exact ⟨0, Nat.zero_le _, rfl, Lib.hid (by simp)⟩
  case round =>
    obtain ⟨k, hk, rfl, HN⟩ := hrel
    by_cases hlt : k < m
    · obtain ⟨b, off, x, rfl, hx, hbw, hc⟩ := HR.out.at (k := k) (by rw [← HM.out]; exact hlt)
      have HX := Lib.hid hx; clear hx
      by_cases hxn : x = n
      · go_wp2
        go_ret
        refine ⟨ret_bool ?_, rfl⟩
        subst hxn
        have := List.mem_of_getElem? HX.out
        simpa using this
      · go_wp2
        go_round
        case rel => exact ⟨k + 1, by omega, by go_num, Lib.hid (by rw [List.take_add_one, HX.out]; have := HN.out; simp; exact ⟨this, fun h => hxn h.symm⟩)⟩
        case measure => simp [intOf]; omega
    · obtain rfl : k = m := by omega
      go_wp2
      go_ret
      refine ⟨ret_bool ?_, rfl⟩
      have := HN.out
      rw [List.take_of_length_le (by rw [← HM.out]; exact Nat.le_refl _)] at this
      simpa using this
end Go.Proofs.YtjneboajbmabbaaDoor.ref1

namespace Go.Proofs.YtjneboajbmabbaaDoor.ref1
open Go.RowKit Go.Own Go.Rw Go.SetL
set_option maxHeartbeats 1000000
set_option maxRecDepth 100000

theorem tI : (Tryd.prog.info? 3).map (fun i => (i.zero, i.size, i.bytes)) = some (some (.int .i64 0), 1, 8) := by kernel_rfl
theorem uI : Tryd.prog.underlying 27 = some (.slice 3) := Tryd.underlying27

theorem without_calls {q : Option Addr} {m c : Nat} {l : List Int} {w : World} (n : Int) (hm : m = l.length) (hb : m ≤ 1000000) (h : Reads w q l) :
    Calls Tryd.prog 28 #[.slice q m c, .int .i64 n] w (Gives w (withoutL l n)) := by
  have HR := Lib.hid h; clear h
  have HM := Lib.hid hm; clear hm
  go_enter Tryd.func28, Tryd.ntmps28
  go_wp2
  go_loopw [5, 6] (fun v i wr => ∃ k : Nat, k ≤ m ∧ i = .int .i64 k ∧ Hid (Own wr w.heap.size 3 v (withoutL (l.take k) n)) ∧ Hid (Below w.heap.size w wr))
    (fun _ i _ => m - (intOf i).toNat)
  case atStart => exact ⟨0, Nat.zero_le _, rfl, Lib.hid (Own.made _ (Nat.le_refl _)), Lib.hid (by repeat (first | assumption | exact Below.refl _ _ | exact below_beyond _ _ | refine Below.beyond ?_ (by (try simp [size_beyond]) <;> omega) _ | refine Below.drew ?_ | refine Go.Rw.below_drewN ?_ _ | refine Go.Rw.below_setRow ?_ (by (try simp [size_beyond]) <;> omega) _ | refine Below.alloc ?_ (by (try simp [size_beyond]) <;> omega) _ | refine Below.setCell ?_ (by (try simp [size_beyond]) <;> omega) _))⟩
  case round =>
    obtain ⟨k, hk, rfl, HO, HB⟩ := hrel
    by_cases hlt : k < m
    · obtain ⟨b, off, x, rfl, hx, hbw, hc⟩ := (HR.out.below HB.out).at (k := k) (by rw [← HM.out]; exact hlt)
      have HX := Lib.hid hx; clear hx
      have HL : (withoutL (l.take k) n).length ≤ 1000000 := Nat.le_trans (List.length_filter_le _ _) (by simp; omega)
      have hB : w.heap.size ≤ wr.heap.size := HB.out.size
      have HC := Lib.hid (show withoutL (l.take (k + 1)) n = withoutL (l.take k) n ++ if x = n then [] else [x] by
        unfold withoutL; rw [List.take_add_one, HX.out, List.filter_append]; by_cases h : x = n <;> simp [h])
      by_cases hxn : x = n
      · go_wp2
        go_roundw
        case rel => exact ⟨k + 1, by omega, by go_num, Lib.hid (by rw [HC.out, if_pos hxn, List.append_nil]; exact HO.out), HB⟩
        case measure => simp [intOf]; omega
      · go_wp2_with (at_builtin; refine wpList_app wr rfl _ _ _ rfl uI tI HO.out hB HL x rfl rfl ?_)
        intro v' w' hown hbel
        have HO2 := Lib.hid hown; clear hown
        have HB2 := Lib.hid (HB.out.trans hbel); clear hbel
        go_wp2
        go_roundw
        case rel => exact ⟨k + 1, by omega, by go_num, Lib.hid (by rw [HC.out, if_neg hxn]; exact HO2.out), HB2⟩
        case measure => simp [intOf]; omega
    · obtain rfl : k = m := by omega
      go_wp2
      go_ret
      have := HO.out
      rw [List.take_of_length_le (by rw [← HM.out]; exact Nat.le_refl _)] at this
      exact this.gives HB.out

theorem with_calls {q : Option Addr} {m c : Nat} {l : List Int} {w : World} (n : Int) (hm : m = l.length) (hb : m ≤ 999990) (hmc : m ≤ c) (hc : c ≤ maxLen) (h : Reads w q l) :
    Calls Tryd.prog 26 #[.slice q m c, .int .i64 n] w (Gives w (withL l n)) := by
  have HR := Lib.hid h; clear h
  have HM := Lib.hid hm; clear hm
  by_cases hk : n < 0 ∨ 1023 < n ∨ l.contains n = true
  · have HG := Lib.hid (show Gives w (withL l n) (.returned (.slice q m c)) w by
      refine ⟨q, m, c, rfl, ?_, hmc, hc, ?_, Below.refl _ _⟩ <;> (unfold withL; rw [if_pos (by simpa using hk)])
      · exact HM.out
      · exact HR.out)
    go_enter Tryd.func26, Tryd.ntmps26
    rcases hk with hk | hk | hk
    · go_wp2
      go_ret
      exact HG.out
    · go_wp2
      all_goals
        go_ret
        exact HG.out
    · have HK := Lib.hid hk; clear hk
      go_wp2_with (go_at_call 22; refine (has_calls (l := l) _ HM.out (by omega) HR.out).mono ?_; rw [HK.out]; rintro e w1 ⟨rfl, rfl⟩)
      all_goals
        go_ret
        exact HG.out
  · have hk0 : 0 ≤ n := by omega
    have hk1 : n ≤ 1023 := by omega
    have HK := Lib.hid (show l.contains n = false by simp at hk ⊢; exact hk.2.2)
    have HG := Lib.hid (show withL l n = insL n l by unfold withL; rw [if_neg (by simpa using hk)])
    clear hk
    go_enter Tryd.func26, Tryd.ntmps26
    go_wp2_with (go_at_call 22; refine (has_calls (l := l) _ HM.out (by omega) HR.out).mono ?_; rw [HK.out]; rintro e w1 ⟨rfl, rfl⟩)
    go_loopw [5, 6, 7] (fun v d i wr => ∃ k : Nat, k ≤ m ∧ i = .int .i64 k ∧ d = .bool (insF n (l.take k)).2 ∧ Hid (Own wr w.heap.size 3 v (insF n (l.take k)).1) ∧ Hid (Below w.heap.size w wr))
      (fun _ _ i _ => m - (intOf i).toNat)
    case atStart => exact ⟨0, Nat.zero_le _, rfl, rfl, Lib.hid (Own.made _ (Nat.le_refl _)), Lib.hid (by repeat (first | assumption | exact Below.refl _ _ | exact below_beyond _ _ | refine Below.beyond ?_ (by (try simp [size_beyond]) <;> omega) _ | refine Below.drew ?_ | refine Go.Rw.below_drewN ?_ _ | refine Go.Rw.below_setRow ?_ (by (try simp [size_beyond]) <;> omega) _ | refine Below.alloc ?_ (by (try simp [size_beyond]) <;> omega) _ | refine Below.setCell ?_ (by (try simp [size_beyond]) <;> omega) _))⟩
    case round =>
      obtain ⟨k, hk, rfl, rfl, HO, HB⟩ := hrel
      have hB : w.heap.size ≤ wr.heap.size := HB.out.size
      have hlen := insF_len n (l.take k)
      have htk : (l.take k).length ≤ k := List.length_take_le _ _
      have hdn : (insF n (l.take k)).2.toNat ≤ 1 := by cases (insF n (l.take k)).2 <;> decide
      have HL : (insF n (l.take k)).1.length ≤ 1000000 := by omega
      by_cases hlt : k < m
      · obtain ⟨b, off, x, rfl, hx, hbw, hc0⟩ := HR.out.at (k := k) (by rw [← HM.out]; exact hlt)
        have hc := (HB.out.cell hbw).trans hc0
        have hbr : b < wr.heap.size := by omega
        have HC := Lib.hid (show insF n (l.take (k + 1)) = insStep n (insF n (l.take k)) x by rw [List.take_add_one, hx]; exact insF_snoc _ _ _)
        clear hx hlen htk hdn hc0
        generalize hs : insF n (l.take k) = s at HO HL HC ⊢
        obtain ⟨o, d⟩ := s
        have HLL := Lib.hid (show o.length + 2 ≤ 1000000 by
          have h1 := insF_len n (l.take k); have h2 : (l.take k).length ≤ k := List.length_take_le _ _; rw [hs] at h1
          have h3 : d.toNat ≤ 1 := by cases d <;> decide
          simp only at h1; omega)
        clear hs HL
        simp only at HO
        cases d
        · by_cases hxn : n < x
          · have HS1 := Lib.hid (show insStep n (o, false) x = (o ++ [n] ++ [x], true) by simp [insStep, hxn])
            go_wp2_with (at_builtin; refine wpList_app wr rfl _ _ _ rfl uI tI HO.out hB (by have := HLL.out; omega) n rfl rfl ?_)
            intro v1 w1 hown hbel
            have HO1 := Lib.hid hown; clear hown
            have HB1 := Lib.hid (HB.out.trans hbel)
            have hB1 : w.heap.size ≤ w1.heap.size := HB1.out.size
            have hc1 := (hbel.cell hbw).trans hc
            have hbr1 : b < w1.heap.size := by omega
            clear hbel hc HO HB
            go_wp2_with (at_builtin; refine wpList_app w1 rfl _ _ _ rfl uI tI HO1.out hB1 (by have := HLL.out; simp; omega) x rfl rfl ?_)
            intro v2 w2 hown hbel
            have HO2 := Lib.hid hown; clear hown
            have HB2 := Lib.hid (HB1.out.trans hbel); clear hbel
            go_wp2
            go_roundw
            case rel => exact ⟨k + 1, by omega, by go_num, by rw [HC.out, HS1.out], Lib.hid (by rw [HC.out, HS1.out]; have := HO2.out; simpa using this), HB2⟩
            case measure => simp [intOf]; omega
          · have HS1 := Lib.hid (show insStep n (o, false) x = (o ++ [x], false) by simp [insStep, hxn])
            go_wp2_with (at_builtin; refine wpList_app wr rfl _ _ _ rfl uI tI HO.out hB (by have := HLL.out; omega) x rfl rfl ?_)
            intro v2 w2 hown hbel
            have HO2 := Lib.hid hown; clear hown
            have HB2 := Lib.hid (HB.out.trans hbel); clear hbel
            go_wp2
            go_roundw
            case rel => exact ⟨k + 1, by omega, by go_num, by rw [HC.out, HS1.out], Lib.hid (by rw [HC.out, HS1.out]; have := HO2.out; simpa using this), HB2⟩
            case measure => simp [intOf]; omega
        · have HS1 := Lib.hid (show insStep n (o, true) x = (o ++ [x], true) by simp [insStep])
          go_wp2_with (at_builtin; refine wpList_app wr rfl _ _ _ rfl uI tI HO.out hB (by have := HLL.out; omega) x rfl rfl ?_)
          intro v2 w2 hown hbel
          have HO2 := Lib.hid hown; clear hown
          have HB2 := Lib.hid (HB.out.trans hbel); clear hbel
          go_wp2
          go_roundw
          case rel => exact ⟨k + 1, by omega, by go_num, by rw [HC.out, HS1.out], Lib.hid (by rw [HC.out, HS1.out]; have := HO2.out; simpa using this), HB2⟩
          case measure => simp [intOf]; omega
      · obtain rfl : k = m := by omega
        have HT := Lib.hid (show l.take k = l from List.take_of_length_le (by rw [← HM.out]; exact Nat.le_refl _))
        clear hlen htk hdn
        rw [HT.out] at HO HL ⊢
        generalize hs : insF n l = s at HO HL ⊢
        obtain ⟨o, d⟩ := s
        have HS := Lib.hid hs; clear hs
        simp only at HO HL
        cases d
        · go_wp2_with (at_builtin; refine wpList_app wr rfl _ _ _ rfl uI tI HO.out hB HL n rfl rfl ?_)
          intro v2 w2 hown hbel
          have HO2 := Lib.hid hown; clear hown
          have HB2 := Lib.hid (HB.out.trans hbel); clear hbel
          go_wp2
          go_ret
          rw [HG.out, insL, HS.out]
          exact HO2.out.gives HB2.out
        · go_wp2
          go_ret
          rw [HG.out, insL, HS.out]
          exact HO.out.gives HB.out
end Go.Proofs.YtjneboajbmabbaaDoor.ref1

namespace Go.Proofs.YtjneboajbmabbaaDoor.ref1
open Go.RowKit Go.Own Go.Rw Go.SetL
set_option maxHeartbeats 1000000
set_option maxRecDepth 100000

theorem and_snoc {l p : List Int} {k : Nat} {x : Int} (hx : l[k]? = some x) : andL (l.take (k + 1)) p = andL (l.take k) p ++ if p.contains x = true then [x] else [] := by
  unfold andL; rw [List.take_add_one, hx, List.filter_append]
  cases h : p.contains x <;> simp [List.filter_cons, -List.contains_eq_mem, h]
theorem and_calls {q q2 : Option Addr} {m c m2 c2 : Nat} {l p : List Int} {w : World} (hm : m = l.length) (hb : m ≤ 999990) (h : Reads w q l) (hm2 : m2 = p.length) (hb2 : m2 ≤ 999990) (h2 : Reads w q2 p) :
    Calls Tryd.prog 30 #[.slice q m c, .slice q2 m2 c2] w (Gives w (andL l p)) := by
  have HR := Lib.hid h; clear h
  have HM := Lib.hid hm; clear hm
  have HR2 := Lib.hid h2; clear h2
  have HM2 := Lib.hid hm2; clear hm2
  go_enter Tryd.func30, Tryd.ntmps30
  go_wp2
  go_loopw [5, 6] (fun v i wr => ∃ k : Nat, k ≤ m ∧ i = .int .i64 k ∧ Hid (Own wr w.heap.size 3 v (andL (l.take k) p)) ∧ Hid (Below w.heap.size w wr))
    (fun _ i _ => m - (intOf i).toNat)
  case atStart => exact ⟨0, Nat.zero_le _, rfl, Lib.hid (Own.made _ (Nat.le_refl _)), Lib.hid (by repeat (first | assumption | exact Below.refl _ _ | exact below_beyond _ _ | refine Below.beyond ?_ (by (try simp [size_beyond]) <;> omega) _ | refine Below.drew ?_ | refine Go.Rw.below_drewN ?_ _ | refine Go.Rw.below_setRow ?_ (by (try simp [size_beyond]) <;> omega) _ | refine Below.alloc ?_ (by (try simp [size_beyond]) <;> omega) _ | refine Below.setCell ?_ (by (try simp [size_beyond]) <;> omega) _))⟩
  case round =>
    obtain ⟨k, hk, rfl, HO, HB⟩ := hrel
    by_cases hlt : k < m
    · obtain ⟨b, off, x, rfl, hx, hbw, hc⟩ := (HR.out.below HB.out).at (k := k) (by rw [← HM.out]; exact hlt)
      have HC := Lib.hid (and_snoc (p := p) hx); clear hx
      have HL : (andL (l.take k) p).length ≤ 1000000 := Nat.le_trans (List.length_filter_le _ _) (by simp; omega)
      have hB : w.heap.size ≤ wr.heap.size := HB.out.size
      cases hx : p.contains x
      all_goals
        have HX := Lib.hid hx; clear hx
      · go_wp2_with (go_at_call 22; refine (has_calls (l := p) _ HM2.out (by omega) (HR2.out.below HB.out)).mono ?_; rw [HX.out]; rintro e w1 ⟨rfl, rfl⟩)
        go_roundw
        case rel => exact ⟨k + 1, by omega, by go_num, Lib.hid (by rw [HC.out, HX.out, if_neg (by decide), List.append_nil]; exact HO.out), HB⟩
        case measure => simp [intOf]; omega
      · go_wp2_with (first | (go_at_call 22; refine (has_calls (l := p) _ HM2.out (by omega) (HR2.out.below HB.out)).mono ?_; rw [HX.out]; rintro e w1 ⟨rfl, rfl⟩) | (at_builtin; refine wpList_app wr rfl _ _ _ rfl uI tI HO.out hB HL x rfl rfl ?_))
        intro v' w' hown hbel
        have HO2 := Lib.hid hown; clear hown
        have HB2 := Lib.hid (HB.out.trans hbel); clear hbel
        go_wp2
        go_roundw
        case rel => exact ⟨k + 1, by omega, by go_num, Lib.hid (by rw [HC.out, HX.out, if_pos rfl]; exact HO2.out), HB2⟩
        case measure => simp [intOf]; omega
    · obtain rfl : k = m := by omega
      go_wp2
      go_ret
      have := HO.out
      rw [List.take_of_length_le (by rw [← HM.out]; exact Nat.le_refl _)] at this
      exact this.gives HB.out

theorem minus_snoc {l p : List Int} {k : Nat} {x : Int} (hx : l[k]? = some x) : minusL (l.take (k + 1)) p = minusL (l.take k) p ++ if p.contains x = false then [x] else [] := by
  unfold minusL; rw [List.take_add_one, hx, List.filter_append]
  cases h : p.contains x <;> simp [List.filter_cons, -List.contains_eq_mem, h]
theorem minus_calls {q q2 : Option Addr} {m c m2 c2 : Nat} {l p : List Int} {w : World} (hm : m = l.length) (hb : m ≤ 999990) (h : Reads w q l) (hm2 : m2 = p.length) (hb2 : m2 ≤ 999990) (h2 : Reads w q2 p) :
    Calls Tryd.prog 34 #[.slice q m c, .slice q2 m2 c2] w (Gives w (minusL l p)) := by
  have HR := Lib.hid h; clear h
  have HM := Lib.hid hm; clear hm
  have HR2 := Lib.hid h2; clear h2
  have HM2 := Lib.hid hm2; clear hm2
  go_enter Tryd.func34, Tryd.ntmps34
  go_wp2
  go_loopw [5, 6] (fun v i wr => ∃ k : Nat, k ≤ m ∧ i = .int .i64 k ∧ Hid (Own wr w.heap.size 3 v (minusL (l.take k) p)) ∧ Hid (Below w.heap.size w wr))
    (fun _ i _ => m - (intOf i).toNat)
  case atStart => exact ⟨0, Nat.zero_le _, rfl, Lib.hid (Own.made _ (Nat.le_refl _)), Lib.hid (by repeat (first | assumption | exact Below.refl _ _ | exact below_beyond _ _ | refine Below.beyond ?_ (by (try simp [size_beyond]) <;> omega) _ | refine Below.drew ?_ | refine Go.Rw.below_drewN ?_ _ | refine Go.Rw.below_setRow ?_ (by (try simp [size_beyond]) <;> omega) _ | refine Below.alloc ?_ (by (try simp [size_beyond]) <;> omega) _ | refine Below.setCell ?_ (by (try simp [size_beyond]) <;> omega) _))⟩
  case round =>
    obtain ⟨k, hk, rfl, HO, HB⟩ := hrel
    by_cases hlt : k < m
    · obtain ⟨b, off, x, rfl, hx, hbw, hc⟩ := (HR.out.below HB.out).at (k := k) (by rw [← HM.out]; exact hlt)
      have HC := Lib.hid (minus_snoc (p := p) hx); clear hx
      have HL : (minusL (l.take k) p).length ≤ 1000000 := Nat.le_trans (List.length_filter_le _ _) (by simp; omega)
      have hB : w.heap.size ≤ wr.heap.size := HB.out.size
      cases hx : p.contains x
      all_goals
        have HX := Lib.hid hx; clear hx
      · go_wp2_with (first | (go_at_call 22; refine (has_calls (l := p) _ HM2.out (by omega) (HR2.out.below HB.out)).mono ?_; rw [HX.out]; rintro e w1 ⟨rfl, rfl⟩) | (at_builtin; refine wpList_app wr rfl _ _ _ rfl uI tI HO.out hB HL x rfl rfl ?_))
        intro v' w' hown hbel
        have HO2 := Lib.hid hown; clear hown
        have HB2 := Lib.hid (HB.out.trans hbel); clear hbel
        go_wp2
        go_roundw
        case rel => exact ⟨k + 1, by omega, by go_num, Lib.hid (by rw [HC.out, HX.out, if_pos rfl]; exact HO2.out), HB2⟩
        case measure => simp [intOf]; omega
      · go_wp2_with (go_at_call 22; refine (has_calls (l := p) _ HM2.out (by omega) (HR2.out.below HB.out)).mono ?_; rw [HX.out]; rintro e w1 ⟨rfl, rfl⟩)
        go_roundw
        case rel => exact ⟨k + 1, by omega, by go_num, Lib.hid (by rw [HC.out, HX.out, if_neg (by decide), List.append_nil]; exact HO.out), HB⟩
        case measure => simp [intOf]; omega
    · obtain rfl : k = m := by omega
      go_wp2
      go_ret
      have := HO.out
      rw [List.take_of_length_le (by rw [← HM.out]; exact Nat.le_refl _)] at this
      exact this.gives HB.out

/-- a slice that reads as a list -/
def Is (w : World) (v : Value) (l : List Int) : Prop := ∃ q m c, v = .slice q m c ∧ m = l.length ∧ m ≤ c ∧ c ≤ maxLen ∧ Reads w q l
theorem withL_len (l : List Int) (n : Int) : (withL l n).length ≤ l.length + 1 := by
  unfold withL
  split
  · omega
  · have h := insF_len n l
    unfold insL
    cases hb : (insF n l).2
    · rw [hb] at h; simp at h ⊢; omega
    · rw [hb] at h; simp at h ⊢; omega
theorem foldl_len : ∀ (p l : List Int), (p.foldl withL l).length ≤ l.length + p.length
  | [], l => Nat.le_refl _
  | x :: p, l => by
    have h1 := foldl_len p (withL l x)
    have h2 := withL_len l x
    simp only [List.foldl_cons, List.length_cons]; omega

theorem or_calls {q q2 : Option Addr} {m c m2 c2 : Nat} {l p : List Int} {w : World} (hm : m = l.length) (hmc : m ≤ c) (hc : c ≤ maxLen) (h : Reads w q l) (hm2 : m2 = p.length) (hb2 : m + m2 ≤ 999980) (h2 : Reads w q2 p) :
    Calls Tryd.prog 32 #[.slice q m c, .slice q2 m2 c2] w (Gives w (orL l p)) := by
  have HR2 := Lib.hid h2; clear h2
  have HM2 := Lib.hid hm2; clear hm2
  have HR := Lib.hid h; clear h
  have HM := Lib.hid hm; clear hm
  have HS := Lib.hid (And.intro hmc hc); clear hmc hc
  go_enter Tryd.func32, Tryd.ntmps32
  go_wp2
  go_loopw [5, 6] (fun v i wr => ∃ k : Nat, k ≤ m2 ∧ i = .int .i64 k ∧ Hid (Is wr v ((p.take k).foldl withL l)) ∧ Hid (Below w.heap.size w wr))
    (fun _ i _ => m2 - (intOf i).toNat)
  case atStart => exact ⟨0, Nat.zero_le _, rfl, Lib.hid ⟨q, m, c, rfl, HM.out, HS.out.1, HS.out.2, HR.out⟩, Lib.hid (by repeat (first | assumption | exact Below.refl _ _ | exact below_beyond _ _ | refine Below.beyond ?_ (by (try simp [size_beyond]) <;> omega) _ | refine Below.drew ?_ | refine Go.Rw.below_drewN ?_ _ | refine Go.Rw.below_setRow ?_ (by (try simp [size_beyond]) <;> omega) _ | refine Below.alloc ?_ (by (try simp [size_beyond]) <;> omega) _ | refine Below.setCell ?_ (by (try simp [size_beyond]) <;> omega) _))⟩
  case round =>
    obtain ⟨k, hk, rfl, HI, HB⟩ := hrel
    obtain ⟨q3, m3, c3, rfl, hm3, hmc3, hc3, hr3⟩ := HI.out
    have hlen := foldl_len (p.take k) l
    have htk : (p.take k).length ≤ k := List.length_take_le _ _
    have hb3 : m3 ≤ m + m2 := by have := HM.out; omega
    have HM3 := Lib.hid hm3
    have HR3 := Lib.hid hr3
    have HH := Lib.hid (And.intro hmc3 hc3)
    clear hm3 hr3 hlen htk HI hmc3 hc3
    by_cases hlt : k < m2
    · obtain ⟨b, off, x, rfl, hx, hbw, hc⟩ := (HR2.out.below HB.out).at (k := k) (by rw [← HM2.out]; exact hlt)
      have HX := Lib.hid hx; clear hx
      go_wp2_with fail
      refine (with_calls x HM3.out (by omega) HH.out.1 HH.out.2 HR3.out).mono ?_
      rintro e w1 ⟨q4, m4, c4, rfl, hm4, hmc4, hc4, hr4, hb4⟩
      have HI4 := Lib.hid (show Is w1 (.slice q4 m4 c4) ((p.take (k + 1)).foldl withL l) from ⟨q4, m4, c4, rfl, by rw [List.take_add_one, HX.out, List.foldl_append]; exact hm4, hmc4, hc4, by rw [List.take_add_one, HX.out, List.foldl_append]; exact hr4⟩)
      have HB4 := Lib.hid (HB.out.trans (hb4.mono HB.out.size))
      clear hm4 hmc4 hc4 hr4 hb4
      go_wp2
      go_roundw
      case rel => exact ⟨k + 1, by omega, by go_num, HI4, HB4⟩
      case measure => simp [intOf]; omega
    · obtain rfl : k = m2 := by omega
      have HT := Lib.hid (show p.take k = p from List.take_of_length_le (by rw [← HM2.out]; exact Nat.le_refl _))
      go_wp2
      go_ret
      have h1 := HM3.out
      have h2 := HR3.out
      rw [HT.out] at h1 h2
      exact ⟨q3, m3, c3, rfl, h1, HH.out.1, HH.out.2, h2, HB.out⟩

theorem of_calls {q2 : Option Addr} {m2 c2 : Nat} {p : List Int} {w : World}  (hm2 : m2 = p.length) (hb2 : m2 ≤ 999980) (h2 : Reads w q2 p) :
    Calls Tryd.prog 14 #[.slice q2 m2 c2] w (Gives w (ofL p)) := by
  have HR2 := Lib.hid h2; clear h2
  have HM2 := Lib.hid hm2; clear hm2

  go_enter Tryd.func14, Tryd.ntmps14
  go_wp2
  go_loopw [3, 4] (fun v i wr => ∃ k : Nat, k ≤ m2 ∧ i = .int .i64 k ∧ Hid (Is wr v ((p.take k).foldl withL [])) ∧ Hid (Below w.heap.size w wr))
    (fun _ i _ => m2 - (intOf i).toNat)
  case atStart => exact ⟨0, Nat.zero_le _, rfl, Lib.hid ⟨_, _, _, rfl, rfl, Nat.le_refl _, Nat.zero_le _, .nil _ _⟩, Lib.hid (by repeat (first | assumption | exact Below.refl _ _ | exact below_beyond _ _ | refine Below.beyond ?_ (by (try simp [size_beyond]) <;> omega) _ | refine Below.drew ?_ | refine Go.Rw.below_drewN ?_ _ | refine Go.Rw.below_setRow ?_ (by (try simp [size_beyond]) <;> omega) _ | refine Below.alloc ?_ (by (try simp [size_beyond]) <;> omega) _ | refine Below.setCell ?_ (by (try simp [size_beyond]) <;> omega) _))⟩
  case round =>
    obtain ⟨k, hk, rfl, HI, HB⟩ := hrel
    obtain ⟨q3, m3, c3, rfl, hm3, hmc3, hc3, hr3⟩ := HI.out
    have hlen := foldl_len (p.take k) []
    have htk : (p.take k).length ≤ k := List.length_take_le _ _
    have hb3 : m3 ≤ m2 := by simp at hlen; omega
    have HM3 := Lib.hid hm3
    have HR3 := Lib.hid hr3
    have HH := Lib.hid (And.intro hmc3 hc3)
    clear hm3 hr3 hlen htk HI hmc3 hc3
    by_cases hlt : k < m2
    · obtain ⟨b, off, x, rfl, hx, hbw, hc⟩ := (HR2.out.below HB.out).at (k := k) (by rw [← HM2.out]; exact hlt)
      have HX := Lib.hid hx; clear hx
      go_wp2_with fail
      refine (with_calls x HM3.out (by omega) HH.out.1 HH.out.2 HR3.out).mono ?_
      rintro e w1 ⟨q4, m4, c4, rfl, hm4, hmc4, hc4, hr4, hb4⟩
      have HI4 := Lib.hid (show Is w1 (.slice q4 m4 c4) ((p.take (k + 1)).foldl withL []) from ⟨q4, m4, c4, rfl, by rw [List.take_add_one, HX.out, List.foldl_append]; exact hm4, hmc4, hc4, by rw [List.take_add_one, HX.out, List.foldl_append]; exact hr4⟩)
      have HB4 := Lib.hid (HB.out.trans (hb4.mono HB.out.size))
      clear hm4 hmc4 hc4 hr4 hb4
      go_wp2
      go_roundw
      case rel => exact ⟨k + 1, by omega, by go_num, HI4, HB4⟩
      case measure => simp [intOf]; omega
    · obtain rfl : k = m2 := by omega
      have HT := Lib.hid (show p.take k = p from List.take_of_length_le (by rw [← HM2.out]; exact Nat.le_refl _))
      go_wp2
      go_ret
      have h1 := HM3.out
      have h2 := HR3.out
      rw [HT.out] at h1 h2
      exact ⟨q3, m3, c3, rfl, h1, HH.out.1, HH.out.2, h2, HB.out⟩

theorem within_calls {q q2 : Option Addr} {m c m2 c2 : Nat} {l p : List Int} {w : World} (hm : m = l.length) (hb : m ≤ 999990) (h : Reads w q l) (hm2 : m2 = p.length) (hb2 : m2 ≤ 999990) (h2 : Reads w q2 p) :
    Calls Tryd.prog 36 #[.slice q m c, .slice q2 m2 c2] w fun e w' => e = .returned (.bool ((minusL l p).length == 0)) ∧ ∃ x, w' = beyond w x := by
  have HH := Lib.hid (And.intro hm (And.intro h (And.intro hm2 h2))); clear hm h hm2 h2
  go_enter Tryd.func36, Tryd.ntmps36
  go_wp2_with fail
  refine (minus_calls HH.out.1 hb HH.out.2.1 HH.out.2.2.1 hb2 HH.out.2.2.2).mono ?_
  rintro e w1 ⟨q4, m4, c4, rfl, hm4, hmc4, hc4, hr4, hb4⟩
  have HM4 := Lib.hid hm4; clear hm4
  go_wp2
  go_ret
  exact ⟨ret_bool (by rw [← HM4.out, Bool.eq_iff_iff]; simp), beyond_of hb4⟩
end Go.Proofs.YtjneboajbmabbaaDoor.ref1

namespace Go.Proofs.YtjneboajbmabbaaDoor.ref1
open Go.RowKit Go.Own Go.Rw Go.SetL
set_option maxHeartbeats 1000000
set_option maxRecDepth 100000

theorem cmp_calls {q q2 : Option Addr} {m c m2 c2 : Nat} {l p : List Int} {w : World} (hm : m = l.length) (hb : m ≤ 999990) (h : Reads w q l) (hm2 : m2 = p.length) (hb2 : m2 ≤ 999990) (h2 : Reads w q2 p) :
    Calls Tryd.prog 40 #[.slice q m c, .slice q2 m2 c2] w fun e w' => e = .returned (.int .i64 (cmpL l p)) ∧ ∃ x, w' = beyond w x := by
  have HR := Lib.hid h; clear h
  have HM := Lib.hid hm; clear hm
  have HR2 := Lib.hid h2; clear h2
  have HM2 := Lib.hid hm2; clear hm2
  go_enter Tryd.func40, Tryd.ntmps40
  go_wp2
  go_loopw [5, 6] (fun i k wr => ∃ (x y : Int) (ix ky : Nat), i = .int .i64 x ∧ k = .int .i64 y ∧ -1 ≤ x ∧ x < m ∧ -1 ≤ y ∧ y < m2 ∧ Hid (x + 1 = ix) ∧ Hid (y + 1 = ky) ∧ Hid (cmpL l p = cmpL (l.take ix) (p.take ky)) ∧ ∃ z, wr = beyond w z)
    (fun i _ _ => (intOf i + 1).toNat)
  case atStart => exact ⟨_, _, m, m2, rfl, rfl, by omega, by omega, by omega, by omega, Lib.hid (by omega), Lib.hid (by omega), Lib.hid (by rw [HM.out, HM2.out, List.take_length, List.take_length]), beyond_of (by repeat (first | assumption | exact Below.refl _ _ | exact below_beyond _ _ | refine Below.beyond ?_ (by (try simp [size_beyond]) <;> omega) _ | refine Below.drew ?_ | refine Go.Rw.below_drewN ?_ _ | refine Go.Rw.below_setRow ?_ (by (try simp [size_beyond]) <;> omega) _ | refine Below.alloc ?_ (by (try simp [size_beyond]) <;> omega) _ | refine Below.setCell ?_ (by (try simp [size_beyond]) <;> omega) _))⟩
  case round =>
    obtain ⟨x, y, ix, ky, rfl, rfl, hx1, hx2, hy1, hy2, HX, HY, HC, z, rfl⟩ := hrel
    by_cases hx0 : 0 ≤ x
    · obtain ⟨j, rfl⟩ := Int.eq_ofNat_of_zero_le hx0
      obtain rfl : ix = j + 1 := by have := HX.out; omega
      by_cases hy0 : 0 ≤ y
      · obtain ⟨t, rfl⟩ := Int.eq_ofNat_of_zero_le hy0
        obtain rfl : ky = t + 1 := by have := HY.out; omega
        obtain ⟨b, off, u, rfl, hu, hbw, hc⟩ := HR.out.at (k := j) (by rw [← HM.out]; omega)
        obtain ⟨b2, off2, v, rfl, hv, hbw2, hc2⟩ := HR2.out.at (k := t) (by rw [← HM2.out]; omega)
        have HS := Lib.hid (cmpL_step hu hv)
        have hc := ((below_beyond w z).cell hbw).trans hc
        have hc2 := ((below_beyond w z).cell hbw2).trans hc2
        clear hu hv
        by_cases h1 : v < u
        · go_wp2
          go_quiet (fail)
          go_wp2
          go_ret
          exact ⟨ret_int (by rw [HC.out, HS.out, if_pos h1]), beyond_of (by repeat (first | assumption | exact Below.refl _ _ | exact below_beyond _ _ | refine Below.beyond ?_ (by (try simp [size_beyond]) <;> omega) _ | refine Below.drew ?_ | refine Go.Rw.below_drewN ?_ _ | refine Go.Rw.below_setRow ?_ (by (try simp [size_beyond]) <;> omega) _ | refine Below.alloc ?_ (by (try simp [size_beyond]) <;> omega) _ | refine Below.setCell ?_ (by (try simp [size_beyond]) <;> omega) _))⟩
        by_cases h2 : u < v
        · go_wp2
          go_quiet (fail)
          go_wp2
          go_quiet (fail)
          go_wp2
          go_ret
          exact ⟨ret_int (by rw [HC.out, HS.out, if_neg (by omega), if_pos (by omega)]), beyond_of (by repeat (first | assumption | exact Below.refl _ _ | exact below_beyond _ _ | refine Below.beyond ?_ (by (try simp [size_beyond]) <;> omega) _ | refine Below.drew ?_ | refine Go.Rw.below_drewN ?_ _ | refine Go.Rw.below_setRow ?_ (by (try simp [size_beyond]) <;> omega) _ | refine Below.alloc ?_ (by (try simp [size_beyond]) <;> omega) _ | refine Below.setCell ?_ (by (try simp [size_beyond]) <;> omega) _))⟩
        · go_wp2
          go_quiet (fail)
          go_wp2
          go_quiet (fail)
          go_wp2
          go_roundw
          case rel => exact ⟨_, _, j, t, rfl, rfl, by omega, by omega, by omega, by omega, Lib.hid (by omega), Lib.hid (by omega), Lib.hid (by rw [HC.out, HS.out, if_neg (by omega), if_neg (by omega)]), beyond_of (by repeat (first | assumption | exact Below.refl _ _ | exact below_beyond _ _ | refine Below.beyond ?_ (by (try simp [size_beyond]) <;> omega) _ | refine Below.drew ?_ | refine Go.Rw.below_drewN ?_ _ | refine Go.Rw.below_setRow ?_ (by (try simp [size_beyond]) <;> omega) _ | refine Below.alloc ?_ (by (try simp [size_beyond]) <;> omega) _ | refine Below.setCell ?_ (by (try simp [size_beyond]) <;> omega) _))⟩
          case measure => simp [intOf] <;> omega
      · obtain rfl : ky = 0 := by have := HY.out; omega
        have HS := Lib.hid (cmpL_left (a := l) (i := j) (by rw [← HM.out]; omega))
        go_wp2
        go_ret
        exact ⟨ret_int (by rw [HC.out, List.take_zero, HS.out]), beyond_of (by repeat (first | assumption | exact Below.refl _ _ | exact below_beyond _ _ | refine Below.beyond ?_ (by (try simp [size_beyond]) <;> omega) _ | refine Below.drew ?_ | refine Go.Rw.below_drewN ?_ _ | refine Go.Rw.below_setRow ?_ (by (try simp [size_beyond]) <;> omega) _ | refine Below.alloc ?_ (by (try simp [size_beyond]) <;> omega) _ | refine Below.setCell ?_ (by (try simp [size_beyond]) <;> omega) _))⟩
    · obtain rfl : ix = 0 := by have := HX.out; omega
      by_cases hy0 : 0 ≤ y
      · obtain ⟨t, rfl⟩ := Int.eq_ofNat_of_zero_le hy0
        obtain rfl : ky = t + 1 := by have := HY.out; omega
        have HS := Lib.hid (cmpL_right (b := p) (k := t) (by rw [← HM2.out]; omega))
        go_wp2
        go_ret
        exact ⟨ret_int (by rw [HC.out, List.take_zero, HS.out]), beyond_of (by repeat (first | assumption | exact Below.refl _ _ | exact below_beyond _ _ | refine Below.beyond ?_ (by (try simp [size_beyond]) <;> omega) _ | refine Below.drew ?_ | refine Go.Rw.below_drewN ?_ _ | refine Go.Rw.below_setRow ?_ (by (try simp [size_beyond]) <;> omega) _ | refine Below.alloc ?_ (by (try simp [size_beyond]) <;> omega) _ | refine Below.setCell ?_ (by (try simp [size_beyond]) <;> omega) _))⟩
      · obtain rfl : ky = 0 := by have := HY.out; omega
        go_wp2
        go_ret
        exact ⟨ret_int (by rw [HC.out, List.take_zero, List.take_zero]; rfl), beyond_of (by repeat (first | assumption | exact Below.refl _ _ | exact below_beyond _ _ | refine Below.beyond ?_ (by (try simp [size_beyond]) <;> omega) _ | refine Below.drew ?_ | refine Go.Rw.below_drewN ?_ _ | refine Go.Rw.below_setRow ?_ (by (try simp [size_beyond]) <;> omega) _ | refine Below.alloc ?_ (by (try simp [size_beyond]) <;> omega) _ | refine Below.setCell ?_ (by (try simp [size_beyond]) <;> omega) _))⟩
theorem same_calls {q q2 : Option Addr} {m c m2 c2 : Nat} {l p : List Int} {w : World} (hm : m = l.length) (hb : m ≤ 999990) (h : Reads w q l) (hm2 : m2 = p.length) (hb2 : m2 ≤ 999990) (h2 : Reads w q2 p) :
    Calls Tryd.prog 17 #[.slice q m c, .slice q2 m2 c2] w fun e w' => e = .returned (.bool (decide (l = p))) ∧ ∃ x, w' = beyond w x := by
  have HC := Lib.hid (cmp_calls (c := c) (c2 := c2) hm hb h hm2 hb2 h2)
  have HE := Lib.hid (show (cmpL l p == 0) = decide (l = p) by rw [Bool.eq_iff_iff]; simp [cmpL_zero])
  clear h h2 hm hm2
  go_enter Tryd.func17, Tryd.ntmps17
  go_wp2_with fail
  refine HC.out.mono ?_
  rintro e w1 ⟨rfl, x, rfl⟩
  go_wp2
  go_ret
  exact ⟨ret_bool HE.out, beyond_of (by repeat (first | assumption | exact Below.refl _ _ | exact below_beyond _ _ | refine Below.beyond ?_ (by (try simp [size_beyond]) <;> omega) _ | refine Below.drew ?_ | refine Go.Rw.below_drewN ?_ _ | refine Go.Rw.below_setRow ?_ (by (try simp [size_beyond]) <;> omega) _ | refine Below.alloc ?_ (by (try simp [size_beyond]) <;> omega) _ | refine Below.setCell ?_ (by (try simp [size_beyond]) <;> omega) _))⟩
end Go.Proofs.YtjneboajbmabbaaDoor.ref1

namespace Go.Proofs.YtjneboajbmabbaaDoor.ref1
open Go.RowKit Go.Own Go.Rw Go.SetL Go.Bits
set_option maxHeartbeats 1000000
set_option maxRecDepth 100000

theorem to_calls {xs : List W} (hx : xs.length = 16) (w : World) :
    Calls Tryd.prog 18 #[.agg (rowW xs)] w (Gives w (elems xs)) := by
  have HX := Lib.hid hx; clear hx
  have hz : (rowW xs).size = 16 := by rw [rowW_size, HX.out]
  have HA := Lib.hid (fun (k : Nat) (h : k < 1024) => rowW_at (xs := xs) (k := k / 64) (by rw [HX.out]; omega))
  have HE := Lib.hid (show elems xs = ofN (bitAt xs) 1024 from rfl)
  rw [HE.out]
  generalize rowW xs = cs at hz HA ⊢
  have HZ := Lib.hid hz; clear hz
  go_enter Tryd.func18, Tryd.ntmps18
  go_wp2
  go_loopw [3, 4] (fun v i wr => ∃ k : Nat, k ≤ 1024 ∧ i = .int .i64 k ∧ Hid (Own wr (w.heap.size + 1) 3 v (ofN (bitAt xs) k)) ∧ Hid (Below (w.heap.size + 1) (w.alloc (.cells cs 25)) wr))
    (fun _ i _ => 1024 - (intOf i).toNat)
  case atStart => exact ⟨0, Nat.zero_le _, rfl, Lib.hid (by have := Own.made (w := w.alloc (.cells cs 25)) (B := w.heap.size + 1) 3 (by simp); rw [ofN_zero]; simpa using this), Lib.hid (by repeat (first | assumption | exact Below.refl _ _ | exact below_beyond _ _ | refine Below.beyond ?_ (by (try simp [size_beyond]) <;> omega) _ | refine Below.drew ?_ | refine Go.Rw.below_drewN ?_ _ | refine Go.Rw.below_setRow ?_ (by (try simp [size_beyond]) <;> omega) _ | refine Below.alloc ?_ (by (try simp [size_beyond]) <;> omega) _ | refine Below.setCell ?_ (by (try simp [size_beyond]) <;> omega) _))⟩
  case round =>
    obtain ⟨k, hk, rfl, HO, HB⟩ := hrel
    have hB : w.heap.size + 1 ≤ wr.heap.size := by have := HB.out.size; simpa using this
    have HL : (ofN (bitAt xs) k).length ≤ 1000000 := Nat.le_trans (ofN_len _ _) (by omega)
    by_cases hlt : k < 1024
    · have hc : wr.cell? ⟨w.heap.size, k / 64, none⟩ = some (.int .u64 (toI (xs.getD (k / 64) 0))) := by
        rw [HB.out.cell (p := ⟨w.heap.size, k / 64, none⟩) (by simp)]
        simp only [go_sem]; exact HA.out k hlt
      have ht := test_eq (xs.getD (k / 64) 0) (k % 64)
      rw [show (xs.getD (k / 64) 0).getLsbD (k % 64) = bitAt xs k from rfl] at ht
      have hu0 := toI_nonneg (xs.getD (k / 64) 0)
      have hu1 := toI_lt (xs.getD (k / 64) 0)
      generalize toI (xs.getD (k / 64) 0) = u at hc ht hu0 hu1
      cases hp : bitAt xs k
      all_goals
        rw [hp] at ht
        have HP := Lib.hid hp; clear hp
      · go_wp2
        go_roundw
        case rel => exact ⟨k + 1, by omega, by go_num, Lib.hid (by rw [ofN_no HP.out]; exact HO.out), HB⟩
        case measure => simp [intOf]; omega
      · go_wp2_with (at_builtin; refine wpList_app wr rfl _ _ _ rfl uI tI HO.out hB HL k rfl rfl ?_)
        intro v' w' hown hbel
        have HO2 := Lib.hid hown; clear hown
        have HB2 := Lib.hid (HB.out.trans hbel); clear hbel
        go_wp2
        go_roundw
        case rel => exact ⟨k + 1, by omega, by go_num, Lib.hid (by rw [ofN_yes HP.out]; exact HO2.out), HB2⟩
        case measure => simp [intOf]; omega
    · obtain rfl : k = 1024 := by omega
      go_wp2
      go_ret
      exact HO.out.gives (((Below.refl _ _).alloc (Nat.le_refl _) _).trans (HB.out.mono (by omega)))
end Go.Proofs.YtjneboajbmabbaaDoor.ref1

namespace Go.Proofs.YtjneboajbmabbaaDoor.ref1
open Go.RowKit Go.Own Go.Rw Go.SetL Go.Bits
set_option maxHeartbeats 1000000
set_option maxRecDepth 100000

theorem inRange_calls (n : Int) (w : World) : Calls Tryd.prog 53 #[.int .i64 n] w fun e w' => e = .returned (.bool (decide (0 ≤ n) && decide (n < 1024))) ∧ w = w' := by
  go_enter Tryd.func53, Tryd.ntmps53
  by_cases h0 : 0 ≤ n
  · by_cases h1 : n < 1024
    · go_wp2
      go_ret
      exact ⟨ret_bool (by simp [h0, h1]), rfl⟩
    · go_wp2
      go_ret
      exact ⟨ret_bool (by simp; omega), rfl⟩
  · go_wp2
    go_ret
    exact ⟨ret_bool (by simp; omega), rfl⟩
theorem sInfo : (Tryd.prog.info? 25).map (·.size) = some 16 := by kernel_rfl
theorem rowW_one (xs : List W) : (rowW xs).all (·.oneCell') = true := by unfold rowW; simp [Value.oneCell']
theorem set_one {cs : Array Value} (h : cs.all (·.oneCell') = true) (i : Nat) (v : Int) : (cs.setIfInBounds i (.int .u64 v)).all (·.oneCell') = true := by
  rw [Array.all_eq_true_iff_forall_mem] at h ⊢
  intro x hx
  rcases Array.mem_or_eq_of_mem_setIfInBounds hx with h1 | rfl
  · exact h x h1
  · rfl
theorem with_in (xs : List W) (hx : xs.length = 16) (k : Nat) (hk : k < 1024) (w : World) :
    Calls Tryd.prog 25 #[.agg (rowW xs), .int .i64 k] w fun e w' => e = .returned (.agg ((rowW xs).setIfInBounds (k / 64) (.int .u64 (bits BinOp.or IntKind.u64 (toI (xs.getD (k / 64) 0)) (IntKind.u64.wrap (2 ^ (k % 64))))))) ∧ ∃ y, w' = beyond w y := by
  have HX := Lib.hid hx; clear hx
  have hz : (rowW xs).size = 16 := by rw [rowW_size, HX.out]
  have ha := rowW_at (xs := xs) (k := k / 64) (by rw [HX.out]; omega)
  have h1 := rowW_one xs
  have hu0 := toI_nonneg (xs.getD (k / 64) 0)
  have hu1 := toI_lt (xs.getD (k / 64) 0)
  generalize toI (xs.getD (k / 64) 0) = u at ha hu0 hu1 ⊢
  generalize rowW xs = cs at hz ha h1 ⊢
  generalize hv : bits BinOp.or IntKind.u64 u (IntKind.u64.wrap (2 ^ (k % 64))) = v
  have HZ := Lib.hid (show (cs.setIfInBounds (k / 64) (.int .u64 v)).size = 16 by simpa using hz); clear hz
  have H1 := Lib.hid (set_one h1 (k / 64) v); clear h1
  have hd : (decide ((0:Int) ≤ k) && decide ((k:Int) < 1024)) = true := by simp; omega
  have HD := Lib.hid hd; clear hd
  go_enter Tryd.func25, Tryd.ntmps25
  go_wp2_with (go_at_call 53; refine (inRange_calls _ _).mono ?_; rw [HD.out]; rintro e w1 ⟨rfl, rfl⟩)
  go_region
  all_goals
    go_wp2_with (first
      | (refine wpList_load_block rfl 25 (.tmp 2) rfl w.heap.size (cs.setIfInBounds (k / 64) (.int .u64 v)) 25 _ rfl (by simp [go_sem]) Tryd.underlying25 rfl (by rw [HZ.out]; exact sInfo) ?_)
      | (refine wpList_store_block rfl 25 (.tmp 4) (.tmp 16) rfl (w.heap.size + 1) (cs.setIfInBounds (k / 64) (.int .u64 v)) 25 _ rfl rfl (by simp [go_sem]; rfl) (by rw [HZ.out]; exact sInfo) (by rw [HZ.out]; rfl) H1.out ?_))
    refine bodyPost_ret (results_block rfl _ _ (w.heap.size + 1) 25 (cs.setIfInBounds (k / 64) (.int .u64 v)) _ rfl (by simp [go_sem]) Tryd.underlying25 rfl (by rw [HZ.out]; exact sInfo)) rfl ?_
    exact ⟨rfl, beyond_of (by repeat (first | assumption | exact Below.refl _ _ | exact below_beyond _ _ | refine Below.beyond ?_ (by (try simp [size_beyond]) <;> omega) _ | refine Below.drew ?_ | refine Go.Rw.below_drewN ?_ _ | refine Go.Rw.below_setRow ?_ (by (try simp [size_beyond]) <;> omega) _ | refine Below.alloc ?_ (by (try simp [size_beyond]) <;> omega) _ | refine Below.setCell ?_ (by (try simp [size_beyond]) <;> omega) _))⟩
theorem without_in (xs : List W) (hx : xs.length = 16) (k : Nat) (hk : k < 1024) (w : World) :
    Calls Tryd.prog 27 #[.agg (rowW xs), .int .i64 k] w fun e w' => e = .returned (.agg ((rowW xs).setIfInBounds (k / 64) (.int .u64 (bits BinOp.andNot IntKind.u64 (toI (xs.getD (k / 64) 0)) (IntKind.u64.wrap (2 ^ (k % 64))))))) ∧ ∃ y, w' = beyond w y := by
  have HX := Lib.hid hx; clear hx
  have hz : (rowW xs).size = 16 := by rw [rowW_size, HX.out]
  have ha := rowW_at (xs := xs) (k := k / 64) (by rw [HX.out]; omega)
  have h1 := rowW_one xs
  have hu0 := toI_nonneg (xs.getD (k / 64) 0)
  have hu1 := toI_lt (xs.getD (k / 64) 0)
  generalize toI (xs.getD (k / 64) 0) = u at ha hu0 hu1 ⊢
  generalize rowW xs = cs at hz ha h1 ⊢
  generalize hv : bits BinOp.andNot IntKind.u64 u (IntKind.u64.wrap (2 ^ (k % 64))) = v
  have HZ := Lib.hid (show (cs.setIfInBounds (k / 64) (.int .u64 v)).size = 16 by simpa using hz); clear hz
  have H1 := Lib.hid (set_one h1 (k / 64) v); clear h1
  have hd : (decide ((0:Int) ≤ k) && decide ((k:Int) < 1024)) = true := by simp; omega
  have HD := Lib.hid hd; clear hd
  go_enter Tryd.func27, Tryd.ntmps27
  go_wp2_with (go_at_call 53; refine (inRange_calls _ _).mono ?_; rw [HD.out]; rintro e w1 ⟨rfl, rfl⟩)
  go_region
  all_goals
    go_wp2_with (first
      | (refine wpList_load_block rfl 25 (.tmp 2) rfl w.heap.size (cs.setIfInBounds (k / 64) (.int .u64 v)) 25 _ rfl (by simp [go_sem]) Tryd.underlying25 rfl (by rw [HZ.out]; exact sInfo) ?_)
      | (refine wpList_store_block rfl 25 (.tmp 4) (.tmp 16) rfl (w.heap.size + 1) (cs.setIfInBounds (k / 64) (.int .u64 v)) 25 _ rfl rfl (by simp [go_sem]; rfl) (by rw [HZ.out]; exact sInfo) (by rw [HZ.out]; rfl) H1.out ?_))
    refine bodyPost_ret (results_block rfl _ _ (w.heap.size + 1) 25 (cs.setIfInBounds (k / 64) (.int .u64 v)) _ rfl (by simp [go_sem]) Tryd.underlying25 rfl (by rw [HZ.out]; exact sInfo)) rfl ?_
    exact ⟨rfl, beyond_of (by repeat (first | assumption | exact Below.refl _ _ | exact below_beyond _ _ | refine Below.beyond ?_ (by (try simp [size_beyond]) <;> omega) _ | refine Below.drew ?_ | refine Go.Rw.below_drewN ?_ _ | refine Go.Rw.below_setRow ?_ (by (try simp [size_beyond]) <;> omega) _ | refine Below.alloc ?_ (by (try simp [size_beyond]) <;> omega) _ | refine Below.setCell ?_ (by (try simp [size_beyond]) <;> omega) _))⟩
theorem with_out (xs : List W) (hx : xs.length = 16) (n : Int) (hn : n < 0 ∨ 1024 ≤ n) (w : World) :
    Calls Tryd.prog 25 #[.agg (rowW xs), .int .i64 n] w fun e w' => e = .returned (.agg (rowW xs)) ∧ ∃ y, w' = beyond w y := by
  have HZ := Lib.hid (show (rowW xs).size = 16 by rw [rowW_size, hx]); clear hx
  have H1 := Lib.hid (rowW_one xs)
  generalize rowW xs = cs at HZ H1 ⊢
  have HD := Lib.hid (show (decide ((0:Int) ≤ n) && decide (n < 1024)) = false by rcases hn with h | h <;> simp <;> omega)
  clear hn
  go_enter Tryd.func25, Tryd.ntmps25
  go_wp2_with (first
    | (go_at_call 53; refine (inRange_calls _ _).mono ?_; rw [HD.out]; rintro e w1 ⟨rfl, rfl⟩)
    | (refine wpList_load_block rfl 25 (.tmp 2) rfl w.heap.size cs 25 _ rfl (by simp [go_sem]) Tryd.underlying25 rfl (by rw [HZ.out]; exact sInfo) ?_)
    | (refine wpList_store_block rfl 25 (.tmp 4) (.tmp 16) rfl (w.heap.size + 1) cs 25 _ rfl rfl (by simp [go_sem]; rfl) (by rw [HZ.out]; exact sInfo) (by rw [HZ.out]; rfl) H1.out ?_))
  refine bodyPost_ret (results_block rfl _ _ (w.heap.size + 1) 25 cs _ rfl (by simp [go_sem]) Tryd.underlying25 rfl (by rw [HZ.out]; exact sInfo)) rfl ?_
  exact ⟨rfl, beyond_of (by repeat (first | assumption | exact Below.refl _ _ | exact below_beyond _ _ | refine Below.beyond ?_ (by (try simp [size_beyond]) <;> omega) _ | refine Below.drew ?_ | refine Go.Rw.below_drewN ?_ _ | refine Go.Rw.below_setRow ?_ (by (try simp [size_beyond]) <;> omega) _ | refine Below.alloc ?_ (by (try simp [size_beyond]) <;> omega) _ | refine Below.setCell ?_ (by (try simp [size_beyond]) <;> omega) _))⟩
theorem without_out (xs : List W) (hx : xs.length = 16) (n : Int) (hn : n < 0 ∨ 1024 ≤ n) (w : World) :
    Calls Tryd.prog 27 #[.agg (rowW xs), .int .i64 n] w fun e w' => e = .returned (.agg (rowW xs)) ∧ ∃ y, w' = beyond w y := by
  have HZ := Lib.hid (show (rowW xs).size = 16 by rw [rowW_size, hx]); clear hx
  have H1 := Lib.hid (rowW_one xs)
  generalize rowW xs = cs at HZ H1 ⊢
  have HD := Lib.hid (show (decide ((0:Int) ≤ n) && decide (n < 1024)) = false by rcases hn with h | h <;> simp <;> omega)
  clear hn
  go_enter Tryd.func27, Tryd.ntmps27
  go_wp2_with (first
    | (go_at_call 53; refine (inRange_calls _ _).mono ?_; rw [HD.out]; rintro e w1 ⟨rfl, rfl⟩)
    | (refine wpList_load_block rfl 25 (.tmp 2) rfl w.heap.size cs 25 _ rfl (by simp [go_sem]) Tryd.underlying25 rfl (by rw [HZ.out]; exact sInfo) ?_)
    | (refine wpList_store_block rfl 25 (.tmp 4) (.tmp 16) rfl (w.heap.size + 1) cs 25 _ rfl rfl (by simp [go_sem]; rfl) (by rw [HZ.out]; exact sInfo) (by rw [HZ.out]; rfl) H1.out ?_))
  refine bodyPost_ret (results_block rfl _ _ (w.heap.size + 1) 25 cs _ rfl (by simp [go_sem]) Tryd.underlying25 rfl (by rw [HZ.out]; exact sInfo)) rfl ?_
  exact ⟨rfl, beyond_of (by repeat (first | assumption | exact Below.refl _ _ | exact below_beyond _ _ | refine Below.beyond ?_ (by (try simp [size_beyond]) <;> omega) _ | refine Below.drew ?_ | refine Go.Rw.below_drewN ?_ _ | refine Go.Rw.below_setRow ?_ (by (try simp [size_beyond]) <;> omega) _ | refine Below.alloc ?_ (by (try simp [size_beyond]) <;> omega) _ | refine Below.setCell ?_ (by (try simp [size_beyond]) <;> omega) _))⟩
end Go.Proofs.YtjneboajbmabbaaDoor.ref1

namespace Go.Proofs.YtjneboajbmabbaaDoor.bits
open Go.Can Go.RowKit Go.Bits Go.Own
set_option maxRecDepth 100000
theorem pc : PC2 Tryd.prog := .of_bool (by kernel_rfl)
theorem len16 {l : List Int} (h : l.length = 16) : ∃ a0 a1 a2 a3 a4 a5 a6 a7 a8 a9 a10 a11 a12 a13 a14 a15, l = [a0, a1, a2, a3, a4, a5, a6, a7, a8, a9, a10, a11, a12, a13, a14, a15] := by
  obtain ⟨a0, l0, rfl, h0⟩ := list_cons h
  obtain ⟨a1, l1, rfl, h1⟩ := list_cons h0
  obtain ⟨a2, l2, rfl, h2⟩ := list_cons h1
  obtain ⟨a3, l3, rfl, h3⟩ := list_cons h2
  obtain ⟨a4, l4, rfl, h4⟩ := list_cons h3
  obtain ⟨a5, l5, rfl, h5⟩ := list_cons h4
  obtain ⟨a6, l6, rfl, h6⟩ := list_cons h5
  obtain ⟨a7, l7, rfl, h7⟩ := list_cons h6
  obtain ⟨a8, l8, rfl, h8⟩ := list_cons h7
  obtain ⟨a9, l9, rfl, h9⟩ := list_cons h8
  obtain ⟨a10, l10, rfl, h10⟩ := list_cons h9
  obtain ⟨a11, l11, rfl, h11⟩ := list_cons h10
  obtain ⟨a12, l12, rfl, h12⟩ := list_cons h11
  obtain ⟨a13, l13, rfl, h13⟩ := list_cons h12
  obtain ⟨a14, l14, rfl, h14⟩ := list_cons h13
  obtain ⟨a15, l15, rfl, h15⟩ := list_cons h14
  obtain rfl := list_nil h15
  exact ⟨a0, a1, a2, a3, a4, a5, a6, a7, a8, a9, a10, a11, a12, a13, a14, a15, rfl⟩
/-- two rows of 16 words -/
noncomputable def two (F : List Int → List Int → Value) (x : Array Value) : Option Value := match x.toList with
  | [.agg xs, .agg ys] => match intsOf .u64 xs.toList, intsOf .u64 ys.toList with
    | some ps, some qs => if Nat.beq ps.length 16 && Nat.beq qs.length 16 then some (F ps qs) else none
    | _, _ => none
  | _ => none
theorem two_some {F : List Int → List Int → Value} {x : Array Value} {v : Value} (h : two F x = some v) : ∃ ps qs : List Int, ps.length = 16 ∧ qs.length = 16 ∧ x = #[rowV .u64 ps, rowV .u64 qs] ∧ v = F ps qs := by
  unfold two at h
  split at h
  case h_2 => cases h
  rename_i xs ys hx
  split at h
  case h_2 => cases h
  rename_i ps qs ha hb
  split at h
  case isFalse => cases h
  rename_i hc
  cases h
  simp only [Bool.and_eq_true] at hc
  refine ⟨ps, qs, Nat.eq_of_beq_eq_true hc.1, Nat.eq_of_beq_eq_true hc.2, ?_, rfl⟩
  have h1 := intsOf_some ha
  have h2 := intsOf_some hb
  obtain ⟨l⟩ := x
  obtain ⟨l1⟩ := xs
  obtain ⟨l2⟩ := ys
  simp only at hx h1 h2
  subst h1; subst h2; subst hx
  rfl
theorem plain2 (ps qs : List Int) : (#[rowV .u64 ps, rowV .u64 qs] : Array Value).all (plainV 60) = true := by
  simp [plain_rowV]
theorem union_ev (a0 a1 a2 a3 a4 a5 a6 a7 a8 a9 a10 a11 a12 a13 a14 a15 b0 b1 b2 b3 b4 b5 b6 b7 b8 b9 b10 b11 b12 b13 b14 b15 : Int) : rowOut .u64 (evS Tryd.prog [] noSm 300 (.call 31 #[.agg #[.int .u64 a0, .int .u64 a1, .int .u64 a2, .int .u64 a3, .int .u64 a4, .int .u64 a5, .int .u64 a6, .int .u64 a7, .int .u64 a8, .int .u64 a9, .int .u64 a10, .int .u64 a11, .int .u64 a12, .int .u64 a13, .int .u64 a14, .int .u64 a15], .agg #[.int .u64 b0, .int .u64 b1, .int .u64 b2, .int .u64 b3, .int .u64 b4, .int .u64 b5, .int .u64 b6, .int .u64 b7, .int .u64 b8, .int .u64 b9, .int .u64 b10, .int .u64 b11, .int .u64 b12, .int .u64 b13, .int .u64 b14, .int .u64 b15]]) (AW.start #[])) = some (List.zipWith orI [a0, a1, a2, a3, a4, a5, a6, a7, a8, a9, a10, a11, a12, a13, a14, a15] [b0, b1, b2, b3, b4, b5, b6, b7, b8, b9, b10, b11, b12, b13, b14, b15]) := by kernel_rfl
theorem union_calls {ps qs : List Int} (ha : ps.length = 16) (hb : qs.length = 16) (w : World) : Calls Tryd.prog 31 #[rowV .u64 ps, rowV .u64 qs] w fun e w' => e = .returned (rowV .u64 (List.zipWith orI ps qs)) ∧ ∃ y, w' = beyond w y := by
  obtain ⟨a0, a1, a2, a3, a4, a5, a6, a7, a8, a9, a10, a11, a12, a13, a14, a15, rfl⟩ := len16 ha
  obtain ⟨b0, b1, b2, b3, b4, b5, b6, b7, b8, b9, b10, b11, b12, b13, b14, b15, rfl⟩ := len16 hb
  exact row_callsS pc noSm_ok (union_ev a0 a1 a2 a3 a4 a5 a6 a7 a8 a9 a10 a11 a12 a13 a14 a15 b0 b1 b2 b3 b4 b5 b6 b7 b8 b9 b10 b11 b12 b13 b14 b15) (by kernel_rfl) w
noncomputable def unionSm : Rec := fnSm 31 (two fun ps qs => rowV .u64 (List.zipWith orI ps qs))
theorem unionSm_ok (G : List Nat) : RecOk Tryd.prog G unionSm := fnSm_ok fun x v h => by
  obtain ⟨ps, qs, ha, hb, rfl, rfl⟩ := two_some h
  exact ⟨plain2 ps qs, plain_rowV _ _, fun w => union_calls ha hb w⟩
theorem inter_ev (a0 a1 a2 a3 a4 a5 a6 a7 a8 a9 a10 a11 a12 a13 a14 a15 b0 b1 b2 b3 b4 b5 b6 b7 b8 b9 b10 b11 b12 b13 b14 b15 : Int) : rowOut .u64 (evS Tryd.prog [] noSm 300 (.call 29 #[.agg #[.int .u64 a0, .int .u64 a1, .int .u64 a2, .int .u64 a3, .int .u64 a4, .int .u64 a5, .int .u64 a6, .int .u64 a7, .int .u64 a8, .int .u64 a9, .int .u64 a10, .int .u64 a11, .int .u64 a12, .int .u64 a13, .int .u64 a14, .int .u64 a15], .agg #[.int .u64 b0, .int .u64 b1, .int .u64 b2, .int .u64 b3, .int .u64 b4, .int .u64 b5, .int .u64 b6, .int .u64 b7, .int .u64 b8, .int .u64 b9, .int .u64 b10, .int .u64 b11, .int .u64 b12, .int .u64 b13, .int .u64 b14, .int .u64 b15]]) (AW.start #[])) = some (List.zipWith andI [a0, a1, a2, a3, a4, a5, a6, a7, a8, a9, a10, a11, a12, a13, a14, a15] [b0, b1, b2, b3, b4, b5, b6, b7, b8, b9, b10, b11, b12, b13, b14, b15]) := by kernel_rfl
theorem inter_calls {ps qs : List Int} (ha : ps.length = 16) (hb : qs.length = 16) (w : World) : Calls Tryd.prog 29 #[rowV .u64 ps, rowV .u64 qs] w fun e w' => e = .returned (rowV .u64 (List.zipWith andI ps qs)) ∧ ∃ y, w' = beyond w y := by
  obtain ⟨a0, a1, a2, a3, a4, a5, a6, a7, a8, a9, a10, a11, a12, a13, a14, a15, rfl⟩ := len16 ha
  obtain ⟨b0, b1, b2, b3, b4, b5, b6, b7, b8, b9, b10, b11, b12, b13, b14, b15, rfl⟩ := len16 hb
  exact row_callsS pc noSm_ok (inter_ev a0 a1 a2 a3 a4 a5 a6 a7 a8 a9 a10 a11 a12 a13 a14 a15 b0 b1 b2 b3 b4 b5 b6 b7 b8 b9 b10 b11 b12 b13 b14 b15) (by kernel_rfl) w
noncomputable def interSm : Rec := fnSm 29 (two fun ps qs => rowV .u64 (List.zipWith andI ps qs))
theorem interSm_ok (G : List Nat) : RecOk Tryd.prog G interSm := fnSm_ok fun x v h => by
  obtain ⟨ps, qs, ha, hb, rfl, rfl⟩ := two_some h
  exact ⟨plain2 ps qs, plain_rowV _ _, fun w => inter_calls ha hb w⟩
theorem minus_ev (a0 a1 a2 a3 a4 a5 a6 a7 a8 a9 a10 a11 a12 a13 a14 a15 b0 b1 b2 b3 b4 b5 b6 b7 b8 b9 b10 b11 b12 b13 b14 b15 : Int) : rowOut .u64 (evS Tryd.prog [] noSm 300 (.call 33 #[.agg #[.int .u64 a0, .int .u64 a1, .int .u64 a2, .int .u64 a3, .int .u64 a4, .int .u64 a5, .int .u64 a6, .int .u64 a7, .int .u64 a8, .int .u64 a9, .int .u64 a10, .int .u64 a11, .int .u64 a12, .int .u64 a13, .int .u64 a14, .int .u64 a15], .agg #[.int .u64 b0, .int .u64 b1, .int .u64 b2, .int .u64 b3, .int .u64 b4, .int .u64 b5, .int .u64 b6, .int .u64 b7, .int .u64 b8, .int .u64 b9, .int .u64 b10, .int .u64 b11, .int .u64 b12, .int .u64 b13, .int .u64 b14, .int .u64 b15]]) (AW.start #[])) = some (List.zipWith subI [a0, a1, a2, a3, a4, a5, a6, a7, a8, a9, a10, a11, a12, a13, a14, a15] [b0, b1, b2, b3, b4, b5, b6, b7, b8, b9, b10, b11, b12, b13, b14, b15]) := by kernel_rfl
theorem minus_calls {ps qs : List Int} (ha : ps.length = 16) (hb : qs.length = 16) (w : World) : Calls Tryd.prog 33 #[rowV .u64 ps, rowV .u64 qs] w fun e w' => e = .returned (rowV .u64 (List.zipWith subI ps qs)) ∧ ∃ y, w' = beyond w y := by
  obtain ⟨a0, a1, a2, a3, a4, a5, a6, a7, a8, a9, a10, a11, a12, a13, a14, a15, rfl⟩ := len16 ha
  obtain ⟨b0, b1, b2, b3, b4, b5, b6, b7, b8, b9, b10, b11, b12, b13, b14, b15, rfl⟩ := len16 hb
  exact row_callsS pc noSm_ok (minus_ev a0 a1 a2 a3 a4 a5 a6 a7 a8 a9 a10 a11 a12 a13 a14 a15 b0 b1 b2 b3 b4 b5 b6 b7 b8 b9 b10 b11 b12 b13 b14 b15) (by kernel_rfl) w
noncomputable def minusSm : Rec := fnSm 33 (two fun ps qs => rowV .u64 (List.zipWith subI ps qs))
theorem minusSm_ok (G : List Nat) : RecOk Tryd.prog G minusSm := fnSm_ok fun x v h => by
  obtain ⟨ps, qs, ha, hb, rfl, rfl⟩ := two_some h
  exact ⟨plain2 ps qs, plain_rowV _ _, fun w => minus_calls ha hb w⟩
end Go.Proofs.YtjneboajbmabbaaDoor.bits

namespace Go.Proofs.YtjneboajbmabbaaDoor.ref1
open Go.RowKit Go.Own Go.Rw Go.SetL Go.Bits
set_option maxHeartbeats 1000000
set_option maxRecDepth 100000

theorem wset_calls {xs : List W} (hx : xs.length = 16) (n : Int) (w : World) :
    Calls Tryd.prog 25 #[.agg (rowW xs), .int .i64 n] w fun e w' => e = .returned (.agg (rowW (withS xs n))) ∧ ∃ y, w' = beyond w y := by
  by_cases h : 0 ≤ n ∧ n < 1024
  · obtain ⟨k, rfl⟩ := Int.eq_ofNat_of_zero_le h.1
    have := with_in xs hx k (by omega) w
    rw [or_one _ (by omega), rowW_set] at this
    unfold withS; rw [if_pos h]; exact this
  · unfold withS; rw [if_neg h]; exact with_out xs hx n (by omega) w
theorem woset_calls {xs : List W} (hx : xs.length = 16) (n : Int) (w : World) :
    Calls Tryd.prog 27 #[.agg (rowW xs), .int .i64 n] w fun e w' => e = .returned (.agg (rowW (withoutS xs n))) ∧ ∃ y, w' = beyond w y := by
  by_cases h : 0 ≤ n ∧ n < 1024
  · obtain ⟨k, rfl⟩ := Int.eq_ofNat_of_zero_le h.1
    have := without_in xs hx k (by omega) w
    rw [sub_one _ (by omega), rowW_set] at this
    unfold withoutS; rw [if_pos h]; exact this
  · unfold withoutS; rw [if_neg h]; exact without_out xs hx n (by omega) w
theorem zip_or : ∀ xs ys : List W, List.zipWith orI (rowI xs) (rowI ys) = rowI (orR xs ys)
  | [], _ => by simp [rowI, orR]
  | _ :: _, [] => by simp [rowI, orR]
  | x :: xs, y :: ys => by have := zip_or xs ys; simp only [rowI, orR, List.map_cons, List.zipWith_cons_cons, orI_eq] at this ⊢; rw [this]
theorem zip_and : ∀ xs ys : List W, List.zipWith andI (rowI xs) (rowI ys) = rowI (andR xs ys)
  | [], _ => by simp [rowI, andR]
  | _ :: _, [] => by simp [rowI, andR]
  | x :: xs, y :: ys => by have := zip_and xs ys; simp only [rowI, andR, List.map_cons, List.zipWith_cons_cons, andI_eq] at this ⊢; rw [this]
theorem zip_sub : ∀ xs ys : List W, List.zipWith subI (rowI xs) (rowI ys) = rowI (subR xs ys)
  | [], _ => by simp [rowI, subR]
  | _ :: _, [] => by simp [rowI, subR]
  | x :: xs, y :: ys => by have := zip_sub xs ys; simp only [rowI, subR, List.map_cons, List.zipWith_cons_cons, subI_eq] at this ⊢; rw [this]
theorem orset_calls {xs ys : List W} (hx : xs.length = 16) (hy : ys.length = 16) (w : World) :
    Calls Tryd.prog 31 #[.agg (rowW xs), .agg (rowW ys)] w fun e w' => e = .returned (.agg (rowW (orR xs ys))) ∧ ∃ y, w' = beyond w y := by
  have := bits.union_calls (ps := rowI xs) (qs := rowI ys) (by rw [rowI_len]; exact hx) (by rw [rowI_len]; exact hy) w
  rwa [zip_or, rowV_rowW, rowV_rowW, rowV_rowW] at this
theorem andset_calls {xs ys : List W} (hx : xs.length = 16) (hy : ys.length = 16) (w : World) :
    Calls Tryd.prog 29 #[.agg (rowW xs), .agg (rowW ys)] w fun e w' => e = .returned (.agg (rowW (andR xs ys))) ∧ ∃ y, w' = beyond w y := by
  have := bits.inter_calls (ps := rowI xs) (qs := rowI ys) (by rw [rowI_len]; exact hx) (by rw [rowI_len]; exact hy) w
  rwa [zip_and, rowV_rowW, rowV_rowW, rowV_rowW] at this
theorem subset_calls {xs ys : List W} (hx : xs.length = 16) (hy : ys.length = 16) (w : World) :
    Calls Tryd.prog 33 #[.agg (rowW xs), .agg (rowW ys)] w fun e w' => e = .returned (.agg (rowW (subR xs ys))) ∧ ∃ y, w' = beyond w y := by
  have := bits.minus_calls (ps := rowI xs) (qs := rowI ys) (by rw [rowI_len]; exact hx) (by rw [rowI_len]; exact hy) w
  rwa [zip_sub, rowV_rowW, rowV_rowW, rowV_rowW] at this
theorem sU : Tryd.prog.underlying 25 = some (.array 16 23) := Tryd.underlying25
theorem wI : (Tryd.prog.info? 23).map (·.size) = some 1 := by kernel_rfl
theorem wU : Tryd.prog.underlying 23 = some (.int .u64) := Tryd.underlying23
theorem sG : Tryd.prog.eqGuardType Tryd.prog.depth 25 = false := by kernel_rfl
theorem zeros_len : zeros.length = 16 := by simp [zeros]
theorem rowW_zeros : rowW zeros = #[.int .u64 0, .int .u64 0, .int .u64 0, .int .u64 0, .int .u64 0, .int .u64 0, .int .u64 0, .int .u64 0, .int .u64 0, .int .u64 0, .int .u64 0, .int .u64 0, .int .u64 0, .int .u64 0, .int .u64 0, .int .u64 0] := rfl
theorem within_set {xs ys : List W} (hx : xs.length = 16) (hy : ys.length = 16) (w : World) :
    Calls Tryd.prog 35 #[.agg (rowW xs), .agg (rowW ys)] w fun e w' => e = .returned (.bool (decide (subR xs ys = zeros))) ∧ ∃ y, w' = beyond w y := by
  have HX := Lib.hid hx; clear hx
  have HY := Lib.hid hy; clear hy
  have HS := Lib.hid (sub16_len HX.out HY.out)
  have HZ := Lib.hid (show (rowW xs).size = 16 by rw [rowW_size, HX.out])
  have HZ2 := Lib.hid (show (rowW ys).size = 16 by rw [rowW_size, HY.out])
  have HC := Lib.hid (fun w => subset_calls HX.out HY.out w)
  generalize rowW xs = cs at HZ HC ⊢
  generalize rowW ys = ds at HZ2 HC ⊢
  go_enter Tryd.func35, Tryd.ntmps35
  go_wp2_with (first
    | (refine wpList_load_block rfl 25 (.tmp 2) rfl w.heap.size cs 25 _ rfl (by simp [go_sem]) Tryd.underlying25 rfl (by rw [HZ.out]; exact sInfo) ?_)
    | (refine wpList_load_block rfl 25 (.tmp 3) rfl (w.heap.size + 1) ds 25 _ rfl (by simp [go_sem]) Tryd.underlying25 rfl (by rw [HZ2.out]; exact sInfo) ?_)
    | (go_at_call 33; refine (HC.out _).mono ?_; rintro e w1 ⟨rfl, x1, rfl⟩)
    | (refine wpList_eqRow rfl (.tmp 7) (.tmp 8) rfl sU wU wI sG HS.out zeros_len rfl rfl ?_))
  go_ret
  exact ⟨rfl, beyond_of (by repeat (first | assumption | exact Below.refl _ _ | exact below_beyond _ _ | refine Below.beyond ?_ (by (try simp [size_beyond]) <;> omega) _ | refine Below.drew ?_ | refine Go.Rw.below_drewN ?_ _ | refine Go.Rw.below_setRow ?_ (by (try simp [size_beyond]) <;> omega) _ | refine Below.alloc ?_ (by (try simp [size_beyond]) <;> omega) _ | refine Below.setCell ?_ (by (try simp [size_beyond]) <;> omega) _))⟩
end Go.Proofs.YtjneboajbmabbaaDoor.ref1

namespace Go.Proofs.YtjneboajbmabbaaDoor.ref1
open Go.RowKit Go.Own Go.Rw Go.SetL Go.Bits
set_option maxHeartbeats 1000000
set_option maxRecDepth 100000

/-- the slice reads as l, here -/
structure IsAt (q : Option Addr) (m c : Nat) (l : List Int) (w : World) : Prop where
  mk' :: (all : m = l.length ∧ m ≤ 999000 ∧ m ≤ c ∧ c ≤ maxLen ∧ Reads w q l)
/-- a call hands back such a slice, and nothing that was there has changed -/
def Ret (W : World) (l : List Int) (e : Ending) (w' : World) : Prop := ∃ q m c y, e = .returned (.slice q m c) ∧ w' = beyond W y ∧ IsAt q m c l w'
theorem IsAt.below {W w : World} {q : Option Addr} {m c : Nat} {l : List Int} (h : IsAt q m c l W) (hb : Below W.heap.size W w) : IsAt q m c l w := ⟨h.all.1, h.all.2.1, h.all.2.2.1, h.all.2.2.2.1, h.all.2.2.2.2.below hb⟩
theorem gives_ret {W : World} {l : List Int} (hl : l.length ≤ 999000) {e : Ending} {w' : World} (h : Gives W l e w') : Ret W l e w' := by
  obtain ⟨q, m, c, rfl, h1, h2, h3, h4, h5⟩ := h
  obtain ⟨y, rfl⟩ := beyond_of h5
  exact ⟨q, m, c, y, rfl, rfl, ⟨h1, by omega, h2, h3, h4⟩⟩
theorem elems_len (xs : List W) : (elems xs).length ≤ 999000 := Nat.le_trans (ofP_len _) (by decide)
theorem to_at {xs : List W} (hx : xs.length = 16) (w : World) : Calls Tryd.prog 18 #[.agg (rowW xs)] w (Ret w (elems xs)) :=
  (to_calls hx w).mono fun _ _ h => gives_ret (elems_len xs) h
theorem with_at {q : Option Addr} {m c : Nat} {xs : List W} (hx : xs.length = 16) {w : World} (n : Int) (h : IsAt q m c (elems xs) w) : Calls Tryd.prog 26 #[.slice q m c, .int .i64 n] w (Ret w (elems (withS xs n))) := by
  refine (with_calls n h.all.1 (by have := h.all.2.1; omega) h.all.2.2.1 h.all.2.2.2.1 h.all.2.2.2.2).mono fun _ _ h => ?_
  rw [elems_with hx]; exact gives_ret (by rw [← elems_with hx]; exact elems_len _) h
theorem without_at {q : Option Addr} {m c : Nat} {xs : List W} (hx : xs.length = 16) {w : World} (n : Int) (h : IsAt q m c (elems xs) w) : Calls Tryd.prog 28 #[.slice q m c, .int .i64 n] w (Ret w (elems (withoutS xs n))) := by
  refine (without_calls n h.all.1 (by have := h.all.2.1; omega) h.all.2.2.2.2).mono fun _ _ h => ?_
  rw [elems_without hx]; exact gives_ret (by rw [← elems_without hx]; exact elems_len _) h
theorem and_at {q q2 : Option Addr} {m c m2 c2 : Nat} {xs ys : List W} (hx : xs.length = 16) (hy : ys.length = 16) {w : World} (h : IsAt q m c (elems xs) w) (h2 : IsAt q2 m2 c2 (elems ys) w) : Calls Tryd.prog 30 #[.slice q m c, .slice q2 m2 c2] w (Ret w (elems (andR xs ys))) := by
  refine (and_calls h.all.1 (by have := h.all.2.1; omega) h.all.2.2.2.2 h2.all.1 (by have := h2.all.2.1; omega) h2.all.2.2.2.2).mono fun _ _ h => ?_
  rw [elems_and hx hy]; exact gives_ret (by rw [← elems_and hx hy]; exact elems_len _) h
theorem minus_at {q q2 : Option Addr} {m c m2 c2 : Nat} {xs ys : List W} (hx : xs.length = 16) (hy : ys.length = 16) {w : World} (h : IsAt q m c (elems xs) w) (h2 : IsAt q2 m2 c2 (elems ys) w) : Calls Tryd.prog 34 #[.slice q m c, .slice q2 m2 c2] w (Ret w (elems (subR xs ys))) := by
  refine (minus_calls h.all.1 (by have := h.all.2.1; omega) h.all.2.2.2.2 h2.all.1 (by have := h2.all.2.1; omega) h2.all.2.2.2.2).mono fun _ _ h => ?_
  rw [elems_sub hx hy]; exact gives_ret (by rw [← elems_sub hx hy]; exact elems_len _) h
theorem or_at {q q2 : Option Addr} {m c m2 c2 : Nat} {xs ys : List W} (hx : xs.length = 16) (hy : ys.length = 16) {w : World} (h : IsAt q m c (elems xs) w) (h2 : IsAt q2 m2 c2 (elems ys) w) : Calls Tryd.prog 32 #[.slice q m c, .slice q2 m2 c2] w (Ret w (elems (orR xs ys))) := by
  have e1 := ofP_len (bitAt xs); have e2 := ofP_len (bitAt ys)
  refine (or_calls h.all.1 h.all.2.2.1 h.all.2.2.2.1 h.all.2.2.2.2 h2.all.1 (by have := h.all.1; have := h2.all.1; unfold elems at *; omega) h2.all.2.2.2.2).mono fun _ _ h => ?_
  rw [elems_or hx hy]; exact gives_ret (by rw [← elems_or hx hy]; exact elems_len _) h
theorem within_at {q q2 : Option Addr} {m c m2 c2 : Nat} {xs ys : List W} (hx : xs.length = 16) (hy : ys.length = 16) {w : World} (h : IsAt q m c (elems xs) w) (h2 : IsAt q2 m2 c2 (elems ys) w) :
    Calls Tryd.prog 36 #[.slice q m c, .slice q2 m2 c2] w fun e w' => e = .returned (.bool (decide (subR xs ys = zeros))) ∧ ∃ x, w' = beyond w x := by
  refine (within_calls h.all.1 (by have := h.all.2.1; omega) h.all.2.2.2.2 h2.all.1 (by have := h2.all.2.1; omega) h2.all.2.2.2.2).mono fun _ _ h => ⟨h.1.trans (ret_bool ?_), h.2⟩
  rw [Bool.eq_iff_iff, beq_iff_eq, decide_eq_true_eq, sub_zero hx hy]
theorem same_at {q q2 : Option Addr} {m c m2 c2 : Nat} {l : List Int} {w : World} (h : IsAt q m c l w) (h2 : IsAt q2 m2 c2 l w) :
    Calls Tryd.prog 17 #[.slice q m c, .slice q2 m2 c2] w fun e w' => e = .returned (.bool true) ∧ ∃ x, w' = beyond w x := by
  refine (same_calls h.all.1 (by have := h.all.2.1; omega) h.all.2.2.2.2 h2.all.1 (by have := h2.all.2.1; omega) h2.all.2.2.2.2).mono fun _ _ h => ⟨h.1.trans (ret_bool ?_), h.2⟩
  simp
/-- a whole row is loaded, behind a guard or not -/
theorem wpList_load_any {P : Program} {ops : Array Oper} {rest : List Oper} {op : Oper} {a : Act} {w : World} {Q : Exit → Act → World → Prop} (hw : Region.wanted op (yielded ops a.tmps) = true) (ty : TypeId) (x : Operand) (ho : op.op = .load ty x)
    (g : Nat) (cells : Array Value) (t : TypeId) (d : TypeDesc) (hx : a.eval x = .pointer (some ⟨g, 0, none⟩))
    (hg : blockOf w g = some (.cells cells t (0, 0))) (hu : P.underlying ty = some d) (hd : (match d with | .struct _ | .array _ _ => true | _ => false) = true) (hi : (P.info? ty).map (·.size) = some cells.size)
    (h : wpList P ops Q rest (a.put op.dst (.agg cells)) w) : wpList P ops Q (op :: rest) a w := by
  unfold wpList
  rw [if_pos hw]
  exact .inl (wp_load_row ty x ho g hx t cells (0, 0) d hg hu hd hi h)
/-- a whole row is loaded, in a region that draws its order -/
theorem wpQuiet_load_row {P : Program} {ops : Array Oper} {C : World → Prop} {Q : Act → Prop} {a : Act} {o : Oper} {rest : List Oper} (hw : Region.wanted o (yielded ops a.tmps) = true) (ty : TypeId) (x : Operand) (ho : o.op = .load ty x)
    (g : Nat) (cells : Array Value) (t : TypeId) (d : TypeDesc) (hx : a.eval x = .pointer (some ⟨g, 0, none⟩))
    (hg : ∀ w, C w → blockOf w g = some (.cells cells t (0, 0))) (hu : P.underlying ty = some d) (hd : (match d with | .struct _ | .array _ _ => true | _ => false) = true) (hi : (P.info? ty).map (·.size) = some cells.size)
    (hk : wpQuiet P ops C Q rest (a.put o.dst (.agg cells))) : wpQuiet P ops C Q (o :: rest) a :=
  BigFrame.wpQuiet_want hw fun K hK => ⟨_, fun w hC => by
    unfold Oper.quietAt execOp
    simp only [ho, hx, Instr.loadAt, Instr.sureAddr, Sem.run_bind, Sem.run_pure, Result.andThen_ok, run_loadVar_row w g t ty cells (0, 0) d (hg w hC) hu hd hi]
    exact ⟨rfl, rfl⟩, hK _ hk⟩
end Go.Proofs.YtjneboajbmabbaaDoor.ref1

namespace Go.Proofs.YtjneboajbmabbaaDoor.ref1
open Go.RowKit Go.Own Go.Rw Go.SetL Go.Bits Go.Tz
set_option maxHeartbeats 1000000
set_option maxRecDepth 100000

/-- where the table holds t -/
def dB (t : Nat) : Nat := 2 ^ t * 285870213051353865 % 18446744073709551616
/-- the library's table is laid -/
def TzW (w : World) : Prop := ∀ t : Nat, t < 64 → w.cell? ⟨0, dB t / 288230376151711744, none⟩ = some (.int .u8 t)
theorem TzW.below {W w : World} (h : TzW W) (hb : Below W.heap.size W w) : TzW w := fun t ht => (hb.cell (World.block_lt_of_cell? W _ (h t ht))).trans (h t ht)
def tabL : List Int := [0, 1, 56, 2, 57, 49, 28, 3, 61, 58, 42, 50, 38, 29, 17, 4, 62, 47, 59, 36, 45, 43, 51, 22, 53, 39, 33, 30, 24, 18, 12, 5, 63, 55, 48, 27, 60, 41, 37, 16, 46, 35, 44, 21, 52, 32, 23, 11, 54, 26, 40, 15, 34, 20, 31, 10, 25, 14, 19, 9, 13, 8, 7, 6]
theorem tab_lit : Can.tabCells Rows.laid_math_bits_deBruijn64tab = (tabL.map fun n => Value.int .u8 n).toArray := by kernel_rfl
theorem tab_at : ∀ t : Fin 64, tabL[dB t.val / 288230376151711744]? = some (t.val : Int) := by decide +kernel
theorem tzW_of {w : World} {T : TypeId} (h : w.heap[0]? = some (.cells (Can.tabCells Rows.laid_math_bits_deBruijn64tab) T (0, 0))) : TzW w := fun t ht => by
  have := tab_at ⟨t, ht⟩
  simp only [World.cell?, h, tab_lit, List.getElem?_toArray, List.getElem?_map]
  rw [this]; rfl
theorem toI_pow {t : Nat} (h : t < 64) : toI (1#64 <<< t) = ((2 ^ t : Nat) : Int) := by
  have hp : (2 : Nat) ^ t < 2 ^ 64 := Nat.pow_lt_pow_right (by decide) h
  have : ((1#64 : BitVec 64) <<< t).toNat = 2 ^ t := by rw [BitVec.toNat_shiftLeft, show (1#64 : BitVec 64).toNat = 1 from rfl, Nat.shiftLeft_eq, Nat.one_mul, Nat.mod_eq_of_lt hp]
  unfold toI
  rw [this]
theorem neg_toI (x : W) : IntKind.u64.wrap (0 - toI x) = toI (-x) := by
  show (0 - toI x) % 18446744073709551616 = _
  unfold toI
  rw [BitVec.toNat_neg]
  have := x.isLt
  generalize x.toNat = n at this ⊢
  have e : (2 : Nat) ^ 64 = 18446744073709551616 := rfl
  rw [e] at this ⊢
  omega
theorem tz_calls {x : W} {t : Nat} (h : Low x t) (w : World) (hT : TzW w) :
    Calls Tryd.prog 54 #[.int .u64 (toI x)] w fun e w' => e = .returned (.int .i64 t) ∧ w = w' := by
  have ht := h.1
  have e8 : bits BinOp.and IntKind.u64 (toI x) (IntKind.u64.wrap (-toI x)) = ((2 ^ t : Nat) : Int) := by
    rw [← Int.zero_sub, neg_toI, show bits BinOp.and IntKind.u64 (toI x) (toI (-x)) = andI (toI x) (toI (-x)) from rfl, andI_eq, and_neg h, toI_pow ht]
  have e9 : IntKind.u64.wrap (((2 ^ t : Nat) : Int) * 285870213051353865) = (dB t : Int) := by
    show (((2 ^ t : Nat) : Int) * 285870213051353865) % 18446744073709551616 = _
    unfold dB; rw [Int.natCast_emod, Int.natCast_mul]; rfl
  have hc := hT t ht
  have hd : dB t < 18446744073709551616 := Nat.mod_lt _ (by decide)
  have hp : 0 < toI x := by
    have h0 := toI_nonneg x
    rcases Int.lt_or_eq_of_le h0 with h1 | h1
    · exact h1
    · exfalso
      have : x = 0#64 := toI_inj.1 h1.symm
      have h2 := h.2.1; rw [this, BitVec.getLsbD_zero] at h2; cases h2
  have hl := toI_lt x
  generalize toI x = X at e8 hp hl ⊢
  generalize dB t = d at e9 hc hd
  generalize ((2 ^ t : Nat) : Int) = u at e8 e9
  clear h hT
  go_enter Tryd.func54, Tryd.ntmps54
  go_wp2
  go_ret
  exact ⟨rfl, rfl⟩
theorem len8_lit : (ByteArray.mk ((([0, 1, 2, 2, 3, 3, 3, 3, 4, 4, 4, 4, 4, 4, 4, 4, 5, 5, 5, 5, 5, 5, 5, 5, 5, 5, 5, 5, 5, 5, 5, 5, 6, 6, 6, 6, 6, 6, 6, 6, 6, 6, 6, 6, 6, 6, 6, 6, 6, 6, 6, 6, 6, 6, 6, 6, 6, 6, 6, 6, 6, 6, 6, 6] : List UInt8).append [7, 7, 7, 7, 7, 7, 7, 7, 7, 7, 7, 7, 7, 7, 7, 7, 7, 7, 7, 7, 7, 7, 7, 7, 7, 7, 7, 7, 7, 7, 7, 7, 7, 7, 7, 7, 7, 7, 7, 7, 7, 7, 7, 7, 7, 7, 7, 7, 7, 7, 7, 7, 7, 7, 7, 7, 7, 7, 7, 7, 7, 7, 7, 7]).append (([8, 8, 8, 8, 8, 8, 8, 8, 8, 8, 8, 8, 8, 8, 8, 8, 8, 8, 8, 8, 8, 8, 8, 8, 8, 8, 8, 8, 8, 8, 8, 8, 8, 8, 8, 8, 8, 8, 8, 8, 8, 8, 8, 8, 8, 8, 8, 8, 8, 8, 8, 8, 8, 8, 8, 8, 8, 8, 8, 8, 8, 8, 8, 8] : List UInt8).append [8, 8, 8, 8, 8, 8, 8, 8, 8, 8, 8, 8, 8, 8, 8, 8, 8, 8, 8, 8, 8, 8, 8, 8, 8, 8, 8, 8, 8, 8, 8, 8, 8, 8, 8, 8, 8, 8, 8, 8, 8, 8, 8, 8, 8, 8, 8, 8, 8, 8, 8, 8, 8, 8, 8, 8, 8, 8, 8, 8, 8, 8, 8, 8])).toArray) = Lib.len8tab := by rfl
theorem len8_le : ∀ y : Fin 256, 0 ≤ Lib.len8 (y.val : Int) ∧ Lib.len8 (y.val : Int) ≤ 8 := by decide +kernel
theorem wpList_len8 {P : Program} {ops : Array Oper} {rest : List Oper} {o : Oper} {a : Act} {w : World} {Q : Exit → Act → World → Prop} (hgd : o.guard = none) (ty : TypeId) (x : Operand) (ho : o.op = .index ty (.const (.string Lib.len8tab)) x)
    (hu : P.underlying ty = some .string) {k : IntKind} {y : Int} (hx : a.eval x = .int k y) (h0 : 0 ≤ y) (h1 : y ≤ 255) (h : ∀ v, 0 ≤ v → v ≤ 8 → v = Lib.len8 y → wpList P ops Q rest (a.put o.dst (.int .u8 v)) w) : wpList P ops Q (o :: rest) a w := by
  refine wpList_plain hgd fun _ hK => ?_
  unfold Oper.wp execOp
  simp only [ho, hx, BigFrame.eval_const]
  rw [Sem.run_bind, Lib.run_index_len8tab w ty k y hu h0 h1]
  obtain ⟨n, rfl⟩ := Int.eq_ofNat_of_zero_le h0
  have hb := len8_le ⟨n, by omega⟩
  exact hK _ _ (h _ hb.1 hb.2 rfl)
theorem len8_all : ∀ y : Fin 256, ∀ t : Fin 8, 2 ^ t.val ≤ y.val → y.val < 2 ^ (t.val + 1) → Lib.len8 (y.val : Int) = t.val + 1 := by decide +kernel
theorem len8_lg {y t : Nat} (h : Lg y t) (hy : y < 256) : Lib.len8 (y : Int) = t + 1 := by
  have ht : t < 8 := lg_lt h (show y < 2 ^ 8 from hy)
  exact len8_all ⟨y, hy⟩ ⟨t, ht⟩ h.1 h.2
theorem len8_fin (s : Nat) (N : Nat) (hN : N = 2 ^ s) {X Y v : Int} {t : Nat} (hv : v = Lib.len8 Y) (h : Lg X.toNat t) (hX : 0 ≤ X) (hs : (N : Int) ≤ X) (hY : Y = X / (N : Int)) (hy : Y < 256) : (s : Int) + v = t + 1 := by
  obtain ⟨n, rfl⟩ := Int.eq_ofNat_of_zero_le hX
  rw [Int.toNat_natCast] at h
  have hsn : N ≤ n := Int.ofNat_le.1 hs
  subst hN
  obtain ⟨h1, h2⟩ := lg_div h hsn
  have e : Y = ((n / 2 ^ s : Nat) : Int) := by rw [hY]; rfl
  have hlt : n / 2 ^ s < 256 := by rw [e] at hy; exact Int.ofNat_lt.1 hy
  rw [hv, e, len8_lg h2 hlt]
  omega
theorem len_calls {x : W} {t : Nat} (h : High x t) (w : World) :
    Calls Tryd.prog 55 #[.int .u64 (toI x)] w fun e w' => e = .returned (.int .i64 (t + 1)) ∧ w = w' := by
  obtain ⟨h1, h2⟩ := high_bounds h
  have h0 := h.1
  clear h
  have HL := Lib.hid (show Lg (toI x).toNat t from ⟨h1, h2⟩)
  have hx0 := toI_nonneg x
  have hx1 : toI x ≤ 18446744073709551615 := by have := toI_lt x; omega
  clear h1 h2
  generalize toI x = X at HL hx0 hx1 ⊢
  go_enter Tryd.func55, Tryd.ntmps55
  rw [len8_lit]
  go_wp2_with (refine wpList_len8 rfl 9 (.tmp 21) rfl Tryd.underlying9 rfl (by omega) (by omega) ?_; intro v hv0 hv1 hv2; have HV := Lib.hid hv2; clear hv2)
  all_goals go_ret
  all_goals refine ⟨ret_int ?_, rfl⟩
  · exact len8_fin 56 72057594037927936 (by decide) HV.out HL.out hx0 (by omega) (by omega) (by omega)
  · exact len8_fin 48 281474976710656 (by decide) HV.out HL.out hx0 (by omega) (by omega) (by omega)
  · exact len8_fin 40 1099511627776 (by decide) HV.out HL.out hx0 (by omega) (by omega) (by omega)
  · exact len8_fin 32 4294967296 (by decide) HV.out HL.out hx0 (by omega) (by omega) (by omega)
  · exact len8_fin 24 16777216 (by decide) HV.out HL.out hx0 (by omega) (by omega) (by omega)
  · exact len8_fin 16 65536 (by decide) HV.out HL.out hx0 (by omega) (by omega) (by omega)
  · exact len8_fin 8 256 (by decide) HV.out HL.out hx0 (by omega) (by omega) (by omega)
  · have := len8_fin 0 1 (by decide) (Y := X) HV.out HL.out hx0 (by have := HL.out.1; have := Nat.two_pow_pos t; omega) (by omega) (by omega)
    omega
end Go.Proofs.YtjneboajbmabbaaDoor.ref1

namespace Go.Proofs.YtjneboajbmabbaaDoor.ref1
open Go.RowKit Go.Own Go.Rw Go.SetL Go.Bits Go.Tz
set_option maxHeartbeats 1000000
set_option maxRecDepth 100000
attribute [local irreducible] beyond grow over

theorem has_set {xs : List W} (hx : xs.length = 16) (n : Int) (w : World) :
    Calls Tryd.prog 21 #[.agg (rowW xs), .int .i64 n] w fun e w' => e = .returned (.bool ((elems xs).contains n)) ∧ ∃ y, w' = beyond w y := by
  by_cases hn : 0 ≤ n ∧ n < 1024
  · obtain ⟨k, rfl⟩ := Int.eq_ofNat_of_zero_le hn.1
    have hk : k < 1024 := by omega
    have ha := rowW_at (xs := xs) (k := k / 64) (by rw [hx]; omega)
    have ht := test_eq (xs.getD (k / 64) 0) (k % 64)
    rw [show (xs.getD (k / 64) 0).getLsbD (k % 64) = bitAt xs k from rfl] at ht
    have hu0 := toI_nonneg (xs.getD (k / 64) 0)
    have hu1 := toI_lt (xs.getD (k / 64) 0)
    rw [show (elems xs).contains ((k : Nat) : Int) = bitAt xs k from contains_ofP _ _ hk]
    generalize toI (xs.getD (k / 64) 0) = u at ha hu0 hu1 ht
    generalize rowW xs = cs at ha ⊢
    have HD := Lib.hid (show (decide ((0:Int) ≤ k) && decide ((k:Int) < 1024)) = true by simp; omega)
    generalize bitAt xs k = b at ht ⊢
    clear hx hn
    cases b
    all_goals
      go_enter Tryd.func21, Tryd.ntmps21
      go_wp2_with (go_at_call 53; refine (inRange_calls _ _).mono ?_; rw [HD.out]; rintro e w1 ⟨rfl, rfl⟩)
      go_ret
      exact ⟨rfl, beyond_of (by repeat (first | assumption | exact Below.refl _ _ | exact below_beyond _ _ | refine Below.beyond ?_ (by (try simp [size_beyond]) <;> omega) _ | refine Below.drew ?_ | refine Go.Rw.below_drewN ?_ _ | refine Go.Rw.below_setRow ?_ (by (try simp [size_beyond]) <;> omega) _ | refine Below.alloc ?_ (by (try simp [size_beyond]) <;> omega) _ | refine Below.setCell ?_ (by (try simp [size_beyond]) <;> omega) _))⟩
  · have HF := Lib.hid (show (elems xs).contains n = false by
      rw [Bool.eq_false_iff]; intro h
      obtain ⟨i, rfl, h1, _⟩ := mem_ofP.1 (List.contains_iff_mem.1 h)
      exact hn ⟨by omega, by omega⟩)
    rw [HF.out]
    have HD := Lib.hid (show (decide ((0:Int) ≤ n) && decide (n < 1024)) = false by rw [Bool.eq_false_iff]; simp; omega)
    clear hn
    generalize rowW xs = cs
    go_enter Tryd.func21, Tryd.ntmps21
    go_wp2_with (go_at_call 53; refine (inRange_calls _ _).mono ?_; rw [HD.out]; rintro e w1 ⟨rfl, rfl⟩)
    go_ret
    exact ⟨rfl, beyond_of (by repeat (first | assumption | exact Below.refl _ _ | exact below_beyond _ _ | refine Below.beyond ?_ (by (try simp [size_beyond]) <;> omega) _ | refine Below.drew ?_ | refine Go.Rw.below_drewN ?_ _ | refine Go.Rw.below_setRow ?_ (by (try simp [size_beyond]) <;> omega) _ | refine Below.alloc ?_ (by (try simp [size_beyond]) <;> omega) _ | refine Below.setCell ?_ (by (try simp [size_beyond]) <;> omega) _))⟩
theorem empty_set {xs : List W} (hx : xs.length = 16) (w : World) :
    Calls Tryd.prog 20 #[.agg (rowW xs)] w fun e w' => e = .returned (.bool (decide (xs = zeros))) ∧ ∃ y, w' = beyond w y := by
  have HX := Lib.hid hx; clear hx
  have HZ := Lib.hid (show (rowW xs).size = 16 by rw [rowW_size, HX.out])
  go_enter Tryd.func20, Tryd.ntmps20
  go_wp2_with (first
    | (refine wpList_load_block rfl 25 (.tmp 1) rfl w.heap.size (rowW xs) 25 _ rfl (by simp [go_sem]) Tryd.underlying25 rfl (by rw [HZ.out]; exact sInfo) ?_)
    | (refine wpList_eqRow rfl (.tmp 3) (.tmp 4) rfl sU wU wI sG HX.out zeros_len rfl rfl ?_))
  go_ret
  exact ⟨rfl, beyond_of (by repeat (first | assumption | exact Below.refl _ _ | exact below_beyond _ _ | refine Below.beyond ?_ (by (try simp [size_beyond]) <;> omega) _ | refine Below.drew ?_ | refine Go.Rw.below_drewN ?_ _ | refine Go.Rw.below_setRow ?_ (by (try simp [size_beyond]) <;> omega) _ | refine Below.alloc ?_ (by (try simp [size_beyond]) <;> omega) _ | refine Below.setCell ?_ (by (try simp [size_beyond]) <;> omega) _))⟩
/-- what Min and Max hand back -/
def GivesN (W : World) (R : Int → Bool → Prop) (e : Ending) (w' : World) : Prop := ∃ n b y, e = .returned (.tuple #[.int .i64 n, .bool b]) ∧ w' = beyond W y ∧ R n b
theorem min_set {xs : List W} (hx : xs.length = 16) (w : World) (hT : TzW w) :
    Calls Tryd.prog 15 #[.agg (rowW xs)] w (GivesN w (IsMin xs)) := by
  have HX := Lib.hid hx; clear hx
  have HT := Lib.hid hT; clear hT
  have HZ := Lib.hid (show (rowW xs).size = 16 by rw [rowW_size, HX.out])
  have HA := Lib.hid (fun (k : Nat) (h : k < 16) => rowW_at (xs := xs) (k := k) (by rw [HX.out]; omega))
  go_enter Tryd.func15, Tryd.ntmps15
  go_wp2_with (refine wpList_load_block rfl 25 (.tmp 1) rfl w.heap.size (rowW xs) 25 _ rfl (by simp [go_sem]) Tryd.underlying25 rfl (by rw [HZ.out]; exact sInfo) ?_)
  go_loop [7] (fun i => ∃ k : Nat, k ≤ 16 ∧ i = .int .i64 k ∧ Hid (∀ i, i < 64 * k → bitAt xs i = false)) (fun i => 16 - (intOf i).toNat)
  case atStart => exact ⟨0, Nat.zero_le _, rfl, Lib.hid (fun i h => absurd h (Nat.not_lt_zero _))⟩
  case round =>
    obtain ⟨k, hk, rfl, HN⟩ := hrel
    by_cases hlt : k < 16
    · have ha := HA.out k hlt
      have hu0 := toI_nonneg (xs.getD k 0)
      have hu1 := toI_lt (xs.getD k 0)
      have hz : xs.getD k 0 = 0#64 ↔ toI (xs.getD k 0) = 0 := (toI_inj (y := 0#64)).symm
      by_cases hw : xs.getD k 0 = 0#64
      · have HW := Lib.hid hw
        have hn := hz.1 hw
        generalize toI (xs.getD k 0) = u at ha hu0 hu1 hn
        clear hw hz
        subst hn
        have HA2 := Lib.hid ha; clear ha
        go_wp2_with (refine wpList_indexRow rfl (.tmp 6) (.tmp 7) rfl sU wU wI hlt HA2.out rfl rfl ?_)
        go_round
        case rel => exact ⟨k + 1, by omega, by go_num, Lib.hid (fun i hi => by
          by_cases h : i < 64 * k
          · exact HN.out i h
          · exact bitAt_none HW.out i (by omega) (by omega))⟩
        case measure => simp [intOf]; omega
      · obtain ⟨t, ht⟩ := low_of hw
        have htz := tz_calls ht
        have ht0 := ht.1
        have hm := isMin_at (xs := xs) hlt HN.out ht
        have HM := Lib.hid hm; clear hm ht
        have hn : ¬ toI (xs.getD k 0) = 0 := fun h => hw (hz.2 h)
        generalize toI (xs.getD k 0) = u at ha hu0 hu1 hn htz
        have HZT := Lib.hid htz
        have HA2 := Lib.hid ha; clear ha hw hz htz
        go_wp2_with (first
          | (refine wpList_indexRow rfl (.tmp 6) (.tmp 7) rfl sU wU wI hlt HA2.out rfl rfl ?_)
          | (go_at_call 54; refine (HZT.out _ (HT.out.below (by repeat (first | assumption | exact Below.refl _ _ | exact below_beyond _ _ | refine Below.beyond ?_ (by (try simp [size_beyond]) <;> omega) _ | refine Below.drew ?_ | refine Go.Rw.below_drewN ?_ _ | refine Go.Rw.below_setRow ?_ (by (try simp [size_beyond]) <;> omega) _ | refine Below.alloc ?_ (by (try simp [size_beyond]) <;> omega) _ | refine Below.setCell ?_ (by (try simp [size_beyond]) <;> omega) _)))).mono ?_; rintro e w1 ⟨rfl, rfl⟩))
        go_ret2
        exact ⟨_, _, _, rfl, (beyond_of (by repeat (first | assumption | exact Below.refl _ _ | exact below_beyond _ _ | refine Below.beyond ?_ (by (try simp [size_beyond]) <;> omega) _ | refine Below.drew ?_ | refine Go.Rw.below_drewN ?_ _ | refine Go.Rw.below_setRow ?_ (by (try simp [size_beyond]) <;> omega) _ | refine Below.alloc ?_ (by (try simp [size_beyond]) <;> omega) _ | refine Below.setCell ?_ (by (try simp [size_beyond]) <;> omega) _))).choose_spec, by have := HM.out; simpa using this⟩
    · obtain rfl : k = 16 := by omega
      go_wp2
      go_ret2
      exact ⟨_, _, _, rfl, (beyond_of (by repeat (first | assumption | exact Below.refl _ _ | exact below_beyond _ _ | refine Below.beyond ?_ (by (try simp [size_beyond]) <;> omega) _ | refine Below.drew ?_ | refine Go.Rw.below_drewN ?_ _ | refine Go.Rw.below_setRow ?_ (by (try simp [size_beyond]) <;> omega) _ | refine Below.alloc ?_ (by (try simp [size_beyond]) <;> omega) _ | refine Below.setCell ?_ (by (try simp [size_beyond]) <;> omega) _))).choose_spec, .inr ⟨rfl, rfl, fun i hi => HN.out i (by omega)⟩⟩
theorem max_set {xs : List W} (hx : xs.length = 16) (w : World) :
    Calls Tryd.prog 16 #[.agg (rowW xs)] w (GivesN w (IsMax xs)) := by
  have HX := Lib.hid hx; clear hx
  have HA := Lib.hid (fun (k : Nat) (h : k < 16) => rowW_at (xs := xs) (k := k) (by rw [HX.out]; omega))
  generalize rowW xs = cs at HA ⊢
  go_enter Tryd.func16, Tryd.ntmps16
  go_wp2
  go_loop [4] (fun i => ∃ x : Int, -1 ≤ x ∧ x ≤ 15 ∧ i = .int .i64 x ∧ Hid (∀ i : Nat, 64 * (x + 1) ≤ i → i < 1024 → bitAt xs i = false)) (fun i => (intOf i + 1).toNat)
  case atStart => exact ⟨15, by omega, by omega, rfl, Lib.hid (fun i h1 h2 => by omega)⟩
  case round =>
    obtain ⟨x, hx1, hx2, rfl, HN⟩ := hrel
    by_cases hlt : 0 ≤ x
    · obtain ⟨k, rfl⟩ := Int.eq_ofNat_of_zero_le hlt
      have ha := HA.out k (by omega)
      have hu0 := toI_nonneg (xs.getD k 0)
      have hu1 := toI_lt (xs.getD k 0)
      have hz : xs.getD k 0 = 0#64 ↔ toI (xs.getD k 0) = 0 := (toI_inj (y := 0#64)).symm
      by_cases hw : xs.getD k 0 = 0#64
      · have HW := Lib.hid hw
        have hn := hz.1 hw
        generalize toI (xs.getD k 0) = u at ha hu0 hu1 hn
        clear hw hz
        subst hn
        go_wp2
        go_round
        case rel => exact ⟨_, by omega, by omega, rfl, Lib.hid (fun i h1 h2 => by
          by_cases h : 64 * (k + 1) ≤ i
          · exact HN.out i (by omega) h2
          · exact bitAt_none HW.out i (by omega) (by omega))⟩
        case measure => simp [intOf] <;> omega
      · obtain ⟨t, ht⟩ := high_of hw
        have htz := len_calls ht
        have ht0 := ht.1
        have hm := isMax_at (xs := xs) (j := k) (by omega) (fun i h1 h2 => HN.out i (by omega) h2) ht
        have HM := Lib.hid hm; clear hm ht
        have hn : ¬ toI (xs.getD k 0) = 0 := fun h => hw (hz.2 h)
        generalize toI (xs.getD k 0) = u at ha hu0 hu1 hn htz
        have HZT := Lib.hid htz
        clear hw hz htz
        go_wp2_with (go_at_call 55; refine (HZT.out _).mono ?_; rintro e w1 ⟨rfl, rfl⟩)
        go_ret2
        exact ⟨_, _, _, rfl, (beyond_of (by repeat (first | assumption | exact Below.refl _ _ | exact below_beyond _ _ | refine Below.beyond ?_ (by (try simp [size_beyond]) <;> omega) _ | refine Below.drew ?_ | refine Go.Rw.below_drewN ?_ _ | refine Go.Rw.below_setRow ?_ (by (try simp [size_beyond]) <;> omega) _ | refine Below.alloc ?_ (by (try simp [size_beyond]) <;> omega) _ | refine Below.setCell ?_ (by (try simp [size_beyond]) <;> omega) _))).choose_spec, by rw [show (64 * (k : Int) + ((t : Int) + 1) - 1) = ((64 * k + t : Nat) : Int) by omega]; exact HM.out⟩
    · obtain rfl : x = -1 := by omega
      go_wp2
      go_ret2
      exact ⟨_, _, _, rfl, (beyond_of (by repeat (first | assumption | exact Below.refl _ _ | exact below_beyond _ _ | refine Below.beyond ?_ (by (try simp [size_beyond]) <;> omega) _ | refine Below.drew ?_ | refine Go.Rw.below_drewN ?_ _ | refine Go.Rw.below_setRow ?_ (by (try simp [size_beyond]) <;> omega) _ | refine Below.alloc ?_ (by (try simp [size_beyond]) <;> omega) _ | refine Below.setCell ?_ (by (try simp [size_beyond]) <;> omega) _))).choose_spec, .inr ⟨rfl, rfl, fun i hi => HN.out i (by omega) hi⟩⟩
/-- the numbers below n -/
theorem below_set (n : Int) (hn0 : -9223372036854775808 ≤ n) (hn1 : n ≤ 9223372036854775807) (w : World) :
    Calls Tryd.prog 23 #[.int .i64 n] w fun e w' => e = .returned (.agg (rowW (belowS n))) ∧ ∃ y, w' = beyond w y := by
  go_enter Tryd.func23, Tryd.ntmps23
  go_wp2
  go_loopw [5] (fun i wr => ∃ k : Nat, k ≤ 16 ∧ i = .int .i64 k ∧ Hid (wr = (w.alloc (.cells (rowW zeros) 25)).alloc (.cells (rowW (belowUp n k)) 25)))
    (fun i _ => 16 - (intOf i).toNat)
  case atStart => exact ⟨0, Nat.zero_le _, rfl, Lib.hid (by rw [belowUp_zero, rowW_zeros])⟩
  case round =>
    obtain ⟨k, hk, rfl, HW⟩ := hrel
    by_cases hlt : k < 16
    · obtain rfl := HW.out
      have ha := rowW_at (xs := belowUp n k) (k := k) (by rw [belowUp_len]; exact hlt)
      have HSU := Lib.hid (belowUp_succ n hlt)
      have HSA := Lib.hid (belowUp_same n hlt)
      generalize hcs : rowW (belowUp n k) = cs at ha ⊢
      have HCS := Lib.hid hcs; clear hcs
      generalize toI ((belowUp n k).getD k 0) = u at ha
      by_cases h1 : 64 * ((k : Int) + 1) ≤ n
      · have HBW := Lib.hid (show toI (bw n k) = 18446744073709551615 by unfold bw; rw [if_pos h1]; rfl)
        go_wp2
        go_roundw
        case rel => exact ⟨k + 1, by omega, by go_num, Lib.hid (by rw [HSU.out, ← rowW_set, HBW.out, HCS.out])⟩
        case measure => simp [intOf]; omega
      · by_cases h2 : 64 * (k : Int) < n
        · have HBW := Lib.hid (show IntKind.u64.wrap (IntKind.u64.wrap (2 ^ (n - 64 * (k : Int)).toNat) - 1) = toI (bw n k) by
            unfold bw; rw [if_neg h1, if_pos h2]; exact ones_eq (by omega))
          go_wp2
          go_roundw
          case rel => exact ⟨k + 1, by omega, by go_num, Lib.hid (by rw [HBW.out, HSU.out, ← rowW_set, HCS.out])⟩
          case measure => simp [intOf]; omega
        · have HBW := Lib.hid (show bw n k = 0#64 by unfold bw; rw [if_neg h1, if_neg h2])
          go_wp2
          go_roundw
          case rel => exact ⟨k + 1, by omega, by go_num, Lib.hid (by rw [HSA.out HBW.out, HCS.out])⟩
          case measure => simp [intOf]; omega
    · obtain rfl : k = 16 := by omega
      obtain rfl := HW.out
      have HS := Lib.hid (show (rowW (belowUp n 16)).size = 16 by rw [rowW_size, belowUp_len])
      go_wp2_with (first
        | (refine wpList_load_block rfl 25 (.tmp 3) rfl (w.heap.size + 1) (rowW (belowUp n 16)) 25 _ rfl (by simp [go_sem]) Tryd.underlying25 rfl (by rw [HS.out]; exact sInfo) ?_)
        | (refine wpList_store_block rfl 25 (.tmp 2) (.tmp 30) rfl w.heap.size (rowW (belowUp n 16)) 25 (rowW zeros) rfl rfl (by simp [go_sem]) (by rw [HS.out]; exact sInfo) (by rw [HS.out]; rfl) (rowW_one _) ?_))
      refine bodyPost_ret (results_block rfl _ _ w.heap.size 25 (rowW (belowUp n 16)) _ rfl (by simp [go_sem]) Tryd.underlying25 rfl (by rw [HS.out]; exact sInfo)) rfl ?_
      exact ⟨rfl, beyond_of (by repeat (first | assumption | exact Below.refl _ _ | exact below_beyond _ _ | refine Below.beyond ?_ (by (try simp [size_beyond]) <;> omega) _ | refine Below.drew ?_ | refine Go.Rw.below_drewN ?_ _ | refine Go.Rw.below_setRow ?_ (by (try simp [size_beyond]) <;> omega) _ | refine Below.alloc ?_ (by (try simp [size_beyond]) <;> omega) _ | refine Below.setCell ?_ (by (try simp [size_beyond]) <;> omega) _))⟩
end Go.Proofs.YtjneboajbmabbaaDoor.ref1

namespace Go.Proofs.YtjneboajbmabbaaDoor.ref1
open Go.RowKit Go.Own Go.Rw Go.SetL Go.Bits Go.Tz
set_option maxHeartbeats 1000000
set_option maxRecDepth 100000
attribute [local irreducible] beyond grow over

theorem cell_block {w : World} {g : Nat} {cs : Array Value} {t : TypeId} (h : blockOf w g = some (.cells cs t (0, 0))) (i : Nat) : w.cell? ⟨g, i, none⟩ = cs[i]? := by
  unfold blockOf at h; simp [World.cell?, h]
theorem open_block {w : World} {g : Nat} {cs : Array Value} {t : TypeId} (h : blockOf w g = some (.cells cs t (0, 0))) (i : Nat) : w.frozen? ⟨g, i, none⟩ = false := by
  unfold blockOf at h; simp [World.frozen?, h]
theorem set_block {w : World} {g : Nat} {cs : Array Value} {t : TypeId} (h : blockOf w g = some (.cells cs t (0, 0))) (i : Nat) (v : Value) : blockOf (w.setCell ⟨g, i, none⟩ v) g = some (.cells (cs.setIfInBounds i v) t (0, 0)) := by
  unfold blockOf at h ⊢; simp [World.setCell, Array.getElem?_modify, h]
theorem set_block_ne {w : World} {g g' : Nat} (hne : g ≠ g') (i : Nat) (v : Value) : blockOf (w.setCell ⟨g, i, none⟩ v) g' = blockOf w g' := by
  unfold blockOf; simp [World.setCell, Array.getElem?_modify, hne]
theorem take_next {l : List Int} {k : Nat} {x : Int} (h : l[k]? = some x) : l.take (k + 1) = l.take k ++ [x] := by rw [List.take_add_one, h]; rfl
theorem of_set {q : Option Addr} {m c : Nat} {l : List Int} {w : World} (hm : m = l.length) (hb : m ≤ 999990) (h : Reads w q l) :
    Calls Tryd.prog 13 #[.slice q m c] w fun e w' => e = .returned (.agg (rowW (rowOf l))) ∧ ∃ y, w' = beyond w y := by
  have HR := Lib.hid h; clear h
  have HM := Lib.hid hm; clear hm
  go_enter Tryd.func13, Tryd.ntmps13
  go_wp2
  go_loopw [8] (fun i wr => ∃ k : Nat, k ≤ m ∧ i = .int .i64 k ∧ Hid (blockOf wr (w.heap.size + 1) = some (.cells (rowW (rowOf (l.take k))) 25 (0, 0))) ∧ Hid (blockOf wr w.heap.size = some (.cells (rowW zeros) 25 (0, 0))) ∧ Hid (Below w.heap.size w wr) ∧ w.heap.size + 2 ≤ wr.heap.size)
    (fun i _ => m - (intOf i).toNat)
  case atStart => exact ⟨0, Nat.zero_le _, rfl, Lib.hid (by simp [go_sem, rowOf, rowW_zeros]), Lib.hid (by simp [go_sem, rowW_zeros, inW]), Lib.hid (by repeat (first | assumption | exact Below.refl _ _ | exact below_beyond _ _ | refine Below.beyond ?_ (by (try simp [size_beyond]) <;> omega) _ | refine Below.drew ?_ | refine Go.Rw.below_drewN ?_ _ | refine Go.Rw.below_setRow ?_ (by (try simp [size_beyond]) <;> omega) _ | refine Below.alloc ?_ (by (try simp [size_beyond]) <;> omega) _ | refine Below.setCell ?_ (by (try simp [size_beyond]) <;> omega) _)), by simp⟩
  case round =>
    obtain ⟨k, hk, rfl, HK, HZ, HB, hsz⟩ := hrel
    by_cases hlt : k < m
    · obtain ⟨b, off, x, rfl, hx, hbw, hc⟩ := (HR.out.below HB.out).at (k := k) (by rw [← HM.out]; exact hlt)
      have HX := Lib.hid (take_next hx); clear hx
      by_cases hin : 0 ≤ x ∧ x < 1024
      · obtain ⟨j, rfl⟩ := Int.eq_ofNat_of_zero_le hin.1
        have hj : j < 1024 := by omega
        have hlen := rowOf_len (l.take k)
        have ha := (cell_block HK.out (j / 64)).trans (rowW_at (by rw [hlen]; omega))
        have hfz := open_block HK.out (j / 64)
        have HW := Lib.hid (show (rowW (rowOf (l.take k))).setIfInBounds (j / 64) (.int .u64 (bits BinOp.or IntKind.u64 (toI ((rowOf (l.take k)).getD (j / 64) 0)) (IntKind.u64.wrap (2 ^ (j % 64))))) = rowW (rowOf (l.take (k + 1))) by
          rw [or_one _ (by omega), rowW_set, HX.out, rowOf_snoc, withS, if_pos hin]; rfl)
        have hu0 := toI_nonneg ((rowOf (l.take k)).getD (j / 64) 0)
        have hu1 := toI_lt ((rowOf (l.take k)).getD (j / 64) 0)
        generalize toI ((rowOf (l.take k)).getD (j / 64) 0) = u at ha hu0 hu1 HW
        have HD := Lib.hid (show (decide ((0:Int) ≤ j) && decide ((j:Int) < 1024)) = true by simp; omega)
        clear hin hlen
        go_wp2_with (go_at_call 53; refine (inRange_calls _ _).mono ?_; rw [HD.out]; rintro e w1 ⟨rfl, rfl⟩)
        go_region
        all_goals
          go_wp2
          go_roundw
          case rel => exact ⟨k + 1, by omega, by go_num, Lib.hid (by rw [← HW.out]; exact set_block HK.out _ _), Lib.hid ((set_block_ne (by omega) _ _).trans HZ.out), Lib.hid (by have := HB.out; exact (by repeat (first | assumption | exact Below.refl _ _ | exact below_beyond _ _ | refine Below.beyond ?_ (by (try simp [size_beyond]) <;> omega) _ | refine Below.drew ?_ | refine Go.Rw.below_drewN ?_ _ | refine Go.Rw.below_setRow ?_ (by (try simp [size_beyond]) <;> omega) _ | refine Below.alloc ?_ (by (try simp [size_beyond]) <;> omega) _ | refine Below.setCell ?_ (by (try simp [size_beyond]) <;> omega) _))), by simpa [go_sem] using hsz⟩
          case measure => simp [intOf]; omega
      · have HW := Lib.hid (show rowOf (l.take (k + 1)) = rowOf (l.take k) by rw [HX.out, rowOf_snoc, withS, if_neg hin])
        have HD := Lib.hid (show (decide ((0:Int) ≤ x) && decide (x < 1024)) = false by rw [Bool.eq_false_iff]; simp; omega)
        clear hin
        go_wp2_with (go_at_call 53; refine (inRange_calls _ _).mono ?_; rw [HD.out]; rintro e w1 ⟨rfl, rfl⟩)
        go_roundw
        case rel => exact ⟨k + 1, by omega, by go_num, Lib.hid (by rw [HW.out]; exact HK.out), HZ, HB, hsz⟩
        case measure => simp [intOf]; omega
    · obtain rfl : k = m := by omega
      have HT := Lib.hid (show l.take k = l from List.take_of_length_le (by rw [← HM.out]; exact Nat.le_refl _))
      rw [HT.out] at HK
      have HS := Lib.hid (show (rowW (rowOf l)).size = 16 by rw [rowW_size, rowOf_len])
      have hB := HB.out
      have hin : inW w.heap.size wr = true := inW_iff.2 (by omega)
      go_wp2_with (first
        | (refine wpList_load_block rfl 25 (.tmp 3) rfl (w.heap.size + 1) (rowW (rowOf l)) 25 _ rfl HK.out Tryd.underlying25 rfl (by rw [HS.out]; exact sInfo) ?_)
        | (refine wpList_store_block rfl 25 (.tmp 2) (.tmp 24) rfl w.heap.size (rowW (rowOf l)) 25 (rowW zeros) rfl rfl HZ.out (by rw [HS.out]; exact sInfo) (by rw [HS.out]; rfl) (rowW_one _) ?_))
      refine bodyPost_ret (results_block rfl _ _ w.heap.size 25 (rowW (rowOf l)) _ rfl (by have := HZ.out; unfold blockOf at this ⊢; simp [World.setRow, Array.getElem?_modify, this]) Tryd.underlying25 rfl (by rw [HS.out]; exact sInfo)) rfl ?_
      exact ⟨rfl, beyond_of (by repeat (first | assumption | exact Below.refl _ _ | exact below_beyond _ _ | refine Below.beyond ?_ (by (try simp [size_beyond]) <;> omega) _ | refine Below.drew ?_ | refine Go.Rw.below_drewN ?_ _ | refine Go.Rw.below_setRow ?_ (by (try simp [size_beyond]) <;> omega) _ | refine Below.alloc ?_ (by (try simp [size_beyond]) <;> omega) _ | refine Below.setCell ?_ (by (try simp [size_beyond]) <;> omega) _))⟩
theorem from_set {q : Option Addr} {m c : Nat} {l : List Int} {w : World} (hm : m = l.length) (hb : m ≤ 999990) (h : Reads w q l) :
    Calls Tryd.prog 46 #[.slice q m c] w fun e w' => e = .returned (.agg (rowW (rowOf l))) ∧ ∃ y, w' = beyond w y := by
  have HR := Lib.hid h; clear h
  have HM := Lib.hid hm; clear hm
  go_enter Tryd.func46, Tryd.ntmps46
  go_wp2
  go_loopw [4] (fun i wr => ∃ k : Nat, k ≤ m ∧ i = .int .i64 k ∧ Hid (blockOf wr (w.heap.size + 1) = some (.cells (rowW (rowOf (l.take k))) 25 (0, 0))) ∧ Hid (blockOf wr w.heap.size = some (.cells (rowW zeros) 25 (0, 0))) ∧ Hid (Below w.heap.size w wr) ∧ w.heap.size + 2 ≤ wr.heap.size)
    (fun i _ => m - (intOf i).toNat)
  case atStart => exact ⟨0, Nat.zero_le _, rfl, Lib.hid (by simp [go_sem, rowOf, rowW_zeros]), Lib.hid (by simp [go_sem, rowW_zeros, inW]), Lib.hid (by repeat (first | assumption | exact Below.refl _ _ | exact below_beyond _ _ | refine Below.beyond ?_ (by (try simp [size_beyond]) <;> omega) _ | refine Below.drew ?_ | refine Go.Rw.below_drewN ?_ _ | refine Go.Rw.below_setRow ?_ (by (try simp [size_beyond]) <;> omega) _ | refine Below.alloc ?_ (by (try simp [size_beyond]) <;> omega) _ | refine Below.setCell ?_ (by (try simp [size_beyond]) <;> omega) _)), by simp⟩
  case round =>
    obtain ⟨k, hk, rfl, HK, HZ, HB, hsz⟩ := hrel
    by_cases hlt : k < m
    · obtain ⟨b, off, x, rfl, hx, hbw, hc⟩ := (HR.out.below HB.out).at (k := k) (by rw [← HM.out]; exact hlt)
      have HX := Lib.hid (take_next hx); clear hx
      by_cases hin : 0 ≤ x ∧ x < 1024
      · obtain ⟨j, rfl⟩ := Int.eq_ofNat_of_zero_le hin.1
        have hj : j < 1024 := by omega
        have hlen := rowOf_len (l.take k)
        have ha := (cell_block HK.out (j / 64)).trans (rowW_at (by rw [hlen]; omega))
        have hfz := open_block HK.out (j / 64)
        have HW := Lib.hid (show (rowW (rowOf (l.take k))).setIfInBounds (j / 64) (.int .u64 (bits BinOp.or IntKind.u64 (toI ((rowOf (l.take k)).getD (j / 64) 0)) (IntKind.u64.wrap (2 ^ (j % 64))))) = rowW (rowOf (l.take (k + 1))) by
          rw [or_one _ (by omega), rowW_set, HX.out, rowOf_snoc, withS, if_pos hin]; rfl)
        have hu0 := toI_nonneg ((rowOf (l.take k)).getD (j / 64) 0)
        have hu1 := toI_lt ((rowOf (l.take k)).getD (j / 64) 0)
        generalize toI ((rowOf (l.take k)).getD (j / 64) 0) = u at ha hu0 hu1 HW
        clear hin hlen
        go_wp2
        go_region
        all_goals
          go_wp2
          go_roundw
          case rel => exact ⟨k + 1, by omega, by go_num, Lib.hid (by rw [← HW.out]; exact set_block HK.out _ _), Lib.hid ((set_block_ne (by omega) _ _).trans HZ.out), Lib.hid (by have := HB.out; exact (by repeat (first | assumption | exact Below.refl _ _ | exact below_beyond _ _ | refine Below.beyond ?_ (by (try simp [size_beyond]) <;> omega) _ | refine Below.drew ?_ | refine Go.Rw.below_drewN ?_ _ | refine Go.Rw.below_setRow ?_ (by (try simp [size_beyond]) <;> omega) _ | refine Below.alloc ?_ (by (try simp [size_beyond]) <;> omega) _ | refine Below.setCell ?_ (by (try simp [size_beyond]) <;> omega) _))), by simpa [go_sem] using hsz⟩
          case measure => simp [intOf]; omega
      · have HW := Lib.hid (show rowOf (l.take (k + 1)) = rowOf (l.take k) by rw [HX.out, rowOf_snoc, withS, if_neg hin])
        rcases Int.lt_or_le x 0 with h0 | h0
        · clear hin
          go_wp2
          go_roundw
          case rel => exact ⟨k + 1, by omega, by go_num, Lib.hid (by rw [HW.out]; exact HK.out), HZ, HB, hsz⟩
          case measure => simp [intOf]; omega
        · have h1 : 1024 ≤ x := by omega
          clear hin
          go_wp2
          go_roundw
          case rel => exact ⟨k + 1, by omega, by go_num, Lib.hid (by rw [HW.out]; exact HK.out), HZ, HB, hsz⟩
          case measure => simp [intOf]; omega
    · obtain rfl : k = m := by omega
      have HT := Lib.hid (show l.take k = l from List.take_of_length_le (by rw [← HM.out]; exact Nat.le_refl _))
      rw [HT.out] at HK
      have HS := Lib.hid (show (rowW (rowOf l)).size = 16 by rw [rowW_size, rowOf_len])
      have hB := HB.out
      have hin : inW w.heap.size wr = true := inW_iff.2 (by omega)
      go_wp2_with (first
        | (refine wpList_load_block rfl 25 (.tmp 3) rfl (w.heap.size + 1) (rowW (rowOf l)) 25 _ rfl HK.out Tryd.underlying25 rfl (by rw [HS.out]; exact sInfo) ?_)
        | (refine wpList_store_block rfl 25 (.tmp 2) (.tmp 43) rfl w.heap.size (rowW (rowOf l)) 25 (rowW zeros) rfl rfl HZ.out (by rw [HS.out]; exact sInfo) (by rw [HS.out]; rfl) (rowW_one _) ?_))
      refine bodyPost_ret (results_block rfl _ _ w.heap.size 25 (rowW (rowOf l)) _ rfl (by have := HZ.out; unfold blockOf at this ⊢; simp [World.setRow, Array.getElem?_modify, this]) Tryd.underlying25 rfl (by rw [HS.out]; exact sInfo)) rfl ?_
      exact ⟨rfl, beyond_of (by repeat (first | assumption | exact Below.refl _ _ | exact below_beyond _ _ | refine Below.beyond ?_ (by (try simp [size_beyond]) <;> omega) _ | refine Below.drew ?_ | refine Go.Rw.below_drewN ?_ _ | refine Go.Rw.below_setRow ?_ (by (try simp [size_beyond]) <;> omega) _ | refine Below.alloc ?_ (by (try simp [size_beyond]) <;> omega) _ | refine Below.setCell ?_ (by (try simp [size_beyond]) <;> omega) _))⟩
end Go.Proofs.YtjneboajbmabbaaDoor.ref1

namespace Go.Proofs.YtjneboajbmabbaaDoor.bits
open Go.Can Go.RowKit Go.Own Go.Bits
set_option maxRecDepth 100000
theorem cmp_same (T : Nat → TypeId) (a0 a1 a2 a3 a4 a5 a6 a7 a8 a9 a10 a11 a12 a13 a14 a15 b0 b1 b2 b3 b4 b5 b6 b7 b8 b9 b10 b11 b12 b13 b14 b15 : Int) : evDInt .i64 (0) (Can.evD Tryd.prog [] (liftSm noSm) (Can.orcOf [([], 39, 16, [(5, 15)], 1, .bool false), ([], 39, 23, [(5, 15)], 2, .bool false), ([], 39, 16, [(5, 14)], 3, .bool false), ([], 39, 23, [(5, 14)], 4, .bool false), ([], 39, 16, [(5, 13)], 5, .bool false), ([], 39, 23, [(5, 13)], 6, .bool false), ([], 39, 16, [(5, 12)], 7, .bool false), ([], 39, 23, [(5, 12)], 8, .bool false), ([], 39, 16, [(5, 11)], 9, .bool false), ([], 39, 23, [(5, 11)], 10, .bool false), ([], 39, 16, [(5, 10)], 11, .bool false), ([], 39, 23, [(5, 10)], 12, .bool false), ([], 39, 16, [(5, 9)], 13, .bool false), ([], 39, 23, [(5, 9)], 14, .bool false), ([], 39, 16, [(5, 8)], 15, .bool false), ([], 39, 23, [(5, 8)], 16, .bool false), ([], 39, 16, [(5, 7)], 17, .bool false), ([], 39, 23, [(5, 7)], 18, .bool false), ([], 39, 16, [(5, 6)], 19, .bool false), ([], 39, 23, [(5, 6)], 20, .bool false), ([], 39, 16, [(5, 5)], 21, .bool false), ([], 39, 23, [(5, 5)], 22, .bool false), ([], 39, 16, [(5, 4)], 23, .bool false), ([], 39, 23, [(5, 4)], 24, .bool false), ([], 39, 16, [(5, 3)], 25, .bool false), ([], 39, 23, [(5, 3)], 26, .bool false), ([], 39, 16, [(5, 2)], 27, .bool false), ([], 39, 23, [(5, 2)], 28, .bool false), ([], 39, 16, [(5, 1)], 29, .bool false), ([], 39, 23, [(5, 1)], 30, .bool false), ([], 39, 16, [(5, 0)], 31, .bool false), ([], 39, 23, [(5, 0)], 32, .bool false)]) 300 [] (.call 39 #[.agg #[.int .u64 a0, .int .u64 a1, .int .u64 a2, .int .u64 a3, .int .u64 a4, .int .u64 a5, .int .u64 a6, .int .u64 a7, .int .u64 a8, .int .u64 a9, .int .u64 a10, .int .u64 a11, .int .u64 a12, .int .u64 a13, .int .u64 a14, .int .u64 a15], .agg #[.int .u64 b0, .int .u64 b1, .int .u64 b2, .int .u64 b3, .int .u64 b4, .int .u64 b5, .int .u64 b6, .int .u64 b7, .int .u64 b8, .int .u64 b9, .int .u64 b10, .int .u64 b11, .int .u64 b12, .int .u64 b13, .int .u64 b14, .int .u64 b15]]) (Can.AW.start (#[]))) = some (Can.Obl.tab [(1, decide (a15 < b15), false), (2, decide (b15 < a15), false), (3, decide (a14 < b14), false), (4, decide (b14 < a14), false), (5, decide (a13 < b13), false), (6, decide (b13 < a13), false), (7, decide (a12 < b12), false), (8, decide (b12 < a12), false), (9, decide (a11 < b11), false), (10, decide (b11 < a11), false), (11, decide (a10 < b10), false), (12, decide (b10 < a10), false), (13, decide (a9 < b9), false), (14, decide (b9 < a9), false), (15, decide (a8 < b8), false), (16, decide (b8 < a8), false), (17, decide (a7 < b7), false), (18, decide (b7 < a7), false), (19, decide (a6 < b6), false), (20, decide (b6 < a6), false), (21, decide (a5 < b5), false), (22, decide (b5 < a5), false), (23, decide (a4 < b4), false), (24, decide (b4 < a4), false), (25, decide (a3 < b3), false), (26, decide (b3 < a3), false), (27, decide (a2 < b2), false), (28, decide (b2 < a2), false), (29, decide (a1 < b1), false), (30, decide (b1 < a1), false), (31, decide (a0 < b0), false), (32, decide (b0 < a0), false)] [1,2,3,4,5,6,7,8,9,10,11,12,13,14,15,16,17,18,19,20,21,22,23,24,25,26,27,28,29,30,31,32,0]) := by kernel_rfl
theorem cmp_lt0 (T : Nat → TypeId) (a0 a1 a2 a3 a4 a5 a6 a7 a8 a9 a10 a11 a12 a13 a14 a15 b0 b1 b2 b3 b4 b5 b6 b7 b8 b9 b10 b11 b12 b13 b14 b15 : Int) : evDInt .i64 (-1) (Can.evD Tryd.prog [] (liftSm noSm) (Can.orcOf [([], 39, 16, [(5, 15)], 1, .bool false), ([], 39, 23, [(5, 15)], 2, .bool false), ([], 39, 16, [(5, 14)], 3, .bool false), ([], 39, 23, [(5, 14)], 4, .bool false), ([], 39, 16, [(5, 13)], 5, .bool false), ([], 39, 23, [(5, 13)], 6, .bool false), ([], 39, 16, [(5, 12)], 7, .bool false), ([], 39, 23, [(5, 12)], 8, .bool false), ([], 39, 16, [(5, 11)], 9, .bool false), ([], 39, 23, [(5, 11)], 10, .bool false), ([], 39, 16, [(5, 10)], 11, .bool false), ([], 39, 23, [(5, 10)], 12, .bool false), ([], 39, 16, [(5, 9)], 13, .bool false), ([], 39, 23, [(5, 9)], 14, .bool false), ([], 39, 16, [(5, 8)], 15, .bool false), ([], 39, 23, [(5, 8)], 16, .bool false), ([], 39, 16, [(5, 7)], 17, .bool false), ([], 39, 23, [(5, 7)], 18, .bool false), ([], 39, 16, [(5, 6)], 19, .bool false), ([], 39, 23, [(5, 6)], 20, .bool false), ([], 39, 16, [(5, 5)], 21, .bool false), ([], 39, 23, [(5, 5)], 22, .bool false), ([], 39, 16, [(5, 4)], 23, .bool false), ([], 39, 23, [(5, 4)], 24, .bool false), ([], 39, 16, [(5, 3)], 25, .bool false), ([], 39, 23, [(5, 3)], 26, .bool false), ([], 39, 16, [(5, 2)], 27, .bool false), ([], 39, 23, [(5, 2)], 28, .bool false), ([], 39, 16, [(5, 1)], 29, .bool false), ([], 39, 23, [(5, 1)], 30, .bool false), ([], 39, 16, [(5, 0)], 31, .bool true)]) 300 [] (.call 39 #[.agg #[.int .u64 a0, .int .u64 a1, .int .u64 a2, .int .u64 a3, .int .u64 a4, .int .u64 a5, .int .u64 a6, .int .u64 a7, .int .u64 a8, .int .u64 a9, .int .u64 a10, .int .u64 a11, .int .u64 a12, .int .u64 a13, .int .u64 a14, .int .u64 a15], .agg #[.int .u64 b0, .int .u64 b1, .int .u64 b2, .int .u64 b3, .int .u64 b4, .int .u64 b5, .int .u64 b6, .int .u64 b7, .int .u64 b8, .int .u64 b9, .int .u64 b10, .int .u64 b11, .int .u64 b12, .int .u64 b13, .int .u64 b14, .int .u64 b15]]) (Can.AW.start (#[]))) = some (Can.Obl.tab [(1, decide (a15 < b15), false), (2, decide (b15 < a15), false), (3, decide (a14 < b14), false), (4, decide (b14 < a14), false), (5, decide (a13 < b13), false), (6, decide (b13 < a13), false), (7, decide (a12 < b12), false), (8, decide (b12 < a12), false), (9, decide (a11 < b11), false), (10, decide (b11 < a11), false), (11, decide (a10 < b10), false), (12, decide (b10 < a10), false), (13, decide (a9 < b9), false), (14, decide (b9 < a9), false), (15, decide (a8 < b8), false), (16, decide (b8 < a8), false), (17, decide (a7 < b7), false), (18, decide (b7 < a7), false), (19, decide (a6 < b6), false), (20, decide (b6 < a6), false), (21, decide (a5 < b5), false), (22, decide (b5 < a5), false), (23, decide (a4 < b4), false), (24, decide (b4 < a4), false), (25, decide (a3 < b3), false), (26, decide (b3 < a3), false), (27, decide (a2 < b2), false), (28, decide (b2 < a2), false), (29, decide (a1 < b1), false), (30, decide (b1 < a1), false), (31, decide (a0 < b0), true)] [1,2,3,4,5,6,7,8,9,10,11,12,13,14,15,16,17,18,19,20,21,22,23,24,25,26,27,28,29,30,31,0]) := by kernel_rfl
theorem cmp_gt0 (T : Nat → TypeId) (a0 a1 a2 a3 a4 a5 a6 a7 a8 a9 a10 a11 a12 a13 a14 a15 b0 b1 b2 b3 b4 b5 b6 b7 b8 b9 b10 b11 b12 b13 b14 b15 : Int) : evDInt .i64 (1) (Can.evD Tryd.prog [] (liftSm noSm) (Can.orcOf [([], 39, 16, [(5, 15)], 1, .bool false), ([], 39, 23, [(5, 15)], 2, .bool false), ([], 39, 16, [(5, 14)], 3, .bool false), ([], 39, 23, [(5, 14)], 4, .bool false), ([], 39, 16, [(5, 13)], 5, .bool false), ([], 39, 23, [(5, 13)], 6, .bool false), ([], 39, 16, [(5, 12)], 7, .bool false), ([], 39, 23, [(5, 12)], 8, .bool false), ([], 39, 16, [(5, 11)], 9, .bool false), ([], 39, 23, [(5, 11)], 10, .bool false), ([], 39, 16, [(5, 10)], 11, .bool false), ([], 39, 23, [(5, 10)], 12, .bool false), ([], 39, 16, [(5, 9)], 13, .bool false), ([], 39, 23, [(5, 9)], 14, .bool false), ([], 39, 16, [(5, 8)], 15, .bool false), ([], 39, 23, [(5, 8)], 16, .bool false), ([], 39, 16, [(5, 7)], 17, .bool false), ([], 39, 23, [(5, 7)], 18, .bool false), ([], 39, 16, [(5, 6)], 19, .bool false), ([], 39, 23, [(5, 6)], 20, .bool false), ([], 39, 16, [(5, 5)], 21, .bool false), ([], 39, 23, [(5, 5)], 22, .bool false), ([], 39, 16, [(5, 4)], 23, .bool false), ([], 39, 23, [(5, 4)], 24, .bool false), ([], 39, 16, [(5, 3)], 25, .bool false), ([], 39, 23, [(5, 3)], 26, .bool false), ([], 39, 16, [(5, 2)], 27, .bool false), ([], 39, 23, [(5, 2)], 28, .bool false), ([], 39, 16, [(5, 1)], 29, .bool false), ([], 39, 23, [(5, 1)], 30, .bool false), ([], 39, 16, [(5, 0)], 31, .bool false), ([], 39, 23, [(5, 0)], 32, .bool true)]) 300 [] (.call 39 #[.agg #[.int .u64 a0, .int .u64 a1, .int .u64 a2, .int .u64 a3, .int .u64 a4, .int .u64 a5, .int .u64 a6, .int .u64 a7, .int .u64 a8, .int .u64 a9, .int .u64 a10, .int .u64 a11, .int .u64 a12, .int .u64 a13, .int .u64 a14, .int .u64 a15], .agg #[.int .u64 b0, .int .u64 b1, .int .u64 b2, .int .u64 b3, .int .u64 b4, .int .u64 b5, .int .u64 b6, .int .u64 b7, .int .u64 b8, .int .u64 b9, .int .u64 b10, .int .u64 b11, .int .u64 b12, .int .u64 b13, .int .u64 b14, .int .u64 b15]]) (Can.AW.start (#[]))) = some (Can.Obl.tab [(1, decide (a15 < b15), false), (2, decide (b15 < a15), false), (3, decide (a14 < b14), false), (4, decide (b14 < a14), false), (5, decide (a13 < b13), false), (6, decide (b13 < a13), false), (7, decide (a12 < b12), false), (8, decide (b12 < a12), false), (9, decide (a11 < b11), false), (10, decide (b11 < a11), false), (11, decide (a10 < b10), false), (12, decide (b10 < a10), false), (13, decide (a9 < b9), false), (14, decide (b9 < a9), false), (15, decide (a8 < b8), false), (16, decide (b8 < a8), false), (17, decide (a7 < b7), false), (18, decide (b7 < a7), false), (19, decide (a6 < b6), false), (20, decide (b6 < a6), false), (21, decide (a5 < b5), false), (22, decide (b5 < a5), false), (23, decide (a4 < b4), false), (24, decide (b4 < a4), false), (25, decide (a3 < b3), false), (26, decide (b3 < a3), false), (27, decide (a2 < b2), false), (28, decide (b2 < a2), false), (29, decide (a1 < b1), false), (30, decide (b1 < a1), false), (31, decide (a0 < b0), false), (32, decide (b0 < a0), true)] [1,2,3,4,5,6,7,8,9,10,11,12,13,14,15,16,17,18,19,20,21,22,23,24,25,26,27,28,29,30,31,32,0]) := by kernel_rfl
theorem cmp_lt1 (T : Nat → TypeId) (a0 a1 a2 a3 a4 a5 a6 a7 a8 a9 a10 a11 a12 a13 a14 a15 b0 b1 b2 b3 b4 b5 b6 b7 b8 b9 b10 b11 b12 b13 b14 b15 : Int) : evDInt .i64 (-1) (Can.evD Tryd.prog [] (liftSm noSm) (Can.orcOf [([], 39, 16, [(5, 15)], 1, .bool false), ([], 39, 23, [(5, 15)], 2, .bool false), ([], 39, 16, [(5, 14)], 3, .bool false), ([], 39, 23, [(5, 14)], 4, .bool false), ([], 39, 16, [(5, 13)], 5, .bool false), ([], 39, 23, [(5, 13)], 6, .bool false), ([], 39, 16, [(5, 12)], 7, .bool false), ([], 39, 23, [(5, 12)], 8, .bool false), ([], 39, 16, [(5, 11)], 9, .bool false), ([], 39, 23, [(5, 11)], 10, .bool false), ([], 39, 16, [(5, 10)], 11, .bool false), ([], 39, 23, [(5, 10)], 12, .bool false), ([], 39, 16, [(5, 9)], 13, .bool false), ([], 39, 23, [(5, 9)], 14, .bool false), ([], 39, 16, [(5, 8)], 15, .bool false), ([], 39, 23, [(5, 8)], 16, .bool false), ([], 39, 16, [(5, 7)], 17, .bool false), ([], 39, 23, [(5, 7)], 18, .bool false), ([], 39, 16, [(5, 6)], 19, .bool false), ([], 39, 23, [(5, 6)], 20, .bool false), ([], 39, 16, [(5, 5)], 21, .bool false), ([], 39, 23, [(5, 5)], 22, .bool false), ([], 39, 16, [(5, 4)], 23, .bool false), ([], 39, 23, [(5, 4)], 24, .bool false), ([], 39, 16, [(5, 3)], 25, .bool false), ([], 39, 23, [(5, 3)], 26, .bool false), ([], 39, 16, [(5, 2)], 27, .bool false), ([], 39, 23, [(5, 2)], 28, .bool false), ([], 39, 16, [(5, 1)], 29, .bool true)]) 300 [] (.call 39 #[.agg #[.int .u64 a0, .int .u64 a1, .int .u64 a2, .int .u64 a3, .int .u64 a4, .int .u64 a5, .int .u64 a6, .int .u64 a7, .int .u64 a8, .int .u64 a9, .int .u64 a10, .int .u64 a11, .int .u64 a12, .int .u64 a13, .int .u64 a14, .int .u64 a15], .agg #[.int .u64 b0, .int .u64 b1, .int .u64 b2, .int .u64 b3, .int .u64 b4, .int .u64 b5, .int .u64 b6, .int .u64 b7, .int .u64 b8, .int .u64 b9, .int .u64 b10, .int .u64 b11, .int .u64 b12, .int .u64 b13, .int .u64 b14, .int .u64 b15]]) (Can.AW.start (#[]))) = some (Can.Obl.tab [(1, decide (a15 < b15), false), (2, decide (b15 < a15), false), (3, decide (a14 < b14), false), (4, decide (b14 < a14), false), (5, decide (a13 < b13), false), (6, decide (b13 < a13), false), (7, decide (a12 < b12), false), (8, decide (b12 < a12), false), (9, decide (a11 < b11), false), (10, decide (b11 < a11), false), (11, decide (a10 < b10), false), (12, decide (b10 < a10), false), (13, decide (a9 < b9), false), (14, decide (b9 < a9), false), (15, decide (a8 < b8), false), (16, decide (b8 < a8), false), (17, decide (a7 < b7), false), (18, decide (b7 < a7), false), (19, decide (a6 < b6), false), (20, decide (b6 < a6), false), (21, decide (a5 < b5), false), (22, decide (b5 < a5), false), (23, decide (a4 < b4), false), (24, decide (b4 < a4), false), (25, decide (a3 < b3), false), (26, decide (b3 < a3), false), (27, decide (a2 < b2), false), (28, decide (b2 < a2), false), (29, decide (a1 < b1), true)] [1,2,3,4,5,6,7,8,9,10,11,12,13,14,15,16,17,18,19,20,21,22,23,24,25,26,27,28,29,0]) := by kernel_rfl
theorem cmp_gt1 (T : Nat → TypeId) (a0 a1 a2 a3 a4 a5 a6 a7 a8 a9 a10 a11 a12 a13 a14 a15 b0 b1 b2 b3 b4 b5 b6 b7 b8 b9 b10 b11 b12 b13 b14 b15 : Int) : evDInt .i64 (1) (Can.evD Tryd.prog [] (liftSm noSm) (Can.orcOf [([], 39, 16, [(5, 15)], 1, .bool false), ([], 39, 23, [(5, 15)], 2, .bool false), ([], 39, 16, [(5, 14)], 3, .bool false), ([], 39, 23, [(5, 14)], 4, .bool false), ([], 39, 16, [(5, 13)], 5, .bool false), ([], 39, 23, [(5, 13)], 6, .bool false), ([], 39, 16, [(5, 12)], 7, .bool false), ([], 39, 23, [(5, 12)], 8, .bool false), ([], 39, 16, [(5, 11)], 9, .bool false), ([], 39, 23, [(5, 11)], 10, .bool false), ([], 39, 16, [(5, 10)], 11, .bool false), ([], 39, 23, [(5, 10)], 12, .bool false), ([], 39, 16, [(5, 9)], 13, .bool false), ([], 39, 23, [(5, 9)], 14, .bool false), ([], 39, 16, [(5, 8)], 15, .bool false), ([], 39, 23, [(5, 8)], 16, .bool false), ([], 39, 16, [(5, 7)], 17, .bool false), ([], 39, 23, [(5, 7)], 18, .bool false), ([], 39, 16, [(5, 6)], 19, .bool false), ([], 39, 23, [(5, 6)], 20, .bool false), ([], 39, 16, [(5, 5)], 21, .bool false), ([], 39, 23, [(5, 5)], 22, .bool false), ([], 39, 16, [(5, 4)], 23, .bool false), ([], 39, 23, [(5, 4)], 24, .bool false), ([], 39, 16, [(5, 3)], 25, .bool false), ([], 39, 23, [(5, 3)], 26, .bool false), ([], 39, 16, [(5, 2)], 27, .bool false), ([], 39, 23, [(5, 2)], 28, .bool false), ([], 39, 16, [(5, 1)], 29, .bool false), ([], 39, 23, [(5, 1)], 30, .bool true)]) 300 [] (.call 39 #[.agg #[.int .u64 a0, .int .u64 a1, .int .u64 a2, .int .u64 a3, .int .u64 a4, .int .u64 a5, .int .u64 a6, .int .u64 a7, .int .u64 a8, .int .u64 a9, .int .u64 a10, .int .u64 a11, .int .u64 a12, .int .u64 a13, .int .u64 a14, .int .u64 a15], .agg #[.int .u64 b0, .int .u64 b1, .int .u64 b2, .int .u64 b3, .int .u64 b4, .int .u64 b5, .int .u64 b6, .int .u64 b7, .int .u64 b8, .int .u64 b9, .int .u64 b10, .int .u64 b11, .int .u64 b12, .int .u64 b13, .int .u64 b14, .int .u64 b15]]) (Can.AW.start (#[]))) = some (Can.Obl.tab [(1, decide (a15 < b15), false), (2, decide (b15 < a15), false), (3, decide (a14 < b14), false), (4, decide (b14 < a14), false), (5, decide (a13 < b13), false), (6, decide (b13 < a13), false), (7, decide (a12 < b12), false), (8, decide (b12 < a12), false), (9, decide (a11 < b11), false), (10, decide (b11 < a11), false), (11, decide (a10 < b10), false), (12, decide (b10 < a10), false), (13, decide (a9 < b9), false), (14, decide (b9 < a9), false), (15, decide (a8 < b8), false), (16, decide (b8 < a8), false), (17, decide (a7 < b7), false), (18, decide (b7 < a7), false), (19, decide (a6 < b6), false), (20, decide (b6 < a6), false), (21, decide (a5 < b5), false), (22, decide (b5 < a5), false), (23, decide (a4 < b4), false), (24, decide (b4 < a4), false), (25, decide (a3 < b3), false), (26, decide (b3 < a3), false), (27, decide (a2 < b2), false), (28, decide (b2 < a2), false), (29, decide (a1 < b1), false), (30, decide (b1 < a1), true)] [1,2,3,4,5,6,7,8,9,10,11,12,13,14,15,16,17,18,19,20,21,22,23,24,25,26,27,28,29,30,0]) := by kernel_rfl
theorem cmp_lt2 (T : Nat → TypeId) (a0 a1 a2 a3 a4 a5 a6 a7 a8 a9 a10 a11 a12 a13 a14 a15 b0 b1 b2 b3 b4 b5 b6 b7 b8 b9 b10 b11 b12 b13 b14 b15 : Int) : evDInt .i64 (-1) (Can.evD Tryd.prog [] (liftSm noSm) (Can.orcOf [([], 39, 16, [(5, 15)], 1, .bool false), ([], 39, 23, [(5, 15)], 2, .bool false), ([], 39, 16, [(5, 14)], 3, .bool false), ([], 39, 23, [(5, 14)], 4, .bool false), ([], 39, 16, [(5, 13)], 5, .bool false), ([], 39, 23, [(5, 13)], 6, .bool false), ([], 39, 16, [(5, 12)], 7, .bool false), ([], 39, 23, [(5, 12)], 8, .bool false), ([], 39, 16, [(5, 11)], 9, .bool false), ([], 39, 23, [(5, 11)], 10, .bool false), ([], 39, 16, [(5, 10)], 11, .bool false), ([], 39, 23, [(5, 10)], 12, .bool false), ([], 39, 16, [(5, 9)], 13, .bool false), ([], 39, 23, [(5, 9)], 14, .bool false), ([], 39, 16, [(5, 8)], 15, .bool false), ([], 39, 23, [(5, 8)], 16, .bool false), ([], 39, 16, [(5, 7)], 17, .bool false), ([], 39, 23, [(5, 7)], 18, .bool false), ([], 39, 16, [(5, 6)], 19, .bool false), ([], 39, 23, [(5, 6)], 20, .bool false), ([], 39, 16, [(5, 5)], 21, .bool false), ([], 39, 23, [(5, 5)], 22, .bool false), ([], 39, 16, [(5, 4)], 23, .bool false), ([], 39, 23, [(5, 4)], 24, .bool false), ([], 39, 16, [(5, 3)], 25, .bool false), ([], 39, 23, [(5, 3)], 26, .bool false), ([], 39, 16, [(5, 2)], 27, .bool true)]) 300 [] (.call 39 #[.agg #[.int .u64 a0, .int .u64 a1, .int .u64 a2, .int .u64 a3, .int .u64 a4, .int .u64 a5, .int .u64 a6, .int .u64 a7, .int .u64 a8, .int .u64 a9, .int .u64 a10, .int .u64 a11, .int .u64 a12, .int .u64 a13, .int .u64 a14, .int .u64 a15], .agg #[.int .u64 b0, .int .u64 b1, .int .u64 b2, .int .u64 b3, .int .u64 b4, .int .u64 b5, .int .u64 b6, .int .u64 b7, .int .u64 b8, .int .u64 b9, .int .u64 b10, .int .u64 b11, .int .u64 b12, .int .u64 b13, .int .u64 b14, .int .u64 b15]]) (Can.AW.start (#[]))) = some (Can.Obl.tab [(1, decide (a15 < b15), false), (2, decide (b15 < a15), false), (3, decide (a14 < b14), false), (4, decide (b14 < a14), false), (5, decide (a13 < b13), false), (6, decide (b13 < a13), false), (7, decide (a12 < b12), false), (8, decide (b12 < a12), false), (9, decide (a11 < b11), false), (10, decide (b11 < a11), false), (11, decide (a10 < b10), false), (12, decide (b10 < a10), false), (13, decide (a9 < b9), false), (14, decide (b9 < a9), false), (15, decide (a8 < b8), false), (16, decide (b8 < a8), false), (17, decide (a7 < b7), false), (18, decide (b7 < a7), false), (19, decide (a6 < b6), false), (20, decide (b6 < a6), false), (21, decide (a5 < b5), false), (22, decide (b5 < a5), false), (23, decide (a4 < b4), false), (24, decide (b4 < a4), false), (25, decide (a3 < b3), false), (26, decide (b3 < a3), false), (27, decide (a2 < b2), true)] [1,2,3,4,5,6,7,8,9,10,11,12,13,14,15,16,17,18,19,20,21,22,23,24,25,26,27,0]) := by kernel_rfl
theorem cmp_gt2 (T : Nat → TypeId) (a0 a1 a2 a3 a4 a5 a6 a7 a8 a9 a10 a11 a12 a13 a14 a15 b0 b1 b2 b3 b4 b5 b6 b7 b8 b9 b10 b11 b12 b13 b14 b15 : Int) : evDInt .i64 (1) (Can.evD Tryd.prog [] (liftSm noSm) (Can.orcOf [([], 39, 16, [(5, 15)], 1, .bool false), ([], 39, 23, [(5, 15)], 2, .bool false), ([], 39, 16, [(5, 14)], 3, .bool false), ([], 39, 23, [(5, 14)], 4, .bool false), ([], 39, 16, [(5, 13)], 5, .bool false), ([], 39, 23, [(5, 13)], 6, .bool false), ([], 39, 16, [(5, 12)], 7, .bool false), ([], 39, 23, [(5, 12)], 8, .bool false), ([], 39, 16, [(5, 11)], 9, .bool false), ([], 39, 23, [(5, 11)], 10, .bool false), ([], 39, 16, [(5, 10)], 11, .bool false), ([], 39, 23, [(5, 10)], 12, .bool false), ([], 39, 16, [(5, 9)], 13, .bool false), ([], 39, 23, [(5, 9)], 14, .bool false), ([], 39, 16, [(5, 8)], 15, .bool false), ([], 39, 23, [(5, 8)], 16, .bool false), ([], 39, 16, [(5, 7)], 17, .bool false), ([], 39, 23, [(5, 7)], 18, .bool false), ([], 39, 16, [(5, 6)], 19, .bool false), ([], 39, 23, [(5, 6)], 20, .bool false), ([], 39, 16, [(5, 5)], 21, .bool false), ([], 39, 23, [(5, 5)], 22, .bool false), ([], 39, 16, [(5, 4)], 23, .bool false), ([], 39, 23, [(5, 4)], 24, .bool false), ([], 39, 16, [(5, 3)], 25, .bool false), ([], 39, 23, [(5, 3)], 26, .bool false), ([], 39, 16, [(5, 2)], 27, .bool false), ([], 39, 23, [(5, 2)], 28, .bool true)]) 300 [] (.call 39 #[.agg #[.int .u64 a0, .int .u64 a1, .int .u64 a2, .int .u64 a3, .int .u64 a4, .int .u64 a5, .int .u64 a6, .int .u64 a7, .int .u64 a8, .int .u64 a9, .int .u64 a10, .int .u64 a11, .int .u64 a12, .int .u64 a13, .int .u64 a14, .int .u64 a15], .agg #[.int .u64 b0, .int .u64 b1, .int .u64 b2, .int .u64 b3, .int .u64 b4, .int .u64 b5, .int .u64 b6, .int .u64 b7, .int .u64 b8, .int .u64 b9, .int .u64 b10, .int .u64 b11, .int .u64 b12, .int .u64 b13, .int .u64 b14, .int .u64 b15]]) (Can.AW.start (#[]))) = some (Can.Obl.tab [(1, decide (a15 < b15), false), (2, decide (b15 < a15), false), (3, decide (a14 < b14), false), (4, decide (b14 < a14), false), (5, decide (a13 < b13), false), (6, decide (b13 < a13), false), (7, decide (a12 < b12), false), (8, decide (b12 < a12), false), (9, decide (a11 < b11), false), (10, decide (b11 < a11), false), (11, decide (a10 < b10), false), (12, decide (b10 < a10), false), (13, decide (a9 < b9), false), (14, decide (b9 < a9), false), (15, decide (a8 < b8), false), (16, decide (b8 < a8), false), (17, decide (a7 < b7), false), (18, decide (b7 < a7), false), (19, decide (a6 < b6), false), (20, decide (b6 < a6), false), (21, decide (a5 < b5), false), (22, decide (b5 < a5), false), (23, decide (a4 < b4), false), (24, decide (b4 < a4), false), (25, decide (a3 < b3), false), (26, decide (b3 < a3), false), (27, decide (a2 < b2), false), (28, decide (b2 < a2), true)] [1,2,3,4,5,6,7,8,9,10,11,12,13,14,15,16,17,18,19,20,21,22,23,24,25,26,27,28,0]) := by kernel_rfl
theorem cmp_lt3 (T : Nat → TypeId) (a0 a1 a2 a3 a4 a5 a6 a7 a8 a9 a10 a11 a12 a13 a14 a15 b0 b1 b2 b3 b4 b5 b6 b7 b8 b9 b10 b11 b12 b13 b14 b15 : Int) : evDInt .i64 (-1) (Can.evD Tryd.prog [] (liftSm noSm) (Can.orcOf [([], 39, 16, [(5, 15)], 1, .bool false), ([], 39, 23, [(5, 15)], 2, .bool false), ([], 39, 16, [(5, 14)], 3, .bool false), ([], 39, 23, [(5, 14)], 4, .bool false), ([], 39, 16, [(5, 13)], 5, .bool false), ([], 39, 23, [(5, 13)], 6, .bool false), ([], 39, 16, [(5, 12)], 7, .bool false), ([], 39, 23, [(5, 12)], 8, .bool false), ([], 39, 16, [(5, 11)], 9, .bool false), ([], 39, 23, [(5, 11)], 10, .bool false), ([], 39, 16, [(5, 10)], 11, .bool false), ([], 39, 23, [(5, 10)], 12, .bool false), ([], 39, 16, [(5, 9)], 13, .bool false), ([], 39, 23, [(5, 9)], 14, .bool false), ([], 39, 16, [(5, 8)], 15, .bool false), ([], 39, 23, [(5, 8)], 16, .bool false), ([], 39, 16, [(5, 7)], 17, .bool false), ([], 39, 23, [(5, 7)], 18, .bool false), ([], 39, 16, [(5, 6)], 19, .bool false), ([], 39, 23, [(5, 6)], 20, .bool false), ([], 39, 16, [(5, 5)], 21, .bool false), ([], 39, 23, [(5, 5)], 22, .bool false), ([], 39, 16, [(5, 4)], 23, .bool false), ([], 39, 23, [(5, 4)], 24, .bool false), ([], 39, 16, [(5, 3)], 25, .bool true)]) 300 [] (.call 39 #[.agg #[.int .u64 a0, .int .u64 a1, .int .u64 a2, .int .u64 a3, .int .u64 a4, .int .u64 a5, .int .u64 a6, .int .u64 a7, .int .u64 a8, .int .u64 a9, .int .u64 a10, .int .u64 a11, .int .u64 a12, .int .u64 a13, .int .u64 a14, .int .u64 a15], .agg #[.int .u64 b0, .int .u64 b1, .int .u64 b2, .int .u64 b3, .int .u64 b4, .int .u64 b5, .int .u64 b6, .int .u64 b7, .int .u64 b8, .int .u64 b9, .int .u64 b10, .int .u64 b11, .int .u64 b12, .int .u64 b13, .int .u64 b14, .int .u64 b15]]) (Can.AW.start (#[]))) = some (Can.Obl.tab [(1, decide (a15 < b15), false), (2, decide (b15 < a15), false), (3, decide (a14 < b14), false), (4, decide (b14 < a14), false), (5, decide (a13 < b13), false), (6, decide (b13 < a13), false), (7, decide (a12 < b12), false), (8, decide (b12 < a12), false), (9, decide (a11 < b11), false), (10, decide (b11 < a11), false), (11, decide (a10 < b10), false), (12, decide (b10 < a10), false), (13, decide (a9 < b9), false), (14, decide (b9 < a9), false), (15, decide (a8 < b8), false), (16, decide (b8 < a8), false), (17, decide (a7 < b7), false), (18, decide (b7 < a7), false), (19, decide (a6 < b6), false), (20, decide (b6 < a6), false), (21, decide (a5 < b5), false), (22, decide (b5 < a5), false), (23, decide (a4 < b4), false), (24, decide (b4 < a4), false), (25, decide (a3 < b3), true)] [1,2,3,4,5,6,7,8,9,10,11,12,13,14,15,16,17,18,19,20,21,22,23,24,25,0]) := by kernel_rfl
theorem cmp_gt3 (T : Nat → TypeId) (a0 a1 a2 a3 a4 a5 a6 a7 a8 a9 a10 a11 a12 a13 a14 a15 b0 b1 b2 b3 b4 b5 b6 b7 b8 b9 b10 b11 b12 b13 b14 b15 : Int) : evDInt .i64 (1) (Can.evD Tryd.prog [] (liftSm noSm) (Can.orcOf [([], 39, 16, [(5, 15)], 1, .bool false), ([], 39, 23, [(5, 15)], 2, .bool false), ([], 39, 16, [(5, 14)], 3, .bool false), ([], 39, 23, [(5, 14)], 4, .bool false), ([], 39, 16, [(5, 13)], 5, .bool false), ([], 39, 23, [(5, 13)], 6, .bool false), ([], 39, 16, [(5, 12)], 7, .bool false), ([], 39, 23, [(5, 12)], 8, .bool false), ([], 39, 16, [(5, 11)], 9, .bool false), ([], 39, 23, [(5, 11)], 10, .bool false), ([], 39, 16, [(5, 10)], 11, .bool false), ([], 39, 23, [(5, 10)], 12, .bool false), ([], 39, 16, [(5, 9)], 13, .bool false), ([], 39, 23, [(5, 9)], 14, .bool false), ([], 39, 16, [(5, 8)], 15, .bool false), ([], 39, 23, [(5, 8)], 16, .bool false), ([], 39, 16, [(5, 7)], 17, .bool false), ([], 39, 23, [(5, 7)], 18, .bool false), ([], 39, 16, [(5, 6)], 19, .bool false), ([], 39, 23, [(5, 6)], 20, .bool false), ([], 39, 16, [(5, 5)], 21, .bool false), ([], 39, 23, [(5, 5)], 22, .bool false), ([], 39, 16, [(5, 4)], 23, .bool false), ([], 39, 23, [(5, 4)], 24, .bool false), ([], 39, 16, [(5, 3)], 25, .bool false), ([], 39, 23, [(5, 3)], 26, .bool true)]) 300 [] (.call 39 #[.agg #[.int .u64 a0, .int .u64 a1, .int .u64 a2, .int .u64 a3, .int .u64 a4, .int .u64 a5, .int .u64 a6, .int .u64 a7, .int .u64 a8, .int .u64 a9, .int .u64 a10, .int .u64 a11, .int .u64 a12, .int .u64 a13, .int .u64 a14, .int .u64 a15], .agg #[.int .u64 b0, .int .u64 b1, .int .u64 b2, .int .u64 b3, .int .u64 b4, .int .u64 b5, .int .u64 b6, .int .u64 b7, .int .u64 b8, .int .u64 b9, .int .u64 b10, .int .u64 b11, .int .u64 b12, .int .u64 b13, .int .u64 b14, .int .u64 b15]]) (Can.AW.start (#[]))) = some (Can.Obl.tab [(1, decide (a15 < b15), false), (2, decide (b15 < a15), false), (3, decide (a14 < b14), false), (4, decide (b14 < a14), false), (5, decide (a13 < b13), false), (6, decide (b13 < a13), false), (7, decide (a12 < b12), false), (8, decide (b12 < a12), false), (9, decide (a11 < b11), false), (10, decide (b11 < a11), false), (11, decide (a10 < b10), false), (12, decide (b10 < a10), false), (13, decide (a9 < b9), false), (14, decide (b9 < a9), false), (15, decide (a8 < b8), false), (16, decide (b8 < a8), false), (17, decide (a7 < b7), false), (18, decide (b7 < a7), false), (19, decide (a6 < b6), false), (20, decide (b6 < a6), false), (21, decide (a5 < b5), false), (22, decide (b5 < a5), false), (23, decide (a4 < b4), false), (24, decide (b4 < a4), false), (25, decide (a3 < b3), false), (26, decide (b3 < a3), true)] [1,2,3,4,5,6,7,8,9,10,11,12,13,14,15,16,17,18,19,20,21,22,23,24,25,26,0]) := by kernel_rfl
theorem cmp_lt4 (T : Nat → TypeId) (a0 a1 a2 a3 a4 a5 a6 a7 a8 a9 a10 a11 a12 a13 a14 a15 b0 b1 b2 b3 b4 b5 b6 b7 b8 b9 b10 b11 b12 b13 b14 b15 : Int) : evDInt .i64 (-1) (Can.evD Tryd.prog [] (liftSm noSm) (Can.orcOf [([], 39, 16, [(5, 15)], 1, .bool false), ([], 39, 23, [(5, 15)], 2, .bool false), ([], 39, 16, [(5, 14)], 3, .bool false), ([], 39, 23, [(5, 14)], 4, .bool false), ([], 39, 16, [(5, 13)], 5, .bool false), ([], 39, 23, [(5, 13)], 6, .bool false), ([], 39, 16, [(5, 12)], 7, .bool false), ([], 39, 23, [(5, 12)], 8, .bool false), ([], 39, 16, [(5, 11)], 9, .bool false), ([], 39, 23, [(5, 11)], 10, .bool false), ([], 39, 16, [(5, 10)], 11, .bool false), ([], 39, 23, [(5, 10)], 12, .bool false), ([], 39, 16, [(5, 9)], 13, .bool false), ([], 39, 23, [(5, 9)], 14, .bool false), ([], 39, 16, [(5, 8)], 15, .bool false), ([], 39, 23, [(5, 8)], 16, .bool false), ([], 39, 16, [(5, 7)], 17, .bool false), ([], 39, 23, [(5, 7)], 18, .bool false), ([], 39, 16, [(5, 6)], 19, .bool false), ([], 39, 23, [(5, 6)], 20, .bool false), ([], 39, 16, [(5, 5)], 21, .bool false), ([], 39, 23, [(5, 5)], 22, .bool false), ([], 39, 16, [(5, 4)], 23, .bool true)]) 300 [] (.call 39 #[.agg #[.int .u64 a0, .int .u64 a1, .int .u64 a2, .int .u64 a3, .int .u64 a4, .int .u64 a5, .int .u64 a6, .int .u64 a7, .int .u64 a8, .int .u64 a9, .int .u64 a10, .int .u64 a11, .int .u64 a12, .int .u64 a13, .int .u64 a14, .int .u64 a15], .agg #[.int .u64 b0, .int .u64 b1, .int .u64 b2, .int .u64 b3, .int .u64 b4, .int .u64 b5, .int .u64 b6, .int .u64 b7, .int .u64 b8, .int .u64 b9, .int .u64 b10, .int .u64 b11, .int .u64 b12, .int .u64 b13, .int .u64 b14, .int .u64 b15]]) (Can.AW.start (#[]))) = some (Can.Obl.tab [(1, decide (a15 < b15), false), (2, decide (b15 < a15), false), (3, decide (a14 < b14), false), (4, decide (b14 < a14), false), (5, decide (a13 < b13), false), (6, decide (b13 < a13), false), (7, decide (a12 < b12), false), (8, decide (b12 < a12), false), (9, decide (a11 < b11), false), (10, decide (b11 < a11), false), (11, decide (a10 < b10), false), (12, decide (b10 < a10), false), (13, decide (a9 < b9), false), (14, decide (b9 < a9), false), (15, decide (a8 < b8), false), (16, decide (b8 < a8), false), (17, decide (a7 < b7), false), (18, decide (b7 < a7), false), (19, decide (a6 < b6), false), (20, decide (b6 < a6), false), (21, decide (a5 < b5), false), (22, decide (b5 < a5), false), (23, decide (a4 < b4), true)] [1,2,3,4,5,6,7,8,9,10,11,12,13,14,15,16,17,18,19,20,21,22,23,0]) := by kernel_rfl
theorem cmp_gt4 (T : Nat → TypeId) (a0 a1 a2 a3 a4 a5 a6 a7 a8 a9 a10 a11 a12 a13 a14 a15 b0 b1 b2 b3 b4 b5 b6 b7 b8 b9 b10 b11 b12 b13 b14 b15 : Int) : evDInt .i64 (1) (Can.evD Tryd.prog [] (liftSm noSm) (Can.orcOf [([], 39, 16, [(5, 15)], 1, .bool false), ([], 39, 23, [(5, 15)], 2, .bool false), ([], 39, 16, [(5, 14)], 3, .bool false), ([], 39, 23, [(5, 14)], 4, .bool false), ([], 39, 16, [(5, 13)], 5, .bool false), ([], 39, 23, [(5, 13)], 6, .bool false), ([], 39, 16, [(5, 12)], 7, .bool false), ([], 39, 23, [(5, 12)], 8, .bool false), ([], 39, 16, [(5, 11)], 9, .bool false), ([], 39, 23, [(5, 11)], 10, .bool false), ([], 39, 16, [(5, 10)], 11, .bool false), ([], 39, 23, [(5, 10)], 12, .bool false), ([], 39, 16, [(5, 9)], 13, .bool false), ([], 39, 23, [(5, 9)], 14, .bool false), ([], 39, 16, [(5, 8)], 15, .bool false), ([], 39, 23, [(5, 8)], 16, .bool false), ([], 39, 16, [(5, 7)], 17, .bool false), ([], 39, 23, [(5, 7)], 18, .bool false), ([], 39, 16, [(5, 6)], 19, .bool false), ([], 39, 23, [(5, 6)], 20, .bool false), ([], 39, 16, [(5, 5)], 21, .bool false), ([], 39, 23, [(5, 5)], 22, .bool false), ([], 39, 16, [(5, 4)], 23, .bool false), ([], 39, 23, [(5, 4)], 24, .bool true)]) 300 [] (.call 39 #[.agg #[.int .u64 a0, .int .u64 a1, .int .u64 a2, .int .u64 a3, .int .u64 a4, .int .u64 a5, .int .u64 a6, .int .u64 a7, .int .u64 a8, .int .u64 a9, .int .u64 a10, .int .u64 a11, .int .u64 a12, .int .u64 a13, .int .u64 a14, .int .u64 a15], .agg #[.int .u64 b0, .int .u64 b1, .int .u64 b2, .int .u64 b3, .int .u64 b4, .int .u64 b5, .int .u64 b6, .int .u64 b7, .int .u64 b8, .int .u64 b9, .int .u64 b10, .int .u64 b11, .int .u64 b12, .int .u64 b13, .int .u64 b14, .int .u64 b15]]) (Can.AW.start (#[]))) = some (Can.Obl.tab [(1, decide (a15 < b15), false), (2, decide (b15 < a15), false), (3, decide (a14 < b14), false), (4, decide (b14 < a14), false), (5, decide (a13 < b13), false), (6, decide (b13 < a13), false), (7, decide (a12 < b12), false), (8, decide (b12 < a12), false), (9, decide (a11 < b11), false), (10, decide (b11 < a11), false), (11, decide (a10 < b10), false), (12, decide (b10 < a10), false), (13, decide (a9 < b9), false), (14, decide (b9 < a9), false), (15, decide (a8 < b8), false), (16, decide (b8 < a8), false), (17, decide (a7 < b7), false), (18, decide (b7 < a7), false), (19, decide (a6 < b6), false), (20, decide (b6 < a6), false), (21, decide (a5 < b5), false), (22, decide (b5 < a5), false), (23, decide (a4 < b4), false), (24, decide (b4 < a4), true)] [1,2,3,4,5,6,7,8,9,10,11,12,13,14,15,16,17,18,19,20,21,22,23,24,0]) := by kernel_rfl
theorem cmp_lt5 (T : Nat → TypeId) (a0 a1 a2 a3 a4 a5 a6 a7 a8 a9 a10 a11 a12 a13 a14 a15 b0 b1 b2 b3 b4 b5 b6 b7 b8 b9 b10 b11 b12 b13 b14 b15 : Int) : evDInt .i64 (-1) (Can.evD Tryd.prog [] (liftSm noSm) (Can.orcOf [([], 39, 16, [(5, 15)], 1, .bool false), ([], 39, 23, [(5, 15)], 2, .bool false), ([], 39, 16, [(5, 14)], 3, .bool false), ([], 39, 23, [(5, 14)], 4, .bool false), ([], 39, 16, [(5, 13)], 5, .bool false), ([], 39, 23, [(5, 13)], 6, .bool false), ([], 39, 16, [(5, 12)], 7, .bool false), ([], 39, 23, [(5, 12)], 8, .bool false), ([], 39, 16, [(5, 11)], 9, .bool false), ([], 39, 23, [(5, 11)], 10, .bool false), ([], 39, 16, [(5, 10)], 11, .bool false), ([], 39, 23, [(5, 10)], 12, .bool false), ([], 39, 16, [(5, 9)], 13, .bool false), ([], 39, 23, [(5, 9)], 14, .bool false), ([], 39, 16, [(5, 8)], 15, .bool false), ([], 39, 23, [(5, 8)], 16, .bool false), ([], 39, 16, [(5, 7)], 17, .bool false), ([], 39, 23, [(5, 7)], 18, .bool false), ([], 39, 16, [(5, 6)], 19, .bool false), ([], 39, 23, [(5, 6)], 20, .bool false), ([], 39, 16, [(5, 5)], 21, .bool true)]) 300 [] (.call 39 #[.agg #[.int .u64 a0, .int .u64 a1, .int .u64 a2, .int .u64 a3, .int .u64 a4, .int .u64 a5, .int .u64 a6, .int .u64 a7, .int .u64 a8, .int .u64 a9, .int .u64 a10, .int .u64 a11, .int .u64 a12, .int .u64 a13, .int .u64 a14, .int .u64 a15], .agg #[.int .u64 b0, .int .u64 b1, .int .u64 b2, .int .u64 b3, .int .u64 b4, .int .u64 b5, .int .u64 b6, .int .u64 b7, .int .u64 b8, .int .u64 b9, .int .u64 b10, .int .u64 b11, .int .u64 b12, .int .u64 b13, .int .u64 b14, .int .u64 b15]]) (Can.AW.start (#[]))) = some (Can.Obl.tab [(1, decide (a15 < b15), false), (2, decide (b15 < a15), false), (3, decide (a14 < b14), false), (4, decide (b14 < a14), false), (5, decide (a13 < b13), false), (6, decide (b13 < a13), false), (7, decide (a12 < b12), false), (8, decide (b12 < a12), false), (9, decide (a11 < b11), false), (10, decide (b11 < a11), false), (11, decide (a10 < b10), false), (12, decide (b10 < a10), false), (13, decide (a9 < b9), false), (14, decide (b9 < a9), false), (15, decide (a8 < b8), false), (16, decide (b8 < a8), false), (17, decide (a7 < b7), false), (18, decide (b7 < a7), false), (19, decide (a6 < b6), false), (20, decide (b6 < a6), false), (21, decide (a5 < b5), true)] [1,2,3,4,5,6,7,8,9,10,11,12,13,14,15,16,17,18,19,20,21,0]) := by kernel_rfl
theorem cmp_gt5 (T : Nat → TypeId) (a0 a1 a2 a3 a4 a5 a6 a7 a8 a9 a10 a11 a12 a13 a14 a15 b0 b1 b2 b3 b4 b5 b6 b7 b8 b9 b10 b11 b12 b13 b14 b15 : Int) : evDInt .i64 (1) (Can.evD Tryd.prog [] (liftSm noSm) (Can.orcOf [([], 39, 16, [(5, 15)], 1, .bool false), ([], 39, 23, [(5, 15)], 2, .bool false), ([], 39, 16, [(5, 14)], 3, .bool false), ([], 39, 23, [(5, 14)], 4, .bool false), ([], 39, 16, [(5, 13)], 5, .bool false), ([], 39, 23, [(5, 13)], 6, .bool false), ([], 39, 16, [(5, 12)], 7, .bool false), ([], 39, 23, [(5, 12)], 8, .bool false), ([], 39, 16, [(5, 11)], 9, .bool false), ([], 39, 23, [(5, 11)], 10, .bool false), ([], 39, 16, [(5, 10)], 11, .bool false), ([], 39, 23, [(5, 10)], 12, .bool false), ([], 39, 16, [(5, 9)], 13, .bool false), ([], 39, 23, [(5, 9)], 14, .bool false), ([], 39, 16, [(5, 8)], 15, .bool false), ([], 39, 23, [(5, 8)], 16, .bool false), ([], 39, 16, [(5, 7)], 17, .bool false), ([], 39, 23, [(5, 7)], 18, .bool false), ([], 39, 16, [(5, 6)], 19, .bool false), ([], 39, 23, [(5, 6)], 20, .bool false), ([], 39, 16, [(5, 5)], 21, .bool false), ([], 39, 23, [(5, 5)], 22, .bool true)]) 300 [] (.call 39 #[.agg #[.int .u64 a0, .int .u64 a1, .int .u64 a2, .int .u64 a3, .int .u64 a4, .int .u64 a5, .int .u64 a6, .int .u64 a7, .int .u64 a8, .int .u64 a9, .int .u64 a10, .int .u64 a11, .int .u64 a12, .int .u64 a13, .int .u64 a14, .int .u64 a15], .agg #[.int .u64 b0, .int .u64 b1, .int .u64 b2, .int .u64 b3, .int .u64 b4, .int .u64 b5, .int .u64 b6, .int .u64 b7, .int .u64 b8, .int .u64 b9, .int .u64 b10, .int .u64 b11, .int .u64 b12, .int .u64 b13, .int .u64 b14, .int .u64 b15]]) (Can.AW.start (#[]))) = some (Can.Obl.tab [(1, decide (a15 < b15), false), (2, decide (b15 < a15), false), (3, decide (a14 < b14), false), (4, decide (b14 < a14), false), (5, decide (a13 < b13), false), (6, decide (b13 < a13), false), (7, decide (a12 < b12), false), (8, decide (b12 < a12), false), (9, decide (a11 < b11), false), (10, decide (b11 < a11), false), (11, decide (a10 < b10), false), (12, decide (b10 < a10), false), (13, decide (a9 < b9), false), (14, decide (b9 < a9), false), (15, decide (a8 < b8), false), (16, decide (b8 < a8), false), (17, decide (a7 < b7), false), (18, decide (b7 < a7), false), (19, decide (a6 < b6), false), (20, decide (b6 < a6), false), (21, decide (a5 < b5), false), (22, decide (b5 < a5), true)] [1,2,3,4,5,6,7,8,9,10,11,12,13,14,15,16,17,18,19,20,21,22,0]) := by kernel_rfl
theorem cmp_lt6 (T : Nat → TypeId) (a0 a1 a2 a3 a4 a5 a6 a7 a8 a9 a10 a11 a12 a13 a14 a15 b0 b1 b2 b3 b4 b5 b6 b7 b8 b9 b10 b11 b12 b13 b14 b15 : Int) : evDInt .i64 (-1) (Can.evD Tryd.prog [] (liftSm noSm) (Can.orcOf [([], 39, 16, [(5, 15)], 1, .bool false), ([], 39, 23, [(5, 15)], 2, .bool false), ([], 39, 16, [(5, 14)], 3, .bool false), ([], 39, 23, [(5, 14)], 4, .bool false), ([], 39, 16, [(5, 13)], 5, .bool false), ([], 39, 23, [(5, 13)], 6, .bool false), ([], 39, 16, [(5, 12)], 7, .bool false), ([], 39, 23, [(5, 12)], 8, .bool false), ([], 39, 16, [(5, 11)], 9, .bool false), ([], 39, 23, [(5, 11)], 10, .bool false), ([], 39, 16, [(5, 10)], 11, .bool false), ([], 39, 23, [(5, 10)], 12, .bool false), ([], 39, 16, [(5, 9)], 13, .bool false), ([], 39, 23, [(5, 9)], 14, .bool false), ([], 39, 16, [(5, 8)], 15, .bool false), ([], 39, 23, [(5, 8)], 16, .bool false), ([], 39, 16, [(5, 7)], 17, .bool false), ([], 39, 23, [(5, 7)], 18, .bool false), ([], 39, 16, [(5, 6)], 19, .bool true)]) 300 [] (.call 39 #[.agg #[.int .u64 a0, .int .u64 a1, .int .u64 a2, .int .u64 a3, .int .u64 a4, .int .u64 a5, .int .u64 a6, .int .u64 a7, .int .u64 a8, .int .u64 a9, .int .u64 a10, .int .u64 a11, .int .u64 a12, .int .u64 a13, .int .u64 a14, .int .u64 a15], .agg #[.int .u64 b0, .int .u64 b1, .int .u64 b2, .int .u64 b3, .int .u64 b4, .int .u64 b5, .int .u64 b6, .int .u64 b7, .int .u64 b8, .int .u64 b9, .int .u64 b10, .int .u64 b11, .int .u64 b12, .int .u64 b13, .int .u64 b14, .int .u64 b15]]) (Can.AW.start (#[]))) = some (Can.Obl.tab [(1, decide (a15 < b15), false), (2, decide (b15 < a15), false), (3, decide (a14 < b14), false), (4, decide (b14 < a14), false), (5, decide (a13 < b13), false), (6, decide (b13 < a13), false), (7, decide (a12 < b12), false), (8, decide (b12 < a12), false), (9, decide (a11 < b11), false), (10, decide (b11 < a11), false), (11, decide (a10 < b10), false), (12, decide (b10 < a10), false), (13, decide (a9 < b9), false), (14, decide (b9 < a9), false), (15, decide (a8 < b8), false), (16, decide (b8 < a8), false), (17, decide (a7 < b7), false), (18, decide (b7 < a7), false), (19, decide (a6 < b6), true)] [1,2,3,4,5,6,7,8,9,10,11,12,13,14,15,16,17,18,19,0]) := by kernel_rfl
theorem cmp_gt6 (T : Nat → TypeId) (a0 a1 a2 a3 a4 a5 a6 a7 a8 a9 a10 a11 a12 a13 a14 a15 b0 b1 b2 b3 b4 b5 b6 b7 b8 b9 b10 b11 b12 b13 b14 b15 : Int) : evDInt .i64 (1) (Can.evD Tryd.prog [] (liftSm noSm) (Can.orcOf [([], 39, 16, [(5, 15)], 1, .bool false), ([], 39, 23, [(5, 15)], 2, .bool false), ([], 39, 16, [(5, 14)], 3, .bool false), ([], 39, 23, [(5, 14)], 4, .bool false), ([], 39, 16, [(5, 13)], 5, .bool false), ([], 39, 23, [(5, 13)], 6, .bool false), ([], 39, 16, [(5, 12)], 7, .bool false), ([], 39, 23, [(5, 12)], 8, .bool false), ([], 39, 16, [(5, 11)], 9, .bool false), ([], 39, 23, [(5, 11)], 10, .bool false), ([], 39, 16, [(5, 10)], 11, .bool false), ([], 39, 23, [(5, 10)], 12, .bool false), ([], 39, 16, [(5, 9)], 13, .bool false), ([], 39, 23, [(5, 9)], 14, .bool false), ([], 39, 16, [(5, 8)], 15, .bool false), ([], 39, 23, [(5, 8)], 16, .bool false), ([], 39, 16, [(5, 7)], 17, .bool false), ([], 39, 23, [(5, 7)], 18, .bool false), ([], 39, 16, [(5, 6)], 19, .bool false), ([], 39, 23, [(5, 6)], 20, .bool true)]) 300 [] (.call 39 #[.agg #[.int .u64 a0, .int .u64 a1, .int .u64 a2, .int .u64 a3, .int .u64 a4, .int .u64 a5, .int .u64 a6, .int .u64 a7, .int .u64 a8, .int .u64 a9, .int .u64 a10, .int .u64 a11, .int .u64 a12, .int .u64 a13, .int .u64 a14, .int .u64 a15], .agg #[.int .u64 b0, .int .u64 b1, .int .u64 b2, .int .u64 b3, .int .u64 b4, .int .u64 b5, .int .u64 b6, .int .u64 b7, .int .u64 b8, .int .u64 b9, .int .u64 b10, .int .u64 b11, .int .u64 b12, .int .u64 b13, .int .u64 b14, .int .u64 b15]]) (Can.AW.start (#[]))) = some (Can.Obl.tab [(1, decide (a15 < b15), false), (2, decide (b15 < a15), false), (3, decide (a14 < b14), false), (4, decide (b14 < a14), false), (5, decide (a13 < b13), false), (6, decide (b13 < a13), false), (7, decide (a12 < b12), false), (8, decide (b12 < a12), false), (9, decide (a11 < b11), false), (10, decide (b11 < a11), false), (11, decide (a10 < b10), false), (12, decide (b10 < a10), false), (13, decide (a9 < b9), false), (14, decide (b9 < a9), false), (15, decide (a8 < b8), false), (16, decide (b8 < a8), false), (17, decide (a7 < b7), false), (18, decide (b7 < a7), false), (19, decide (a6 < b6), false), (20, decide (b6 < a6), true)] [1,2,3,4,5,6,7,8,9,10,11,12,13,14,15,16,17,18,19,20,0]) := by kernel_rfl
theorem cmp_lt7 (T : Nat → TypeId) (a0 a1 a2 a3 a4 a5 a6 a7 a8 a9 a10 a11 a12 a13 a14 a15 b0 b1 b2 b3 b4 b5 b6 b7 b8 b9 b10 b11 b12 b13 b14 b15 : Int) : evDInt .i64 (-1) (Can.evD Tryd.prog [] (liftSm noSm) (Can.orcOf [([], 39, 16, [(5, 15)], 1, .bool false), ([], 39, 23, [(5, 15)], 2, .bool false), ([], 39, 16, [(5, 14)], 3, .bool false), ([], 39, 23, [(5, 14)], 4, .bool false), ([], 39, 16, [(5, 13)], 5, .bool false), ([], 39, 23, [(5, 13)], 6, .bool false), ([], 39, 16, [(5, 12)], 7, .bool false), ([], 39, 23, [(5, 12)], 8, .bool false), ([], 39, 16, [(5, 11)], 9, .bool false), ([], 39, 23, [(5, 11)], 10, .bool false), ([], 39, 16, [(5, 10)], 11, .bool false), ([], 39, 23, [(5, 10)], 12, .bool false), ([], 39, 16, [(5, 9)], 13, .bool false), ([], 39, 23, [(5, 9)], 14, .bool false), ([], 39, 16, [(5, 8)], 15, .bool false), ([], 39, 23, [(5, 8)], 16, .bool false), ([], 39, 16, [(5, 7)], 17, .bool true)]) 300 [] (.call 39 #[.agg #[.int .u64 a0, .int .u64 a1, .int .u64 a2, .int .u64 a3, .int .u64 a4, .int .u64 a5, .int .u64 a6, .int .u64 a7, .int .u64 a8, .int .u64 a9, .int .u64 a10, .int .u64 a11, .int .u64 a12, .int .u64 a13, .int .u64 a14, .int .u64 a15], .agg #[.int .u64 b0, .int .u64 b1, .int .u64 b2, .int .u64 b3, .int .u64 b4, .int .u64 b5, .int .u64 b6, .int .u64 b7, .int .u64 b8, .int .u64 b9, .int .u64 b10, .int .u64 b11, .int .u64 b12, .int .u64 b13, .int .u64 b14, .int .u64 b15]]) (Can.AW.start (#[]))) = some (Can.Obl.tab [(1, decide (a15 < b15), false), (2, decide (b15 < a15), false), (3, decide (a14 < b14), false), (4, decide (b14 < a14), false), (5, decide (a13 < b13), false), (6, decide (b13 < a13), false), (7, decide (a12 < b12), false), (8, decide (b12 < a12), false), (9, decide (a11 < b11), false), (10, decide (b11 < a11), false), (11, decide (a10 < b10), false), (12, decide (b10 < a10), false), (13, decide (a9 < b9), false), (14, decide (b9 < a9), false), (15, decide (a8 < b8), false), (16, decide (b8 < a8), false), (17, decide (a7 < b7), true)] [1,2,3,4,5,6,7,8,9,10,11,12,13,14,15,16,17,0]) := by kernel_rfl
theorem cmp_gt7 (T : Nat → TypeId) (a0 a1 a2 a3 a4 a5 a6 a7 a8 a9 a10 a11 a12 a13 a14 a15 b0 b1 b2 b3 b4 b5 b6 b7 b8 b9 b10 b11 b12 b13 b14 b15 : Int) : evDInt .i64 (1) (Can.evD Tryd.prog [] (liftSm noSm) (Can.orcOf [([], 39, 16, [(5, 15)], 1, .bool false), ([], 39, 23, [(5, 15)], 2, .bool false), ([], 39, 16, [(5, 14)], 3, .bool false), ([], 39, 23, [(5, 14)], 4, .bool false), ([], 39, 16, [(5, 13)], 5, .bool false), ([], 39, 23, [(5, 13)], 6, .bool false), ([], 39, 16, [(5, 12)], 7, .bool false), ([], 39, 23, [(5, 12)], 8, .bool false), ([], 39, 16, [(5, 11)], 9, .bool false), ([], 39, 23, [(5, 11)], 10, .bool false), ([], 39, 16, [(5, 10)], 11, .bool false), ([], 39, 23, [(5, 10)], 12, .bool false), ([], 39, 16, [(5, 9)], 13, .bool false), ([], 39, 23, [(5, 9)], 14, .bool false), ([], 39, 16, [(5, 8)], 15, .bool false), ([], 39, 23, [(5, 8)], 16, .bool false), ([], 39, 16, [(5, 7)], 17, .bool false), ([], 39, 23, [(5, 7)], 18, .bool true)]) 300 [] (.call 39 #[.agg #[.int .u64 a0, .int .u64 a1, .int .u64 a2, .int .u64 a3, .int .u64 a4, .int .u64 a5, .int .u64 a6, .int .u64 a7, .int .u64 a8, .int .u64 a9, .int .u64 a10, .int .u64 a11, .int .u64 a12, .int .u64 a13, .int .u64 a14, .int .u64 a15], .agg #[.int .u64 b0, .int .u64 b1, .int .u64 b2, .int .u64 b3, .int .u64 b4, .int .u64 b5, .int .u64 b6, .int .u64 b7, .int .u64 b8, .int .u64 b9, .int .u64 b10, .int .u64 b11, .int .u64 b12, .int .u64 b13, .int .u64 b14, .int .u64 b15]]) (Can.AW.start (#[]))) = some (Can.Obl.tab [(1, decide (a15 < b15), false), (2, decide (b15 < a15), false), (3, decide (a14 < b14), false), (4, decide (b14 < a14), false), (5, decide (a13 < b13), false), (6, decide (b13 < a13), false), (7, decide (a12 < b12), false), (8, decide (b12 < a12), false), (9, decide (a11 < b11), false), (10, decide (b11 < a11), false), (11, decide (a10 < b10), false), (12, decide (b10 < a10), false), (13, decide (a9 < b9), false), (14, decide (b9 < a9), false), (15, decide (a8 < b8), false), (16, decide (b8 < a8), false), (17, decide (a7 < b7), false), (18, decide (b7 < a7), true)] [1,2,3,4,5,6,7,8,9,10,11,12,13,14,15,16,17,18,0]) := by kernel_rfl
theorem cmp_lt8 (T : Nat → TypeId) (a0 a1 a2 a3 a4 a5 a6 a7 a8 a9 a10 a11 a12 a13 a14 a15 b0 b1 b2 b3 b4 b5 b6 b7 b8 b9 b10 b11 b12 b13 b14 b15 : Int) : evDInt .i64 (-1) (Can.evD Tryd.prog [] (liftSm noSm) (Can.orcOf [([], 39, 16, [(5, 15)], 1, .bool false), ([], 39, 23, [(5, 15)], 2, .bool false), ([], 39, 16, [(5, 14)], 3, .bool false), ([], 39, 23, [(5, 14)], 4, .bool false), ([], 39, 16, [(5, 13)], 5, .bool false), ([], 39, 23, [(5, 13)], 6, .bool false), ([], 39, 16, [(5, 12)], 7, .bool false), ([], 39, 23, [(5, 12)], 8, .bool false), ([], 39, 16, [(5, 11)], 9, .bool false), ([], 39, 23, [(5, 11)], 10, .bool false), ([], 39, 16, [(5, 10)], 11, .bool false), ([], 39, 23, [(5, 10)], 12, .bool false), ([], 39, 16, [(5, 9)], 13, .bool false), ([], 39, 23, [(5, 9)], 14, .bool false), ([], 39, 16, [(5, 8)], 15, .bool true)]) 300 [] (.call 39 #[.agg #[.int .u64 a0, .int .u64 a1, .int .u64 a2, .int .u64 a3, .int .u64 a4, .int .u64 a5, .int .u64 a6, .int .u64 a7, .int .u64 a8, .int .u64 a9, .int .u64 a10, .int .u64 a11, .int .u64 a12, .int .u64 a13, .int .u64 a14, .int .u64 a15], .agg #[.int .u64 b0, .int .u64 b1, .int .u64 b2, .int .u64 b3, .int .u64 b4, .int .u64 b5, .int .u64 b6, .int .u64 b7, .int .u64 b8, .int .u64 b9, .int .u64 b10, .int .u64 b11, .int .u64 b12, .int .u64 b13, .int .u64 b14, .int .u64 b15]]) (Can.AW.start (#[]))) = some (Can.Obl.tab [(1, decide (a15 < b15), false), (2, decide (b15 < a15), false), (3, decide (a14 < b14), false), (4, decide (b14 < a14), false), (5, decide (a13 < b13), false), (6, decide (b13 < a13), false), (7, decide (a12 < b12), false), (8, decide (b12 < a12), false), (9, decide (a11 < b11), false), (10, decide (b11 < a11), false), (11, decide (a10 < b10), false), (12, decide (b10 < a10), false), (13, decide (a9 < b9), false), (14, decide (b9 < a9), false), (15, decide (a8 < b8), true)] [1,2,3,4,5,6,7,8,9,10,11,12,13,14,15,0]) := by kernel_rfl
theorem cmp_gt8 (T : Nat → TypeId) (a0 a1 a2 a3 a4 a5 a6 a7 a8 a9 a10 a11 a12 a13 a14 a15 b0 b1 b2 b3 b4 b5 b6 b7 b8 b9 b10 b11 b12 b13 b14 b15 : Int) : evDInt .i64 (1) (Can.evD Tryd.prog [] (liftSm noSm) (Can.orcOf [([], 39, 16, [(5, 15)], 1, .bool false), ([], 39, 23, [(5, 15)], 2, .bool false), ([], 39, 16, [(5, 14)], 3, .bool false), ([], 39, 23, [(5, 14)], 4, .bool false), ([], 39, 16, [(5, 13)], 5, .bool false), ([], 39, 23, [(5, 13)], 6, .bool false), ([], 39, 16, [(5, 12)], 7, .bool false), ([], 39, 23, [(5, 12)], 8, .bool false), ([], 39, 16, [(5, 11)], 9, .bool false), ([], 39, 23, [(5, 11)], 10, .bool false), ([], 39, 16, [(5, 10)], 11, .bool false), ([], 39, 23, [(5, 10)], 12, .bool false), ([], 39, 16, [(5, 9)], 13, .bool false), ([], 39, 23, [(5, 9)], 14, .bool false), ([], 39, 16, [(5, 8)], 15, .bool false), ([], 39, 23, [(5, 8)], 16, .bool true)]) 300 [] (.call 39 #[.agg #[.int .u64 a0, .int .u64 a1, .int .u64 a2, .int .u64 a3, .int .u64 a4, .int .u64 a5, .int .u64 a6, .int .u64 a7, .int .u64 a8, .int .u64 a9, .int .u64 a10, .int .u64 a11, .int .u64 a12, .int .u64 a13, .int .u64 a14, .int .u64 a15], .agg #[.int .u64 b0, .int .u64 b1, .int .u64 b2, .int .u64 b3, .int .u64 b4, .int .u64 b5, .int .u64 b6, .int .u64 b7, .int .u64 b8, .int .u64 b9, .int .u64 b10, .int .u64 b11, .int .u64 b12, .int .u64 b13, .int .u64 b14, .int .u64 b15]]) (Can.AW.start (#[]))) = some (Can.Obl.tab [(1, decide (a15 < b15), false), (2, decide (b15 < a15), false), (3, decide (a14 < b14), false), (4, decide (b14 < a14), false), (5, decide (a13 < b13), false), (6, decide (b13 < a13), false), (7, decide (a12 < b12), false), (8, decide (b12 < a12), false), (9, decide (a11 < b11), false), (10, decide (b11 < a11), false), (11, decide (a10 < b10), false), (12, decide (b10 < a10), false), (13, decide (a9 < b9), false), (14, decide (b9 < a9), false), (15, decide (a8 < b8), false), (16, decide (b8 < a8), true)] [1,2,3,4,5,6,7,8,9,10,11,12,13,14,15,16,0]) := by kernel_rfl
theorem cmp_lt9 (T : Nat → TypeId) (a0 a1 a2 a3 a4 a5 a6 a7 a8 a9 a10 a11 a12 a13 a14 a15 b0 b1 b2 b3 b4 b5 b6 b7 b8 b9 b10 b11 b12 b13 b14 b15 : Int) : evDInt .i64 (-1) (Can.evD Tryd.prog [] (liftSm noSm) (Can.orcOf [([], 39, 16, [(5, 15)], 1, .bool false), ([], 39, 23, [(5, 15)], 2, .bool false), ([], 39, 16, [(5, 14)], 3, .bool false), ([], 39, 23, [(5, 14)], 4, .bool false), ([], 39, 16, [(5, 13)], 5, .bool false), ([], 39, 23, [(5, 13)], 6, .bool false), ([], 39, 16, [(5, 12)], 7, .bool false), ([], 39, 23, [(5, 12)], 8, .bool false), ([], 39, 16, [(5, 11)], 9, .bool false), ([], 39, 23, [(5, 11)], 10, .bool false), ([], 39, 16, [(5, 10)], 11, .bool false), ([], 39, 23, [(5, 10)], 12, .bool false), ([], 39, 16, [(5, 9)], 13, .bool true)]) 300 [] (.call 39 #[.agg #[.int .u64 a0, .int .u64 a1, .int .u64 a2, .int .u64 a3, .int .u64 a4, .int .u64 a5, .int .u64 a6, .int .u64 a7, .int .u64 a8, .int .u64 a9, .int .u64 a10, .int .u64 a11, .int .u64 a12, .int .u64 a13, .int .u64 a14, .int .u64 a15], .agg #[.int .u64 b0, .int .u64 b1, .int .u64 b2, .int .u64 b3, .int .u64 b4, .int .u64 b5, .int .u64 b6, .int .u64 b7, .int .u64 b8, .int .u64 b9, .int .u64 b10, .int .u64 b11, .int .u64 b12, .int .u64 b13, .int .u64 b14, .int .u64 b15]]) (Can.AW.start (#[]))) = some (Can.Obl.tab [(1, decide (a15 < b15), false), (2, decide (b15 < a15), false), (3, decide (a14 < b14), false), (4, decide (b14 < a14), false), (5, decide (a13 < b13), false), (6, decide (b13 < a13), false), (7, decide (a12 < b12), false), (8, decide (b12 < a12), false), (9, decide (a11 < b11), false), (10, decide (b11 < a11), false), (11, decide (a10 < b10), false), (12, decide (b10 < a10), false), (13, decide (a9 < b9), true)] [1,2,3,4,5,6,7,8,9,10,11,12,13,0]) := by kernel_rfl
theorem cmp_gt9 (T : Nat → TypeId) (a0 a1 a2 a3 a4 a5 a6 a7 a8 a9 a10 a11 a12 a13 a14 a15 b0 b1 b2 b3 b4 b5 b6 b7 b8 b9 b10 b11 b12 b13 b14 b15 : Int) : evDInt .i64 (1) (Can.evD Tryd.prog [] (liftSm noSm) (Can.orcOf [([], 39, 16, [(5, 15)], 1, .bool false), ([], 39, 23, [(5, 15)], 2, .bool false), ([], 39, 16, [(5, 14)], 3, .bool false), ([], 39, 23, [(5, 14)], 4, .bool false), ([], 39, 16, [(5, 13)], 5, .bool false), ([], 39, 23, [(5, 13)], 6, .bool false), ([], 39, 16, [(5, 12)], 7, .bool false), ([], 39, 23, [(5, 12)], 8, .bool false), ([], 39, 16, [(5, 11)], 9, .bool false), ([], 39, 23, [(5, 11)], 10, .bool false), ([], 39, 16, [(5, 10)], 11, .bool false), ([], 39, 23, [(5, 10)], 12, .bool false), ([], 39, 16, [(5, 9)], 13, .bool false), ([], 39, 23, [(5, 9)], 14, .bool true)]) 300 [] (.call 39 #[.agg #[.int .u64 a0, .int .u64 a1, .int .u64 a2, .int .u64 a3, .int .u64 a4, .int .u64 a5, .int .u64 a6, .int .u64 a7, .int .u64 a8, .int .u64 a9, .int .u64 a10, .int .u64 a11, .int .u64 a12, .int .u64 a13, .int .u64 a14, .int .u64 a15], .agg #[.int .u64 b0, .int .u64 b1, .int .u64 b2, .int .u64 b3, .int .u64 b4, .int .u64 b5, .int .u64 b6, .int .u64 b7, .int .u64 b8, .int .u64 b9, .int .u64 b10, .int .u64 b11, .int .u64 b12, .int .u64 b13, .int .u64 b14, .int .u64 b15]]) (Can.AW.start (#[]))) = some (Can.Obl.tab [(1, decide (a15 < b15), false), (2, decide (b15 < a15), false), (3, decide (a14 < b14), false), (4, decide (b14 < a14), false), (5, decide (a13 < b13), false), (6, decide (b13 < a13), false), (7, decide (a12 < b12), false), (8, decide (b12 < a12), false), (9, decide (a11 < b11), false), (10, decide (b11 < a11), false), (11, decide (a10 < b10), false), (12, decide (b10 < a10), false), (13, decide (a9 < b9), false), (14, decide (b9 < a9), true)] [1,2,3,4,5,6,7,8,9,10,11,12,13,14,0]) := by kernel_rfl
theorem cmp_lt10 (T : Nat → TypeId) (a0 a1 a2 a3 a4 a5 a6 a7 a8 a9 a10 a11 a12 a13 a14 a15 b0 b1 b2 b3 b4 b5 b6 b7 b8 b9 b10 b11 b12 b13 b14 b15 : Int) : evDInt .i64 (-1) (Can.evD Tryd.prog [] (liftSm noSm) (Can.orcOf [([], 39, 16, [(5, 15)], 1, .bool false), ([], 39, 23, [(5, 15)], 2, .bool false), ([], 39, 16, [(5, 14)], 3, .bool false), ([], 39, 23, [(5, 14)], 4, .bool false), ([], 39, 16, [(5, 13)], 5, .bool false), ([], 39, 23, [(5, 13)], 6, .bool false), ([], 39, 16, [(5, 12)], 7, .bool false), ([], 39, 23, [(5, 12)], 8, .bool false), ([], 39, 16, [(5, 11)], 9, .bool false), ([], 39, 23, [(5, 11)], 10, .bool false), ([], 39, 16, [(5, 10)], 11, .bool true)]) 300 [] (.call 39 #[.agg #[.int .u64 a0, .int .u64 a1, .int .u64 a2, .int .u64 a3, .int .u64 a4, .int .u64 a5, .int .u64 a6, .int .u64 a7, .int .u64 a8, .int .u64 a9, .int .u64 a10, .int .u64 a11, .int .u64 a12, .int .u64 a13, .int .u64 a14, .int .u64 a15], .agg #[.int .u64 b0, .int .u64 b1, .int .u64 b2, .int .u64 b3, .int .u64 b4, .int .u64 b5, .int .u64 b6, .int .u64 b7, .int .u64 b8, .int .u64 b9, .int .u64 b10, .int .u64 b11, .int .u64 b12, .int .u64 b13, .int .u64 b14, .int .u64 b15]]) (Can.AW.start (#[]))) = some (Can.Obl.tab [(1, decide (a15 < b15), false), (2, decide (b15 < a15), false), (3, decide (a14 < b14), false), (4, decide (b14 < a14), false), (5, decide (a13 < b13), false), (6, decide (b13 < a13), false), (7, decide (a12 < b12), false), (8, decide (b12 < a12), false), (9, decide (a11 < b11), false), (10, decide (b11 < a11), false), (11, decide (a10 < b10), true)] [1,2,3,4,5,6,7,8,9,10,11,0]) := by kernel_rfl
theorem cmp_gt10 (T : Nat → TypeId) (a0 a1 a2 a3 a4 a5 a6 a7 a8 a9 a10 a11 a12 a13 a14 a15 b0 b1 b2 b3 b4 b5 b6 b7 b8 b9 b10 b11 b12 b13 b14 b15 : Int) : evDInt .i64 (1) (Can.evD Tryd.prog [] (liftSm noSm) (Can.orcOf [([], 39, 16, [(5, 15)], 1, .bool false), ([], 39, 23, [(5, 15)], 2, .bool false), ([], 39, 16, [(5, 14)], 3, .bool false), ([], 39, 23, [(5, 14)], 4, .bool false), ([], 39, 16, [(5, 13)], 5, .bool false), ([], 39, 23, [(5, 13)], 6, .bool false), ([], 39, 16, [(5, 12)], 7, .bool false), ([], 39, 23, [(5, 12)], 8, .bool false), ([], 39, 16, [(5, 11)], 9, .bool false), ([], 39, 23, [(5, 11)], 10, .bool false), ([], 39, 16, [(5, 10)], 11, .bool false), ([], 39, 23, [(5, 10)], 12, .bool true)]) 300 [] (.call 39 #[.agg #[.int .u64 a0, .int .u64 a1, .int .u64 a2, .int .u64 a3, .int .u64 a4, .int .u64 a5, .int .u64 a6, .int .u64 a7, .int .u64 a8, .int .u64 a9, .int .u64 a10, .int .u64 a11, .int .u64 a12, .int .u64 a13, .int .u64 a14, .int .u64 a15], .agg #[.int .u64 b0, .int .u64 b1, .int .u64 b2, .int .u64 b3, .int .u64 b4, .int .u64 b5, .int .u64 b6, .int .u64 b7, .int .u64 b8, .int .u64 b9, .int .u64 b10, .int .u64 b11, .int .u64 b12, .int .u64 b13, .int .u64 b14, .int .u64 b15]]) (Can.AW.start (#[]))) = some (Can.Obl.tab [(1, decide (a15 < b15), false), (2, decide (b15 < a15), false), (3, decide (a14 < b14), false), (4, decide (b14 < a14), false), (5, decide (a13 < b13), false), (6, decide (b13 < a13), false), (7, decide (a12 < b12), false), (8, decide (b12 < a12), false), (9, decide (a11 < b11), false), (10, decide (b11 < a11), false), (11, decide (a10 < b10), false), (12, decide (b10 < a10), true)] [1,2,3,4,5,6,7,8,9,10,11,12,0]) := by kernel_rfl
theorem cmp_lt11 (T : Nat → TypeId) (a0 a1 a2 a3 a4 a5 a6 a7 a8 a9 a10 a11 a12 a13 a14 a15 b0 b1 b2 b3 b4 b5 b6 b7 b8 b9 b10 b11 b12 b13 b14 b15 : Int) : evDInt .i64 (-1) (Can.evD Tryd.prog [] (liftSm noSm) (Can.orcOf [([], 39, 16, [(5, 15)], 1, .bool false), ([], 39, 23, [(5, 15)], 2, .bool false), ([], 39, 16, [(5, 14)], 3, .bool false), ([], 39, 23, [(5, 14)], 4, .bool false), ([], 39, 16, [(5, 13)], 5, .bool false), ([], 39, 23, [(5, 13)], 6, .bool false), ([], 39, 16, [(5, 12)], 7, .bool false), ([], 39, 23, [(5, 12)], 8, .bool false), ([], 39, 16, [(5, 11)], 9, .bool true)]) 300 [] (.call 39 #[.agg #[.int .u64 a0, .int .u64 a1, .int .u64 a2, .int .u64 a3, .int .u64 a4, .int .u64 a5, .int .u64 a6, .int .u64 a7, .int .u64 a8, .int .u64 a9, .int .u64 a10, .int .u64 a11, .int .u64 a12, .int .u64 a13, .int .u64 a14, .int .u64 a15], .agg #[.int .u64 b0, .int .u64 b1, .int .u64 b2, .int .u64 b3, .int .u64 b4, .int .u64 b5, .int .u64 b6, .int .u64 b7, .int .u64 b8, .int .u64 b9, .int .u64 b10, .int .u64 b11, .int .u64 b12, .int .u64 b13, .int .u64 b14, .int .u64 b15]]) (Can.AW.start (#[]))) = some (Can.Obl.tab [(1, decide (a15 < b15), false), (2, decide (b15 < a15), false), (3, decide (a14 < b14), false), (4, decide (b14 < a14), false), (5, decide (a13 < b13), false), (6, decide (b13 < a13), false), (7, decide (a12 < b12), false), (8, decide (b12 < a12), false), (9, decide (a11 < b11), true)] [1,2,3,4,5,6,7,8,9,0]) := by kernel_rfl
theorem cmp_gt11 (T : Nat → TypeId) (a0 a1 a2 a3 a4 a5 a6 a7 a8 a9 a10 a11 a12 a13 a14 a15 b0 b1 b2 b3 b4 b5 b6 b7 b8 b9 b10 b11 b12 b13 b14 b15 : Int) : evDInt .i64 (1) (Can.evD Tryd.prog [] (liftSm noSm) (Can.orcOf [([], 39, 16, [(5, 15)], 1, .bool false), ([], 39, 23, [(5, 15)], 2, .bool false), ([], 39, 16, [(5, 14)], 3, .bool false), ([], 39, 23, [(5, 14)], 4, .bool false), ([], 39, 16, [(5, 13)], 5, .bool false), ([], 39, 23, [(5, 13)], 6, .bool false), ([], 39, 16, [(5, 12)], 7, .bool false), ([], 39, 23, [(5, 12)], 8, .bool false), ([], 39, 16, [(5, 11)], 9, .bool false), ([], 39, 23, [(5, 11)], 10, .bool true)]) 300 [] (.call 39 #[.agg #[.int .u64 a0, .int .u64 a1, .int .u64 a2, .int .u64 a3, .int .u64 a4, .int .u64 a5, .int .u64 a6, .int .u64 a7, .int .u64 a8, .int .u64 a9, .int .u64 a10, .int .u64 a11, .int .u64 a12, .int .u64 a13, .int .u64 a14, .int .u64 a15], .agg #[.int .u64 b0, .int .u64 b1, .int .u64 b2, .int .u64 b3, .int .u64 b4, .int .u64 b5, .int .u64 b6, .int .u64 b7, .int .u64 b8, .int .u64 b9, .int .u64 b10, .int .u64 b11, .int .u64 b12, .int .u64 b13, .int .u64 b14, .int .u64 b15]]) (Can.AW.start (#[]))) = some (Can.Obl.tab [(1, decide (a15 < b15), false), (2, decide (b15 < a15), false), (3, decide (a14 < b14), false), (4, decide (b14 < a14), false), (5, decide (a13 < b13), false), (6, decide (b13 < a13), false), (7, decide (a12 < b12), false), (8, decide (b12 < a12), false), (9, decide (a11 < b11), false), (10, decide (b11 < a11), true)] [1,2,3,4,5,6,7,8,9,10,0]) := by kernel_rfl
theorem cmp_lt12 (T : Nat → TypeId) (a0 a1 a2 a3 a4 a5 a6 a7 a8 a9 a10 a11 a12 a13 a14 a15 b0 b1 b2 b3 b4 b5 b6 b7 b8 b9 b10 b11 b12 b13 b14 b15 : Int) : evDInt .i64 (-1) (Can.evD Tryd.prog [] (liftSm noSm) (Can.orcOf [([], 39, 16, [(5, 15)], 1, .bool false), ([], 39, 23, [(5, 15)], 2, .bool false), ([], 39, 16, [(5, 14)], 3, .bool false), ([], 39, 23, [(5, 14)], 4, .bool false), ([], 39, 16, [(5, 13)], 5, .bool false), ([], 39, 23, [(5, 13)], 6, .bool false), ([], 39, 16, [(5, 12)], 7, .bool true)]) 300 [] (.call 39 #[.agg #[.int .u64 a0, .int .u64 a1, .int .u64 a2, .int .u64 a3, .int .u64 a4, .int .u64 a5, .int .u64 a6, .int .u64 a7, .int .u64 a8, .int .u64 a9, .int .u64 a10, .int .u64 a11, .int .u64 a12, .int .u64 a13, .int .u64 a14, .int .u64 a15], .agg #[.int .u64 b0, .int .u64 b1, .int .u64 b2, .int .u64 b3, .int .u64 b4, .int .u64 b5, .int .u64 b6, .int .u64 b7, .int .u64 b8, .int .u64 b9, .int .u64 b10, .int .u64 b11, .int .u64 b12, .int .u64 b13, .int .u64 b14, .int .u64 b15]]) (Can.AW.start (#[]))) = some (Can.Obl.tab [(1, decide (a15 < b15), false), (2, decide (b15 < a15), false), (3, decide (a14 < b14), false), (4, decide (b14 < a14), false), (5, decide (a13 < b13), false), (6, decide (b13 < a13), false), (7, decide (a12 < b12), true)] [1,2,3,4,5,6,7,0]) := by kernel_rfl
theorem cmp_gt12 (T : Nat → TypeId) (a0 a1 a2 a3 a4 a5 a6 a7 a8 a9 a10 a11 a12 a13 a14 a15 b0 b1 b2 b3 b4 b5 b6 b7 b8 b9 b10 b11 b12 b13 b14 b15 : Int) : evDInt .i64 (1) (Can.evD Tryd.prog [] (liftSm noSm) (Can.orcOf [([], 39, 16, [(5, 15)], 1, .bool false), ([], 39, 23, [(5, 15)], 2, .bool false), ([], 39, 16, [(5, 14)], 3, .bool false), ([], 39, 23, [(5, 14)], 4, .bool false), ([], 39, 16, [(5, 13)], 5, .bool false), ([], 39, 23, [(5, 13)], 6, .bool false), ([], 39, 16, [(5, 12)], 7, .bool false), ([], 39, 23, [(5, 12)], 8, .bool true)]) 300 [] (.call 39 #[.agg #[.int .u64 a0, .int .u64 a1, .int .u64 a2, .int .u64 a3, .int .u64 a4, .int .u64 a5, .int .u64 a6, .int .u64 a7, .int .u64 a8, .int .u64 a9, .int .u64 a10, .int .u64 a11, .int .u64 a12, .int .u64 a13, .int .u64 a14, .int .u64 a15], .agg #[.int .u64 b0, .int .u64 b1, .int .u64 b2, .int .u64 b3, .int .u64 b4, .int .u64 b5, .int .u64 b6, .int .u64 b7, .int .u64 b8, .int .u64 b9, .int .u64 b10, .int .u64 b11, .int .u64 b12, .int .u64 b13, .int .u64 b14, .int .u64 b15]]) (Can.AW.start (#[]))) = some (Can.Obl.tab [(1, decide (a15 < b15), false), (2, decide (b15 < a15), false), (3, decide (a14 < b14), false), (4, decide (b14 < a14), false), (5, decide (a13 < b13), false), (6, decide (b13 < a13), false), (7, decide (a12 < b12), false), (8, decide (b12 < a12), true)] [1,2,3,4,5,6,7,8,0]) := by kernel_rfl
theorem cmp_lt13 (T : Nat → TypeId) (a0 a1 a2 a3 a4 a5 a6 a7 a8 a9 a10 a11 a12 a13 a14 a15 b0 b1 b2 b3 b4 b5 b6 b7 b8 b9 b10 b11 b12 b13 b14 b15 : Int) : evDInt .i64 (-1) (Can.evD Tryd.prog [] (liftSm noSm) (Can.orcOf [([], 39, 16, [(5, 15)], 1, .bool false), ([], 39, 23, [(5, 15)], 2, .bool false), ([], 39, 16, [(5, 14)], 3, .bool false), ([], 39, 23, [(5, 14)], 4, .bool false), ([], 39, 16, [(5, 13)], 5, .bool true)]) 300 [] (.call 39 #[.agg #[.int .u64 a0, .int .u64 a1, .int .u64 a2, .int .u64 a3, .int .u64 a4, .int .u64 a5, .int .u64 a6, .int .u64 a7, .int .u64 a8, .int .u64 a9, .int .u64 a10, .int .u64 a11, .int .u64 a12, .int .u64 a13, .int .u64 a14, .int .u64 a15], .agg #[.int .u64 b0, .int .u64 b1, .int .u64 b2, .int .u64 b3, .int .u64 b4, .int .u64 b5, .int .u64 b6, .int .u64 b7, .int .u64 b8, .int .u64 b9, .int .u64 b10, .int .u64 b11, .int .u64 b12, .int .u64 b13, .int .u64 b14, .int .u64 b15]]) (Can.AW.start (#[]))) = some (Can.Obl.tab [(1, decide (a15 < b15), false), (2, decide (b15 < a15), false), (3, decide (a14 < b14), false), (4, decide (b14 < a14), false), (5, decide (a13 < b13), true)] [1,2,3,4,5,0]) := by kernel_rfl
theorem cmp_gt13 (T : Nat → TypeId) (a0 a1 a2 a3 a4 a5 a6 a7 a8 a9 a10 a11 a12 a13 a14 a15 b0 b1 b2 b3 b4 b5 b6 b7 b8 b9 b10 b11 b12 b13 b14 b15 : Int) : evDInt .i64 (1) (Can.evD Tryd.prog [] (liftSm noSm) (Can.orcOf [([], 39, 16, [(5, 15)], 1, .bool false), ([], 39, 23, [(5, 15)], 2, .bool false), ([], 39, 16, [(5, 14)], 3, .bool false), ([], 39, 23, [(5, 14)], 4, .bool false), ([], 39, 16, [(5, 13)], 5, .bool false), ([], 39, 23, [(5, 13)], 6, .bool true)]) 300 [] (.call 39 #[.agg #[.int .u64 a0, .int .u64 a1, .int .u64 a2, .int .u64 a3, .int .u64 a4, .int .u64 a5, .int .u64 a6, .int .u64 a7, .int .u64 a8, .int .u64 a9, .int .u64 a10, .int .u64 a11, .int .u64 a12, .int .u64 a13, .int .u64 a14, .int .u64 a15], .agg #[.int .u64 b0, .int .u64 b1, .int .u64 b2, .int .u64 b3, .int .u64 b4, .int .u64 b5, .int .u64 b6, .int .u64 b7, .int .u64 b8, .int .u64 b9, .int .u64 b10, .int .u64 b11, .int .u64 b12, .int .u64 b13, .int .u64 b14, .int .u64 b15]]) (Can.AW.start (#[]))) = some (Can.Obl.tab [(1, decide (a15 < b15), false), (2, decide (b15 < a15), false), (3, decide (a14 < b14), false), (4, decide (b14 < a14), false), (5, decide (a13 < b13), false), (6, decide (b13 < a13), true)] [1,2,3,4,5,6,0]) := by kernel_rfl
theorem cmp_lt14 (T : Nat → TypeId) (a0 a1 a2 a3 a4 a5 a6 a7 a8 a9 a10 a11 a12 a13 a14 a15 b0 b1 b2 b3 b4 b5 b6 b7 b8 b9 b10 b11 b12 b13 b14 b15 : Int) : evDInt .i64 (-1) (Can.evD Tryd.prog [] (liftSm noSm) (Can.orcOf [([], 39, 16, [(5, 15)], 1, .bool false), ([], 39, 23, [(5, 15)], 2, .bool false), ([], 39, 16, [(5, 14)], 3, .bool true)]) 300 [] (.call 39 #[.agg #[.int .u64 a0, .int .u64 a1, .int .u64 a2, .int .u64 a3, .int .u64 a4, .int .u64 a5, .int .u64 a6, .int .u64 a7, .int .u64 a8, .int .u64 a9, .int .u64 a10, .int .u64 a11, .int .u64 a12, .int .u64 a13, .int .u64 a14, .int .u64 a15], .agg #[.int .u64 b0, .int .u64 b1, .int .u64 b2, .int .u64 b3, .int .u64 b4, .int .u64 b5, .int .u64 b6, .int .u64 b7, .int .u64 b8, .int .u64 b9, .int .u64 b10, .int .u64 b11, .int .u64 b12, .int .u64 b13, .int .u64 b14, .int .u64 b15]]) (Can.AW.start (#[]))) = some (Can.Obl.tab [(1, decide (a15 < b15), false), (2, decide (b15 < a15), false), (3, decide (a14 < b14), true)] [1,2,3,0]) := by kernel_rfl
theorem cmp_gt14 (T : Nat → TypeId) (a0 a1 a2 a3 a4 a5 a6 a7 a8 a9 a10 a11 a12 a13 a14 a15 b0 b1 b2 b3 b4 b5 b6 b7 b8 b9 b10 b11 b12 b13 b14 b15 : Int) : evDInt .i64 (1) (Can.evD Tryd.prog [] (liftSm noSm) (Can.orcOf [([], 39, 16, [(5, 15)], 1, .bool false), ([], 39, 23, [(5, 15)], 2, .bool false), ([], 39, 16, [(5, 14)], 3, .bool false), ([], 39, 23, [(5, 14)], 4, .bool true)]) 300 [] (.call 39 #[.agg #[.int .u64 a0, .int .u64 a1, .int .u64 a2, .int .u64 a3, .int .u64 a4, .int .u64 a5, .int .u64 a6, .int .u64 a7, .int .u64 a8, .int .u64 a9, .int .u64 a10, .int .u64 a11, .int .u64 a12, .int .u64 a13, .int .u64 a14, .int .u64 a15], .agg #[.int .u64 b0, .int .u64 b1, .int .u64 b2, .int .u64 b3, .int .u64 b4, .int .u64 b5, .int .u64 b6, .int .u64 b7, .int .u64 b8, .int .u64 b9, .int .u64 b10, .int .u64 b11, .int .u64 b12, .int .u64 b13, .int .u64 b14, .int .u64 b15]]) (Can.AW.start (#[]))) = some (Can.Obl.tab [(1, decide (a15 < b15), false), (2, decide (b15 < a15), false), (3, decide (a14 < b14), false), (4, decide (b14 < a14), true)] [1,2,3,4,0]) := by kernel_rfl
theorem cmp_lt15 (T : Nat → TypeId) (a0 a1 a2 a3 a4 a5 a6 a7 a8 a9 a10 a11 a12 a13 a14 a15 b0 b1 b2 b3 b4 b5 b6 b7 b8 b9 b10 b11 b12 b13 b14 b15 : Int) : evDInt .i64 (-1) (Can.evD Tryd.prog [] (liftSm noSm) (Can.orcOf [([], 39, 16, [(5, 15)], 1, .bool true)]) 300 [] (.call 39 #[.agg #[.int .u64 a0, .int .u64 a1, .int .u64 a2, .int .u64 a3, .int .u64 a4, .int .u64 a5, .int .u64 a6, .int .u64 a7, .int .u64 a8, .int .u64 a9, .int .u64 a10, .int .u64 a11, .int .u64 a12, .int .u64 a13, .int .u64 a14, .int .u64 a15], .agg #[.int .u64 b0, .int .u64 b1, .int .u64 b2, .int .u64 b3, .int .u64 b4, .int .u64 b5, .int .u64 b6, .int .u64 b7, .int .u64 b8, .int .u64 b9, .int .u64 b10, .int .u64 b11, .int .u64 b12, .int .u64 b13, .int .u64 b14, .int .u64 b15]]) (Can.AW.start (#[]))) = some (Can.Obl.tab [(1, decide (a15 < b15), true)] [1,0]) := by kernel_rfl
theorem cmp_gt15 (T : Nat → TypeId) (a0 a1 a2 a3 a4 a5 a6 a7 a8 a9 a10 a11 a12 a13 a14 a15 b0 b1 b2 b3 b4 b5 b6 b7 b8 b9 b10 b11 b12 b13 b14 b15 : Int) : evDInt .i64 (1) (Can.evD Tryd.prog [] (liftSm noSm) (Can.orcOf [([], 39, 16, [(5, 15)], 1, .bool false), ([], 39, 23, [(5, 15)], 2, .bool true)]) 300 [] (.call 39 #[.agg #[.int .u64 a0, .int .u64 a1, .int .u64 a2, .int .u64 a3, .int .u64 a4, .int .u64 a5, .int .u64 a6, .int .u64 a7, .int .u64 a8, .int .u64 a9, .int .u64 a10, .int .u64 a11, .int .u64 a12, .int .u64 a13, .int .u64 a14, .int .u64 a15], .agg #[.int .u64 b0, .int .u64 b1, .int .u64 b2, .int .u64 b3, .int .u64 b4, .int .u64 b5, .int .u64 b6, .int .u64 b7, .int .u64 b8, .int .u64 b9, .int .u64 b10, .int .u64 b11, .int .u64 b12, .int .u64 b13, .int .u64 b14, .int .u64 b15]]) (Can.AW.start (#[]))) = some (Can.Obl.tab [(1, decide (a15 < b15), false), (2, decide (b15 < a15), true)] [1,2,0]) := by kernel_rfl
end Go.Proofs.YtjneboajbmabbaaDoor.bits

namespace Go.Proofs.YtjneboajbmabbaaDoor.bits
open Go.Can Go.RowKit Go.Bits Go.Own
set_option maxRecDepth 100000
set_option maxHeartbeats 1000000
theorem cmp_calls {ps qs : List Int} (ha : ps.length = 16) (hb : qs.length = 16) (w : World) : Calls Tryd.prog 39 #[rowV .u64 ps, rowV .u64 qs] w fun e w' => e = .returned (.int .i64 (cmpV ps qs)) ∧ ∃ y, w' = beyond w y := by
  obtain ⟨a0, a1, a2, a3, a4, a5, a6, a7, a8, a9, a10, a11, a12, a13, a14, a15, rfl⟩ := len16 ha
  obtain ⟨b0, b1, b2, b3, b4, b5, b6, b7, b8, b9, b10, b11, b12, b13, b14, b15, rfl⟩ := len16 hb
  have go : ∀ {orc : List Site → FuncId → Orc} {m : Int} {l : Obl} {tags : List Nat}, evDInt .i64 m (evD Tryd.prog [] (liftSm noSm) orc 300 [] (.call 39 #[rowV .u64 [a0, a1, a2, a3, a4, a5, a6, a7, a8, a9, a10, a11, a12, a13, a14, a15], rowV .u64 [b0, b1, b2, b3, b4, b5, b6, b7, b8, b9, b10, b11, b12, b13, b14, b15]]) (AW.start #[])) = some (Obl.tab l tags) → l.Ok →
      Calls Tryd.prog 39 #[rowV .u64 [a0, a1, a2, a3, a4, a5, a6, a7, a8, a9, a10, a11, a12, a13, a14, a15], rowV .u64 [b0, b1, b2, b3, b4, b5, b6, b7, b8, b9, b10, b11, b12, b13, b14, b15]] w fun e w' => e = .returned (.int .i64 m) ∧ ∃ y, w' = beyond w y :=
    fun h ok => int_callsD pc (liftSm_ok noSm_ok) h (Obl.tab_ok ok) (plain2 _ _) w
  rw [show cmpV [a0, a1, a2, a3, a4, a5, a6, a7, a8, a9, a10, a11, a12, a13, a14, a15] [b0, b1, b2, b3, b4, b5, b6, b7, b8, b9, b10, b11, b12, b13, b14, b15] = cmpT [(a15, b15), (a14, b14), (a13, b13), (a12, b12), (a11, b11), (a10, b10), (a9, b9), (a8, b8), (a7, b7), (a6, b6), (a5, b5), (a4, b4), (a3, b3), (a2, b2), (a1, b1), (a0, b0)] from rfl]
  by_cases p15 : a15 < b15
  · rw [cmpT, if_pos p15]
    exact go (cmp_lt15 (fun _ => 0) a0 a1 a2 a3 a4 a5 a6 a7 a8 a9 a10 a11 a12 a13 a14 a15 b0 b1 b2 b3 b4 b5 b6 b7 b8 b9 b10 b11 b12 b13 b14 b15) (Obl.ok_more (decide_eq_true p15) (Obl.ok_nil))
  have x15 : decide (a15 < b15) = false := decide_eq_false p15
  by_cases q15 : b15 < a15
  · rw [cmpT, if_neg p15, if_pos q15]
    exact go (cmp_gt15 (fun _ => 0) a0 a1 a2 a3 a4 a5 a6 a7 a8 a9 a10 a11 a12 a13 a14 a15 b0 b1 b2 b3 b4 b5 b6 b7 b8 b9 b10 b11 b12 b13 b14 b15) (Obl.ok_more x15 (Obl.ok_more (decide_eq_true q15) (Obl.ok_nil)))
  have y15 : decide (b15 < a15) = false := decide_eq_false q15
  rw [cmpT, if_neg p15, if_neg q15]
  by_cases p14 : a14 < b14
  · rw [cmpT, if_pos p14]
    exact go (cmp_lt14 (fun _ => 0) a0 a1 a2 a3 a4 a5 a6 a7 a8 a9 a10 a11 a12 a13 a14 a15 b0 b1 b2 b3 b4 b5 b6 b7 b8 b9 b10 b11 b12 b13 b14 b15) (Obl.ok_more x15 (Obl.ok_more y15 (Obl.ok_more (decide_eq_true p14) (Obl.ok_nil))))
  have x14 : decide (a14 < b14) = false := decide_eq_false p14
  by_cases q14 : b14 < a14
  · rw [cmpT, if_neg p14, if_pos q14]
    exact go (cmp_gt14 (fun _ => 0) a0 a1 a2 a3 a4 a5 a6 a7 a8 a9 a10 a11 a12 a13 a14 a15 b0 b1 b2 b3 b4 b5 b6 b7 b8 b9 b10 b11 b12 b13 b14 b15) (Obl.ok_more x15 (Obl.ok_more y15 (Obl.ok_more x14 (Obl.ok_more (decide_eq_true q14) (Obl.ok_nil)))))
  have y14 : decide (b14 < a14) = false := decide_eq_false q14
  rw [cmpT, if_neg p14, if_neg q14]
  by_cases p13 : a13 < b13
  · rw [cmpT, if_pos p13]
    exact go (cmp_lt13 (fun _ => 0) a0 a1 a2 a3 a4 a5 a6 a7 a8 a9 a10 a11 a12 a13 a14 a15 b0 b1 b2 b3 b4 b5 b6 b7 b8 b9 b10 b11 b12 b13 b14 b15) (Obl.ok_more x15 (Obl.ok_more y15 (Obl.ok_more x14 (Obl.ok_more y14 (Obl.ok_more (decide_eq_true p13) (Obl.ok_nil))))))
  have x13 : decide (a13 < b13) = false := decide_eq_false p13
  by_cases q13 : b13 < a13
  · rw [cmpT, if_neg p13, if_pos q13]
    exact go (cmp_gt13 (fun _ => 0) a0 a1 a2 a3 a4 a5 a6 a7 a8 a9 a10 a11 a12 a13 a14 a15 b0 b1 b2 b3 b4 b5 b6 b7 b8 b9 b10 b11 b12 b13 b14 b15) (Obl.ok_more x15 (Obl.ok_more y15 (Obl.ok_more x14 (Obl.ok_more y14 (Obl.ok_more x13 (Obl.ok_more (decide_eq_true q13) (Obl.ok_nil)))))))
  have y13 : decide (b13 < a13) = false := decide_eq_false q13
  rw [cmpT, if_neg p13, if_neg q13]
  by_cases p12 : a12 < b12
  · rw [cmpT, if_pos p12]
    exact go (cmp_lt12 (fun _ => 0) a0 a1 a2 a3 a4 a5 a6 a7 a8 a9 a10 a11 a12 a13 a14 a15 b0 b1 b2 b3 b4 b5 b6 b7 b8 b9 b10 b11 b12 b13 b14 b15) (Obl.ok_more x15 (Obl.ok_more y15 (Obl.ok_more x14 (Obl.ok_more y14 (Obl.ok_more x13 (Obl.ok_more y13 (Obl.ok_more (decide_eq_true p12) (Obl.ok_nil))))))))
  have x12 : decide (a12 < b12) = false := decide_eq_false p12
  by_cases q12 : b12 < a12
  · rw [cmpT, if_neg p12, if_pos q12]
    exact go (cmp_gt12 (fun _ => 0) a0 a1 a2 a3 a4 a5 a6 a7 a8 a9 a10 a11 a12 a13 a14 a15 b0 b1 b2 b3 b4 b5 b6 b7 b8 b9 b10 b11 b12 b13 b14 b15) (Obl.ok_more x15 (Obl.ok_more y15 (Obl.ok_more x14 (Obl.ok_more y14 (Obl.ok_more x13 (Obl.ok_more y13 (Obl.ok_more x12 (Obl.ok_more (decide_eq_true q12) (Obl.ok_nil)))))))))
  have y12 : decide (b12 < a12) = false := decide_eq_false q12
  rw [cmpT, if_neg p12, if_neg q12]
  by_cases p11 : a11 < b11
  · rw [cmpT, if_pos p11]
    exact go (cmp_lt11 (fun _ => 0) a0 a1 a2 a3 a4 a5 a6 a7 a8 a9 a10 a11 a12 a13 a14 a15 b0 b1 b2 b3 b4 b5 b6 b7 b8 b9 b10 b11 b12 b13 b14 b15) (Obl.ok_more x15 (Obl.ok_more y15 (Obl.ok_more x14 (Obl.ok_more y14 (Obl.ok_more x13 (Obl.ok_more y13 (Obl.ok_more x12 (Obl.ok_more y12 (Obl.ok_more (decide_eq_true p11) (Obl.ok_nil))))))))))
  have x11 : decide (a11 < b11) = false := decide_eq_false p11
  by_cases q11 : b11 < a11
  · rw [cmpT, if_neg p11, if_pos q11]
    exact go (cmp_gt11 (fun _ => 0) a0 a1 a2 a3 a4 a5 a6 a7 a8 a9 a10 a11 a12 a13 a14 a15 b0 b1 b2 b3 b4 b5 b6 b7 b8 b9 b10 b11 b12 b13 b14 b15) (Obl.ok_more x15 (Obl.ok_more y15 (Obl.ok_more x14 (Obl.ok_more y14 (Obl.ok_more x13 (Obl.ok_more y13 (Obl.ok_more x12 (Obl.ok_more y12 (Obl.ok_more x11 (Obl.ok_more (decide_eq_true q11) (Obl.ok_nil)))))))))))
  have y11 : decide (b11 < a11) = false := decide_eq_false q11
  rw [cmpT, if_neg p11, if_neg q11]
  by_cases p10 : a10 < b10
  · rw [cmpT, if_pos p10]
    exact go (cmp_lt10 (fun _ => 0) a0 a1 a2 a3 a4 a5 a6 a7 a8 a9 a10 a11 a12 a13 a14 a15 b0 b1 b2 b3 b4 b5 b6 b7 b8 b9 b10 b11 b12 b13 b14 b15) (Obl.ok_more x15 (Obl.ok_more y15 (Obl.ok_more x14 (Obl.ok_more y14 (Obl.ok_more x13 (Obl.ok_more y13 (Obl.ok_more x12 (Obl.ok_more y12 (Obl.ok_more x11 (Obl.ok_more y11 (Obl.ok_more (decide_eq_true p10) (Obl.ok_nil))))))))))))
  have x10 : decide (a10 < b10) = false := decide_eq_false p10
  by_cases q10 : b10 < a10
  · rw [cmpT, if_neg p10, if_pos q10]
    exact go (cmp_gt10 (fun _ => 0) a0 a1 a2 a3 a4 a5 a6 a7 a8 a9 a10 a11 a12 a13 a14 a15 b0 b1 b2 b3 b4 b5 b6 b7 b8 b9 b10 b11 b12 b13 b14 b15) (Obl.ok_more x15 (Obl.ok_more y15 (Obl.ok_more x14 (Obl.ok_more y14 (Obl.ok_more x13 (Obl.ok_more y13 (Obl.ok_more x12 (Obl.ok_more y12 (Obl.ok_more x11 (Obl.ok_more y11 (Obl.ok_more x10 (Obl.ok_more (decide_eq_true q10) (Obl.ok_nil)))))))))))))
  have y10 : decide (b10 < a10) = false := decide_eq_false q10
  rw [cmpT, if_neg p10, if_neg q10]
  by_cases p9 : a9 < b9
  · rw [cmpT, if_pos p9]
    exact go (cmp_lt9 (fun _ => 0) a0 a1 a2 a3 a4 a5 a6 a7 a8 a9 a10 a11 a12 a13 a14 a15 b0 b1 b2 b3 b4 b5 b6 b7 b8 b9 b10 b11 b12 b13 b14 b15) (Obl.ok_more x15 (Obl.ok_more y15 (Obl.ok_more x14 (Obl.ok_more y14 (Obl.ok_more x13 (Obl.ok_more y13 (Obl.ok_more x12 (Obl.ok_more y12 (Obl.ok_more x11 (Obl.ok_more y11 (Obl.ok_more x10 (Obl.ok_more y10 (Obl.ok_more (decide_eq_true p9) (Obl.ok_nil))))))))))))))
  have x9 : decide (a9 < b9) = false := decide_eq_false p9
  by_cases q9 : b9 < a9
  · rw [cmpT, if_neg p9, if_pos q9]
    exact go (cmp_gt9 (fun _ => 0) a0 a1 a2 a3 a4 a5 a6 a7 a8 a9 a10 a11 a12 a13 a14 a15 b0 b1 b2 b3 b4 b5 b6 b7 b8 b9 b10 b11 b12 b13 b14 b15) (Obl.ok_more x15 (Obl.ok_more y15 (Obl.ok_more x14 (Obl.ok_more y14 (Obl.ok_more x13 (Obl.ok_more y13 (Obl.ok_more x12 (Obl.ok_more y12 (Obl.ok_more x11 (Obl.ok_more y11 (Obl.ok_more x10 (Obl.ok_more y10 (Obl.ok_more x9 (Obl.ok_more (decide_eq_true q9) (Obl.ok_nil)))))))))))))))
  have y9 : decide (b9 < a9) = false := decide_eq_false q9
  rw [cmpT, if_neg p9, if_neg q9]
  by_cases p8 : a8 < b8
  · rw [cmpT, if_pos p8]
    exact go (cmp_lt8 (fun _ => 0) a0 a1 a2 a3 a4 a5 a6 a7 a8 a9 a10 a11 a12 a13 a14 a15 b0 b1 b2 b3 b4 b5 b6 b7 b8 b9 b10 b11 b12 b13 b14 b15) (Obl.ok_more x15 (Obl.ok_more y15 (Obl.ok_more x14 (Obl.ok_more y14 (Obl.ok_more x13 (Obl.ok_more y13 (Obl.ok_more x12 (Obl.ok_more y12 (Obl.ok_more x11 (Obl.ok_more y11 (Obl.ok_more x10 (Obl.ok_more y10 (Obl.ok_more x9 (Obl.ok_more y9 (Obl.ok_more (decide_eq_true p8) (Obl.ok_nil))))))))))))))))
  have x8 : decide (a8 < b8) = false := decide_eq_false p8
  by_cases q8 : b8 < a8
  · rw [cmpT, if_neg p8, if_pos q8]
    exact go (cmp_gt8 (fun _ => 0) a0 a1 a2 a3 a4 a5 a6 a7 a8 a9 a10 a11 a12 a13 a14 a15 b0 b1 b2 b3 b4 b5 b6 b7 b8 b9 b10 b11 b12 b13 b14 b15) (Obl.ok_more x15 (Obl.ok_more y15 (Obl.ok_more x14 (Obl.ok_more y14 (Obl.ok_more x13 (Obl.ok_more y13 (Obl.ok_more x12 (Obl.ok_more y12 (Obl.ok_more x11 (Obl.ok_more y11 (Obl.ok_more x10 (Obl.ok_more y10 (Obl.ok_more x9 (Obl.ok_more y9 (Obl.ok_more x8 (Obl.ok_more (decide_eq_true q8) (Obl.ok_nil)))))))))))))))))
  have y8 : decide (b8 < a8) = false := decide_eq_false q8
  rw [cmpT, if_neg p8, if_neg q8]
  by_cases p7 : a7 < b7
  · rw [cmpT, if_pos p7]
    exact go (cmp_lt7 (fun _ => 0) a0 a1 a2 a3 a4 a5 a6 a7 a8 a9 a10 a11 a12 a13 a14 a15 b0 b1 b2 b3 b4 b5 b6 b7 b8 b9 b10 b11 b12 b13 b14 b15) (Obl.ok_more x15 (Obl.ok_more y15 (Obl.ok_more x14 (Obl.ok_more y14 (Obl.ok_more x13 (Obl.ok_more y13 (Obl.ok_more x12 (Obl.ok_more y12 (Obl.ok_more x11 (Obl.ok_more y11 (Obl.ok_more x10 (Obl.ok_more y10 (Obl.ok_more x9 (Obl.ok_more y9 (Obl.ok_more x8 (Obl.ok_more y8 (Obl.ok_more (decide_eq_true p7) (Obl.ok_nil))))))))))))))))))
  have x7 : decide (a7 < b7) = false := decide_eq_false p7
  by_cases q7 : b7 < a7
  · rw [cmpT, if_neg p7, if_pos q7]
    exact go (cmp_gt7 (fun _ => 0) a0 a1 a2 a3 a4 a5 a6 a7 a8 a9 a10 a11 a12 a13 a14 a15 b0 b1 b2 b3 b4 b5 b6 b7 b8 b9 b10 b11 b12 b13 b14 b15) (Obl.ok_more x15 (Obl.ok_more y15 (Obl.ok_more x14 (Obl.ok_more y14 (Obl.ok_more x13 (Obl.ok_more y13 (Obl.ok_more x12 (Obl.ok_more y12 (Obl.ok_more x11 (Obl.ok_more y11 (Obl.ok_more x10 (Obl.ok_more y10 (Obl.ok_more x9 (Obl.ok_more y9 (Obl.ok_more x8 (Obl.ok_more y8 (Obl.ok_more x7 (Obl.ok_more (decide_eq_true q7) (Obl.ok_nil)))))))))))))))))))
  have y7 : decide (b7 < a7) = false := decide_eq_false q7
  rw [cmpT, if_neg p7, if_neg q7]
  by_cases p6 : a6 < b6
  · rw [cmpT, if_pos p6]
    exact go (cmp_lt6 (fun _ => 0) a0 a1 a2 a3 a4 a5 a6 a7 a8 a9 a10 a11 a12 a13 a14 a15 b0 b1 b2 b3 b4 b5 b6 b7 b8 b9 b10 b11 b12 b13 b14 b15) (Obl.ok_more x15 (Obl.ok_more y15 (Obl.ok_more x14 (Obl.ok_more y14 (Obl.ok_more x13 (Obl.ok_more y13 (Obl.ok_more x12 (Obl.ok_more y12 (Obl.ok_more x11 (Obl.ok_more y11 (Obl.ok_more x10 (Obl.ok_more y10 (Obl.ok_more x9 (Obl.ok_more y9 (Obl.ok_more x8 (Obl.ok_more y8 (Obl.ok_more x7 (Obl.ok_more y7 (Obl.ok_more (decide_eq_true p6) (Obl.ok_nil))))))))))))))))))))
  have x6 : decide (a6 < b6) = false := decide_eq_false p6
  by_cases q6 : b6 < a6
  · rw [cmpT, if_neg p6, if_pos q6]
    exact go (cmp_gt6 (fun _ => 0) a0 a1 a2 a3 a4 a5 a6 a7 a8 a9 a10 a11 a12 a13 a14 a15 b0 b1 b2 b3 b4 b5 b6 b7 b8 b9 b10 b11 b12 b13 b14 b15) (Obl.ok_more x15 (Obl.ok_more y15 (Obl.ok_more x14 (Obl.ok_more y14 (Obl.ok_more x13 (Obl.ok_more y13 (Obl.ok_more x12 (Obl.ok_more y12 (Obl.ok_more x11 (Obl.ok_more y11 (Obl.ok_more x10 (Obl.ok_more y10 (Obl.ok_more x9 (Obl.ok_more y9 (Obl.ok_more x8 (Obl.ok_more y8 (Obl.ok_more x7 (Obl.ok_more y7 (Obl.ok_more x6 (Obl.ok_more (decide_eq_true q6) (Obl.ok_nil)))))))))))))))))))))
  have y6 : decide (b6 < a6) = false := decide_eq_false q6
  rw [cmpT, if_neg p6, if_neg q6]
  by_cases p5 : a5 < b5
  · rw [cmpT, if_pos p5]
    exact go (cmp_lt5 (fun _ => 0) a0 a1 a2 a3 a4 a5 a6 a7 a8 a9 a10 a11 a12 a13 a14 a15 b0 b1 b2 b3 b4 b5 b6 b7 b8 b9 b10 b11 b12 b13 b14 b15) (Obl.ok_more x15 (Obl.ok_more y15 (Obl.ok_more x14 (Obl.ok_more y14 (Obl.ok_more x13 (Obl.ok_more y13 (Obl.ok_more x12 (Obl.ok_more y12 (Obl.ok_more x11 (Obl.ok_more y11 (Obl.ok_more x10 (Obl.ok_more y10 (Obl.ok_more x9 (Obl.ok_more y9 (Obl.ok_more x8 (Obl.ok_more y8 (Obl.ok_more x7 (Obl.ok_more y7 (Obl.ok_more x6 (Obl.ok_more y6 (Obl.ok_more (decide_eq_true p5) (Obl.ok_nil))))))))))))))))))))))
  have x5 : decide (a5 < b5) = false := decide_eq_false p5
  by_cases q5 : b5 < a5
  · rw [cmpT, if_neg p5, if_pos q5]
    exact go (cmp_gt5 (fun _ => 0) a0 a1 a2 a3 a4 a5 a6 a7 a8 a9 a10 a11 a12 a13 a14 a15 b0 b1 b2 b3 b4 b5 b6 b7 b8 b9 b10 b11 b12 b13 b14 b15) (Obl.ok_more x15 (Obl.ok_more y15 (Obl.ok_more x14 (Obl.ok_more y14 (Obl.ok_more x13 (Obl.ok_more y13 (Obl.ok_more x12 (Obl.ok_more y12 (Obl.ok_more x11 (Obl.ok_more y11 (Obl.ok_more x10 (Obl.ok_more y10 (Obl.ok_more x9 (Obl.ok_more y9 (Obl.ok_more x8 (Obl.ok_more y8 (Obl.ok_more x7 (Obl.ok_more y7 (Obl.ok_more x6 (Obl.ok_more y6 (Obl.ok_more x5 (Obl.ok_more (decide_eq_true q5) (Obl.ok_nil)))))))))))))))))))))))
  have y5 : decide (b5 < a5) = false := decide_eq_false q5
  rw [cmpT, if_neg p5, if_neg q5]
  by_cases p4 : a4 < b4
  · rw [cmpT, if_pos p4]
    exact go (cmp_lt4 (fun _ => 0) a0 a1 a2 a3 a4 a5 a6 a7 a8 a9 a10 a11 a12 a13 a14 a15 b0 b1 b2 b3 b4 b5 b6 b7 b8 b9 b10 b11 b12 b13 b14 b15) (Obl.ok_more x15 (Obl.ok_more y15 (Obl.ok_more x14 (Obl.ok_more y14 (Obl.ok_more x13 (Obl.ok_more y13 (Obl.ok_more x12 (Obl.ok_more y12 (Obl.ok_more x11 (Obl.ok_more y11 (Obl.ok_more x10 (Obl.ok_more y10 (Obl.ok_more x9 (Obl.ok_more y9 (Obl.ok_more x8 (Obl.ok_more y8 (Obl.ok_more x7 (Obl.ok_more y7 (Obl.ok_more x6 (Obl.ok_more y6 (Obl.ok_more x5 (Obl.ok_more y5 (Obl.ok_more (decide_eq_true p4) (Obl.ok_nil))))))))))))))))))))))))
  have x4 : decide (a4 < b4) = false := decide_eq_false p4
  by_cases q4 : b4 < a4
  · rw [cmpT, if_neg p4, if_pos q4]
    exact go (cmp_gt4 (fun _ => 0) a0 a1 a2 a3 a4 a5 a6 a7 a8 a9 a10 a11 a12 a13 a14 a15 b0 b1 b2 b3 b4 b5 b6 b7 b8 b9 b10 b11 b12 b13 b14 b15) (Obl.ok_more x15 (Obl.ok_more y15 (Obl.ok_more x14 (Obl.ok_more y14 (Obl.ok_more x13 (Obl.ok_more y13 (Obl.ok_more x12 (Obl.ok_more y12 (Obl.ok_more x11 (Obl.ok_more y11 (Obl.ok_more x10 (Obl.ok_more y10 (Obl.ok_more x9 (Obl.ok_more y9 (Obl.ok_more x8 (Obl.ok_more y8 (Obl.ok_more x7 (Obl.ok_more y7 (Obl.ok_more x6 (Obl.ok_more y6 (Obl.ok_more x5 (Obl.ok_more y5 (Obl.ok_more x4 (Obl.ok_more (decide_eq_true q4) (Obl.ok_nil)))))))))))))))))))))))))
  have y4 : decide (b4 < a4) = false := decide_eq_false q4
  rw [cmpT, if_neg p4, if_neg q4]
  by_cases p3 : a3 < b3
  · rw [cmpT, if_pos p3]
    exact go (cmp_lt3 (fun _ => 0) a0 a1 a2 a3 a4 a5 a6 a7 a8 a9 a10 a11 a12 a13 a14 a15 b0 b1 b2 b3 b4 b5 b6 b7 b8 b9 b10 b11 b12 b13 b14 b15) (Obl.ok_more x15 (Obl.ok_more y15 (Obl.ok_more x14 (Obl.ok_more y14 (Obl.ok_more x13 (Obl.ok_more y13 (Obl.ok_more x12 (Obl.ok_more y12 (Obl.ok_more x11 (Obl.ok_more y11 (Obl.ok_more x10 (Obl.ok_more y10 (Obl.ok_more x9 (Obl.ok_more y9 (Obl.ok_more x8 (Obl.ok_more y8 (Obl.ok_more x7 (Obl.ok_more y7 (Obl.ok_more x6 (Obl.ok_more y6 (Obl.ok_more x5 (Obl.ok_more y5 (Obl.ok_more x4 (Obl.ok_more y4 (Obl.ok_more (decide_eq_true p3) (Obl.ok_nil))))))))))))))))))))))))))
  have x3 : decide (a3 < b3) = false := decide_eq_false p3
  by_cases q3 : b3 < a3
  · rw [cmpT, if_neg p3, if_pos q3]
    exact go (cmp_gt3 (fun _ => 0) a0 a1 a2 a3 a4 a5 a6 a7 a8 a9 a10 a11 a12 a13 a14 a15 b0 b1 b2 b3 b4 b5 b6 b7 b8 b9 b10 b11 b12 b13 b14 b15) (Obl.ok_more x15 (Obl.ok_more y15 (Obl.ok_more x14 (Obl.ok_more y14 (Obl.ok_more x13 (Obl.ok_more y13 (Obl.ok_more x12 (Obl.ok_more y12 (Obl.ok_more x11 (Obl.ok_more y11 (Obl.ok_more x10 (Obl.ok_more y10 (Obl.ok_more x9 (Obl.ok_more y9 (Obl.ok_more x8 (Obl.ok_more y8 (Obl.ok_more x7 (Obl.ok_more y7 (Obl.ok_more x6 (Obl.ok_more y6 (Obl.ok_more x5 (Obl.ok_more y5 (Obl.ok_more x4 (Obl.ok_more y4 (Obl.ok_more x3 (Obl.ok_more (decide_eq_true q3) (Obl.ok_nil)))))))))))))))))))))))))))
  have y3 : decide (b3 < a3) = false := decide_eq_false q3
  rw [cmpT, if_neg p3, if_neg q3]
  by_cases p2 : a2 < b2
  · rw [cmpT, if_pos p2]
    exact go (cmp_lt2 (fun _ => 0) a0 a1 a2 a3 a4 a5 a6 a7 a8 a9 a10 a11 a12 a13 a14 a15 b0 b1 b2 b3 b4 b5 b6 b7 b8 b9 b10 b11 b12 b13 b14 b15) (Obl.ok_more x15 (Obl.ok_more y15 (Obl.ok_more x14 (Obl.ok_more y14 (Obl.ok_more x13 (Obl.ok_more y13 (Obl.ok_more x12 (Obl.ok_more y12 (Obl.ok_more x11 (Obl.ok_more y11 (Obl.ok_more x10 (Obl.ok_more y10 (Obl.ok_more x9 (Obl.ok_more y9 (Obl.ok_more x8 (Obl.ok_more y8 (Obl.ok_more x7 (Obl.ok_more y7 (Obl.ok_more x6 (Obl.ok_more y6 (Obl.ok_more x5 (Obl.ok_more y5 (Obl.ok_more x4 (Obl.ok_more y4 (Obl.ok_more x3 (Obl.ok_more y3 (Obl.ok_more (decide_eq_true p2) (Obl.ok_nil))))))))))))))))))))))))))))
  have x2 : decide (a2 < b2) = false := decide_eq_false p2
  by_cases q2 : b2 < a2
  · rw [cmpT, if_neg p2, if_pos q2]
    exact go (cmp_gt2 (fun _ => 0) a0 a1 a2 a3 a4 a5 a6 a7 a8 a9 a10 a11 a12 a13 a14 a15 b0 b1 b2 b3 b4 b5 b6 b7 b8 b9 b10 b11 b12 b13 b14 b15) (Obl.ok_more x15 (Obl.ok_more y15 (Obl.ok_more x14 (Obl.ok_more y14 (Obl.ok_more x13 (Obl.ok_more y13 (Obl.ok_more x12 (Obl.ok_more y12 (Obl.ok_more x11 (Obl.ok_more y11 (Obl.ok_more x10 (Obl.ok_more y10 (Obl.ok_more x9 (Obl.ok_more y9 (Obl.ok_more x8 (Obl.ok_more y8 (Obl.ok_more x7 (Obl.ok_more y7 (Obl.ok_more x6 (Obl.ok_more y6 (Obl.ok_more x5 (Obl.ok_more y5 (Obl.ok_more x4 (Obl.ok_more y4 (Obl.ok_more x3 (Obl.ok_more y3 (Obl.ok_more x2 (Obl.ok_more (decide_eq_true q2) (Obl.ok_nil)))))))))))))))))))))))))))))
  have y2 : decide (b2 < a2) = false := decide_eq_false q2
  rw [cmpT, if_neg p2, if_neg q2]
  by_cases p1 : a1 < b1
  · rw [cmpT, if_pos p1]
    exact go (cmp_lt1 (fun _ => 0) a0 a1 a2 a3 a4 a5 a6 a7 a8 a9 a10 a11 a12 a13 a14 a15 b0 b1 b2 b3 b4 b5 b6 b7 b8 b9 b10 b11 b12 b13 b14 b15) (Obl.ok_more x15 (Obl.ok_more y15 (Obl.ok_more x14 (Obl.ok_more y14 (Obl.ok_more x13 (Obl.ok_more y13 (Obl.ok_more x12 (Obl.ok_more y12 (Obl.ok_more x11 (Obl.ok_more y11 (Obl.ok_more x10 (Obl.ok_more y10 (Obl.ok_more x9 (Obl.ok_more y9 (Obl.ok_more x8 (Obl.ok_more y8 (Obl.ok_more x7 (Obl.ok_more y7 (Obl.ok_more x6 (Obl.ok_more y6 (Obl.ok_more x5 (Obl.ok_more y5 (Obl.ok_more x4 (Obl.ok_more y4 (Obl.ok_more x3 (Obl.ok_more y3 (Obl.ok_more x2 (Obl.ok_more y2 (Obl.ok_more (decide_eq_true p1) (Obl.ok_nil))))))))))))))))))))))))))))))
  have x1 : decide (a1 < b1) = false := decide_eq_false p1
  by_cases q1 : b1 < a1
  · rw [cmpT, if_neg p1, if_pos q1]
    exact go (cmp_gt1 (fun _ => 0) a0 a1 a2 a3 a4 a5 a6 a7 a8 a9 a10 a11 a12 a13 a14 a15 b0 b1 b2 b3 b4 b5 b6 b7 b8 b9 b10 b11 b12 b13 b14 b15) (Obl.ok_more x15 (Obl.ok_more y15 (Obl.ok_more x14 (Obl.ok_more y14 (Obl.ok_more x13 (Obl.ok_more y13 (Obl.ok_more x12 (Obl.ok_more y12 (Obl.ok_more x11 (Obl.ok_more y11 (Obl.ok_more x10 (Obl.ok_more y10 (Obl.ok_more x9 (Obl.ok_more y9 (Obl.ok_more x8 (Obl.ok_more y8 (Obl.ok_more x7 (Obl.ok_more y7 (Obl.ok_more x6 (Obl.ok_more y6 (Obl.ok_more x5 (Obl.ok_more y5 (Obl.ok_more x4 (Obl.ok_more y4 (Obl.ok_more x3 (Obl.ok_more y3 (Obl.ok_more x2 (Obl.ok_more y2 (Obl.ok_more x1 (Obl.ok_more (decide_eq_true q1) (Obl.ok_nil)))))))))))))))))))))))))))))))
  have y1 : decide (b1 < a1) = false := decide_eq_false q1
  rw [cmpT, if_neg p1, if_neg q1]
  by_cases p0 : a0 < b0
  · rw [cmpT, if_pos p0]
    exact go (cmp_lt0 (fun _ => 0) a0 a1 a2 a3 a4 a5 a6 a7 a8 a9 a10 a11 a12 a13 a14 a15 b0 b1 b2 b3 b4 b5 b6 b7 b8 b9 b10 b11 b12 b13 b14 b15) (Obl.ok_more x15 (Obl.ok_more y15 (Obl.ok_more x14 (Obl.ok_more y14 (Obl.ok_more x13 (Obl.ok_more y13 (Obl.ok_more x12 (Obl.ok_more y12 (Obl.ok_more x11 (Obl.ok_more y11 (Obl.ok_more x10 (Obl.ok_more y10 (Obl.ok_more x9 (Obl.ok_more y9 (Obl.ok_more x8 (Obl.ok_more y8 (Obl.ok_more x7 (Obl.ok_more y7 (Obl.ok_more x6 (Obl.ok_more y6 (Obl.ok_more x5 (Obl.ok_more y5 (Obl.ok_more x4 (Obl.ok_more y4 (Obl.ok_more x3 (Obl.ok_more y3 (Obl.ok_more x2 (Obl.ok_more y2 (Obl.ok_more x1 (Obl.ok_more y1 (Obl.ok_more (decide_eq_true p0) (Obl.ok_nil))))))))))))))))))))))))))))))))
  have x0 : decide (a0 < b0) = false := decide_eq_false p0
  by_cases q0 : b0 < a0
  · rw [cmpT, if_neg p0, if_pos q0]
    exact go (cmp_gt0 (fun _ => 0) a0 a1 a2 a3 a4 a5 a6 a7 a8 a9 a10 a11 a12 a13 a14 a15 b0 b1 b2 b3 b4 b5 b6 b7 b8 b9 b10 b11 b12 b13 b14 b15) (Obl.ok_more x15 (Obl.ok_more y15 (Obl.ok_more x14 (Obl.ok_more y14 (Obl.ok_more x13 (Obl.ok_more y13 (Obl.ok_more x12 (Obl.ok_more y12 (Obl.ok_more x11 (Obl.ok_more y11 (Obl.ok_more x10 (Obl.ok_more y10 (Obl.ok_more x9 (Obl.ok_more y9 (Obl.ok_more x8 (Obl.ok_more y8 (Obl.ok_more x7 (Obl.ok_more y7 (Obl.ok_more x6 (Obl.ok_more y6 (Obl.ok_more x5 (Obl.ok_more y5 (Obl.ok_more x4 (Obl.ok_more y4 (Obl.ok_more x3 (Obl.ok_more y3 (Obl.ok_more x2 (Obl.ok_more y2 (Obl.ok_more x1 (Obl.ok_more y1 (Obl.ok_more x0 (Obl.ok_more (decide_eq_true q0) (Obl.ok_nil)))))))))))))))))))))))))))))))))
  have y0 : decide (b0 < a0) = false := decide_eq_false q0
  rw [cmpT, if_neg p0, if_neg q0]
  exact go (cmp_same (fun _ => 0) a0 a1 a2 a3 a4 a5 a6 a7 a8 a9 a10 a11 a12 a13 a14 a15 b0 b1 b2 b3 b4 b5 b6 b7 b8 b9 b10 b11 b12 b13 b14 b15) (Obl.ok_more x15 (Obl.ok_more y15 (Obl.ok_more x14 (Obl.ok_more y14 (Obl.ok_more x13 (Obl.ok_more y13 (Obl.ok_more x12 (Obl.ok_more y12 (Obl.ok_more x11 (Obl.ok_more y11 (Obl.ok_more x10 (Obl.ok_more y10 (Obl.ok_more x9 (Obl.ok_more y9 (Obl.ok_more x8 (Obl.ok_more y8 (Obl.ok_more x7 (Obl.ok_more y7 (Obl.ok_more x6 (Obl.ok_more y6 (Obl.ok_more x5 (Obl.ok_more y5 (Obl.ok_more x4 (Obl.ok_more y4 (Obl.ok_more x3 (Obl.ok_more y3 (Obl.ok_more x2 (Obl.ok_more y2 (Obl.ok_more x1 (Obl.ok_more y1 (Obl.ok_more x0 (Obl.ok_more y0 (Obl.ok_nil)))))))))))))))))))))))))))))))))
noncomputable def cmpSm : Rec := fnSm 39 (two fun ps qs => .int .i64 (cmpV ps qs))
theorem cmpSm_ok (G : List Nat) : RecOk Tryd.prog G cmpSm := fnSm_ok fun x v h => by
  obtain ⟨ps, qs, ha, hb, rfl, rfl⟩ := two_some h
  exact ⟨plain2 ps qs, rfl, fun w => cmp_calls ha hb w⟩
noncomputable def setSm : Rec := orSm cmpSm (orSm unionSm (orSm interSm minusSm))
theorem setSm_ok (G : List Nat) : RecOk Tryd.prog G setSm := orSm_ok (cmpSm_ok G) (orSm_ok (unionSm_ok G) (orSm_ok (interSm_ok G) (minusSm_ok G)))
end Go.Proofs.YtjneboajbmabbaaDoor.bits

namespace Go.Proofs.YtjneboajbmabbaaDoor.bits
open Go.Can Go.RowKit Go.Bits Go.Own
set_option maxRecDepth 100000
theorem pop_ev (x : Int) : intOut .i64 (evS Tryd.prog [] noSm 300 (.call 56 #[.int .u64 x]) (AW.start #[])) = some (popI x) := by kernel_rfl
noncomputable def popF (x : Array Value) : Option Value := match x.toList with
  | [.int .u64 n] => some (.int .i64 (popI n))
  | _ => none
noncomputable def popSm : Rec := fnSm 56 popF
theorem popSm_ok (G : List Nat) : RecOk Tryd.prog G popSm := fnSm_ok fun x v h => by
  unfold popF at h
  split at h
  case h_2 => cases h
  rename_i n hx
  cases h
  obtain rfl : x = #[.int .u64 n] := by cases x; simp_all
  exact ⟨by kernel_rfl, rfl, fun w => int_callsS pc noSm_ok (pop_ev n) (by kernel_rfl) w⟩
theorem len_ev (a0 a1 a2 a3 a4 a5 a6 a7 a8 a9 a10 a11 a12 a13 a14 a15 : Int) : intOut .i64 (evS Tryd.prog [] popSm 300 (.call 19 #[.agg #[.int .u64 a0, .int .u64 a1, .int .u64 a2, .int .u64 a3, .int .u64 a4, .int .u64 a5, .int .u64 a6, .int .u64 a7, .int .u64 a8, .int .u64 a9, .int .u64 a10, .int .u64 a11, .int .u64 a12, .int .u64 a13, .int .u64 a14, .int .u64 a15]]) (AW.start #[])) = some (lenV [a0, a1, a2, a3, a4, a5, a6, a7, a8, a9, a10, a11, a12, a13, a14, a15]) := by kernel_rfl
theorem len_calls {l : List Int} (h : l.length = 16) (w : World) : Calls Tryd.prog 19 #[rowV .u64 l] w fun e w' => e = .returned (.int .i64 (lenV l)) ∧ ∃ y, w' = beyond w y := by
  obtain ⟨a0, a1, a2, a3, a4, a5, a6, a7, a8, a9, a10, a11, a12, a13, a14, a15, rfl⟩ := len16 h
  exact int_callsS pc (popSm_ok []) (len_ev a0 a1 a2 a3 a4 a5 a6 a7 a8 a9 a10 a11 a12 a13 a14 a15) (by kernel_rfl) w
noncomputable def lenF (x : Array Value) : Option Value := match x.toList with
  | [.agg xs] => match intsOf .u64 xs.toList with
    | some l => if Nat.beq l.length 16 then some (.int .i64 (lenV l)) else none
    | none => none
  | _ => none
noncomputable def lenSm : Rec := fnSm 19 lenF
theorem lenSm_ok (G : List Nat) : RecOk Tryd.prog G lenSm := fnSm_ok fun x v h => by
  unfold lenF at h
  split at h
  case h_2 => cases h
  rename_i xs hx
  split at h
  case h_2 => cases h
  rename_i l hl
  split at h
  case isFalse => cases h
  rename_i hc
  cases h
  have h1 := intsOf_some hl
  obtain ⟨x⟩ := x
  obtain ⟨xs⟩ := xs
  simp only at hx h1
  subst h1; subst hx
  exact ⟨show (#[rowV .u64 l] : Array Value).all (plainV 60) = true by simp [plain_rowV], rfl, fun w => len_calls (Nat.eq_of_beq_eq_true hc) w⟩
noncomputable def setSm2 : Rec := orSm setSm (orSm lenSm popSm)
theorem setSm2_ok (G : List Nat) : RecOk Tryd.prog G setSm2 := orSm_ok (setSm_ok G) (orSm_ok (lenSm_ok G) (popSm_ok G))
end Go.Proofs.YtjneboajbmabbaaDoor.bits

namespace Go.Proofs.YtjneboajbmabbaaDoor.ref1
open Go.RowKit Go.Own Go.Rw Go.SetL Go.Bits Go.Tz
set_option maxHeartbeats 1000000
set_option maxRecDepth 100000

/-- block g holds this row, here -/
structure BlkAt (g : Nat) (cs : Array Value) (t : TypeId) (w : World) : Prop where
  mk' :: (all : blockOf w g = some (.cells cs t (0, 0)))
theorem BlkAt.below {W w : World} {g : Nat} {cs : Array Value} {t : TypeId} (h : BlkAt g cs t W) (hb : Below W.heap.size W w) : BlkAt g cs t w :=
  ⟨(hb.block g (Array.getElem?_eq_some_iff.1 h.all).1).trans h.all⟩
theorem BlkAt.lt {w : World} {g : Nat} {cs : Array Value} {t : TypeId} (h : BlkAt g cs t w) : g < w.heap.size := (Array.getElem?_eq_some_iff.1 h.all).1
/-- a row is stored into the block that was made last -/
theorem wpList_store_fresh {P : Program} {ops : Array Oper} {rest : List Oper} {op : Oper} {a : Act} {w : World} {Q : Exit → Act → World → Prop} (hgd : op.guard = none) (ty : TypeId) (x y : Operand) (ho : op.op = .store ty x y)
    (cells : Array Value) (t : TypeId) (old : Array Value) (g : Nat) (hx : a.eval x = .pointer (some ⟨g, 0, none⟩)) (hg : g = w.heap.size) (hy : a.eval y = .agg cells)
    (hi : (P.info? ty).map (·.size) = some cells.size) (hs : old.size = cells.size) (h1 : cells.all (·.oneCell') = true)
    (h : ∀ w', Below w.heap.size w w' → BlkAt g cells t w' → wpList P ops Q rest (a.put op.dst undef) w') : wpList P ops Q (op :: rest) a (w.alloc (.cells old t)) := by
  subst hg
  refine wpList_store_block hgd ty x y ho w.heap.size cells t old hx hy (blockOf_alloc_at _ _ _ rfl) hi hs h1 ?_
  rw [World.setRow_alloc_new]
  have hb : Below w.heap.size w (w.alloc (.cells cells t)) := (by repeat (first | assumption | exact Below.refl _ _ | exact below_beyond _ _ | refine Below.beyond ?_ (by (try simp [size_beyond]) <;> omega) _ | refine Below.drew ?_ | refine Go.Rw.below_drewN ?_ _ | refine Go.Rw.below_setRow ?_ (by (try simp [size_beyond]) <;> omega) _ | refine Below.alloc ?_ (by (try simp [size_beyond]) <;> omega) _ | refine Below.setCell ?_ (by (try simp [size_beyond]) <;> omega) _))
  exact h _ hb ⟨blockOf_alloc_at _ _ _ rfl⟩
theorem of_at {q : Option Addr} {m c : Nat} {l : List Int} {w : World} (h : IsAt q m c l w) : Calls Tryd.prog 13 #[.slice q m c] w fun e w' => e = .returned (.agg (rowW (rowOf l))) ∧ ∃ y, w' = beyond w y :=
  of_set h.all.1 (by have := h.all.2.1; omega) h.all.2.2.2.2
theorem rof_at {q : Option Addr} {m c : Nat} {l : List Int} {w : World} (h : IsAt q m c l w) : Calls Tryd.prog 14 #[.slice q m c] w (Ret w (elems (rowOf l))) := by
  refine (of_calls h.all.1 (by have := h.all.2.1; omega) h.all.2.2.2.2).mono fun _ _ h => ?_
  rw [elems_rowOf]; exact gives_ret (by rw [← elems_rowOf]; exact elems_len _) h
theorem rhas_at {q : Option Addr} {m c : Nat} {l : List Int} {w : World} (n : Int) (h : IsAt q m c l w) : Calls Tryd.prog 22 #[.slice q m c, .int .i64 n] w fun e w' => e = .returned (.bool (l.contains n)) ∧ w = w' :=
  has_calls n h.all.1 (by have := h.all.2.1; omega) h.all.2.2.2.2
theorem len_at {xs : List W} (hx : xs.length = 16) (w : World) : Calls Tryd.prog 19 #[.agg (rowW xs)] w fun e w' => e = .returned (.int .i64 ((elems xs).length : Nat)) ∧ ∃ y, w' = beyond w y := by
  have := bits.len_calls (l := rowI xs) (by rw [rowI_len]; exact hx) w
  rw [rowV_rowW, lenV_eq hx, popR_elems hx] at this
  exact this
theorem reads_of {w : World} {q : Option Addr} {n b off : Nat} {V : Nat → Int} (hq : 0 < n → q = some ⟨b, off, none⟩ ∧ b < w.heap.size) (hx : ∀ i, i < n → w.cell? ⟨b, off + i, none⟩ = some (.int .i64 (V i))) : Reads w q ((List.range n).map V) := by
  by_cases h0 : n = 0
  · subst h0; exact .inl rfl
  · obtain ⟨rfl, hb⟩ := hq (by omega)
    refine .inr ⟨b, off, rfl, hb, fun i x h => ?_⟩
    by_cases hi : i < n
    · simp only [List.getElem?_map, List.getElem?_range hi, Option.map_some, Option.some.injEq] at h
      subst h; exact hx i hi
    · rw [List.getElem?_eq_none (by simp; omega)] at h; cases h
theorem reads_take {w : World} {q : Option Addr} {l : List Int} (h : Reads w q l) (k : Nat) : Reads w q (l.take k) := by
  rcases h with rfl | ⟨b, off, h1, h2, h3⟩
  · exact .inl (by simp)
  · exact .inr ⟨b, off, h1, h2, fun i x hx => h3 i x (by rw [List.getElem?_take] at hx; split at hx <;> simp_all)⟩
/-- Min and Max, by the list -/
theorem min_yes {xs : List W} (hx : xs.length = 16) {n0 : Int} (h : (elems xs).head? = some n0) (w : World) (hT : TzW w) :
    Calls Tryd.prog 15 #[.agg (rowW xs)] w fun e w' => e = .returned (.tuple #[.int .i64 n0, .bool true]) ∧ ∃ y, w' = beyond w y := by
  refine (min_set hx w hT).mono ?_
  rintro e w' ⟨n, b, y, rfl, rfl, hm⟩
  rcases min_head hm with ⟨rfl, hh⟩ | ⟨rfl, rfl, hh⟩
  · rw [h] at hh; cases hh; exact ⟨rfl, y, rfl⟩
  · rw [hh] at h; cases h
theorem min_no {xs : List W} (hx : xs.length = 16) (h : elems xs = []) (w : World) (hT : TzW w) :
    Calls Tryd.prog 15 #[.agg (rowW xs)] w fun e w' => e = .returned (.tuple #[.int .i64 0, .bool false]) ∧ ∃ y, w' = beyond w y := by
  refine (min_set hx w hT).mono ?_
  rintro e w' ⟨n, b, y, rfl, rfl, hm⟩
  rcases min_head hm with ⟨rfl, hh⟩ | ⟨rfl, rfl, hh⟩
  · rw [h] at hh; cases hh
  · exact ⟨rfl, y, rfl⟩
theorem max_yes {xs : List W} (hx : xs.length = 16) {n0 : Int} (h : (elems xs).getLast? = some n0) (w : World) :
    Calls Tryd.prog 16 #[.agg (rowW xs)] w fun e w' => e = .returned (.tuple #[.int .i64 n0, .bool true]) ∧ ∃ y, w' = beyond w y := by
  refine (max_set hx w).mono ?_
  rintro e w' ⟨n, b, y, rfl, rfl, hm⟩
  rcases max_last hm with ⟨rfl, hh⟩ | ⟨rfl, rfl, hh⟩
  · rw [h] at hh; cases hh; exact ⟨rfl, y, rfl⟩
  · rw [hh] at h; cases h
theorem max_no {xs : List W} (hx : xs.length = 16) (h : elems xs = []) (w : World) :
    Calls Tryd.prog 16 #[.agg (rowW xs)] w fun e w' => e = .returned (.tuple #[.int .i64 0, .bool false]) ∧ ∃ y, w' = beyond w y := by
  refine (max_set hx w).mono ?_
  rintro e w' ⟨n, b, y, rfl, rfl, hm⟩
  rcases max_last hm with ⟨rfl, hh⟩ | ⟨rfl, rfl, hh⟩
  · rw [h] at hh; cases hh
  · exact ⟨rfl, y, rfl⟩
end Go.Proofs.YtjneboajbmabbaaDoor.ref1
