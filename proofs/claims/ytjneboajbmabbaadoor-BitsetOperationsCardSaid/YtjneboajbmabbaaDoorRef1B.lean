/-
  The reference's functions on sorted lists: adding and leaving out one number.
-/
import Derived.Test.YtjneboajbmabbaaDoorRef1A
set_option linter.unusedSimpArgs false
set_option linter.unusedVariables false
namespace Go.Proofs.YtjneboajbmabbaaDoor.ref1
open Go.RowKit Go.Own Go.Rw Go.SetL
set_option maxHeartbeats 1000000
set_option maxRecDepth 100000

theorem tI : (Tryd.prog.info? 3).map (fun i => (i.zero, i.size, i.bytes)) = some (some (.int .i64 0), 1, 8) := by kernel_rfl
theorem uI : Tryd.prog.underlying 27 = some (.slice 3) := Tryd.underlying27

theorem without_calls {q : Option Addr} {m c : Nat} {l : List Int} {w : World} (n : Int) (hm : m = l.length) (hb : m ≤ 1000000) (h : Reads w q l) :
    Calls Tryd.prog 28 #[.slice q m c, .int .i64 n] w (Gives w (withoutL l n)) := by
  have HR := Lib.hid h; clear h
  have HM := Lib.hid hm; clear hm
  go_enter Tryd.func28, Tryd.ntmps28
  go_wp2
  go_loopw [5, 6] (fun v i wr => ∃ k : Nat, k ≤ m ∧ i = .int .i64 k ∧ Hid (Own wr w.heap.size 3 v (withoutL (l.take k) n)) ∧ Hid (Below w.heap.size w wr))
    (fun _ i _ => m - (intOf i).toNat)
  case atStart => exact ⟨0, Nat.zero_le _, rfl, Lib.hid (Own.made _ (Nat.le_refl _)), Lib.hid (by repeat (first | assumption | exact Below.refl _ _ | exact below_beyond _ _ | refine Below.beyond ?_ (by (try simp [size_beyond]) <;> omega) _ | refine Below.drew ?_ | refine Go.Rw.below_drewN ?_ _ | refine Go.Rw.below_setRow ?_ (by (try simp [size_beyond]) <;> omega) _ | refine Below.alloc ?_ (by (try simp [size_beyond]) <;> omega) _ | refine Below.setCell ?_ (by (try simp [size_beyond]) <;> omega) _))⟩
  case round =>
    obtain ⟨k, hk, rfl, HO, HB⟩ := hrel
    by_cases hlt : k < m
    · obtain ⟨b, off, x, rfl, hx, hbw, hc⟩ := (HR.out.below HB.out).at (k := k) (by rw [← HM.out]; exact hlt)
      have HX := Lib.hid hx; clear hx
      have HL : (withoutL (l.take k) n).length ≤ 1000000 := Nat.le_trans (List.length_filter_le _ _) (by simp; omega)
      have hB : w.heap.size ≤ wr.heap.size := HB.out.size
      have HC := Lib.hid (show withoutL (l.take (k + 1)) n = withoutL (l.take k) n ++ if x = n then [] else [x] by
        unfold withoutL; rw [List.take_add_one, HX.out, List.filter_append]; by_cases h : x = n <;> simp [h])
      by_cases hxn : x = n
      · go_wp2
        go_roundw
        case rel => exact ⟨k + 1, by omega, by go_num, Lib.hid (by rw [HC.out, if_pos hxn, List.append_nil]; exact HO.out), HB⟩
        case measure => simp [intOf]; omega
      · go_wp2_with (at_builtin; refine wpList_app wr rfl _ _ _ rfl uI tI HO.out hB HL x rfl rfl ?_)
        intro v' w' hown hbel
        have HO2 := Lib.hid hown; clear hown
        have HB2 := Lib.hid (HB.out.trans hbel); clear hbel
        go_wp2
        go_roundw
        case rel => exact ⟨k + 1, by omega, by go_num, Lib.hid (by rw [HC.out, if_neg hxn]; exact HO2.out), HB2⟩
        case measure => simp [intOf]; omega
    · obtain rfl : k = m := by omega
      go_wp2
      go_ret
      have := HO.out
      rw [List.take_of_length_le (by rw [← HM.out]; exact Nat.le_refl _)] at this
      exact this.gives HB.out

theorem with_calls {q : Option Addr} {m c : Nat} {l : List Int} {w : World} (n : Int) (hm : m = l.length) (hb : m ≤ 999990) (hmc : m ≤ c) (hc : c ≤ maxLen) (h : Reads w q l) :
    Calls Tryd.prog 26 #[.slice q m c, .int .i64 n] w (Gives w (withL l n)) := by
  have HR := Lib.hid h; clear h
  have HM := Lib.hid hm; clear hm
  by_cases hk : n < 0 ∨ 1023 < n ∨ l.contains n = true
  · have HG := Lib.hid (show Gives w (withL l n) (.returned (.slice q m c)) w by
      refine ⟨q, m, c, rfl, ?_, hmc, hc, ?_, Below.refl _ _⟩ <;> (unfold withL; rw [if_pos (by simpa using hk)])
      · exact HM.out
      · exact HR.out)
    go_enter Tryd.func26, Tryd.ntmps26
    rcases hk with hk | hk | hk
    · go_wp2
      go_ret
      exact HG.out
    · go_wp2
      all_goals
        go_ret
        exact HG.out
    · have HK := Lib.hid hk; clear hk
      go_wp2_with (go_at_call 22; refine (has_calls (l := l) _ HM.out (by omega) HR.out).mono ?_; rw [HK.out]; rintro e w1 ⟨rfl, rfl⟩)
      all_goals
        go_ret
        exact HG.out
  · have hk0 : 0 ≤ n := by omega
    have hk1 : n ≤ 1023 := by omega
    have HK := Lib.hid (show l.contains n = false by simp at hk ⊢; exact hk.2.2)
    have HG := Lib.hid (show withL l n = insL n l by unfold withL; rw [if_neg (by simpa using hk)])
    clear hk
    go_enter Tryd.func26, Tryd.ntmps26
    go_wp2_with (go_at_call 22; refine (has_calls (l := l) _ HM.out (by omega) HR.out).mono ?_; rw [HK.out]; rintro e w1 ⟨rfl, rfl⟩)
    go_loopw [5, 6, 7] (fun v d i wr => ∃ k : Nat, k ≤ m ∧ i = .int .i64 k ∧ d = .bool (insF n (l.take k)).2 ∧ Hid (Own wr w.heap.size 3 v (insF n (l.take k)).1) ∧ Hid (Below w.heap.size w wr))
      (fun _ _ i _ => m - (intOf i).toNat)
    case atStart => exact ⟨0, Nat.zero_le _, rfl, rfl, Lib.hid (Own.made _ (Nat.le_refl _)), Lib.hid (by repeat (first | assumption | exact Below.refl _ _ | exact below_beyond _ _ | refine Below.beyond ?_ (by (try simp [size_beyond]) <;> omega) _ | refine Below.drew ?_ | refine Go.Rw.below_drewN ?_ _ | refine Go.Rw.below_setRow ?_ (by (try simp [size_beyond]) <;> omega) _ | refine Below.alloc ?_ (by (try simp [size_beyond]) <;> omega) _ | refine Below.setCell ?_ (by (try simp [size_beyond]) <;> omega) _))⟩
    case round =>
      obtain ⟨k, hk, rfl, rfl, HO, HB⟩ := hrel
      have hB : w.heap.size ≤ wr.heap.size := HB.out.size
      have hlen := insF_len n (l.take k)
      have htk : (l.take k).length ≤ k := List.length_take_le _ _
      have hdn : (insF n (l.take k)).2.toNat ≤ 1 := by cases (insF n (l.take k)).2 <;> decide
      have HL : (insF n (l.take k)).1.length ≤ 1000000 := by omega
      by_cases hlt : k < m
      · obtain ⟨b, off, x, rfl, hx, hbw, hc0⟩ := HR.out.at (k := k) (by rw [← HM.out]; exact hlt)
        have hc := (HB.out.cell hbw).trans hc0
        have hbr : b < wr.heap.size := by omega
        have HC := Lib.hid (show insF n (l.take (k + 1)) = insStep n (insF n (l.take k)) x by rw [List.take_add_one, hx]; exact insF_snoc _ _ _)
        clear hx hlen htk hdn hc0
        generalize hs : insF n (l.take k) = s at HO HL HC ⊢
        obtain ⟨o, d⟩ := s
        have HLL := Lib.hid (show o.length + 2 ≤ 1000000 by
          have h1 := insF_len n (l.take k); have h2 : (l.take k).length ≤ k := List.length_take_le _ _; rw [hs] at h1
          have h3 : d.toNat ≤ 1 := by cases d <;> decide
          simp only at h1; omega)
        clear hs HL
        simp only at HO
        cases d
        · by_cases hxn : n < x
          · have HS1 := Lib.hid (show insStep n (o, false) x = (o ++ [n] ++ [x], true) by simp [insStep, hxn])
            go_wp2_with (at_builtin; refine wpList_app wr rfl _ _ _ rfl uI tI HO.out hB (by have := HLL.out; omega) n rfl rfl ?_)
            intro v1 w1 hown hbel
            have HO1 := Lib.hid hown; clear hown
            have HB1 := Lib.hid (HB.out.trans hbel)
            have hB1 : w.heap.size ≤ w1.heap.size := HB1.out.size
            have hc1 := (hbel.cell hbw).trans hc
            have hbr1 : b < w1.heap.size := by omega
            clear hbel hc HO HB
            go_wp2_with (at_builtin; refine wpList_app w1 rfl _ _ _ rfl uI tI HO1.out hB1 (by have := HLL.out; simp; omega) x rfl rfl ?_)
            intro v2 w2 hown hbel
            have HO2 := Lib.hid hown; clear hown
            have HB2 := Lib.hid (HB1.out.trans hbel); clear hbel
            go_wp2
            go_roundw
            case rel => exact ⟨k + 1, by omega, by go_num, by rw [HC.out, HS1.out], Lib.hid (by rw [HC.out, HS1.out]; have := HO2.out; simpa using this), HB2⟩
            case measure => simp [intOf]; omega
          · have HS1 := Lib.hid (show insStep n (o, false) x = (o ++ [x], false) by simp [insStep, hxn])
            go_wp2_with (at_builtin; refine wpList_app wr rfl _ _ _ rfl uI tI HO.out hB (by have := HLL.out; omega) x rfl rfl ?_)
            intro v2 w2 hown hbel
            have HO2 := Lib.hid hown; clear hown
            have HB2 := Lib.hid (HB.out.trans hbel); clear hbel
            go_wp2
            go_roundw
            case rel => exact ⟨k + 1, by omega, by go_num, by rw [HC.out, HS1.out], Lib.hid (by rw [HC.out, HS1.out]; have := HO2.out; simpa using this), HB2⟩
            case measure => simp [intOf]; omega
        · have HS1 := Lib.hid (show insStep n (o, true) x = (o ++ [x], true) by simp [insStep])
          go_wp2_with (at_builtin; refine wpList_app wr rfl _ _ _ rfl uI tI HO.out hB (by have := HLL.out; omega) x rfl rfl ?_)
          intro v2 w2 hown hbel
          have HO2 := Lib.hid hown; clear hown
          have HB2 := Lib.hid (HB.out.trans hbel); clear hbel
          go_wp2
          go_roundw
          case rel => exact ⟨k + 1, by omega, by go_num, by rw [HC.out, HS1.out], Lib.hid (by rw [HC.out, HS1.out]; have := HO2.out; simpa using this), HB2⟩
          case measure => simp [intOf]; omega
      · obtain rfl : k = m := by omega
        have HT := Lib.hid (show l.take k = l from List.take_of_length_le (by rw [← HM.out]; exact Nat.le_refl _))
        clear hlen htk hdn
        rw [HT.out] at HO HL ⊢
        generalize hs : insF n l = s at HO HL ⊢
        obtain ⟨o, d⟩ := s
        have HS := Lib.hid hs; clear hs
        simp only at HO HL
        cases d
        · go_wp2_with (at_builtin; refine wpList_app wr rfl _ _ _ rfl uI tI HO.out hB HL n rfl rfl ?_)
          intro v2 w2 hown hbel
          have HO2 := Lib.hid hown; clear hown
          have HB2 := Lib.hid (HB.out.trans hbel); clear hbel
          go_wp2
          go_ret
          rw [HG.out, insL, HS.out]
          exact HO2.out.gives HB2.out
        · go_wp2
          go_ret
          rw [HG.out, insL, HS.out]
          exact HO.out.gives HB.out
end Go.Proofs.YtjneboajbmabbaaDoor.ref1
