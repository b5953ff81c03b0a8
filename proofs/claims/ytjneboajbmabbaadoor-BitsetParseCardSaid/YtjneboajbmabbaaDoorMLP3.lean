/-
  The reference's Parse.
-/
import Derived.Test.YtjneboajbmabbaaDoorMB1
import Derived.Test.YtjneboajbmabbaaDoorMB2
import Derived.Test.YtjneboajbmabbaaDoorMLP1
import Derived.Test.YtjneboajbmabbaaDoorMLP2
import Derived.Deep.CutBlock
set_option linter.unusedSimpArgs false
set_option linter.unusedVariables false
namespace Go.Proofs.YtjneboajbmabbaaDoor.ref1
open Go.RowKit Go.Own Go.Rw Go.SetL Go.Bits Go.Tz Go.SetT Go.PlainAid
set_option maxHeartbeats 20000000
set_option maxRecDepth 100000
attribute [local irreducible] beyond grow over

def RetI (W : World) (l : List Int) (b : Int) (e : Ending) (w' : World) : Prop := ∃ q m c y, e = .returned (.tuple #[.slice q m c, .int .i64 b]) ∧ w' = beyond W y ∧ IsAt q m c l w'
/-- the value as the reference keeps it: right as long as it is below 100000 -/
def Capd (n v : Int) : Prop := 0 ≤ n ∧ n ≤ 1000000 ∧ (n < 100000 → n = v) ∧ (100000 ≤ n → 100000 ≤ v)
theorem last_at {w : World} {q : Option Addr} {l : List Int} (h : Reads w q l) : (l.length = 0 ∧ l.getLastD (-1) = -1) ∨ ∃ j b off, l.length = j + 1 ∧ q = some ⟨b, off, none⟩ ∧ b < w.heap.size ∧ w.cell? ⟨b, off + j, none⟩ = some (.int .i64 (l.getLastD (-1))) := by
  rcases List.eq_nil_or_concat l with rfl | ⟨o, y, rfl⟩
  · exact .inl ⟨rfl, rfl⟩
  · refine .inr ?_
    simp only [List.concat_eq_append] at h ⊢
    obtain ⟨b, off, x, hq, hx, hb, hc⟩ := h.at (k := o.length) (by simp)
    have : x = y := by simpa using hx.symm
    subst this
    exact ⟨o.length, b, off, by simp, hq, hb, by simpa using hc⟩
theorem rparse_calls (s : ByteArray) (hs : s.size ≤ 900000) (w : World) :
    Calls Tryd.prog 52 #[.string s] w (RetI w (parseS (bt s) s.size).1 (parseS (bt s) s.size).2) := by
  have hb := get_bt s
  by_cases hp : s.size = 0
  · have HP := Lib.hid (show parseS (bt s) s.size = ([], 3) by unfold parseS; rw [if_pos (.inl hp)])
    go_enter Tryd.func52, Tryd.ntmps52
    go_wp2
    go_ret2
    rw [HP.out]
    obtain ⟨y, hy⟩ := beyond_of (show Below w.heap.size w (w.alloc (.cells #[] 3)) from (by repeat (first | assumption | exact Below.refl _ _ | exact below_beyond _ _ | refine Below.beyond ?_ (by (try simp [size_beyond]) <;> omega) _ | refine Below.drew ?_ | refine Go.Rw.below_drewN ?_ _ | refine Go.Rw.below_setRow ?_ (by (try simp [size_beyond]) <;> omega) _ | refine Below.alloc ?_ (by (try simp [size_beyond]) <;> omega) _ | refine Below.setCell ?_ (by (try simp [size_beyond]) <;> omega) _)))
    exact ⟨_, _, _, y, rfl, hy, ⟨rfl, by omega, by omega, by unfold maxLen; omega, .inl rfl⟩⟩
  · have hpos : 0 < s.size := by omega
    by_cases h0 : bt s 0 = 123
    · by_cases h2 : s.size = 2 ∧ bt s 1 = 125
      · have HP := Lib.hid (show parseS (bt s) s.size = ([], 0) by unfold parseS; rw [if_neg (fun h => h.elim (by omega) (fun h => h h0)), if_pos h2])
        obtain ⟨h2, h2'⟩ := h2
        go_enter Tryd.func52, Tryd.ntmps52
        go_wp2
        go_ret2
        rw [HP.out]
        obtain ⟨y, hy⟩ := beyond_of (show Below w.heap.size w (w.alloc (.cells #[] 3)) from (by repeat (first | assumption | exact Below.refl _ _ | exact below_beyond _ _ | refine Below.beyond ?_ (by (try simp [size_beyond]) <;> omega) _ | refine Below.drew ?_ | refine Go.Rw.below_drewN ?_ _ | refine Go.Rw.below_setRow ?_ (by (try simp [size_beyond]) <;> omega) _ | refine Below.alloc ?_ (by (try simp [size_beyond]) <;> omega) _ | refine Below.setCell ?_ (by (try simp [size_beyond]) <;> omega) _)))
        exact ⟨_, _, _, y, rfl, hy, ⟨rfl, by omega, by omega, by unfold maxLen; omega, .inl rfl⟩⟩
      · have HP := Lib.hid (show parse (bt s) s.size (s.size + 1) 1 [] = parseS (bt s) s.size by unfold parseS; rw [if_neg (fun h => h.elim (by omega) (fun h => h h0)), if_neg h2])
        have HH2 := Lib.hid h2; clear h2
        have hbq : ((s.size : Int) == 0) = false := beq_eq_false_iff_ne.2 (by omega)
        have HM := Lib.hid (Own.made (w := w) 3 (Nat.le_refl w.heap.size))
        go_enter Tryd.func52, Tryd.ntmps52
        go_upto_region 5 with fail
        go_cut [25] from 18 to 25 (fun c wx => c = .bool false ∧ wx = w.alloc (.cells #[] 3))
        case first =>
          by_cases h2 : s.size = 2
          · have h3 : (bt s 1 == 125) = false := beq_eq_false_iff_ne.2 (fun h => HH2.out ⟨h2, h⟩)
            go_wp2
            go_meet
            exact ⟨rfl, rfl⟩
          · go_wp2
            go_meet
            exact ⟨rfl, rfl⟩
        case rest =>
          obtain ⟨rfl, rfl⟩ := hcut
          go_wp2
          go_loopw [4, 5] (fun v at_ wr => ∃ (a f : Nat) (out : List Int), at_ = .int .i64 a ∧ out.length + 1 ≤ a ∧ a ≤ s.size ∧ s.size + 1 ≤ f + a ∧ Hid (parse (bt s) s.size f a out = parseS (bt s) s.size) ∧ Hid (Own wr w.heap.size 3 v out) ∧ Hid (Below w.heap.size w wr)) (fun _ i _ => s.size + 1 - (intOf i).toNat)
          case atStart => exact ⟨1, s.size + 1, [], rfl, by simp, by omega, by omega, HP, HM, Lib.hid (by repeat (first | assumption | exact Below.refl _ _ | exact below_beyond _ _ | refine Below.beyond ?_ (by (try simp [size_beyond]) <;> omega) _ | refine Below.drew ?_ | refine Go.Rw.below_drewN ?_ _ | refine Go.Rw.below_setRow ?_ (by (try simp [size_beyond]) <;> omega) _ | refine Below.alloc ?_ (by (try simp [size_beyond]) <;> omega) _ | refine Below.setCell ?_ (by (try simp [size_beyond]) <;> omega) _))⟩
          case round =>
            obtain ⟨a, f, out, rfl, hoa, ha, hf, HQ, HO, HB⟩ := hrel
            clear HM
            obtain ⟨f, rfl⟩ : ∃ g, f = g + 1 := ⟨f - 1, by omega⟩
            obtain ⟨q, c, rfl, hmc, hcm, hrd⟩ := HO.out.slice
            have HLA := Lib.hid (last_at hrd)
            have HRD := Lib.hid hrd; clear hrd
            have HMC := Lib.hid (And.intro hmc hcm); clear hmc hcm
            obtain ⟨m, hm⟩ : ∃ m, m = out.length := ⟨_, rfl⟩
            rw [← hm] at hoa HO HLA HMC ⊢
            have HMM := Lib.hid hm; clear hm
            go_upto_block 2 with fail
            go_cut [5, 7] from 28 to 55 (fun i v wx => ∃ (k : Nat) (n : Int), i = .int .i64 ((a + k : Nat) : Int) ∧ v = .int .i64 n ∧ a + k ≤ s.size ∧ Hid (Capd n (num (bt s) a k)) ∧ Hid (EndsAt (bt s) s.size a (a + k)) ∧ wx = wr)
            case first =>
              go_wp2_with fail
              go_loop [5, 7] (fun i v => ∃ (k : Nat) (n : Int), a + k ≤ s.size ∧ i = .int .i64 ((a + k : Nat) : Int) ∧ v = .int .i64 n ∧ Hid (Capd n (num (bt s) a k)) ∧ Hid (∀ j, j < k → isDg (bt s) s.size (a + j))) (fun i _ => s.size - (intOf i).toNat)
              case atStart => exact ⟨0, 0, by omega, rfl, rfl, Lib.hid ⟨by omega, by omega, fun _ => rfl, fun h => absurd h (by omega)⟩, Lib.hid (fun j hj => absurd hj (by omega))⟩
              case round =>
                obtain ⟨k, n, hk, rfl, rfl, HC, HG⟩ := hrel
                have hn0 := num_nonneg HG.out
                by_cases hd : isDg (bt s) s.size (a + k)
                · obtain ⟨h1, h2, h3⟩ := hd
                  have HS := Lib.hid (show num (bt s) a (k + 1) = 10 * num (bt s) a k + (bt s (a + k) - 48) from rfl)
                  obtain ⟨c1, c2, c3, c4⟩ := HC.out
                  have HN := Lib.hid hn0; clear hn0
                  have HC3 := Lib.hid c3
                  have HC4 := Lib.hid c4
                  clear c3 c4
                  by_cases hsm : n < 100000
                  · go_wp2
                    go_round
                    case rel =>
                      first | refine ⟨k + 1, _, by omega, by go_num, rfl, Lib.hid ?_, Lib.hid fun j hj => ?_⟩ | refine ⟨k + 1, by omega, by go_num, Lib.hid ?_, Lib.hid fun j hj => ?_⟩
                      · have e1 := HC3.out hsm
                        have e2 := HS.out
                        refine ⟨by omega, by omega, fun _ => by omega, fun _ => by omega⟩
                      · rcases Nat.lt_or_eq_of_le (Nat.le_of_lt_succ hj) with h | rfl
                        · exact HG.out j h
                        · exact ⟨h1, h2, h3⟩
                    case measure => simp [intOf]; omega
                  · go_wp2
                    go_round
                    case rel =>
                      first | refine ⟨k + 1, _, by omega, by go_num, rfl, Lib.hid ?_, Lib.hid fun j hj => ?_⟩ | refine ⟨k + 1, by omega, by go_num, Lib.hid ?_, Lib.hid fun j hj => ?_⟩
                      · have e1 := HC4.out (by omega)
                        have e2 := HS.out
                        have e3 := HN.out
                        refine ⟨by omega, by omega, fun h => absurd h (by omega), fun _ => by omega⟩
                      · rcases Nat.lt_or_eq_of_le (Nat.le_of_lt_succ hj) with h | rfl
                        · exact HG.out j h
                        · exact ⟨h1, h2, h3⟩
                    case measure => simp [intOf]; omega
                · have HE := Lib.hid (show EndsAt (bt s) s.size a (a + k) from ⟨by omega, fun j h1 h2 => by have := HG.out (j - a) (by omega); rwa [show a + (j - a) = j by omega] at this, hd⟩)
                  have hreason : ¬ a + k < s.size ∨ (a + k < s.size ∧ bt s (a + k) < 48) ∨ (a + k < s.size ∧ 48 ≤ bt s (a + k) ∧ 57 < bt s (a + k)) := by
                    unfold isDg at hd; omega
                  clear hd
                  rcases hreason with hr | ⟨hr1, hr2⟩ | ⟨hr1, hr2, hr3⟩
                  all_goals
                    go_wp2
                    go_meet
                    exact ⟨k, n, by go_num, rfl, hk, HC, HE, rfl⟩
            case rest =>
              obtain ⟨k, n, rfl, rfl, hk, HC, HE, rfl⟩ := hcut
              have hn0 : 0 ≤ num (bt s) a k := num_nonneg (fun j hj => HE.out.dg _ (by omega) (by omega))
              have HDE := Lib.hid (dEnd_of s.size a HE.out (by omega))
              have HG0 : 0 < k → a < s.size := fun h => (HE.out.dg a (Nat.le_refl _) (by omega)).1
              obtain ⟨cp1, cp2, cp3, cp4⟩ := HC.out
              have HC3 := Lib.hid cp3
              have HC4 := Lib.hid cp4
              clear cp3 cp4
              obtain ⟨vv, hvv⟩ : ∃ x, x = num (bt s) a k := ⟨_, rfl⟩
              rw [← hvv] at HC3 HC4 hn0
              have HV := Lib.hid (show num (bt s) a (a + k - a) = vv by rw [show a + k - a = k by omega]; exact hvv.symm); clear hvv
              have HN0 := Lib.hid hn0; clear hn0
              go_upto_region 13 with fail
              go_cut [70] from 56 to 70 (fun c wx => c = .bool (decide (k = 0 ∨ (bt s a = 48 ∧ 1 < k))) ∧ wx = wc)
              case first =>
                by_cases hk0 : k = 0
                · subst hk0
                  go_wp2
                  go_meet
                  exact ⟨by simp, rfl⟩
                · have hin := HG0 (by omega)
                  have hbe : ((a : Int) + (k : Int) == (a : Int)) = false := beq_eq_false_iff_ne.2 (by omega)
                  by_cases h48 : bt s a = 48
                  · by_cases hk1 : 1 < k
                    · have hk1' : (1 : Int) < (k : Int) := by omega
                      go_wp2
                      go_meet
                      exact ⟨congrArg Value.bool (decide_eq_true (p := k = 0 ∨ (bt s a = 48 ∧ 1 < k)) (.inr ⟨h48, hk1⟩)).symm, rfl⟩
                    · have hk1' : ¬ (1 : Int) < (k : Int) := by omega
                      go_wp2
                      go_meet
                      exact ⟨congrArg Value.bool (decide_eq_false (p := k = 0 ∨ (bt s a = 48 ∧ 1 < k)) (by omega)).symm, rfl⟩
                  · go_wp2
                    go_meet
                    exact ⟨congrArg Value.bool (decide_eq_false (p := k = 0 ∨ (bt s a = 48 ∧ 1 < k)) (by omega)).symm, rfl⟩
              case rest =>
                obtain ⟨rfl, rfl⟩ := hcut
                by_cases c1 : k = 0 ∨ (bt s a = 48 ∧ 1 < k)
                · have HP2 := Lib.hid (show parseS (bt s) s.size = ([], 3) by rw [← HQ.out]; unfold parse; rw [HDE.out, if_pos (by omega)])
                  rw [decide_eq_true c1]
                  clear c1
                  go_wp2
                  go_ret2
                  rw [HP2.out]
                  obtain ⟨y, hy⟩ := beyond_of (show Below w.heap.size w (wc.alloc (.cells #[] 3)) from (HB.out.alloc (HB.out.size) _))
                  exact ⟨_, _, _, y, rfl, hy, ⟨rfl, by omega, by omega, by unfold maxLen; omega, .inl rfl⟩⟩
                · have HQ1 := Lib.hid (show parseS (bt s) s.size = if 1024 ≤ vv then ([], 2) else if vv ≤ out.getLastD (-1) then ([], 3) else if a + k < s.size ∧ bt s (a + k) = 32 then parse (bt s) s.size f (a + k + 1) (out ++ [vv]) else if a + k + 1 = s.size ∧ bt s (a + k) = 125 then (out ++ [vv], 0) else ([], 3) by
                    rw [← HQ.out]; conv => { lhs; unfold parse }
                    rw [HDE.out, HV.out, if_neg (fun h => c1 (by omega))])
                  have hk0 : 0 < k := by omega
                  rw [decide_eq_false c1]
                  clear c1
                  by_cases h5 : 1024 ≤ vv
                  · have HP2 := Lib.hid (HQ1.out.trans (if_pos h5))
                    have hn5 : 1023 < n := by
                      by_cases hs5 : n < 100000
                      · have := HC3.out hs5; omega
                      · omega
                    go_wp2
                    go_ret2
                    rw [HP2.out]
                    obtain ⟨y, hy⟩ := beyond_of (show Below w.heap.size w (wc.alloc (.cells #[] 3)) from (HB.out.alloc (HB.out.size) _))
                    exact ⟨_, _, _, y, rfl, hy, ⟨rfl, by omega, by omega, by unfold maxLen; omega, .inl rfl⟩⟩
                  · have e5 : vv = n := by
                      by_cases hs5 : n < 100000
                      · exact (HC3.out hs5).symm
                      · have := HC4.out (by omega); omega
                    subst e5
                    have HQ2 := Lib.hid (HQ1.out.trans (if_neg h5))
                    have hn1 : ¬ 1023 < vv := by omega
                    clear HQ1 HC3 HC4 HC HV
                    have HON := Lib.hid (HMM.out ▸ HO.out : Own wc w.heap.size 3 (.slice q m c) out)
                    generalize out.getLastD (-1) = lst at HQ2 HLA
                    go_upto_region 17 with fail
                    go_cut [87] from 75 to 87 (fun c wx => c = .bool (decide (vv ≤ lst)) ∧ wx = wc)
                    case first =>
                      rcases HLA.out with ⟨hm0, hl0⟩ | ⟨jj, bk, off, hj, hq, hbk, hcell⟩
                      · subst hm0 hl0
                        go_wp2
                        go_meet
                        exact ⟨congrArg Value.bool (decide_eq_false (p := vv ≤ -1) (by omega)).symm, rfl⟩
                      · subst hj hq
                        go_wp2
                        go_meet
                        first | exact ⟨rfl, rfl⟩ | exact ⟨congrArg Value.bool (by simp), rfl⟩
                    case rest =>
                      obtain ⟨rfl, rfl⟩ := hcut
                      by_cases c3 : vv ≤ lst
                      · have HP2 := Lib.hid (HQ2.out.trans (if_pos c3))
                        rw [decide_eq_true c3]
                        clear c3
                        go_wp2
                        go_ret2
                        rw [HP2.out]
                        obtain ⟨y, hy⟩ := beyond_of (show Below w.heap.size w (wc.alloc (.cells #[] 3)) from (HB.out.alloc (HB.out.size) _))
                        exact ⟨_, _, _, y, rfl, hy, ⟨rfl, by omega, by omega, by unfold maxLen; omega, .inl rfl⟩⟩
                      · have HQ3 := Lib.hid (HQ2.out.trans (if_neg c3))
                        rw [decide_eq_false c3]
                        clear c3 HQ2
                        have HL3 := Lib.hid (show out.length ≤ 1000000 by rw [← HMM.out]; omega)
                        go_wp2_with (at_builtin; refine wpList_app wc rfl _ _ _ rfl uI tI HON.out HB.out.size HL3.out vv rfl rfl ?_)
                        intro v' w' hown hbel
                        have HB2 := Lib.hid (HB.out.trans hbel); clear hbel
                        have HO2 := Lib.hid hown
                        obtain ⟨q2, c2, rfl, hm2, hc2, hr2⟩ := hown.slice
                        clear hown
                        have HI2 := Lib.hid (show IsAt q2 (out ++ [vv]).length c2 (out ++ [vv]) w' from ⟨rfl, by simp; have := HMM.out; omega, hm2, hc2, hr2⟩)
                        clear hm2 hc2 hr2
                        obtain ⟨m2, hm2⟩ : ∃ m2, m2 = (out ++ [vv]).length := ⟨_, rfl⟩
                        rw [← hm2] at HO2 HI2 ⊢
                        have HM2 := Lib.hid hm2; clear hm2
                        go_upto_region 20 with fail
                        go_cut [102] from 93 to 102 (fun c wx => c = .bool (decide (a + k < s.size ∧ bt s (a + k) = 32)) ∧ wx = w')
                        case first =>
                          by_cases h8 : a + k < s.size
                          · by_cases h9 : bt s (a + k) = 32
                            · have h9' : (bt s (a + k) == 32) = true := beq_iff_eq.2 h9
                              go_wp2
                              go_meet
                              exact ⟨congrArg Value.bool (decide_eq_true (p := a + k < s.size ∧ bt s (a + k) = 32) ⟨h8, h9⟩).symm, rfl⟩
                            · have h9' : (bt s (a + k) == 32) = false := beq_eq_false_iff_ne.2 h9
                              go_wp2
                              go_meet
                              exact ⟨congrArg Value.bool (decide_eq_false (p := a + k < s.size ∧ bt s (a + k) = 32) (fun h => h9 h.2)).symm, rfl⟩
                          · go_wp2
                            go_meet
                            exact ⟨congrArg Value.bool (decide_eq_false (p := a + k < s.size ∧ bt s (a + k) = 32) (fun h => h8 h.1)).symm, rfl⟩
                        case rest =>
                          obtain ⟨rfl, rfl⟩ := hcut
                          by_cases c4 : a + k < s.size ∧ bt s (a + k) = 32
                          · have HP4 := Lib.hid (HQ3.out.trans (if_pos c4))
                            rw [decide_eq_true c4]
                            obtain ⟨c4, -⟩ := c4
                            go_wp2
                            go_roundw
                            case rel => exact ⟨a + k + 1, f, out ++ [vv], by go_num, by simp; have := HMM.out; omega, by omega, by omega, Lib.hid HP4.out.symm, HO2, HB2⟩
                            case measure => simp [intOf]; omega
                          · have HP4 := Lib.hid (HQ3.out.trans (if_neg c4))
                            rw [decide_eq_false c4]
                            clear c4
                            by_cases c5 : a + k + 1 = s.size
                            · by_cases c6 : bt s (a + k) = 125
                              · have HP5 := Lib.hid (HP4.out.trans (if_pos ⟨c5, c6⟩))
                                have hb9 : bt s (s.size - 1) = 125 := by rw [show s.size - 1 = a + k by omega]; exact c6
                                have hb8 : (bt s (s.size - 1) == 125) = true := beq_iff_eq.2 hb9
                                have hb7 : (bt s (a + k) == 125) = true := beq_iff_eq.2 c6
                                go_wp2
                                go_ret2
                                rw [HP5.out]
                                obtain ⟨y, hy⟩ := beyond_of HB2.out
                                exact ⟨_, _, _, y, rfl, hy, HI2.out⟩
                              · have HP5 := Lib.hid (HP4.out.trans (if_neg (fun h => c6 h.2)))
                                have hb9 : ¬ bt s (s.size - 1) = 125 := by rw [show s.size - 1 = a + k by omega]; exact c6
                                have hb8 : (bt s (s.size - 1) == 125) = false := beq_eq_false_iff_ne.2 hb9
                                have hb7 : (bt s (a + k) == 125) = false := beq_eq_false_iff_ne.2 c6
                                go_wp2
                                go_ret2
                                rw [HP5.out]
                                obtain ⟨y, hy⟩ := beyond_of (show Below w.heap.size w (wc.alloc (.cells #[] 3)) from (HB2.out.alloc (HB2.out.size) _))
                                exact ⟨_, _, _, y, rfl, hy, ⟨rfl, by omega, by omega, by unfold maxLen; omega, .inl rfl⟩⟩
                            · have HP5 := Lib.hid (HP4.out.trans (if_neg (fun h => c5 h.1)))
                              go_wp2
                              go_ret2
                              rw [HP5.out]
                              obtain ⟨y, hy⟩ := beyond_of (show Below w.heap.size w (wc.alloc (.cells #[] 3)) from (HB2.out.alloc (HB2.out.size) _))
                              exact ⟨_, _, _, y, rfl, hy, ⟨rfl, by omega, by omega, by unfold maxLen; omega, .inl rfl⟩⟩
    · have HP := Lib.hid (show parseS (bt s) s.size = ([], 3) by unfold parseS; rw [if_pos (.inr h0)])
      have h0 : (bt s 0 != 123) = true := bne_iff_ne.2 h0
      go_enter Tryd.func52, Tryd.ntmps52
      go_wp2
      go_ret2
      rw [HP.out]
      obtain ⟨y, hy⟩ := beyond_of (show Below w.heap.size w (w.alloc (.cells #[] 3)) from (by repeat (first | assumption | exact Below.refl _ _ | exact below_beyond _ _ | refine Below.beyond ?_ (by (try simp [size_beyond]) <;> omega) _ | refine Below.drew ?_ | refine Go.Rw.below_drewN ?_ _ | refine Go.Rw.below_setRow ?_ (by (try simp [size_beyond]) <;> omega) _ | refine Below.alloc ?_ (by (try simp [size_beyond]) <;> omega) _ | refine Below.setCell ?_ (by (try simp [size_beyond]) <;> omega) _)))
      exact ⟨_, _, _, y, rfl, hy, ⟨rfl, by omega, by omega, by unfold maxLen; omega, .inl rfl⟩⟩
end Go.Proofs.YtjneboajbmabbaaDoor.ref1
