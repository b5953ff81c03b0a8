/-
  MonoidCounts: the walk.
-/
import Derived.Test.YtfpmimfglikklaaSum
import Derived.Test.YtfpmimfglikklaaPlan
import Derived.Test.YtfpmimfglikklaaRef
import Derived.Test.YtfpmimfglikklaaTimes
set_option linter.unusedSimpArgs false
set_option linter.unusedVariables false
namespace Go.Proofs.Ytfpmimfglikklaa.mono
open Go.RowKit Go.Own
set_option maxHeartbeats 4000000
set_option maxRecDepth 100000

theorem cInfo : (Try.prog.info? 3).map (fun i => (i.zero, i.size, i.bytes)) = some (some (.int .i64 0), 1, 8) := by kernel_rfl

theorem ownsRow_below {B : Nat} {w w' : World} (hb : Below w.heap.size w w') {e : TypeId} {size : Nat} {v : Value} {n : Nat} {xs : List Value} (h : w.ownsRow B e size v n xs) : w'.ownsRow B e size v n xs := by
  refine ⟨h.1, ?_⟩
  rcases h.2 with hn | ⟨g, cap, cur, rfl, hb', hgg, rest⟩
  · exact .inl hn
  · exact .inr ⟨g, cap, cur, rfl, hb', (hb.block g (Array.getElem?_eq_some_iff.1 hgg).1).trans hgg, rest⟩

def cellsF (K M : Int) (V' : Nat → Bool) (k : Nat) : List Value := (List.range k).map (fun i => .int .i64 (valB K M (V' i)))
theorem cellsF_succ (K M : Int) (V' : Nat → Bool) (k : Nat) : cellsF K M V' (k + 1) = cellsF K M V' k ++ [.int .i64 (valB K M (V' k))] := by
  unfold cellsF; rw [List.range_succ, List.map_append]; rfl

theorem new_cell (X : World) (v : Value) {t : TypeId} : ∀ (j : Nat) (u : Value), [v][j]? = some u → (X.alloc (.cells #[v] t)).cell? ((⟨X.heap.size, 0, none⟩ : Addr).add j) = some u := by
  intro j u hu
  match j with
  | 0 => simp at hu; subst hu; simp [go_sem, Addr.add]
  | j + 1 => simp at hu
theorem new_one (v : Int) : ∀ u ∈ [Value.int .i64 v], u.oneCell' = true := by
  intro u hu; simp at hu; subst hu; rfl

theorem owns_slice {w : World} {B : Nat} {e : TypeId} {v : Value} {k : Nat} {K M : Int} {V' : Nat → Bool} (h : w.ownsRow B e 1 v k (cellsF K M V' k)) :
    (v = .slice none 0 0 ∧ k = 0) ∨ ∃ (c g : Nat), v = .slice (some ⟨g, 0, none⟩) k c ∧ g < w.heap.size ∧ (∀ i, i < k → w.cell? ⟨g, i, none⟩ = some (.int .i64 (valB K M (V' i)))) ∧ k ≤ c ∧ c ≤ maxLen := by
  rcases h.2 with ⟨rfl, hk⟩ | ⟨g, cap, cur, rfl, hb, hgg, hn, hc, hs, ht⟩
  · exact .inl ⟨rfl, hk⟩
  · refine .inr ⟨cap, g, rfl, (Array.getElem?_eq_some_iff.1 hgg).1, fun i hi => ?_, hn, hc⟩
    have e := World.ownsRow.cells h (g := g) rfl i (.int .i64 (valB K M (V' i))) (by unfold cellsF; simp [hi])
    have e2 : (⟨g, 0, none⟩ : Addr).add i = ⟨g, i, none⟩ := by unfold Addr.add; split <;> simp_all
    rw [← e2]; exact e

theorem counts_walk (K N M cut : Int) (q : Option Addr) (n cap b off : Nat) (V' : Nat → Bool) (w : World) (hn : n ≤ cap) (hc : cap ≤ 9223372036854775807)
    (hq : 0 < n → q = some ⟨b, off, none⟩ ∧ b < w.heap.size) (hx : ∀ i, i < n → w.cell? ⟨b, off + i, none⟩ = some (.bool (V' i))) :
    Calls Try.prog 4 #[.agg #[.int .i64 K, .int .i64 N, .int .i64 M], .slice q n cap, .int .i64 cut] w fun e w' => e = .returned (.bool true) ∧ ∃ x, w' = beyond w x := by
  have HX := Lib.hid hx; clear hx
  have HQ := Lib.hid hq; clear hq
  obtain ⟨i0, hi, hz0, hz1, hz2⟩ := info_parts cInfo
  have Hi := Lib.hid hi; clear hi
  go_enter Try.func4, Try.ntmps4
  by_cases hsm : n ≤ 200

  · go_wp2_with (first | (go_at_call 10; refine (fix_calls _ _ _ _).mono ?_; rintro e w1 ⟨K', N', M', hV, rfl, x1, rfl⟩) | (go_at_call 13; refine (identity_calls hV _).mono ?_; rintro e w2 ⟨rfl, x2, rfl⟩))
    go_loopw [7, 8, 9, 10, 11] (fun vy vn vs vl i wr => ∃ (k : Nat) (Y Z : Int), vy = .int .i64 Y ∧ vn = .int .i64 Z ∧ i = .int .i64 k ∧ 0 ≤ Y ∧ 0 ≤ Z ∧ Y + Z = k ∧ k ≤ n ∧ vs = .int .i64 (ofF K' N' M' Y Z) ∧
        Hid (ofF K' N' M' Y Z = sumF K' N' M' (fun i => valB K' M' (V' i)) k) ∧ Hid (wr.ownsRow (w.heap.size + 1) 3 1 vl k (cellsF K' M' V' k)) ∧
        ∃ y, wr = beyond (w.alloc (.cells #[.int .i64 K', .int .i64 N', .int .i64 M'] 23)) y)
        (fun _ _ _ _ i _ => n - (intOf i).toNat)
    case atStart =>
      have e0 : idn K' = ofF K' N' M' 0 0 := by simpa using ofF_00 hV
      exact ⟨0, 0, 0, rfl, rfl, rfl, by omega, by omega, by omega, by omega, by rw [e0], Lib.hid (by rw [← e0]; rfl), Lib.hid (World.ownsRow_nil _ _ _ _), beyond_of (by repeat (first | assumption | exact Below.refl _ _ | exact below_beyond _ _ | refine Below.beyond ?_ (by (try simp [size_beyond]) <;> omega) _ | refine Below.drew ?_ | refine Below.alloc ?_ (by (try simp [size_beyond]) <;> omega) _ | refine Below.setCell ?_ (by (try simp [size_beyond]) <;> omega) _))⟩
    case round =>
      obtain ⟨k, Y, Z, rfl, rfl, rfl, hY, hZ, hYZ, hk, rfl, HS, HO, y, rfl⟩ := hrel
      by_cases hlt : k < n
      · obtain ⟨rfl, hb⟩ := HQ.out (by omega)
        have hin : inW b w = true := inW_iff.2 hb
        have hxk := HX.out k (by omega)
        by_cases hv : V' k = true
        · rw [hv] at hxk
          have HV := Lib.hid (hv); clear hv
          go_wp2
          refine wp_region_plan (fun w' => ∃ x, w' = beyond (w.alloc (.cells #[.int .i64 K', .int .i64 N', .int .i64 M'] 23)) x) [([0,1,2,3,4,5], 6), ([], 7), ([], 8)] [9] (by kernel_rfl) (by kernel_rfl) (by intro _ _ d _ _ h; cases d <;> exact h) (beyond_of (by repeat (first | assumption | exact Below.refl _ _ | exact below_beyond _ _ | refine Below.beyond ?_ (by (try simp [size_beyond]) <;> omega) _ | refine Below.drew ?_ | refine Below.alloc ?_ (by (try simp [size_beyond]) <;> omega) _ | refine Below.setCell ?_ (by (try simp [size_beyond]) <;> omega) _))) ?_
          simp only [wpSegs, pick, List.filterMap, List.size_toArray, List.getElem?_toArray, List.getElem?_cons_zero, List.getElem?_cons_succ]
          repeat (go_big_quiet_step (fail))
          refine wpQuiet_nil ?_
          go_wp2_with ((go_at_call 15; refine (value_calls hV _ _).mono ?_; rintro e w2 ⟨rfl, x4, rfl⟩))
          refine ⟨beyond_of (by repeat (first | assumption | exact Below.refl _ _ | exact below_beyond _ _ | refine Below.beyond ?_ (by (try simp [size_beyond]) <;> omega) _ | refine Below.drew ?_ | refine Below.alloc ?_ (by (try simp [size_beyond]) <;> omega) _ | refine Below.setCell ?_ (by (try simp [size_beyond]) <;> omega) _)), wpQuiet_nil ?_⟩
          go_wp2
          refine ⟨beyond_of (by repeat (first | assumption | exact Below.refl _ _ | exact below_beyond _ _ | refine Below.beyond ?_ (by (try simp [size_beyond]) <;> omega) _ | refine Below.drew ?_ | refine Below.alloc ?_ (by (try simp [size_beyond]) <;> omega) _ | refine Below.setCell ?_ (by (try simp [size_beyond]) <;> omega) _)), wpQuiet_nil ?_⟩
          generalize hX : beyond (beyond (w.alloc _) y).drew x4 = X
          have hXb : Below (beyond (w.alloc (.cells #[.int .i64 K', .int .i64 N', .int .i64 M'] 23)) y).heap.size (beyond (w.alloc (.cells #[.int .i64 K', .int .i64 N', .int .i64 M'] 23)) y) X := hX ▸ (by repeat (first | assumption | exact Below.refl _ _ | exact below_beyond _ _ | refine Below.beyond ?_ (by (try simp [size_beyond]) <;> omega) _ | refine Below.drew ?_ | refine Below.alloc ?_ (by (try simp [size_beyond]) <;> omega) _ | refine Below.setCell ?_ (by (try simp [size_beyond]) <;> omega) _))
          have hXc : Below (w.alloc (.cells #[.int .i64 K', .int .i64 N', .int .i64 M'] 23)).heap.size (w.alloc (.cells #[.int .i64 K', .int .i64 N', .int .i64 M'] 23)) X := hX ▸ (by repeat (first | assumption | exact Below.refl _ _ | exact below_beyond _ _ | refine Below.beyond ?_ (by (try simp [size_beyond]) <;> omega) _ | refine Below.drew ?_ | refine Below.alloc ?_ (by (try simp [size_beyond]) <;> omega) _ | refine Below.setCell ?_ (by (try simp [size_beyond]) <;> omega) _))
          have HO2 := Lib.hid (ownsRow_below hXb HO.out)
          clear hX
          have hsz : w.heap.size + 1 ≤ X.heap.size := by have := hXc.size; simpa using this
          refine wpList_append_own _ rfl _ _ 34 rfl (w.heap.size + 1) 3 i0 (.int .i64 0) 1 8 Try.underlying34 Hi.out hz0 hz1 hz2 rfl (by omega) _ _ _ rfl (HO2.out.alloc _) _ 1 1 [.int .i64 (valB K' M' true)] rfl rfl (new_cell _ _) (new_one _) (by unfold maxLen; omega) (by omega) (by simp; omega) ?_
          intro v' w' hown hgr _
          have hb3 : Below (w.alloc (.cells #[.int .i64 K', .int .i64 N', .int .i64 M'] 23)).heap.size (w.alloc (.cells #[.int .i64 K', .int .i64 N', .int .i64 M'] 23)) w' :=
            (hXc.alloc (by simpa using hsz) _).grown hgr (by simp; omega) (fun r hr => by simpa using (HO2.out.lt r hr).1)
          obtain ⟨z, rfl⟩ := beyond_of hb3
          have HO3 := Lib.hid hown
          clear hown hgr hb3
          simp only [Act.put, List.setIfInBounds_toArray, List.set_cons_succ, List.set_cons_zero]
          go_wp2
          refine ⟨beyond_of (by repeat (first | assumption | exact Below.refl _ _ | exact below_beyond _ _ | refine Below.beyond ?_ (by (try simp [size_beyond]) <;> omega) _ | refine Below.drew ?_ | refine Below.alloc ?_ (by (try simp [size_beyond]) <;> omega) _ | refine Below.setCell ?_ (by (try simp [size_beyond]) <;> omega) _)), ?_⟩
          repeat (go_big_quiet_step (fail))
          refine wpQuiet_nil ?_
          go_wp2
          refine wp_region_beyond (by kernel_rfl) (by kernel_rfl) ?_
          repeat (go_big_quiet_step (first | (go_at_call 15; exact quiet_beyond (value_calls hV _ _)) | (go_at_call 16; exact quiet_beyond (add_calls hV _ _ _))))
          refine wpQuiet_nil ?_
          rintro _ ⟨x5, rfl⟩
          go_wp2
          go_roundw
          case rel => exact ⟨k + 1, Y + 1, Z, by go_num, by go_num, by go_num, by omega, by omega, by omega, by omega, by rw [ofF_yes hV hY hZ], Lib.hid (by rw [← ofF_yes hV hY hZ, HS.out]; show _ = add K' N' M' _ (valB K' M' (V' k)); rw [HV.out]), Lib.hid (by rw [cellsF_succ, HV.out]; exact ownsRow_below (by repeat (first | assumption | exact Below.refl _ _ | exact below_beyond _ _ | refine Below.beyond ?_ (by (try simp [size_beyond]) <;> omega) _ | refine Below.drew ?_ | refine Below.alloc ?_ (by (try simp [size_beyond]) <;> omega) _ | refine Below.setCell ?_ (by (try simp [size_beyond]) <;> omega) _)) HO3.out), beyond_of (by repeat (first | assumption | exact Below.refl _ _ | exact below_beyond _ _ | refine Below.beyond ?_ (by (try simp [size_beyond]) <;> omega) _ | refine Below.drew ?_ | refine Below.alloc ?_ (by (try simp [size_beyond]) <;> omega) _ | refine Below.setCell ?_ (by (try simp [size_beyond]) <;> omega) _))⟩
          case measure => simp [intOf]; omega
        · rw [Bool.eq_false_iff.2 hv] at hxk
          have HV := Lib.hid (Bool.eq_false_iff.2 hv); clear hv
          go_wp2
          refine wp_region_plan (fun w' => ∃ x, w' = beyond (w.alloc (.cells #[.int .i64 K', .int .i64 N', .int .i64 M'] 23)) x) [([0,1,2,3,4,5], 6), ([], 7), ([], 8)] [9] (by kernel_rfl) (by kernel_rfl) (by intro _ _ d _ _ h; cases d <;> exact h) (beyond_of (by repeat (first | assumption | exact Below.refl _ _ | exact below_beyond _ _ | refine Below.beyond ?_ (by (try simp [size_beyond]) <;> omega) _ | refine Below.drew ?_ | refine Below.alloc ?_ (by (try simp [size_beyond]) <;> omega) _ | refine Below.setCell ?_ (by (try simp [size_beyond]) <;> omega) _))) ?_
          simp only [wpSegs, pick, List.filterMap, List.size_toArray, List.getElem?_toArray, List.getElem?_cons_zero, List.getElem?_cons_succ]
          repeat (go_big_quiet_step (fail))
          refine wpQuiet_nil ?_
          go_wp2_with ((go_at_call 15; refine (value_calls hV _ _).mono ?_; rintro e w2 ⟨rfl, x4, rfl⟩))
          refine ⟨beyond_of (by repeat (first | assumption | exact Below.refl _ _ | exact below_beyond _ _ | refine Below.beyond ?_ (by (try simp [size_beyond]) <;> omega) _ | refine Below.drew ?_ | refine Below.alloc ?_ (by (try simp [size_beyond]) <;> omega) _ | refine Below.setCell ?_ (by (try simp [size_beyond]) <;> omega) _)), wpQuiet_nil ?_⟩
          go_wp2
          refine ⟨beyond_of (by repeat (first | assumption | exact Below.refl _ _ | exact below_beyond _ _ | refine Below.beyond ?_ (by (try simp [size_beyond]) <;> omega) _ | refine Below.drew ?_ | refine Below.alloc ?_ (by (try simp [size_beyond]) <;> omega) _ | refine Below.setCell ?_ (by (try simp [size_beyond]) <;> omega) _)), wpQuiet_nil ?_⟩
          generalize hX : beyond (beyond (w.alloc _) y).drew x4 = X
          have hXb : Below (beyond (w.alloc (.cells #[.int .i64 K', .int .i64 N', .int .i64 M'] 23)) y).heap.size (beyond (w.alloc (.cells #[.int .i64 K', .int .i64 N', .int .i64 M'] 23)) y) X := hX ▸ (by repeat (first | assumption | exact Below.refl _ _ | exact below_beyond _ _ | refine Below.beyond ?_ (by (try simp [size_beyond]) <;> omega) _ | refine Below.drew ?_ | refine Below.alloc ?_ (by (try simp [size_beyond]) <;> omega) _ | refine Below.setCell ?_ (by (try simp [size_beyond]) <;> omega) _))
          have hXc : Below (w.alloc (.cells #[.int .i64 K', .int .i64 N', .int .i64 M'] 23)).heap.size (w.alloc (.cells #[.int .i64 K', .int .i64 N', .int .i64 M'] 23)) X := hX ▸ (by repeat (first | assumption | exact Below.refl _ _ | exact below_beyond _ _ | refine Below.beyond ?_ (by (try simp [size_beyond]) <;> omega) _ | refine Below.drew ?_ | refine Below.alloc ?_ (by (try simp [size_beyond]) <;> omega) _ | refine Below.setCell ?_ (by (try simp [size_beyond]) <;> omega) _))
          have HO2 := Lib.hid (ownsRow_below hXb HO.out)
          clear hX
          have hsz : w.heap.size + 1 ≤ X.heap.size := by have := hXc.size; simpa using this
          refine wpList_append_own _ rfl _ _ 34 rfl (w.heap.size + 1) 3 i0 (.int .i64 0) 1 8 Try.underlying34 Hi.out hz0 hz1 hz2 rfl (by omega) _ _ _ rfl (HO2.out.alloc _) _ 1 1 [.int .i64 (valB K' M' false)] rfl rfl (new_cell _ _) (new_one _) (by unfold maxLen; omega) (by omega) (by simp; omega) ?_
          intro v' w' hown hgr _
          have hb3 : Below (w.alloc (.cells #[.int .i64 K', .int .i64 N', .int .i64 M'] 23)).heap.size (w.alloc (.cells #[.int .i64 K', .int .i64 N', .int .i64 M'] 23)) w' :=
            (hXc.alloc (by simpa using hsz) _).grown hgr (by simp; omega) (fun r hr => by simpa using (HO2.out.lt r hr).1)
          obtain ⟨z, rfl⟩ := beyond_of hb3
          have HO3 := Lib.hid hown
          clear hown hgr hb3
          simp only [Act.put, List.setIfInBounds_toArray, List.set_cons_succ, List.set_cons_zero]
          go_wp2
          refine ⟨beyond_of (by repeat (first | assumption | exact Below.refl _ _ | exact below_beyond _ _ | refine Below.beyond ?_ (by (try simp [size_beyond]) <;> omega) _ | refine Below.drew ?_ | refine Below.alloc ?_ (by (try simp [size_beyond]) <;> omega) _ | refine Below.setCell ?_ (by (try simp [size_beyond]) <;> omega) _)), ?_⟩
          repeat (go_big_quiet_step (fail))
          refine wpQuiet_nil ?_
          go_wp2
          refine wp_region_beyond (by kernel_rfl) (by kernel_rfl) ?_
          repeat (go_big_quiet_step (first | (go_at_call 15; exact quiet_beyond (value_calls hV _ _)) | (go_at_call 16; exact quiet_beyond (add_calls hV _ _ _))))
          refine wpQuiet_nil ?_
          rintro _ ⟨x5, rfl⟩
          go_wp2
          go_roundw
          case rel => exact ⟨k + 1, Y, Z + 1, by go_num, by go_num, by go_num, by omega, by omega, by omega, by omega, by rw [ofF_no hV hY hZ], Lib.hid (by rw [← ofF_no hV hY hZ, HS.out]; show _ = add K' N' M' _ (valB K' M' (V' k)); rw [HV.out]), Lib.hid (by rw [cellsF_succ, HV.out]; exact ownsRow_below (by repeat (first | assumption | exact Below.refl _ _ | exact below_beyond _ _ | refine Below.beyond ?_ (by (try simp [size_beyond]) <;> omega) _ | refine Below.drew ?_ | refine Below.alloc ?_ (by (try simp [size_beyond]) <;> omega) _ | refine Below.setCell ?_ (by (try simp [size_beyond]) <;> omega) _)) HO3.out), beyond_of (by repeat (first | assumption | exact Below.refl _ _ | exact below_beyond _ _ | refine Below.beyond ?_ (by (try simp [size_beyond]) <;> omega) _ | refine Below.drew ?_ | refine Below.alloc ?_ (by (try simp [size_beyond]) <;> omega) _ | refine Below.setCell ?_ (by (try simp [size_beyond]) <;> omega) _))⟩
          case measure => simp [intOf]; omega
      · obtain ⟨u, hu⟩ : ∃ u, IntKind.u64.wrap cut = u := ⟨_, rfl⟩
        have bu := (u64_range cut).1
        rw [hu] at bu
        have hm0 : 0 ≤ u % ((k : Int) + 1) := Int.emod_nonneg u (by omega)
        have hm1 : u % ((k : Int) + 1) < (k : Int) + 1 := Int.emod_lt_of_pos u (by omega)
        have hO := HO.out
        rcases owns_slice hO with ⟨rfl, hk0⟩ | ⟨c2, g2, rfl, hg2, hx2, hc2, hc2'⟩
        · subst hk0
          obtain rfl : Y = 0 := by omega
          obtain rfl : Z = 0 := by omega
          have e0 : ofF K' N' M' 0 0 = idn K' := by have := ofF_00 hV; simp at this; exact this.symm
          have hz : u % (((0 : Nat) : Int) + 1) = 0 := by omega
          clear hO HO HS
          have rc := fun w => rof_calls hV 0 0 (by omega) (by omega) w
          rw [e0] at rc
          have RC := Lib.hid rc; clear rc
          rw [e0]
          go_wp2_with (first | (go_at_call 11; refine (plain_law _ _ _ _).mono ?_; rintro e w2 ⟨rfl, x4, rfl⟩) | (go_at_call 14; refine (RC.out _).mono ?_; rintro e w2 ⟨rfl, x5, rfl⟩))
          have cs0 := fun w => sum_calls hV none 0 0 0 0 (fun _ => 0) w (by omega) (by omega) (by omega)
          rw [show sumF K' N' M' (fun _ => 0) 0 = idn K' from rfl] at cs0
          have CS0 := Lib.hid cs0; clear cs0
          have ca := fun w => add_calls hV (idn K') (idn K') w
          rw [add_id hV (idn_in hV).1 (idn_in hV).2] at ca
          have CA := Lib.hid ca; clear ca
          refine wp_region_beyond (by kernel_rfl) (by kernel_rfl) ?_
          repeat (go_big_quiet_step (first | (go_at_call 12; exact quiet_beyond (known_calls _)) | (go_at_call 18; exact quiet_beyond (CS0.out _)) | (go_at_call 16; exact quiet_beyond (CA.out _))))
          refine wpQuiet_nil ?_
          rintro _ ⟨x9, rfl⟩
          go_wp2
          go_ret
          exact ⟨rfl, beyond_of (by repeat (first | assumption | exact Below.refl _ _ | exact below_beyond _ _ | refine Below.beyond ?_ (by (try simp [size_beyond]) <;> omega) _ | refine Below.drew ?_ | refine Below.alloc ?_ (by (try simp [size_beyond]) <;> omega) _ | refine Below.setCell ?_ (by (try simp [size_beyond]) <;> omega) _))⟩
        · unfold maxLen at hc2'
          clear HO hO
          have HX2 := Lib.hid hx2; clear hx2
          go_wp2_with (first | (go_at_call 11; refine (plain_law _ _ _ _).mono ?_; rintro e w2 ⟨rfl, x4, rfl⟩) | (go_at_call 14; refine (rof_calls hV _ _ (by omega) (by omega) _).mono ?_; rintro e w2 ⟨rfl, x5, rfl⟩))
          generalize hX : beyond (beyond (beyond (w.alloc _) y) x4) x5 = X
          have hXb : Below (beyond (w.alloc (.cells #[.int .i64 K', .int .i64 N', .int .i64 M'] 23)) y).heap.size (beyond (w.alloc (.cells #[.int .i64 K', .int .i64 N', .int .i64 M'] 23)) y) X := hX ▸ (by repeat (first | assumption | exact Below.refl _ _ | exact below_beyond _ _ | refine Below.beyond ?_ (by (try simp [size_beyond]) <;> omega) _ | refine Below.drew ?_ | refine Below.alloc ?_ (by (try simp [size_beyond]) <;> omega) _ | refine Below.setCell ?_ (by (try simp [size_beyond]) <;> omega) _))
          have hXc : Below (w.alloc (.cells #[.int .i64 K', .int .i64 N', .int .i64 M'] 23)).heap.size (w.alloc (.cells #[.int .i64 K', .int .i64 N', .int .i64 M'] 23)) X := hX ▸ (by repeat (first | assumption | exact Below.refl _ _ | exact below_beyond _ _ | refine Below.beyond ?_ (by (try simp [size_beyond]) <;> omega) _ | refine Below.drew ?_ | refine Below.alloc ?_ (by (try simp [size_beyond]) <;> omega) _ | refine Below.setCell ?_ (by (try simp [size_beyond]) <;> omega) _))
          have hXd : Below w.heap.size w X := hX ▸ (by repeat (first | assumption | exact Below.refl _ _ | exact below_beyond _ _ | refine Below.beyond ?_ (by (try simp [size_beyond]) <;> omega) _ | refine Below.drew ?_ | refine Below.alloc ?_ (by (try simp [size_beyond]) <;> omega) _ | refine Below.setCell ?_ (by (try simp [size_beyond]) <;> omega) _))
          have hgX : g2 < X.heap.size := Nat.lt_of_lt_of_le hg2 hXb.size
          have hinX : inW w.heap.size X = true := inW_iff.2 (by have := hXc.size; simp at this; omega)
          have hc0 : X.cell? ⟨w.heap.size, 0, none⟩ = some (.int .i64 K') := (hXc.cell (by simp)).trans (by simp [go_sem])
          have hc1 : X.cell? ⟨w.heap.size, 1, none⟩ = some (.int .i64 N') := (hXc.cell (by simp)).trans (by simp [go_sem])
          have hc2x : X.cell? ⟨w.heap.size, 2, none⟩ = some (.int .i64 M') := (hXc.cell (by simp)).trans (by simp [go_sem])
          have hbX : blockOf X w.heap.size = some (.cells #[.int .i64 K', .int .i64 N', .int .i64 M'] 23) := (hXc.block _ (by simp)).trans (heap_alloc_new w _)
          have HXX := Lib.hid (show ∀ i, i < k → X.cell? ⟨g2, i, none⟩ = some (.int .i64 (valB K' M' (V' i))) from fun i hi => (hXb.cell hg2).trans (HX2.out i hi))
          clear hX HX2
          obtain ⟨kk, hkk⟩ : ∃ kk : Nat, u % ((k : Int) + 1) = kk := ⟨_, (Int.toNat_of_nonneg hm0).symm⟩
          rw [hkk] at hm1 ⊢
          have hS := HS.out
          have sp := sumF_split hV (fun i => valB K' M' (V' i)) kk (k - kk)
          rw [show kk + (k - kk) = k by omega, ← hS] at sp
          have cs0 : ∀ x (m cc : Nat) (p : Option Addr), m = k → (0 < m → p = some ⟨g2, 0, none⟩) → Calls Try.prog 18 #[.agg #[.int .i64 K', .int .i64 N', .int .i64 M'], .slice p m cc] (beyond X x) fun e w' => e = .returned (.int .i64 (ofF K' N' M' Y Z)) ∧ ∃ y, w' = beyond (beyond X x) y := fun x m cc p h1 h2 => by
            subst h1; rw [hS]
            exact sum_calls hV p _ cc g2 0 (fun i => valB K' M' (V' i)) _ (by omega) (fun h => ⟨h2 h, Nat.lt_of_lt_of_le hgX (below_beyond X x).size⟩) (fun i hi => by rw [Nat.zero_add]; exact ((below_beyond X x).cell hgX).trans (HXX.out _ (by omega)))
          obtain ⟨s1, hs1⟩ : ∃ s1, s1 = sumF K' N' M' (fun i => valB K' M' (V' (kk + i))) (k - kk) := ⟨_, rfl⟩
          obtain ⟨s2, hs2⟩ : ∃ s2, s2 = sumF K' N' M' (fun i => valB K' M' (V' i)) kk := ⟨_, rfl⟩
          rw [← hs1, ← hs2] at sp
          have cs1 : ∀ x (m cc : Nat) (p : Option Addr), m = k - kk → (0 < m → p = some ⟨g2, kk, none⟩) → Calls Try.prog 18 #[.agg #[.int .i64 K', .int .i64 N', .int .i64 M'], .slice p m cc] (beyond X x) fun e w' => e = .returned (.int .i64 s1) ∧ ∃ y, w' = beyond (beyond X x) y :=
            fun x m cc p h1 h2 => by
              subst h1; rw [hs1]
              exact sum_calls hV p _ cc g2 kk (fun i => valB K' M' (V' (kk + i))) _ (by omega) (fun h => ⟨h2 h, Nat.lt_of_lt_of_le hgX (below_beyond X x).size⟩) (fun i hi => ((below_beyond X x).cell hgX).trans (HXX.out _ (by omega)))
          have cs2 : ∀ x (m cc : Nat) (p : Option Addr), m = kk → (0 < m → p = some ⟨g2, 0, none⟩) → Calls Try.prog 18 #[.agg #[.int .i64 K', .int .i64 N', .int .i64 M'], .slice p m cc] (beyond X x) fun e w' => e = .returned (.int .i64 s2) ∧ ∃ y, w' = beyond (beyond X x) y :=
            fun x m cc p h1 h2 => by
              subst h1; rw [hs2]
              exact sum_calls hV p _ cc g2 0 (fun i => valB K' M' (V' i)) _ (by omega) (fun h => ⟨h2 h, Nat.lt_of_lt_of_le hgX (below_beyond X x).size⟩) (fun i hi => by rw [Nat.zero_add]; exact ((below_beyond X x).cell hgX).trans (HXX.out _ (by omega)))
          have ca := fun w => add_calls hV s1 s2 w
          rw [sp] at ca
          clear hs1 hs2 sp hS HS
          have CS0 := Lib.hid cs0; clear cs0
          have CS1 := Lib.hid cs1; clear cs1
          have CS2 := Lib.hid cs2; clear cs2
          have CA := Lib.hid ca; clear ca
          refine wp_region_beyond (by kernel_rfl) (by kernel_rfl) ?_
          repeat (go_big_quiet_step (first | (go_at_call 12; exact quiet_beyond (known_calls _)) | (go_at_call 18; first | exact quiet_beyond (CS0.out _ _ _ _ (by omega) (by intro h; first | rfl | omega | (split <;> first | rfl | omega))) | exact quiet_beyond (CS1.out _ _ _ _ (by omega) (by intro h; first | rfl | omega | (split <;> first | rfl | omega))) | exact quiet_beyond (CS2.out _ _ _ _ (by omega) (by intro h; first | rfl | omega | (split <;> first | rfl | omega)))) | (go_at_call 16; exact quiet_beyond (CA.out _))))
          refine wpQuiet_nil ?_
          all_goals (
            rintro _ ⟨x9, rfl⟩
            go_wp2
            all_goals (go_ret; exact ⟨rfl, beyond_of (by exact Below.beyond hXd hXd.size _)⟩))

  · obtain ⟨rfl, hb⟩ := HQ.out (by omega)
    go_wp2_with (first | (go_at_call 10; refine (fix_calls _ _ _ _).mono ?_; rintro e w1 ⟨K', N', M', hV, rfl, x1, rfl⟩) | (go_at_call 13; refine (identity_calls hV _).mono ?_; rintro e w2 ⟨rfl, x2, rfl⟩))
    go_loopw [7, 8, 9, 10, 11] (fun vy vn vs vl i wr => ∃ (k : Nat) (Y Z : Int), vy = .int .i64 Y ∧ vn = .int .i64 Z ∧ i = .int .i64 k ∧ 0 ≤ Y ∧ 0 ≤ Z ∧ Y + Z = k ∧ k ≤ 200 ∧ vs = .int .i64 (ofF K' N' M' Y Z) ∧
        Hid (ofF K' N' M' Y Z = sumF K' N' M' (fun i => valB K' M' (V' i)) k) ∧ Hid (wr.ownsRow (w.heap.size + 1) 3 1 vl k (cellsF K' M' V' k)) ∧
        ∃ y, wr = beyond (w.alloc (.cells #[.int .i64 K', .int .i64 N', .int .i64 M'] 23)) y)
        (fun _ _ _ _ i _ => n - (intOf i).toNat)
    case atStart =>
      have e0 : idn K' = ofF K' N' M' 0 0 := by simpa using ofF_00 hV
      exact ⟨0, 0, 0, rfl, rfl, rfl, by omega, by omega, by omega, by omega, by rw [e0], Lib.hid (by rw [← e0]; rfl), Lib.hid (World.ownsRow_nil _ _ _ _), beyond_of (by repeat (first | assumption | exact Below.refl _ _ | exact below_beyond _ _ | refine Below.beyond ?_ (by (try simp [size_beyond]) <;> omega) _ | refine Below.drew ?_ | refine Below.alloc ?_ (by (try simp [size_beyond]) <;> omega) _ | refine Below.setCell ?_ (by (try simp [size_beyond]) <;> omega) _))⟩
    case round =>
      obtain ⟨k, Y, Z, rfl, rfl, rfl, hY, hZ, hYZ, hk, rfl, HS, HO, y, rfl⟩ := hrel
      by_cases hlt : k < 200
      · have hin : inW b w = true := inW_iff.2 hb
        have hxk := HX.out k (by omega)
        by_cases hv : V' k = true
        · rw [hv] at hxk
          have HV := Lib.hid (hv); clear hv
          go_wp2
          refine wp_region_plan (fun w' => ∃ x, w' = beyond (w.alloc (.cells #[.int .i64 K', .int .i64 N', .int .i64 M'] 23)) x) [([0,1,2,3,4,5], 6), ([], 7), ([], 8)] [9] (by kernel_rfl) (by kernel_rfl) (by intro _ _ d _ _ h; cases d <;> exact h) (beyond_of (by repeat (first | assumption | exact Below.refl _ _ | exact below_beyond _ _ | refine Below.beyond ?_ (by (try simp [size_beyond]) <;> omega) _ | refine Below.drew ?_ | refine Below.alloc ?_ (by (try simp [size_beyond]) <;> omega) _ | refine Below.setCell ?_ (by (try simp [size_beyond]) <;> omega) _))) ?_
          simp only [wpSegs, pick, List.filterMap, List.size_toArray, List.getElem?_toArray, List.getElem?_cons_zero, List.getElem?_cons_succ]
          repeat (go_big_quiet_step (fail))
          refine wpQuiet_nil ?_
          go_wp2_with ((go_at_call 15; refine (value_calls hV _ _).mono ?_; rintro e w2 ⟨rfl, x4, rfl⟩))
          refine ⟨beyond_of (by repeat (first | assumption | exact Below.refl _ _ | exact below_beyond _ _ | refine Below.beyond ?_ (by (try simp [size_beyond]) <;> omega) _ | refine Below.drew ?_ | refine Below.alloc ?_ (by (try simp [size_beyond]) <;> omega) _ | refine Below.setCell ?_ (by (try simp [size_beyond]) <;> omega) _)), wpQuiet_nil ?_⟩
          go_wp2
          refine ⟨beyond_of (by repeat (first | assumption | exact Below.refl _ _ | exact below_beyond _ _ | refine Below.beyond ?_ (by (try simp [size_beyond]) <;> omega) _ | refine Below.drew ?_ | refine Below.alloc ?_ (by (try simp [size_beyond]) <;> omega) _ | refine Below.setCell ?_ (by (try simp [size_beyond]) <;> omega) _)), wpQuiet_nil ?_⟩
          generalize hX : beyond (beyond (w.alloc _) y).drew x4 = X
          have hXb : Below (beyond (w.alloc (.cells #[.int .i64 K', .int .i64 N', .int .i64 M'] 23)) y).heap.size (beyond (w.alloc (.cells #[.int .i64 K', .int .i64 N', .int .i64 M'] 23)) y) X := hX ▸ (by repeat (first | assumption | exact Below.refl _ _ | exact below_beyond _ _ | refine Below.beyond ?_ (by (try simp [size_beyond]) <;> omega) _ | refine Below.drew ?_ | refine Below.alloc ?_ (by (try simp [size_beyond]) <;> omega) _ | refine Below.setCell ?_ (by (try simp [size_beyond]) <;> omega) _))
          have hXc : Below (w.alloc (.cells #[.int .i64 K', .int .i64 N', .int .i64 M'] 23)).heap.size (w.alloc (.cells #[.int .i64 K', .int .i64 N', .int .i64 M'] 23)) X := hX ▸ (by repeat (first | assumption | exact Below.refl _ _ | exact below_beyond _ _ | refine Below.beyond ?_ (by (try simp [size_beyond]) <;> omega) _ | refine Below.drew ?_ | refine Below.alloc ?_ (by (try simp [size_beyond]) <;> omega) _ | refine Below.setCell ?_ (by (try simp [size_beyond]) <;> omega) _))
          have HO2 := Lib.hid (ownsRow_below hXb HO.out)
          clear hX
          have hsz : w.heap.size + 1 ≤ X.heap.size := by have := hXc.size; simpa using this
          refine wpList_append_own _ rfl _ _ 34 rfl (w.heap.size + 1) 3 i0 (.int .i64 0) 1 8 Try.underlying34 Hi.out hz0 hz1 hz2 rfl (by omega) _ _ _ rfl (HO2.out.alloc _) _ 1 1 [.int .i64 (valB K' M' true)] rfl rfl (new_cell _ _) (new_one _) (by unfold maxLen; omega) (by omega) (by simp; omega) ?_
          intro v' w' hown hgr _
          have hb3 : Below (w.alloc (.cells #[.int .i64 K', .int .i64 N', .int .i64 M'] 23)).heap.size (w.alloc (.cells #[.int .i64 K', .int .i64 N', .int .i64 M'] 23)) w' :=
            (hXc.alloc (by simpa using hsz) _).grown hgr (by simp; omega) (fun r hr => by simpa using (HO2.out.lt r hr).1)
          obtain ⟨z, rfl⟩ := beyond_of hb3
          have HO3 := Lib.hid hown
          clear hown hgr hb3
          simp only [Act.put, List.setIfInBounds_toArray, List.set_cons_succ, List.set_cons_zero]
          go_wp2
          refine ⟨beyond_of (by repeat (first | assumption | exact Below.refl _ _ | exact below_beyond _ _ | refine Below.beyond ?_ (by (try simp [size_beyond]) <;> omega) _ | refine Below.drew ?_ | refine Below.alloc ?_ (by (try simp [size_beyond]) <;> omega) _ | refine Below.setCell ?_ (by (try simp [size_beyond]) <;> omega) _)), ?_⟩
          repeat (go_big_quiet_step (fail))
          refine wpQuiet_nil ?_
          go_wp2
          refine wp_region_beyond (by kernel_rfl) (by kernel_rfl) ?_
          repeat (go_big_quiet_step (first | (go_at_call 15; exact quiet_beyond (value_calls hV _ _)) | (go_at_call 16; exact quiet_beyond (add_calls hV _ _ _))))
          refine wpQuiet_nil ?_
          rintro _ ⟨x5, rfl⟩
          go_wp2
          go_roundw
          case rel => exact ⟨k + 1, Y + 1, Z, by go_num, by go_num, by go_num, by omega, by omega, by omega, by omega, by rw [ofF_yes hV hY hZ], Lib.hid (by rw [← ofF_yes hV hY hZ, HS.out]; show _ = add K' N' M' _ (valB K' M' (V' k)); rw [HV.out]), Lib.hid (by rw [cellsF_succ, HV.out]; exact ownsRow_below (by repeat (first | assumption | exact Below.refl _ _ | exact below_beyond _ _ | refine Below.beyond ?_ (by (try simp [size_beyond]) <;> omega) _ | refine Below.drew ?_ | refine Below.alloc ?_ (by (try simp [size_beyond]) <;> omega) _ | refine Below.setCell ?_ (by (try simp [size_beyond]) <;> omega) _)) HO3.out), beyond_of (by repeat (first | assumption | exact Below.refl _ _ | exact below_beyond _ _ | refine Below.beyond ?_ (by (try simp [size_beyond]) <;> omega) _ | refine Below.drew ?_ | refine Below.alloc ?_ (by (try simp [size_beyond]) <;> omega) _ | refine Below.setCell ?_ (by (try simp [size_beyond]) <;> omega) _))⟩
          case measure => simp [intOf]; omega
        · rw [Bool.eq_false_iff.2 hv] at hxk
          have HV := Lib.hid (Bool.eq_false_iff.2 hv); clear hv
          go_wp2
          refine wp_region_plan (fun w' => ∃ x, w' = beyond (w.alloc (.cells #[.int .i64 K', .int .i64 N', .int .i64 M'] 23)) x) [([0,1,2,3,4,5], 6), ([], 7), ([], 8)] [9] (by kernel_rfl) (by kernel_rfl) (by intro _ _ d _ _ h; cases d <;> exact h) (beyond_of (by repeat (first | assumption | exact Below.refl _ _ | exact below_beyond _ _ | refine Below.beyond ?_ (by (try simp [size_beyond]) <;> omega) _ | refine Below.drew ?_ | refine Below.alloc ?_ (by (try simp [size_beyond]) <;> omega) _ | refine Below.setCell ?_ (by (try simp [size_beyond]) <;> omega) _))) ?_
          simp only [wpSegs, pick, List.filterMap, List.size_toArray, List.getElem?_toArray, List.getElem?_cons_zero, List.getElem?_cons_succ]
          repeat (go_big_quiet_step (fail))
          refine wpQuiet_nil ?_
          go_wp2_with ((go_at_call 15; refine (value_calls hV _ _).mono ?_; rintro e w2 ⟨rfl, x4, rfl⟩))
          refine ⟨beyond_of (by repeat (first | assumption | exact Below.refl _ _ | exact below_beyond _ _ | refine Below.beyond ?_ (by (try simp [size_beyond]) <;> omega) _ | refine Below.drew ?_ | refine Below.alloc ?_ (by (try simp [size_beyond]) <;> omega) _ | refine Below.setCell ?_ (by (try simp [size_beyond]) <;> omega) _)), wpQuiet_nil ?_⟩
          go_wp2
          refine ⟨beyond_of (by repeat (first | assumption | exact Below.refl _ _ | exact below_beyond _ _ | refine Below.beyond ?_ (by (try simp [size_beyond]) <;> omega) _ | refine Below.drew ?_ | refine Below.alloc ?_ (by (try simp [size_beyond]) <;> omega) _ | refine Below.setCell ?_ (by (try simp [size_beyond]) <;> omega) _)), wpQuiet_nil ?_⟩
          generalize hX : beyond (beyond (w.alloc _) y).drew x4 = X
          have hXb : Below (beyond (w.alloc (.cells #[.int .i64 K', .int .i64 N', .int .i64 M'] 23)) y).heap.size (beyond (w.alloc (.cells #[.int .i64 K', .int .i64 N', .int .i64 M'] 23)) y) X := hX ▸ (by repeat (first | assumption | exact Below.refl _ _ | exact below_beyond _ _ | refine Below.beyond ?_ (by (try simp [size_beyond]) <;> omega) _ | refine Below.drew ?_ | refine Below.alloc ?_ (by (try simp [size_beyond]) <;> omega) _ | refine Below.setCell ?_ (by (try simp [size_beyond]) <;> omega) _))
          have hXc : Below (w.alloc (.cells #[.int .i64 K', .int .i64 N', .int .i64 M'] 23)).heap.size (w.alloc (.cells #[.int .i64 K', .int .i64 N', .int .i64 M'] 23)) X := hX ▸ (by repeat (first | assumption | exact Below.refl _ _ | exact below_beyond _ _ | refine Below.beyond ?_ (by (try simp [size_beyond]) <;> omega) _ | refine Below.drew ?_ | refine Below.alloc ?_ (by (try simp [size_beyond]) <;> omega) _ | refine Below.setCell ?_ (by (try simp [size_beyond]) <;> omega) _))
          have HO2 := Lib.hid (ownsRow_below hXb HO.out)
          clear hX
          have hsz : w.heap.size + 1 ≤ X.heap.size := by have := hXc.size; simpa using this
          refine wpList_append_own _ rfl _ _ 34 rfl (w.heap.size + 1) 3 i0 (.int .i64 0) 1 8 Try.underlying34 Hi.out hz0 hz1 hz2 rfl (by omega) _ _ _ rfl (HO2.out.alloc _) _ 1 1 [.int .i64 (valB K' M' false)] rfl rfl (new_cell _ _) (new_one _) (by unfold maxLen; omega) (by omega) (by simp; omega) ?_
          intro v' w' hown hgr _
          have hb3 : Below (w.alloc (.cells #[.int .i64 K', .int .i64 N', .int .i64 M'] 23)).heap.size (w.alloc (.cells #[.int .i64 K', .int .i64 N', .int .i64 M'] 23)) w' :=
            (hXc.alloc (by simpa using hsz) _).grown hgr (by simp; omega) (fun r hr => by simpa using (HO2.out.lt r hr).1)
          obtain ⟨z, rfl⟩ := beyond_of hb3
          have HO3 := Lib.hid hown
          clear hown hgr hb3
          simp only [Act.put, List.setIfInBounds_toArray, List.set_cons_succ, List.set_cons_zero]
          go_wp2
          refine ⟨beyond_of (by repeat (first | assumption | exact Below.refl _ _ | exact below_beyond _ _ | refine Below.beyond ?_ (by (try simp [size_beyond]) <;> omega) _ | refine Below.drew ?_ | refine Below.alloc ?_ (by (try simp [size_beyond]) <;> omega) _ | refine Below.setCell ?_ (by (try simp [size_beyond]) <;> omega) _)), ?_⟩
          repeat (go_big_quiet_step (fail))
          refine wpQuiet_nil ?_
          go_wp2
          refine wp_region_beyond (by kernel_rfl) (by kernel_rfl) ?_
          repeat (go_big_quiet_step (first | (go_at_call 15; exact quiet_beyond (value_calls hV _ _)) | (go_at_call 16; exact quiet_beyond (add_calls hV _ _ _))))
          refine wpQuiet_nil ?_
          rintro _ ⟨x5, rfl⟩
          go_wp2
          go_roundw
          case rel => exact ⟨k + 1, Y, Z + 1, by go_num, by go_num, by go_num, by omega, by omega, by omega, by omega, by rw [ofF_no hV hY hZ], Lib.hid (by rw [← ofF_no hV hY hZ, HS.out]; show _ = add K' N' M' _ (valB K' M' (V' k)); rw [HV.out]), Lib.hid (by rw [cellsF_succ, HV.out]; exact ownsRow_below (by repeat (first | assumption | exact Below.refl _ _ | exact below_beyond _ _ | refine Below.beyond ?_ (by (try simp [size_beyond]) <;> omega) _ | refine Below.drew ?_ | refine Below.alloc ?_ (by (try simp [size_beyond]) <;> omega) _ | refine Below.setCell ?_ (by (try simp [size_beyond]) <;> omega) _)) HO3.out), beyond_of (by repeat (first | assumption | exact Below.refl _ _ | exact below_beyond _ _ | refine Below.beyond ?_ (by (try simp [size_beyond]) <;> omega) _ | refine Below.drew ?_ | refine Below.alloc ?_ (by (try simp [size_beyond]) <;> omega) _ | refine Below.setCell ?_ (by (try simp [size_beyond]) <;> omega) _))⟩
          case measure => simp [intOf]; omega
      · obtain ⟨u, hu⟩ : ∃ u, IntKind.u64.wrap cut = u := ⟨_, rfl⟩
        have bu := (u64_range cut).1
        rw [hu] at bu
        have hm0 : 0 ≤ u % ((k : Int) + 1) := Int.emod_nonneg u (by omega)
        have hm1 : u % ((k : Int) + 1) < (k : Int) + 1 := Int.emod_lt_of_pos u (by omega)
        have hO := HO.out
        rcases owns_slice hO with ⟨rfl, hk0⟩ | ⟨c2, g2, rfl, hg2, hx2, hc2, hc2'⟩
        · exact absurd hk0 (by omega)
        · unfold maxLen at hc2'
          clear HO hO
          have HX2 := Lib.hid hx2; clear hx2
          go_wp2_with (first | (go_at_call 11; refine (plain_law _ _ _ _).mono ?_; rintro e w2 ⟨rfl, x4, rfl⟩) | (go_at_call 14; refine (rof_calls hV _ _ (by omega) (by omega) _).mono ?_; rintro e w2 ⟨rfl, x5, rfl⟩))
          generalize hX : beyond (beyond (beyond (w.alloc _) y) x4) x5 = X
          have hXb : Below (beyond (w.alloc (.cells #[.int .i64 K', .int .i64 N', .int .i64 M'] 23)) y).heap.size (beyond (w.alloc (.cells #[.int .i64 K', .int .i64 N', .int .i64 M'] 23)) y) X := hX ▸ (by repeat (first | assumption | exact Below.refl _ _ | exact below_beyond _ _ | refine Below.beyond ?_ (by (try simp [size_beyond]) <;> omega) _ | refine Below.drew ?_ | refine Below.alloc ?_ (by (try simp [size_beyond]) <;> omega) _ | refine Below.setCell ?_ (by (try simp [size_beyond]) <;> omega) _))
          have hXc : Below (w.alloc (.cells #[.int .i64 K', .int .i64 N', .int .i64 M'] 23)).heap.size (w.alloc (.cells #[.int .i64 K', .int .i64 N', .int .i64 M'] 23)) X := hX ▸ (by repeat (first | assumption | exact Below.refl _ _ | exact below_beyond _ _ | refine Below.beyond ?_ (by (try simp [size_beyond]) <;> omega) _ | refine Below.drew ?_ | refine Below.alloc ?_ (by (try simp [size_beyond]) <;> omega) _ | refine Below.setCell ?_ (by (try simp [size_beyond]) <;> omega) _))
          have hXd : Below w.heap.size w X := hX ▸ (by repeat (first | assumption | exact Below.refl _ _ | exact below_beyond _ _ | refine Below.beyond ?_ (by (try simp [size_beyond]) <;> omega) _ | refine Below.drew ?_ | refine Below.alloc ?_ (by (try simp [size_beyond]) <;> omega) _ | refine Below.setCell ?_ (by (try simp [size_beyond]) <;> omega) _))
          have hgX : g2 < X.heap.size := Nat.lt_of_lt_of_le hg2 hXb.size
          have hinX : inW w.heap.size X = true := inW_iff.2 (by have := hXc.size; simp at this; omega)
          have hc0 : X.cell? ⟨w.heap.size, 0, none⟩ = some (.int .i64 K') := (hXc.cell (by simp)).trans (by simp [go_sem])
          have hc1 : X.cell? ⟨w.heap.size, 1, none⟩ = some (.int .i64 N') := (hXc.cell (by simp)).trans (by simp [go_sem])
          have hc2x : X.cell? ⟨w.heap.size, 2, none⟩ = some (.int .i64 M') := (hXc.cell (by simp)).trans (by simp [go_sem])
          have hbX : blockOf X w.heap.size = some (.cells #[.int .i64 K', .int .i64 N', .int .i64 M'] 23) := (hXc.block _ (by simp)).trans (heap_alloc_new w _)
          have HXX := Lib.hid (show ∀ i, i < k → X.cell? ⟨g2, i, none⟩ = some (.int .i64 (valB K' M' (V' i))) from fun i hi => (hXb.cell hg2).trans (HX2.out i hi))
          clear hX HX2
          obtain ⟨kk, hkk⟩ : ∃ kk : Nat, u % ((k : Int) + 1) = kk := ⟨_, (Int.toNat_of_nonneg hm0).symm⟩
          rw [hkk] at hm1 ⊢
          have hS := HS.out
          have sp := sumF_split hV (fun i => valB K' M' (V' i)) kk (k - kk)
          rw [show kk + (k - kk) = k by omega, ← hS] at sp
          have cs0 : ∀ x (m cc : Nat) (p : Option Addr), m = k → (0 < m → p = some ⟨g2, 0, none⟩) → Calls Try.prog 18 #[.agg #[.int .i64 K', .int .i64 N', .int .i64 M'], .slice p m cc] (beyond X x) fun e w' => e = .returned (.int .i64 (ofF K' N' M' Y Z)) ∧ ∃ y, w' = beyond (beyond X x) y := fun x m cc p h1 h2 => by
            subst h1; rw [hS]
            exact sum_calls hV p _ cc g2 0 (fun i => valB K' M' (V' i)) _ (by omega) (fun h => ⟨h2 h, Nat.lt_of_lt_of_le hgX (below_beyond X x).size⟩) (fun i hi => by rw [Nat.zero_add]; exact ((below_beyond X x).cell hgX).trans (HXX.out _ (by omega)))
          obtain ⟨s1, hs1⟩ : ∃ s1, s1 = sumF K' N' M' (fun i => valB K' M' (V' (kk + i))) (k - kk) := ⟨_, rfl⟩
          obtain ⟨s2, hs2⟩ : ∃ s2, s2 = sumF K' N' M' (fun i => valB K' M' (V' i)) kk := ⟨_, rfl⟩
          rw [← hs1, ← hs2] at sp
          have cs1 : ∀ x (m cc : Nat) (p : Option Addr), m = k - kk → (0 < m → p = some ⟨g2, kk, none⟩) → Calls Try.prog 18 #[.agg #[.int .i64 K', .int .i64 N', .int .i64 M'], .slice p m cc] (beyond X x) fun e w' => e = .returned (.int .i64 s1) ∧ ∃ y, w' = beyond (beyond X x) y :=
            fun x m cc p h1 h2 => by
              subst h1; rw [hs1]
              exact sum_calls hV p _ cc g2 kk (fun i => valB K' M' (V' (kk + i))) _ (by omega) (fun h => ⟨h2 h, Nat.lt_of_lt_of_le hgX (below_beyond X x).size⟩) (fun i hi => ((below_beyond X x).cell hgX).trans (HXX.out _ (by omega)))
          have cs2 : ∀ x (m cc : Nat) (p : Option Addr), m = kk → (0 < m → p = some ⟨g2, 0, none⟩) → Calls Try.prog 18 #[.agg #[.int .i64 K', .int .i64 N', .int .i64 M'], .slice p m cc] (beyond X x) fun e w' => e = .returned (.int .i64 s2) ∧ ∃ y, w' = beyond (beyond X x) y :=
            fun x m cc p h1 h2 => by
              subst h1; rw [hs2]
              exact sum_calls hV p _ cc g2 0 (fun i => valB K' M' (V' i)) _ (by omega) (fun h => ⟨h2 h, Nat.lt_of_lt_of_le hgX (below_beyond X x).size⟩) (fun i hi => by rw [Nat.zero_add]; exact ((below_beyond X x).cell hgX).trans (HXX.out _ (by omega)))
          have ca := fun w => add_calls hV s1 s2 w
          rw [sp] at ca
          clear hs1 hs2 sp hS HS
          have CS0 := Lib.hid cs0; clear cs0
          have CS1 := Lib.hid cs1; clear cs1
          have CS2 := Lib.hid cs2; clear cs2
          have CA := Lib.hid ca; clear ca
          refine wp_region_beyond (by kernel_rfl) (by kernel_rfl) ?_
          repeat (go_big_quiet_step (first | (go_at_call 12; exact quiet_beyond (known_calls _)) | (go_at_call 18; first | exact quiet_beyond (CS0.out _ _ _ _ (by omega) (by intro h; first | rfl | omega | (split <;> first | rfl | omega))) | exact quiet_beyond (CS1.out _ _ _ _ (by omega) (by intro h; first | rfl | omega | (split <;> first | rfl | omega))) | exact quiet_beyond (CS2.out _ _ _ _ (by omega) (by intro h; first | rfl | omega | (split <;> first | rfl | omega)))) | (go_at_call 16; exact quiet_beyond (CA.out _))))
          refine wpQuiet_nil ?_
          all_goals (
            rintro _ ⟨x9, rfl⟩
            go_wp2
            all_goals (go_ret; exact ⟨rfl, beyond_of (by exact Below.beyond hXd hXd.size _)⟩))
end Go.Proofs.Ytfpmimfglikklaa.mono
