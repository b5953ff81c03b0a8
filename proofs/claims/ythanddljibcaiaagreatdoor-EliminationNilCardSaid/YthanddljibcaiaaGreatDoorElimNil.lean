/-
  Elimination orders over no graph at all: what each function answers, whatever the slice.
-/
import Derived.Test.YthanddljibcaiaaGreatDoorPreEliminationNil
import Derived.Maps.Own
set_option linter.unusedSimpArgs false
set_option linter.unusedVariables false
namespace Go.Proofs.YthanddljibcaiaaGreatDoor.eliminationNil
open Go.RowKit Go.Own Go.Maps Go.WideMaps
set_option maxHeartbeats 1000000
set_option maxRecDepth 100000

theorem check_nil (q : Option Addr) (n c : Nat) (w : World) : Calls Tryz.prog 12 #[.slice q n c, .pointer none] w fun e w' => e = .returned (.int .i64 1) ∧ ∃ x, w' = beyond w x := by
  go_enter Tryz.func12, Tryz.ntmps12
  go_wp2
  go_ret
  exact ⟨rfl, beyond_of (by repeat (first | assumption | exact Below.refl _ _ | exact below_beyond _ _ | refine Below.beyond ?_ (by (try simp [size_beyond]) <;> omega) _ | refine Below.drew ?_ | refine Below.alloc ?_ (by (try simp [size_beyond]) <;> omega) _ | refine Below.setCell ?_ (by (try simp [size_beyond]) <;> omega) _))⟩
theorem each_nil (q : Option Addr) (n c : Nat) (f : Value) (w : World) : Calls Tryz.prog 13 #[.pointer none, .slice q n c, f] w fun e w' => e = .returned (.int .i64 1) ∧ ∃ x, w' = beyond w x := by
  go_enter Tryz.func13, Tryz.ntmps13
  go_wp2_with (go_at_call 12; refine (check_nil _ _ _ _).mono ?_; rintro e w1 ⟨rfl, x1, rfl⟩)
  go_ret
  exact ⟨rfl, beyond_of (by repeat (first | assumption | exact Below.refl _ _ | exact below_beyond _ _ | refine Below.beyond ?_ (by (try simp [size_beyond]) <;> omega) _ | refine Below.drew ?_ | refine Below.alloc ?_ (by (try simp [size_beyond]) <;> omega) _ | refine Below.setCell ?_ (by (try simp [size_beyond]) <;> omega) _))⟩
theorem steps_nil (q : Option Addr) (n c : Nat) (w : World) : Calls Tryz.prog 4 #[.pointer none, .slice q n c] w fun e w' => e = .returned (.tuple #[.slice none 0 0, .int .i64 1]) ∧ ∃ x, w' = beyond w x := by
  go_enter Tryz.func4, Tryz.ntmps4
  go_wp2_with (go_at_call 13; refine (each_nil _ _ _ _ _).mono ?_; rintro e w1 ⟨rfl, x1, rfl⟩)
  go_ret2
  exact ⟨rfl, beyond_of (by repeat (first | assumption | exact Below.refl _ _ | exact below_beyond _ _ | refine Below.beyond ?_ (by (try simp [size_beyond]) <;> omega) _ | refine Below.drew ?_ | refine Below.alloc ?_ (by (try simp [size_beyond]) <;> omega) _ | refine Below.setCell ?_ (by (try simp [size_beyond]) <;> omega) _))⟩
theorem width_nil (q : Option Addr) (n c : Nat) (w : World) : Calls Tryz.prog 5 #[.pointer none, .slice q n c] w fun e w' => e = .returned (.tuple #[.int .i64 0, .int .i64 1]) ∧ ∃ x, w' = beyond w x := by
  go_enter Tryz.func5, Tryz.ntmps5
  go_wp2_with (go_at_call 13; refine (each_nil _ _ _ _ _).mono ?_; rintro e w1 ⟨rfl, x1, rfl⟩)
  go_ret2
  exact ⟨rfl, beyond_of (by repeat (first | assumption | exact Below.refl _ _ | exact below_beyond _ _ | refine Below.beyond ?_ (by (try simp [size_beyond]) <;> omega) _ | refine Below.drew ?_ | refine Below.alloc ?_ (by (try simp [size_beyond]) <;> omega) _ | refine Below.setCell ?_ (by (try simp [size_beyond]) <;> omega) _))⟩
theorem higher_nil (q : Option Addr) (n c : Nat) (w : World) : Calls Tryz.prog 8 #[.pointer none, .slice q n c] w fun e w' => e = .returned (.tuple #[.slice none 0 0, .int .i64 1]) ∧ ∃ x, w' = beyond w x := by
  go_enter Tryz.func8, Tryz.ntmps8
  go_wp2_with (go_at_call 13; refine (each_nil _ _ _ _ _).mono ?_; rintro e w1 ⟨rfl, x1, rfl⟩)
  go_ret2
  exact ⟨rfl, beyond_of (by repeat (first | assumption | exact Below.refl _ _ | exact below_beyond _ _ | refine Below.beyond ?_ (by (try simp [size_beyond]) <;> omega) _ | refine Below.drew ?_ | refine Below.alloc ?_ (by (try simp [size_beyond]) <;> omega) _ | refine Below.setCell ?_ (by (try simp [size_beyond]) <;> omega) _))⟩
theorem fill_nil (q : Option Addr) (n c : Nat) (w : World) : Calls Tryz.prog 6 #[.pointer none, .slice q n c] w fun e w' => e = .returned (.tuple #[.slice none 0 0, .int .i64 1]) ∧ ∃ x, w' = beyond w x := by
  have hmm := @run_makeMap Tryz.prog
  go_enter Tryz.func6, Tryz.ntmps6
  go_wp2_with (go_at_call 13; refine (each_nil _ _ _ _ _).mono ?_; rintro e w1 ⟨rfl, x1, rfl⟩)
  go_ret2
  exact ⟨rfl, beyond_of (by repeat (first | assumption | exact Below.refl _ _ | exact below_beyond _ _ | refine Below.beyond ?_ (by (try simp [size_beyond]) <;> omega) _ | refine Below.drew ?_ | refine Below.alloc ?_ (by (try simp [size_beyond]) <;> omega) _ | refine Below.setCell ?_ (by (try simp [size_beyond]) <;> omega) _))⟩
theorem filled_nil (q : Option Addr) (n c : Nat) (w : World) : Calls Tryz.prog 7 #[.pointer none, .slice q n c] w fun e w' => e = .returned (.tuple #[.pointer none, .int .i64 1]) ∧ ∃ x, w' = beyond w x := by
  go_enter Tryz.func7, Tryz.ntmps7
  go_wp2_with (go_at_call 6; refine (fill_nil _ _ _ _).mono ?_; rintro e w1 ⟨rfl, x1, rfl⟩)
  go_ret2
  exact ⟨rfl, beyond_of (by repeat (first | assumption | exact Below.refl _ _ | exact below_beyond _ _ | refine Below.beyond ?_ (by (try simp [size_beyond]) <;> omega) _ | refine Below.drew ?_ | refine Below.alloc ?_ (by (try simp [size_beyond]) <;> omega) _ | refine Below.setCell ?_ (by (try simp [size_beyond]) <;> omega) _))⟩
theorem owns_keep {H : Type} {w w' : World} {P : Program} {k : TypeId} {R : Value → Option (DataW H × List MemPlace)} {b n : Nat} {D : DataW H} (h : w.ownsMap P k R b n D) (e : w'.heap[b]? = w.heap[b]?) : w'.ownsMap P k R b n D := by
  obtain ⟨es, c, hb, r⟩ := h
  exact ⟨es, c, e.trans hb, r⟩
theorem cell_keep {w w' : World} {a : Addr} {v : Value} (h : w.cell? a = some v) (e : w'.heap[a.block]? = w.heap[a.block]?) : w'.cell? a = some v := by
  unfold World.cell? at h ⊢
  rw [e]; exact h
theorem lawK : Keyed Tryz.prog 3 := int_keyed Tryz.underlying3
theorem parents_nil (q : Option Addr) (n c b off : Nat) (V : Nat → Int) (w : World) (hn : n ≤ c) (hc : c ≤ maxLen) (hq : 0 < n → q = some ⟨b, off, none⟩ ∧ b < w.heap.size) (hx : ∀ i, i < n → w.cell? ⟨b, off + i, none⟩ = some (.int .i64 (V i)) ∧ (Lit.int .i64 (V i)).wf = true) :
    Calls Tryz.prog 9 #[.pointer none, .slice q n c] w fun e w' => e = .returned (.tuple #[.slice none 0 0, .int .i64 1]) ∧ ∃ x, w' = beyond w x := by
  have hmm := @run_makeMap Tryz.prog
  have HX := Lib.hid hx; clear hx
  have HQ := Lib.hid hq; clear hq
  unfold maxLen at hc
  go_enter Tryz.func9, Tryz.ntmps9
  go_wp2
  go_loopw [14] (fun i wr => ∃ k : Nat, k ≤ n ∧ i = .int .i64 k ∧ (∃ D : DataW Unit, Hid (wr.ownsMap Tryz.prog 3 (plainElem Tryz.prog 3) w.heap.size k D)) ∧ Hid (wr.cell? ⟨w.heap.size + 1, 0, none⟩ = some (.map (some w.heap.size))) ∧ Hid (Below w.heap.size w wr) ∧ w.heap.size + 2 ≤ wr.heap.size)
    (fun i _ => n - (intOf i).toNat)
  case atStart => exact ⟨0, Nat.zero_le _, rfl, ⟨.map [], Lib.hid (owns_keep (World.ownsMap_made w _ _ _) (((Below.refl _ _).alloc (Nat.le_refl _) _).block _ (by simp)))⟩, Lib.hid (by simp [go_sem]), Lib.hid (by repeat (first | assumption | exact Below.refl _ _ | exact below_beyond _ _ | refine Below.beyond ?_ (by (try simp [size_beyond]) <;> omega) _ | refine Below.drew ?_ | refine Below.alloc ?_ (by (try simp [size_beyond]) <;> omega) _ | refine Below.setCell ?_ (by (try simp [size_beyond]) <;> omega) _)), by simp⟩
  case round =>
    obtain ⟨k, hk, rfl, ⟨D, HO⟩, HC, HB, hsz⟩ := hrel
    by_cases hlt : k < n
    · obtain ⟨rfl, hb⟩ := HQ.out (by omega)
      obtain ⟨hx1, hx2⟩ := HX.out k hlt
      have hxk := (HB.out.cell hb).trans hx1
      have hck := HC.out
      have hkey : keyOf Tryz.prog 3 (.int .i64 (V k)) = some (.int .i64 (V k)) := keyOf_int_mk Tryz.underlying3 hx2
      go_wp2_with (first
        | (at_mapUpdate; refine wpList_mapUpdate_own _ rfl _ _ _ 65 rfl 3 3 lawK Tryz.underlying65 _ w.heap.size k _ rfl HO.out (by unfold maxLen; omega) _ _ _ rfl rfl hkey _ [] (plainElem_int Tryz.underlying3 (WalkArith.wf_i64 (by omega))) ?_)
        | go_in)
      intro w1 hown1 hgrow1
      have HO1 := Lib.hid hown1
      have HC1 := Lib.hid (cell_keep hck (hgrow1.block _ (show w.heap.size + 1 < _ by omega) (by simp)))
      have HB1 := Lib.hid (HB.out.grown hgrow1 HB.out.size (fun j hj => by cases hj; exact Nat.le_refl _))
      have hsz1 : w.heap.size + 2 ≤ w1.heap.size := Nat.le_trans hsz hgrow1.size
      clear hown1 hgrow1 hck hxk HO HB HC
      go_wp2
      go_roundw
      case rel => exact ⟨k + 1, by omega, by go_num, ⟨_, HO1⟩, HC1, HB1, hsz1⟩
      case measure => simp [intOf]; omega
    · obtain rfl : k = n := by omega
      go_wp2_with (go_at_call 13; refine (each_nil _ _ _ _ _).mono ?_; rintro e w1 ⟨rfl, x1, rfl⟩)
      go_ret2
      refine ⟨rfl, beyond_of ?_⟩
      have := HB.out
      exact (by repeat (first | assumption | exact Below.refl _ _ | exact below_beyond _ _ | refine Below.beyond ?_ (by (try simp [size_beyond]) <;> omega) _ | refine Below.drew ?_ | refine Below.alloc ?_ (by (try simp [size_beyond]) <;> omega) _ | refine Below.setCell ?_ (by (try simp [size_beyond]) <;> omega) _))
theorem height_nil (q : Option Addr) (n c b off : Nat) (V : Nat → Int) (w : World) (hn : n ≤ c) (hc : c ≤ maxLen) (hq : 0 < n → q = some ⟨b, off, none⟩ ∧ b < w.heap.size) (hx : ∀ i, i < n → w.cell? ⟨b, off + i, none⟩ = some (.int .i64 (V i)) ∧ (Lit.int .i64 (V i)).wf = true) :
    Calls Tryz.prog 10 #[.pointer none, .slice q n c] w fun e w' => e = .returned (.tuple #[.int .i64 0, .int .i64 1]) ∧ ∃ x, w' = beyond w x := by
  have hp := Lib.hid (parents_nil q n c b off V w hn hc hq hx)
  clear hq hx
  go_enter Tryz.func10, Tryz.ntmps10
  go_wp2_with (go_at_call 9; refine hp.out.mono ?_; rintro e w1 ⟨rfl, x1, rfl⟩)
  go_ret2
  exact ⟨rfl, beyond_of (by repeat (first | assumption | exact Below.refl _ _ | exact below_beyond _ _ | refine Below.beyond ?_ (by (try simp [size_beyond]) <;> omega) _ | refine Below.drew ?_ | refine Below.alloc ?_ (by (try simp [size_beyond]) <;> omega) _ | refine Below.setCell ?_ (by (try simp [size_beyond]) <;> omega) _))⟩
theorem sumsS : Can.RecOk Tryz.prog [0] (Can.knownSm 11 tab [0]) := Can.knownSm_okR (Can.evU_ok pc (Can.noSm_ok) _ _) tabAt tabPlain knownTrue
/-- the examples hold in every world that comes behind one where the table is laid -/
theorem known_calls {W : World} (hL : laidMetH Tryz.prog Rows.eliminationNilRow.laid W) (X : World) (hb : Below W.heap.size W X) : Calls Tryz.prog 11 #[] X fun e w' => e = .returned (.bool true) ∧ ∃ y, w' = beyond X y := by
  have hk : Can.Known (H0 (Can.tyAt W)) (Can.onG [0]) X := by
    refine Can.known_onG fun g hg => ?_
    simp only [List.mem_cons, List.not_mem_nil, or_false] at hg
    rcases hg with rfl
    have h0 : W.heap[0]? = some (.cells (tab 0) (Can.tyAt W 0) (0, 0)) := Can.laid_tab hL (by kernel_rfl) (List.mem_of_getElem? (i := 0) rfl) (by kernel_rfl) (by kernel_rfl) (by decide +kernel)
    exact ⟨tab 0, Can.tyAt W 0, rfl, (hb.block 0 (Array.getElem?_eq_some_iff.1 h0).1).trans h0, by kernel_rfl⟩
  exact Can.true_callsS pc sumsS (n := 5) (by kernel_rfl) hk (Can.gl_onG _) (Can.plain_args (by kernel_rfl))
theorem walk {W : World} (hL : laidMetH Tryz.prog Rows.eliminationNilRow.laid W) (q : Option Addr) (n c b off : Nat) (V : Nat → Int) (hn : n ≤ c) (hc : c ≤ maxLen) (hq : 0 < n → q = some ⟨b, off, none⟩ ∧ b < W.heap.size) (hx : ∀ i, i < n → W.cell? ⟨b, off + i, none⟩ = some (.int .i64 (V i)) ∧ (Lit.int .i64 (V i)).wf = true) :
    Calls Tryz.prog 3 #[.slice q n c] W fun e w' => e = .returned (.bool true) ∧ ∃ x, w' = beyond W x := by
  have pp := fun X (hb : Below W.heap.size W X) => parents_nil q n c b off V X hn hc (fun h => ⟨(hq h).1, Nat.lt_of_lt_of_le (hq h).2 hb.size⟩) (fun i hi => ⟨(hb.cell (hq (by omega)).2).trans (hx i hi).1, (hx i hi).2⟩)
  have hh := fun X (hb : Below W.heap.size W X) => height_nil q n c b off V X hn hc (fun h => ⟨(hq h).1, Nat.lt_of_lt_of_le (hq h).2 hb.size⟩) (fun i hi => ⟨(hb.cell (hq (by omega)).2).trans (hx i hi).1, (hx i hi).2⟩)
  have PP := Lib.hid pp
  have HH := Lib.hid hh
  have KK := Lib.hid (fun X hb => known_calls hL X hb)
  clear pp hh hq hx
  go_enter Tryz.func3, Tryz.ntmps3
  go_wp2_with (first
    | (go_at_call 4; refine (steps_nil _ _ _ _).mono ?_; rintro e w1 ⟨rfl, x1, rfl⟩)
    | (go_at_call 5; refine (width_nil _ _ _ _).mono ?_; rintro e w2 ⟨rfl, x2, rfl⟩)
    | (go_at_call 6; refine (fill_nil _ _ _ _).mono ?_; rintro e w3 ⟨rfl, x3, rfl⟩)
    | (go_at_call 7; refine (filled_nil _ _ _ _).mono ?_; rintro e w4 ⟨rfl, x4, rfl⟩)
    | (go_at_call 8; refine (higher_nil _ _ _ _).mono ?_; rintro e w5 ⟨rfl, x5, rfl⟩)
    | (go_at_call 9; refine (PP.out _ (by repeat (first | assumption | exact Below.refl _ _ | exact below_beyond _ _ | refine Below.beyond ?_ (by (try simp [size_beyond]) <;> omega) _ | refine Below.drew ?_ | refine Below.alloc ?_ (by (try simp [size_beyond]) <;> omega) _ | refine Below.setCell ?_ (by (try simp [size_beyond]) <;> omega) _))).mono ?_; rintro e w6 ⟨rfl, x6, rfl⟩)
    | (go_at_call 10; refine (HH.out _ (by repeat (first | assumption | exact Below.refl _ _ | exact below_beyond _ _ | refine Below.beyond ?_ (by (try simp [size_beyond]) <;> omega) _ | refine Below.drew ?_ | refine Below.alloc ?_ (by (try simp [size_beyond]) <;> omega) _ | refine Below.setCell ?_ (by (try simp [size_beyond]) <;> omega) _))).mono ?_; rintro e w7 ⟨rfl, x7, rfl⟩)
    | (go_at_call 11; refine (KK.out _ (by repeat (first | assumption | exact Below.refl _ _ | exact below_beyond _ _ | refine Below.beyond ?_ (by (try simp [size_beyond]) <;> omega) _ | refine Below.drew ?_ | refine Below.alloc ?_ (by (try simp [size_beyond]) <;> omega) _ | refine Below.setCell ?_ (by (try simp [size_beyond]) <;> omega) _))).mono ?_; rintro e w8 ⟨rfl, x8, rfl⟩)
    | (go_at_call 12; refine (check_nil _ _ _ _).mono ?_; rintro e w9 ⟨rfl, x9, rfl⟩))
  go_ret
  exact ⟨rfl, beyond_of (by repeat (first | assumption | exact Below.refl _ _ | exact below_beyond _ _ | refine Below.beyond ?_ (by (try simp [size_beyond]) <;> omega) _ | refine Below.drew ?_ | refine Below.alloc ?_ (by (try simp [size_beyond]) <;> omega) _ | refine Below.setCell ?_ (by (try simp [size_beyond]) <;> omega) _))⟩
end Go.Proofs.YthanddljibcaiaaGreatDoor.eliminationNil
