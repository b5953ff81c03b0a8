/-
  A slice of copies of one truth value.
-/
import Derived.Test.YtmcfnnapgbgdeaaDoorProg
import Derived.Test.YtmcfnnapgbgdeaaDoorCanAE
import Derived.Test.YtmcfnnapgbgdeaaDoorMake
set_option linter.unusedSimpArgs false
set_option linter.unusedVariables false
namespace Go.Proofs.YtmcfnnapgbgdeaaDoor.rep
open Go.RowKit Go.Own
set_option maxHeartbeats 1000000
set_option maxRecDepth 100000

theorem bInfo : (Tryd.prog.info? 4).map (fun i => (i.zero, i.size, i.bytes)) = some (some (.bool false), 1, 1) := by kernel_rfl
/-- a block of truth values, the first j of which are a -/
def filled (w : World) (g k j : Nat) (a : Bool) : Prop := ∃ cs t, w.heap[g]? = some (.cells cs t (0, 0)) ∧ cs.size = k ∧ ∀ i, i < k → ∃ b, cs[i]? = some (.bool b) ∧ (i < j → b = a)
theorem filled_cell {w : World} {g k j : Nat} {a : Bool} (h : filled w g k j a) {i : Nat} (hi : i < k) : ∃ b, w.cell? ⟨g, i, none⟩ = some (.bool b) ∧ (i < j → b = a) := by
  obtain ⟨cs, t, h1, _, h3⟩ := h
  obtain ⟨b, hb, hb2⟩ := h3 i hi
  exact ⟨b, by simp [World.cell?, h1, hb], hb2⟩
theorem filled_open {w : World} {g k j : Nat} {a : Bool} (h : filled w g k j a) (i : Nat) : w.frozen? ⟨g, i, none⟩ = false := by
  obtain ⟨cs, t, h1, _, _⟩ := h
  simp [World.frozen?, h1]
theorem filled_set {w : World} {g k j : Nat} {a : Bool} (h : filled w g k j a) (hj : j < k) : filled (w.setCell ⟨g, j, none⟩ (.bool a)) g k (j + 1) a := by
  obtain ⟨cs, t, h1, h2, h3⟩ := h
  refine ⟨cs.setIfInBounds j (.bool a), t, ?_, by simpa using h2, fun i hi => ?_⟩
  · simp [World.setCell, Array.getElem?_modify, h1]
  · by_cases hij : j = i
    · subst hij
      exact ⟨a, by simp [h2, hj], fun _ => rfl⟩
    · obtain ⟨b, hb, hb2⟩ := h3 i hi
      exact ⟨b, by rw [Array.getElem?_setIfInBounds_ne hij]; exact hb, fun h => hb2 (by omega)⟩
theorem filled_below {w w' : World} {g k j : Nat} {a : Bool} (hb : Below w.heap.size w w') (h : filled w g k j a) : filled w' g k j a := by
  obtain ⟨cs, t, h1, h2, h3⟩ := h
  exact ⟨cs, t, (hb.block g (Array.getElem?_eq_some_iff.1 h1).1).trans h1, h2, h3⟩
theorem filled_made {w : World} {g k B : Nat} {e : TypeId} {a : Bool} (h : w.ownsRow B e 1 (.slice (some ⟨g, 0, none⟩) k k) k (madeCells #[Value.bool false] k).toList) : filled w g k 0 a := by
  rcases h.2 with ⟨h, _⟩ | ⟨g', cap, cur, h, hb, hgg, hn, hc, hs, ht⟩
  · cases h
  · cases h
    refine ⟨cur, e, hgg, by simpa using hs, fun i hi => ⟨false, ?_, fun h => absurd h (Nat.not_lt_zero _)⟩⟩
    have hcur : cur.toList = (madeCells #[Value.bool false] k).toList := by
      rw [← ht, ← hs, ← Array.length_toList, List.take_length]
    rw [← Array.getElem?_toList, hcur]
    simp [madeCells, hi]
    rw [Nat.mod_one]; rfl
theorem repeat_calls (a : Bool) (n most : Int) (k : Nat) (hk : (k : Int) = min (max n 0) most) (h0 : 0 < most) (hm : most ≤ 65536) (w : World) :
    Calls Tryd.prog 33 #[.bool a, .int .i64 n, .int .i64 most] w fun e w' => ∃ g, e = .returned (.slice (some ⟨g, 0, none⟩) k k) ∧ filled w' g k k a ∧ ∃ y, w' = beyond w y := by
  obtain ⟨i0, hi, hz0, hz1, hz2⟩ := info_parts bInfo
  have Hi := Lib.hid hi; clear hi
  have hk2 : k ≤ 65536 := by omega
  have e1 : (if n ≤ 0 then (0 : Int) else n) = max n 0 := by split <;> omega
  have e2 : (if max n 0 ≤ most then max n 0 else most) = (k : Int) := by split <;> omega
  go_enter Tryd.func33, Tryd.ntmps33
  go_wp2_with (first | (at_make; refine wpList_make_full _ rfl _ _ 55 rfl w.heap.size 4 i0 (.bool false) 1 Tryd.underlying55 Hi.out hz0 hz1 _ _ _ _ k rfl rfl ?_ ?_ (by rw [hz2]; omega) (by unfold maxLen; omega) (by simp) ?_))
  all_goals first
    | omega
    | (split at h <;> omega)
    | (rename_i h1; split at h1 <;> omega)
    | skip
  all_goals
    intro w1 hown hgr
    have hf : Hid (filled w1 w.heap.size k 0 a) := Lib.hid (filled_made hown)
    have hbl : Hid (Below w.heap.size w w1) := Lib.hid ⟨hgr.os, hgr.tape, hgr.output, hgr.size, fun k hk => hgr.block k hk (by simp)⟩
    clear hown hgr
    go_wp2
    go_loopw [8, 16] (fun _ i wr => ∃ j : Nat, i = .int .i64 j ∧ j ≤ k ∧ Hid (filled wr w.heap.size k j a) ∧ Hid (Below w.heap.size w wr))
      (fun _ i _ => k - (intOf i).toNat)
    case atStart => exact ⟨0, rfl, by omega, hf, hbl⟩
    case round =>
      obtain ⟨j, rfl, hj, HF, HB⟩ := hrel
      by_cases hlt : j < k
      · obtain ⟨b0, hc, _⟩ := filled_cell HF.out hlt
        have hfz := filled_open HF.out j
        go_wp2
        all_goals
          go_roundw
          case rel => exact ⟨j + 1, by go_num, by omega, Lib.hid (filled_set HF.out hlt), Lib.hid (HB.out.setCell (Nat.le_refl _) _)⟩
          case measure => simp [intOf] <;> omega
      · obtain rfl : j = k := by omega
        go_wp2
        go_ret
        exact ⟨_, rfl, HF.out, beyond_of HB.out⟩
end Go.Proofs.YtmcfnnapgbgdeaaDoor.rep
