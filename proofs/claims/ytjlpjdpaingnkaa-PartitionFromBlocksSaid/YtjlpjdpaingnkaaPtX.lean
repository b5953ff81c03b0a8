/-
  New, NumBlocks, BlockSize, roots.
-/
import Derived.Test.YtjlpjdpaingnkaaPtV
set_option linter.unusedSimpArgs false
set_option linter.unusedVariables false
namespace Go.Proofs.Ytjlpjdpaingnkaa.pt
open Go.RowKit Go.Own Go.Pt Go.Rw
set_option maxHeartbeats 4000000
set_option maxRecDepth 100000

theorem new_bad (n : Int) (hn : n < 0 ∨ 4096 < n) (W : World) :
    Calls Try.prog 12 #[.int .i64 n] W fun e w' => e = .returned (.tuple #[.pointer none, .int .i64 2]) ∧ W = w' := by
  go_enter Try.func12, Try.ntmps12
  rcases hn with hn | hn
  · go_wp2
    go_ret2
    exact ⟨rfl, rfl⟩
  · go_wp2
    go_ret2
    exact ⟨rfl, rfl⟩
theorem pt_make {w : World} {g n c : Nat} {l : List Int} (hr : Rep l) (hn : l.length ≤ 4096) (hc : l.length ≤ c) (hm : c ≤ maxLen) (h : RowAt g l w) :
    Pt w.heap.size g l (w.alloc (.cells #[.slice (some ⟨g, 0, none⟩) l.length c] 68)) := by
  have hl : (ups l).length = l.length := by simp [ups]
  have hg := h.lt
  obtain ⟨r, hrow⟩ := h.ex
  refine ⟨c, ups l, ups_up hr, by omega, reps_ups hr, by omega, hm, ⟨?_, ⟨r, ?_⟩, by omega⟩⟩
  · rw [hl]; exact heap_alloc_new w _
  · rw [show (w.alloc (.cells #[.slice (some ⟨g, 0, none⟩) l.length c] 68)).heap[g]? = w.heap[g]? from blockOf_alloc_past _ _ _ (inW_iff.2 hg), hrow]
    congr 4
    refine List.ext_getElem? fun i => ?_
    by_cases hi : i < l.length
    · have e1 := some_gv hi
      have := hr.lo i hi
      simp only [ups, List.getElem?_map, e1, Option.map_some]
      congr 2; omega
    · rw [List.getElem?_eq_none (by simpa using hi), List.getElem?_eq_none (by simp [ups]; omega)]
theorem take_set {l : List Int} {k n : Nat} (hl : l.length = n) (hk : k < n) {f : Nat → Int} (h : l.take k = (List.range k).map f) : (l.set k (f k)).take (k + 1) = (List.range (k + 1)).map f := by
  rw [List.range_succ, List.map_append, ← h, List.take_add_one, List.take_set_of_le (Nat.le_refl _)]
  congr 1
  rw [List.getElem?_set_self (by omega)]; rfl
theorem new_calls {n : Nat} (hn : n ≤ 4096) (W : World) :
    Calls Try.prog 12 #[.int .i64 (n : Int)] W fun e w' => ∃ P g, e = .returned (.tuple #[.pointer (some ⟨P, 0, none⟩), .int .i64 0]) ∧ Pt P g (idL n) w' ∧ W.heap.size ≤ P ∧ W.heap.size ≤ g ∧ Below W.heap.size W w' := by
  obtain ⟨i0, hi, hz0, hz1, hz2⟩ := info_parts tI
  have Hi := Lib.hid hi; clear hi
  go_enter Try.func12, Try.ntmps12
  go_wp2_with (at_make; refine wpList_make_full _ rfl _ _ 23 rfl W.heap.size 3 i0 (.int .i64 0) 1 Try.underlying23 Hi.out hz0 hz1 _ _ _ _ n rfl rfl rfl rfl (by rw [hz2]; omega) (by unfold maxLen; omega) (by simp) ?_)
  intro w1 hown hgr
  have HF := Lib.hid (RowAt.made hown)
  have HB : Hid (Below W.heap.size W w1) := Lib.hid ⟨hgr.os, hgr.tape, hgr.output, hgr.size, fun k hk => hgr.block k hk (by simp)⟩
  clear hown hgr
  go_wp2
  go_loopw [5, 15] (fun _ i wr => ∃ k : Nat, ∃ l : List Int, i = .int .i64 k ∧ k ≤ n ∧ l.length = n ∧ Hid (l.take k = idL k) ∧ Hid (RowAt W.heap.size l wr) ∧ Hid (Below W.heap.size W wr)) (fun _ i _ => n - (intOf i).toNat)
  case atStart => exact ⟨0, _, rfl, by omega, by simp, Lib.hid (by simp [idL]), HF, HB⟩
  case round =>
    obtain ⟨k, l, rfl, hk, hl, HT, HR, HB⟩ := hrel
    by_cases hlt : k < n
    · have hc := HR.out.cell (a := k) (by omega)
      have hf := HR.out.frozen k
      have HR2 := Lib.hid (HR.out.set (a := k) (by omega) (k : Int))
      have HT2 := Lib.hid (take_set hl hlt HT.out)
      go_wp2
      go_roundw
      case rel => exact ⟨k + 1, _, by go_num, by omega, by simpa using hl, HT2, HR2, Lib.hid (HB.out.setCell (Nat.le_refl _) _)⟩
      case measure => simp [intOf]; omega
    · obtain rfl : k = n := by omega
      have HL := Lib.hid (show l = idL k by have := HT.out; rwa [List.take_of_length_le (by omega)] at this)
      go_wp2
      go_ret2
      have hr := HR.out
      rw [HL.out] at hr
      have hp := pt_make (n := 0) (c := k) (idL_rep k) (by rw [idL_len]; exact hn) (by rw [idL_len]; exact Nat.le_refl _) (by unfold maxLen; omega) hr
      rw [idL_len] at hp
      have hB := HB.out
      have hs := hB.size
      exact ⟨_, _, rfl, hp, hB.size, Nat.le_refl _, (by repeat (first | assumption | exact Below.refl _ _ | exact below_beyond _ _ | refine Below.beyond ?_ (by (try simp [size_beyond]) <;> omega) _ | refine Below.drew ?_ | refine Go.Rw.below_drewN ?_ _ | refine Go.Rw.below_setRow ?_ (by (try simp [size_beyond]) <;> omega) _ | refine Below.alloc ?_ (by (try simp [size_beyond]) <;> omega) _ | refine Below.setCell ?_ (by (try simp [size_beyond]) <;> omega) _))⟩
theorem num_pt {P g : Nat} {w : List Int} {W : World} (h : Pt P g w W) :
    Calls Try.prog 36 #[.pointer (some ⟨P, 0, none⟩)] W fun e w' => e = .returned (.int .i64 ((heads w w.length).length : Nat)) ∧ W = w' := by
  have HL := Lib.hid (len_pt h)
  have hn := h.len
  obtain ⟨c, u, h3, h4, h5, h6, h7, h8⟩ := h.ex
  have hcs := h8.cellP
  have hl : w.length = u.length := by rw [← h5, reps_len]
  have HC := Lib.hid (fun a (ha : a < u.length) => h8.cell ha)
  have HP := Lib.hid (show ∀ k, k < u.length → (gv w k = k ↔ par u k = k) from fun k hk => by
    rw [← h5, gv_reps hk]
    constructor
    · intro e; have := root_fix h3 k; rwa [show root u k = k by omega] at this
    · intro e; rw [root_self h3 e])
  rw [hl]
  rw [hl] at HL
  clear h3 h5 h6 h7 h8 h hn
  go_enter Try.func36, Try.ntmps36
  go_wp2_with (go_at_call 37; refine HL.out.mono ?_; rintro e w1 ⟨rfl, rfl⟩)
  go_loop [3, 4, 7] (fun n _ i => ∃ k : Nat, i = .int .i64 k ∧ k ≤ u.length ∧ n = .int .i64 ((heads w k).length : Nat)) (fun _ _ i => u.length - (intOf i).toNat)
  case atStart => exact ⟨0, rfl, by omega, rfl⟩
  case round =>
    obtain ⟨k, rfl, hk, rfl⟩ := hrel
    have hh := heads_len w k
    by_cases hlt : k < u.length
    · have hc := HC.out k hlt
      by_cases e : par u k = k
      · rw [e] at hc
        have HS := Lib.hid (show (heads w (k + 1)).length = (heads w k).length + 1 by rw [heads_snoc, if_pos ((HP.out k hlt).2 e)]; simp)
        generalize (heads w k).length = m at hh HS ⊢
        go_wp2
        go_round
        case rel => exact ⟨k + 1, by go_num, by omega, by rw [HS.out]; go_num⟩
        case measure => simp [intOf]; omega
      · have hne : ¬ (par u k : Int) = (k : Int) := by omega
        have HS := Lib.hid (show (heads w (k + 1)).length = (heads w k).length by rw [heads_snoc, if_neg (fun h => e ((HP.out k hlt).1 h))]; simp)
        generalize (heads w k).length = m at hh HS ⊢
        go_wp2
        go_round
        case rel => exact ⟨k + 1, by go_num, by omega, by rw [HS.out]⟩
        case measure => simp [intOf]; omega
    · obtain rfl : k = u.length := by omega
      go_wp2
      go_ret
      exact ⟨rfl, rfl⟩
theorem num_nil (W : World) : Calls Try.prog 36 #[.pointer none] W fun e w' => e = .returned (.int .i64 0) ∧ W = w' := by
  go_enter Try.func36, Try.ntmps36
  go_wp2_with (go_at_call 37; refine (len_nil W).mono ?_; rintro e w1 ⟨rfl, rfl⟩)
  refine wp_loop_rounds 1 ?_
  rw [rounds_succ]
  go_wp2
  go_ret
  exact ⟨rfl, rfl⟩
theorem size_pt {P g a : Nat} {w : List Int} {W : World} (ha : a < w.length) (h : Pt P g w W) :
    Calls Try.prog 21 #[.pointer (some ⟨P, 0, none⟩), .int .i64 (a : Int)] W fun e w' => e = .returned (.int .i64 ((blockL w (gv w a)).length : Nat)) ∧ Eff P g w W w' := by
  have HL := Lib.hid (len_pt h)
  have HH := Lib.hid (has_pt (a : Int) h)
  rw [okL_nat ha] at HH
  have hn := h.len
  have HE := Lib.hid (Eff.refl h); clear h
  have HBL := Lib.hid (show blockL w (gv w a) = blk w (gv w a) w.length from rfl)
  rw [HBL.out]
  go_enter Try.func21, Try.ntmps21
  go_wp2_with (first | (go_at_call 40; refine HH.out.mono ?_; rintro e w1 ⟨rfl, rfl⟩) | (go_at_call 37; refine HL.out.mono ?_; rintro e w1 ⟨rfl, rfl⟩))
  go_loopw [5, 6, 13] (fun n _ i wr => ∃ k : Nat, i = .int .i64 k ∧ k ≤ w.length ∧ n = .int .i64 ((blk w (gv w a) k).length : Nat) ∧ Hid (Eff P g w W wr)) (fun _ _ i _ => w.length - (intOf i).toNat)
  case atStart => exact ⟨0, rfl, by omega, rfl, HE⟩
  case round =>
    obtain ⟨k, rfl, hk, rfl, HE⟩ := hrel
    have hh := blk_len w (gv w a) k
    by_cases hlt : k < w.length
    · have HR := Lib.hid (root_pt hlt HE.out.pt)
      go_wp2_with (fail)
      go_at_call 42
      refine HR.out.mono ?_
      rintro e w1 ⟨rfl, h1⟩
      have HE1 := Lib.hid (HE.out.trans h1); clear h1 HR HE
      have HR := Lib.hid (root_pt ha HE1.out.pt)
      go_wp2_with (fail)
      go_at_call 42
      refine HR.out.mono ?_
      rintro e w2 ⟨rfl, h2⟩
      have HE2 := Lib.hid (HE1.out.trans h2); clear h2 HR HE1
      have HS := Lib.hid (blk_snoc w (gv w a) k)
      generalize blk w (gv w a) k = m at hh HS ⊢
      by_cases e : gv w k = gv w a
      · go_wp2
        go_roundw
        case rel => exact ⟨k + 1, by go_num, by omega, by rw [HS.out, if_pos e]; simp only [List.length_append, List.length_cons, List.length_nil]; go_num, HE2⟩
        case measure => simp [intOf]; omega
      · go_wp2
        go_roundw
        case rel => exact ⟨k + 1, by go_num, by omega, by rw [HS.out, if_neg e]; simp, HE2⟩
        case measure => simp [intOf]; omega
    · obtain rfl : k = w.length := by omega
      go_wp2
      go_ret
      exact ⟨rfl, HE.out⟩
theorem size_bad {P g : Nat} {w : List Int} {W : World} (a : Int) (ha : okL w a = false) (h : Pt P g w W) :
    Calls Try.prog 21 #[.pointer (some ⟨P, 0, none⟩), .int .i64 a] W fun e w' => e = .returned (.int .i64 0) ∧ W = w' := by
  have HA := Lib.hid (has_pt a h)
  rw [ha] at HA
  go_enter Try.func21, Try.ntmps21
  go_wp2_with (go_at_call 40; refine HA.out.mono ?_; rintro e w1 ⟨rfl, rfl⟩)
  go_ret
  exact ⟨rfl, rfl⟩
theorem size_nil (a : Int) (W : World) :
    Calls Try.prog 21 #[.pointer none, .int .i64 a] W fun e w' => e = .returned (.int .i64 0) ∧ W = w' := by
  go_enter Try.func21, Try.ntmps21
  go_wp2_with (go_at_call 40; refine (has_nil a W).mono ?_; rintro e w1 ⟨rfl, rfl⟩)
  go_ret
  exact ⟨rfl, rfl⟩
end Go.Proofs.Ytjlpjdpaingnkaa.pt
