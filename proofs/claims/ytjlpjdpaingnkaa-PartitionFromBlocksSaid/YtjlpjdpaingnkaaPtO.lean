/-
  The law's known.
-/
import Derived.Test.YtjlpjdpaingnkaaPtL
set_option linter.unusedSimpArgs false
set_option linter.unusedVariables false
namespace Go.Proofs.Ytjlpjdpaingnkaa.pt
open Go.RowKit Go.Own Go.Pt Go.Rw
set_option maxHeartbeats 4000000
set_option maxRecDepth 100000

theorem ls_of {w : World} {b m : Nat} {vs : List Value} {L : List (List Int)} (hb : blockOf w b = some (.cells vs.toArray 23 (0, 0))) (hm : m = L.length) (hs : L.length ≤ 999000)
    (h : ∀ (i : Nat) (l : List Int), L[i]? = some l → ∃ g, vs[i]? = some (.slice (some ⟨g, 0, none⟩) l.length l.length) ∧ blockOf w g = some (.cells (l.map (Value.int .i64)).toArray 3 (0, 0)) ∧ l.length ≤ 999000) : LsAt (fun _ => False) False (some ⟨b, 0, none⟩) m m L w := by
  subst hm
  refine ⟨rfl, hs, Nat.le_refl _, by unfold maxLen; omega, .inr ⟨b, 0, rfl, (Array.getElem?_eq_some_iff.1 hb).1, fun h => h, fun i l hl => ?_⟩⟩
  obtain ⟨g, h1, h2, h3⟩ := h i l hl
  have hg : w.heap[g]? = _ := h2
  have hb' : w.heap[b]? = _ := hb
  refine ⟨_, _, _, ?_, at_row (g := g) (l := l) ⟨[], by rw [hg]; simp⟩ h3 (Nat.le_refl _) (by unfold maxLen; omega) (fun h => by rcases h with h | h; exact h; exact h.1)⟩
  simp [World.cell?, hb', h1]
theorem ls3 (w : World) : LsAt (fun _ => False) False (some ⟨w.heap.size + 1 + 1 + 1, 0, none⟩) 3 3 [[0], [1, 3, 4], [2]]
    ((((w.alloc (.cells #[.int .i64 0] 3)).alloc (.cells #[.int .i64 1, .int .i64 3, .int .i64 4] 3)).alloc (.cells #[.int .i64 2] 3)).alloc (.cells #[.slice (some ⟨w.heap.size, 0, none⟩) 1 1, .slice (some ⟨w.heap.size + 1, 0, none⟩) 3 3, .slice (some ⟨w.heap.size + 1 + 1, 0, none⟩) 1 1] 23)) := by
  refine ls_of (vs := [.slice (some ⟨w.heap.size, 0, none⟩) 1 1, .slice (some ⟨w.heap.size + 1, 0, none⟩) 3 3, .slice (some ⟨w.heap.size + 1 + 1, 0, none⟩) 1 1]) (blockOf_alloc_at _ _ _ (by simp)) rfl (by decide) fun i l hl => ?_
  match i with
  | 0 => cases hl; exact ⟨_, rfl, by simp [go_sem], by decide⟩
  | 1 => cases hl; exact ⟨_, rfl, by simp [go_sem], by decide⟩
  | 2 => cases hl; exact ⟨_, rfl, by simp [go_sem], by decide⟩
  | i + 3 => cases hl
theorem ls4 (w : World) : LsAt (fun _ => False) False (some ⟨w.heap.size + 1 + 1 + 1 + 1, 0, none⟩) 4 4 [[0], [1, 3], [2], [4]]
    (((((w.alloc (.cells #[.int .i64 0] 3)).alloc (.cells #[.int .i64 1, .int .i64 3] 3)).alloc (.cells #[.int .i64 2] 3)).alloc (.cells #[.int .i64 4] 3)).alloc (.cells #[.slice (some ⟨w.heap.size, 0, none⟩) 1 1, .slice (some ⟨w.heap.size + 1, 0, none⟩) 2 2, .slice (some ⟨w.heap.size + 1 + 1, 0, none⟩) 1 1, .slice (some ⟨w.heap.size + 1 + 1 + 1, 0, none⟩) 1 1] 23)) := by
  refine ls_of (vs := [.slice (some ⟨w.heap.size, 0, none⟩) 1 1, .slice (some ⟨w.heap.size + 1, 0, none⟩) 2 2, .slice (some ⟨w.heap.size + 1 + 1, 0, none⟩) 1 1, .slice (some ⟨w.heap.size + 1 + 1 + 1, 0, none⟩) 1 1]) (blockOf_alloc_at _ _ _ (by simp)) rfl (by decide) fun i l hl => ?_
  match i with
  | 0 => cases hl; exact ⟨_, rfl, by simp [go_sem], by decide⟩
  | 1 => cases hl; exact ⟨_, rfl, by simp [go_sem], by decide⟩
  | 2 => cases hl; exact ⟨_, rfl, by simp [go_sem], by decide⟩
  | 3 => cases hl; exact ⟨_, rfl, by simp [go_sem], by decide⟩
  | i + 4 => cases hl
theorem j1 : joinL (idL 5) 3 1 = [0, 1, 2, 1, 4] := by decide
theorem j2 : joinL [0, 1, 2, 1, 4] 1 4 = [0, 1, 2, 1, 1] := by decide
theorem j3 : joinL [0, 1, 2, 1, 1] 4 3 = [0, 1, 2, 1, 1] := by decide
theorem b1 : blocksL [0, 1, 2, 1, 1] = [[0], [1, 3, 4], [2]] := by decide
theorem s1 : byL [0, 1, 2, 1, 1] [0, 0, 0, 0, 7] = [0, 1, 2, 1, 4] := by decide
theorem b2 : blocksL [0, 1, 2, 1, 4] = [[0], [1, 3], [2], [4]] := by decide
theorem known_calls (W : World) : Calls Try.prog 13 #[] W fun e w' => e = .returned (.bool true) ∧ Below W.heap.size W w' := by
  go_enter Try.func13, Try.ntmps13
  go_wp2_with (fail)
  go_at_call 12
  refine (new_calls (n := 5) (by omega) W).mono ?_
  rintro e w1 ⟨P, g, rfl, h1, hP, hg, hb1⟩
  have HP := Lib.hid h1
  have HB := Lib.hid hb1
  have hs1 := hb1.size
  have HPG := Lib.hid (And.intro hP hg)
  clear h1 hb1 hP hg
  go_wp2_with (fail)
  go_at_call 15
  refine (union_pt (a := 3) (b := 1) (by decide) (by decide) HP.out).mono ?_
  rw [j1]
  rintro e w2 ⟨rfl, h1⟩
  have HB2 : Hid (Below W.heap.size W w2) := Lib.hid (HB.out.trans (h1.kept.below (fun k hk => by rw [hk]; exact HPG.out.2) hs1))
  have HP2 := Lib.hid h1.pt
  have hs2 := h1.kept.size
  clear h1 HP HB
  rw [show decide (gv (idL 5) 3 ≠ gv (idL 5) 1) = true by decide]
  go_wp2_with (fail)
  go_at_call 15
  refine (union_pt (a := 1) (b := 4) (by decide) (by decide) HP2.out).mono ?_
  rw [j2]
  rintro e w3 ⟨rfl, h1⟩
  have HB3 : Hid (Below W.heap.size W w3) := Lib.hid (HB2.out.trans (h1.kept.below (fun k hk => by rw [hk]; exact HPG.out.2) (by omega)))
  have HP3 := Lib.hid h1.pt
  have hs3 := h1.kept.size
  clear h1 HP2 HB2
  rw [show decide (gv [0, 1, 2, 1, 4] 1 ≠ gv [0, 1, 2, 1, 4] 4) = true by decide]
  go_wp2_with (fail)
  go_at_call 15
  refine (union_pt (a := 4) (b := 3) (by decide) (by decide) HP3.out).mono ?_
  rw [j3]
  rintro e w4 ⟨rfl, h1⟩
  have HB4 : Hid (Below W.heap.size W w4) := Lib.hid (HB3.out.trans (h1.kept.below (fun k hk => by rw [hk]; exact HPG.out.2) (by omega)))
  have HP4 := Lib.hid h1.pt
  have hs4 := h1.kept.size
  clear h1 HP3 HB3
  rw [show decide (gv [0, 1, 2, 1, 1] 4 ≠ gv [0, 1, 2, 1, 1] 3) = false by decide]
  go_wp2_with (fail)
  go_at_call 25
  refine (blocks_calls (M := fun _ => False) HP4.out (fun _ h => h.elim)).mono ?_
  rw [b1]
  rintro e w5 ⟨q5, m5, c5, rfl, h1, h2⟩
  have HL := Lib.hid h1
  have HB5 : Hid (Below W.heap.size W w5) := Lib.hid (HB4.out.trans (h2.kept.below (fun k hk => by rw [hk]; exact HPG.out.2) (by omega)))
  have HP5 := Lib.hid h2.pt
  have hs5 := h2.kept.size
  clear h1 h2 HP4 HB4
  go_wp2_with (fail)
  go_at_call 38
  have hbA : Below w5.heap.size w5 ((((w5.alloc (.cells #[.int .i64 0] 3)).alloc (.cells #[.int .i64 1, .int .i64 3, .int .i64 4] 3)).alloc (.cells #[.int .i64 2] 3)).alloc (.cells #[.slice (some ⟨w5.heap.size, 0, none⟩) 1 1, .slice (some ⟨w5.heap.size + 1, 0, none⟩) 3 3, .slice (some ⟨w5.heap.size + 1 + 1, 0, none⟩) 1 1] 23)) := (by repeat (first | assumption | exact Below.refl _ _ | exact below_beyond _ _ | refine Below.beyond ?_ (by (try simp [size_beyond]) <;> omega) _ | refine Below.drew ?_ | refine Go.Rw.below_drewN ?_ _ | refine Go.Rw.below_setRow ?_ (by (try simp [size_beyond]) <;> omega) _ | refine Below.alloc ?_ (by (try simp [size_beyond]) <;> omega) _ | refine Below.setCell ?_ (by (try simp [size_beyond]) <;> omega) _))
  refine (alike_calls (HL.out.below hbA) (ls3 w5)).mono ?_
  rw [decide_eq_true rfl]
  rintro e w6 ⟨rfl, h1⟩
  have hb6 : Below w5.heap.size w5 w6 := hbA.trans (h1.mono hbA.size)
  have HB6 := Lib.hid (HB5.out.trans (hb6.mono (by omega)))
  have HP6 := Lib.hid (HP5.out.below hb6)
  have hs6 := hb6.size
  clear h1 hb6 hbA HL HB5 HP5
  have hbS : Below w6.heap.size w6 (w6.alloc (.cells #[.int .i64 0, .int .i64 0, .int .i64 0, .int .i64 0, .int .i64 7] 3)) := (by repeat (first | assumption | exact Below.refl _ _ | exact below_beyond _ _ | refine Below.beyond ?_ (by (try simp [size_beyond]) <;> omega) _ | refine Below.drew ?_ | refine Go.Rw.below_drewN ?_ _ | refine Go.Rw.below_setRow ?_ (by (try simp [size_beyond]) <;> omega) _ | refine Below.alloc ?_ (by (try simp [size_beyond]) <;> omega) _ | refine Below.setCell ?_ (by (try simp [size_beyond]) <;> omega) _))
  have HS := Lib.hid (split_pt (lab := [0, 0, 0, 0, 7]) (HP6.out.below hbS) (at_row (M := fun k => k = g) (g := w6.heap.size) (l := [0, 0, 0, 0, 7]) (c := 5) ⟨[], blockOf_alloc_at _ _ _ rfl⟩ (by decide) (by decide) (by decide) (fun h => by have := HP6.out.gl; omega)) rfl rfl (fun i => by
    match i with
    | 0 => rfl
    | 1 => rfl
    | 2 => rfl
    | 3 => rfl
    | 4 => rfl
    | i + 5 => rfl))
  rw [s1] at HS
  have HB6S := Lib.hid (HB6.out.trans (hbS.mono (by omega)))
  have hss := hbS.size
  clear hbS
  go_wp2_with (fail)
  go_at_call 28
  refine HS.out.mono ?_
  rintro e w7 ⟨g7, rfl, h1, hg7, h3⟩
  have HP7 := Lib.hid h1
  have HB7 : Hid (Below W.heap.size W w7) := Lib.hid (HB6S.out.trans (h3.below (fun k hk => by have := HPG.out; omega) (by omega)))
  have hs7 := h3.size
  have hg7' : W.heap.size ≤ g7 := by omega
  clear h1 h3 HS HB6S HB6 HP6
  go_wp2_with (fail)
  go_at_call 25
  refine (blocks_calls (M := fun _ => False) HP7.out (fun _ h => h.elim)).mono ?_
  rw [b2]
  rintro e w8 ⟨q8, m8, c8, rfl, h1, h2⟩
  have HL := Lib.hid h1
  have HB8 : Hid (Below W.heap.size W w8) := Lib.hid (HB7.out.trans (h2.kept.below (fun k hk => by rw [hk]; exact hg7') (by omega)))
  have hs8 := h2.kept.size
  clear h1 h2 HP7 HB7
  go_wp2_with (fail)
  go_at_call 38
  have hbA : Below w8.heap.size w8 (((((w8.alloc (.cells #[.int .i64 0] 3)).alloc (.cells #[.int .i64 1, .int .i64 3] 3)).alloc (.cells #[.int .i64 2] 3)).alloc (.cells #[.int .i64 4] 3)).alloc (.cells #[.slice (some ⟨w8.heap.size, 0, none⟩) 1 1, .slice (some ⟨w8.heap.size + 1, 0, none⟩) 2 2, .slice (some ⟨w8.heap.size + 1 + 1, 0, none⟩) 1 1, .slice (some ⟨w8.heap.size + 1 + 1 + 1, 0, none⟩) 1 1] 23)) := (by repeat (first | assumption | exact Below.refl _ _ | exact below_beyond _ _ | refine Below.beyond ?_ (by (try simp [size_beyond]) <;> omega) _ | refine Below.drew ?_ | refine Go.Rw.below_drewN ?_ _ | refine Go.Rw.below_setRow ?_ (by (try simp [size_beyond]) <;> omega) _ | refine Below.alloc ?_ (by (try simp [size_beyond]) <;> omega) _ | refine Below.setCell ?_ (by (try simp [size_beyond]) <;> omega) _))
  refine (alike_calls (HL.out.below hbA) (ls4 w8)).mono ?_
  rw [decide_eq_true rfl]
  rintro e w9 ⟨rfl, h1⟩
  have HB9 := Lib.hid (HB8.out.trans ((hbA.trans (h1.mono hbA.size)).mono (by omega)))
  clear h1 hbA
  go_wp2
  go_ret
  exact ⟨rfl, HB9.out⟩
end Go.Proofs.Ytjlpjdpaingnkaa.pt
