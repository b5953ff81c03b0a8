/-
  Partitions as lists of representatives: refinement; the order of unions; the number of blocks.
-/
import Derived.Test.YtjlpjdpaingnkaaPtN
set_option linter.unusedSimpArgs false
set_option linter.unusedVariables false
namespace Go.Pt
/-- elements that are together in c are together in o -/
def Fin (c o : List Int) : Prop := ∀ i j, i < c.length → j < c.length → gv c i = gv c j → gv o i = gv o j
theorem Fin.refl (c : List Int) : Fin c c := fun _ _ _ _ h => h
theorem Fin.trans {a b c : List Int} (h : Fin a b) (hl : a.length = b.length) (h2 : Fin b c) : Fin a c := fun i j hi hj e => h2 i j (by omega) (by omega) (h i j hi hj e)
theorem finer_iff {c o : List Int} (h : Rep c) : finerL c o = true ↔ Fin c o := by
  unfold finerL
  rw [decide_eq_true_eq]
  constructor
  · intro hf i j hi hj e
    rw [hf i hi, hf j hj, e]
  · intro hf i hi
    exact hf i _ hi (h.lt hi) (h.idem i hi).symm
theorem rep_ext {w v : List Int} (hw : Rep w) (hv : Rep v) (hl : w.length = v.length) (h1 : Fin w v) (h2 : Fin v w) : w = v := by
  have half : ∀ {w v : List Int}, Rep w → Rep v → w.length = v.length → Fin w v → ∀ i, i < w.length → gv v i ≤ gv w i := by
    intro w v hw hv hl h i hi
    have e := h i _ hi (hw.lt hi) (hw.idem i hi).symm
    have := hv.le (gv w i).toNat (by have := hw.lt hi; omega)
    have := hw.lo i hi
    omega
  refine gv_ext hl fun i hi => ?_
  have a := half hw hv hl h1 i hi
  have b := half hv hw hl.symm h2 i (by omega)
  omega
theorem fin_join {w : List Int} (a b : Nat) : Fin w (joinL w a b) := fun i j hi hj e => by rw [gv_joinL hi, gv_joinL hj, e]
theorem joined_eq {w : List Int} {a b : Nat} (ha : a < w.length) (hb : b < w.length) : gv (joinL w a b) a = gv (joinL w a b) b := by
  rw [gv_joinL ha, gv_joinL hb]
  by_cases h1 : gv w a = max (gv w a) (gv w b) <;> by_cases h2 : gv w b = max (gv w a) (gv w b)
  · rw [if_pos h1, if_pos h2]
  · rw [if_pos h1, if_neg h2]; omega
  · rw [if_neg h1, if_pos h2]; omega
  · omega
theorem join_fin {w p : List Int} {a b : Nat} (ha : a < w.length) (hb : b < w.length) (h : Fin w p) (hp : gv p a = gv p b) : Fin (joinL w a b) p := by
  intro i j hi hj e
  rw [joinL_len] at hi hj
  rw [gv_joinL hi, gv_joinL hj] at e
  by_cases c1 : gv w i = gv w j
  · exact h i j hi hj c1
  have ai := h i a hi ha; have bi := h i b hi hb
  have aj := h j a hj ha; have bj := h j b hj hb
  by_cases h1 : gv w i = max (gv w a) (gv w b)
  · rw [if_pos h1] at e
    by_cases h2 : gv w j = max (gv w a) (gv w b)
    · exact absurd (h1.trans h2.symm) c1
    · rw [if_neg h2] at e
      rcases Int.le_total (gv w a) (gv w b) with hle | hle
      · rw [bi (by omega), aj (by omega), hp]
      · rw [ai (by omega), bj (by omega), hp]
  · rw [if_neg h1] at e
    by_cases h2 : gv w j = max (gv w a) (gv w b)
    · rw [if_pos h2] at e
      rcases Int.le_total (gv w a) (gv w b) with hle | hle
      · rw [ai (by omega), bj (by omega), hp]
      · rw [bi (by omega), aj (by omega), hp]
    · rw [if_neg h2] at e; exact absurd e c1
theorem fin_over {w v : List Int} : ∀ k, Fin w (overTo w v k)
  | 0 => Fin.refl _
  | k + 1 => by rw [overTo_succ]; exact (fin_over k).trans (overTo_len w v k).symm (fin_join _ _)
theorem over_has {w v : List Int} (hv : Rep v) (hl : w.length = v.length) : ∀ k, k ≤ v.length → ∀ i, i < k → gv (overTo w v k) i = gv (overTo w v k) (gv v i).toNat
  | 0, _, i, hi => absurd hi (Nat.not_lt_zero _)
  | k + 1, hk, i, hi => by
    rw [overTo_succ]
    have hlen := overTo_len w v k
    have hk2 := hv.lt (i := k) (by omega)
    by_cases h : i < k
    · exact fin_join k (gv v k).toNat i _ (by omega) (by have := hv.lt (i := i) (by omega); omega) (over_has hv hl k (by omega) i h)
    · obtain rfl : i = k := by omega
      exact joined_eq (by omega) (by omega)
theorem over_least {w v p : List Int} (hv : Rep v) (hl : w.length = v.length) (h1 : Fin w p) (h2 : Fin v p) : ∀ k, k ≤ v.length → Fin (overTo w v k) p
  | 0, _ => h1
  | k + 1, hk => by
    rw [overTo_succ]
    have hlen := overTo_len w v k
    have hk2 := hv.lt (i := k) (by omega)
    exact join_fin (by omega) (by omega) (over_least hv hl h1 h2 k (by omega)) (h2 k _ (by omega) hk2 (hv.idem k (by omega)).symm)
theorem over_fin1 {w v : List Int} : Fin w (overL w v) := fin_over _
theorem over_fin2 {w v : List Int} (hv : Rep v) (hl : w.length = v.length) : Fin v (overL w v) := by
  intro i j hi hj e
  have h := over_has hv hl v.length (Nat.le_refl _)
  unfold overL
  rw [h i hi, h j hj, e]
theorem overL_len (w v : List Int) : (overL w v).length = w.length := overTo_len _ _ _
theorem overL_rep {w v : List Int} (hw : Rep w) (hv : Rep v) (hl : w.length = v.length) : Rep (overL w v) := overTo_rep hw hv hl _ (Nat.le_refl _)
theorem byL_len (a b : List Int) : (byL a b).length = a.length := byTo_len _ _ _
theorem by_fin1 (a b : List Int) : Fin (byL a b) a := fun i j hi hj e => by rw [byL_len] at hi hj; exact ((byL_iff hi hj).1 e).1
theorem by_fin2 (a b : List Int) : Fin (byL a b) b := fun i j hi hj e => by rw [byL_len] at hi hj; exact ((byL_iff hi hj).1 e).2
theorem by_most {a b c : List Int} (hl : c.length = a.length) (h1 : Fin c a) (h2 : Fin c b) : Fin c (byL a b) := fun i j hi hj e => (byL_iff (by omega) (by omega)).2 ⟨h1 i j hi hj e, h2 i j hi hj e⟩
/-- one pair: joined if both are elements -/
def okB (w : List Int) (a : Int) : Bool := decide (0 ≤ a ∧ a < w.length)
def stepB (w : List Int) (a b : Int) : List Int := if okB w a && okB w b then joinL w a.toNat b.toNat else w
theorem stepB_len (w : List Int) (a b : Int) : (stepB w a b).length = w.length := by unfold stepB; split; exact joinL_len _ _ _; rfl
theorem okB_len {w v : List Int} (h : w.length = v.length) (a : Int) : okB w a = okB v a := by unfold okB; rw [h]
theorem okB_iff {w : List Int} {a : Int} : okB w a = true ↔ 0 ≤ a ∧ a < w.length := by simp [okB]
theorem stepB_rep {w : List Int} (h : Rep w) (a b : Int) : Rep (stepB w a b) := by
  unfold stepB
  split
  · rename_i e
    simp only [Bool.and_eq_true] at e
    have h1 := okB_iff.1 e.1; have h2 := okB_iff.1 e.2
    exact joinL_rep h (by omega) (by omega)
  · exact h
theorem step_fin (w : List Int) (a b : Int) : Fin w (stepB w a b) := by
  unfold stepB
  split
  · exact fin_join _ _
  · exact Fin.refl _
def foldB (w : List Int) (A B : Nat → Int) : Nat → List Int
  | 0 => w
  | k + 1 => stepB (foldB w A B k) (A k) (B k)
theorem foldB_len (w : List Int) (A B : Nat → Int) : ∀ k, (foldB w A B k).length = w.length
  | 0 => rfl
  | k + 1 => by unfold foldB; rw [stepB_len, foldB_len w A B k]
theorem foldB_rep {w : List Int} (h : Rep w) (A B : Nat → Int) : ∀ k, Rep (foldB w A B k)
  | 0 => h
  | k + 1 => stepB_rep (foldB_rep h A B k) _ _
/-- every pair of elements is together in p -/
def Has (n : Nat) (A B : Nat → Int) (k : Nat) (p : List Int) : Prop := ∀ t, t < k → 0 ≤ A t → A t < n → 0 ≤ B t → B t < n → gv p (A t).toNat = gv p (B t).toNat
theorem fold_has (w : List Int) (A B : Nat → Int) : ∀ k, Has w.length A B k (foldB w A B k)
  | 0 => fun t ht => absurd ht (Nat.not_lt_zero _)
  | k + 1 => by
    intro t ht h1 h2 h3 h4
    have hlen := foldB_len w A B k
    by_cases h : t < k
    · exact step_fin _ (A k) (B k) _ _ (by omega) (by omega) (fold_has w A B k t h h1 h2 h3 h4)
    · obtain rfl : t = k := by omega
      unfold foldB stepB
      rw [if_pos (by rw [Bool.and_eq_true]; exact ⟨okB_iff.2 ⟨h1, by omega⟩, okB_iff.2 ⟨h3, by omega⟩⟩)]
      exact joined_eq (by omega) (by omega)
theorem fold_least {w p : List Int} (hw : Fin w p) (A B : Nat → Int) : ∀ k, Has w.length A B k p → Fin (foldB w A B k) p
  | 0, _ => hw
  | k + 1, h => by
    have hlen := foldB_len w A B k
    have ih := fold_least hw A B k (fun t ht => h t (by omega))
    unfold foldB stepB
    split
    · rename_i e
      simp only [Bool.and_eq_true] at e
      have h1 := okB_iff.1 e.1; have h2 := okB_iff.1 e.2
      exact join_fin (by omega) (by omega) ih (h k (by omega) h1.1 (by omega) h2.1 (by omega))
    · exact ih
/-- the order of the pairs, and the order in a pair, don't matter -/
theorem fold_any_order {w : List Int} (hw : Rep w) (hid : ∀ p : List Int, Fin w p) {A B : Nat → Int} {k : Nat} {σ : Nat → Nat} (h1 : ∀ i, i < k → σ i < k) (h2 : ∀ t, t < k → ∃ i, i < k ∧ σ i = t) :
    foldB w (fun i => B (σ i)) (fun i => A (σ i)) k = foldB w A B k := by
  refine rep_ext (foldB_rep hw _ _ _) (foldB_rep hw _ _ _) (by rw [foldB_len, foldB_len]) ?_ ?_
  · exact fold_least (hid _) _ _ _ (fun t ht a1 a2 a3 a4 => (fold_has w A B k (σ t) (h1 t ht) a3 a4 a1 a2).symm)
  · refine fold_least (hid _) _ _ _ (fun t ht a1 a2 a3 a4 => ?_)
    obtain ⟨i, hi, rfl⟩ := h2 t ht
    exact (fold_has w (fun i => B (σ i)) (fun i => A (σ i)) k i hi a3 a4 a1 a2).symm
theorem id_fin {n : Nat} {p : List Int} : Fin (idL n) p := fun i j hi hj e => by
  rw [idL_len] at hi hj
  rw [gv_idL hi, gv_idL hj] at e
  have : i = j := by omega
  rw [this]
/-- the number of blocks -/
def nb (w : List Int) : Nat := (heads w w.length).length
theorem nb_id (n : Nat) : nb (idL n) = n := by
  unfold nb heads
  rw [idL_len, List.filter_eq_self.2]
  · simp
  · intro i hi
    rw [List.mem_range] at hi
    simp [gv_idL hi]
theorem nb_join {w : List Int} (h : Rep w) {a b : Nat} (ha : a < w.length) (hb : b < w.length) (hab : gv w a ≠ gv w b) : nb (joinL w a b) + 1 = nb w := by
  obtain ⟨hi, hhi⟩ : ∃ hi : Nat, (hi : Int) = max (gv w a) (gv w b) := ⟨(max (gv w a) (gv w b)).toNat, by have := h.lo a ha; omega⟩
  have la := h.lo a ha; have lb := h.lo b hb; have ta := h.lt ha; have tb := h.lt hb
  have ia := h.idem a ha; have ib := h.idem b hb
  have hil : hi < w.length := by omega
  have hih : gv w hi = hi := by
    rcases Int.le_total (gv w a) (gv w b) with hle | hle
    · have : hi = (gv w b).toNat := by omega
      rw [this, ib]; omega
    · have : hi = (gv w a).toNat := by omega
      rw [this, ia]; omega
  have hmn : gv w (min (gv w a) (gv w b)).toNat = min (gv w a) (gv w b) := by
    rcases Int.le_total (gv w a) (gv w b) with hle | hle
    · rw [show min (gv w a) (gv w b) = gv w a by omega, ia]
    · rw [show min (gv w a) (gv w b) = gv w b by omega, ib]
  have he : heads (joinL w a b) w.length = (heads w w.length).erase hi := by
    have hnd : (heads w w.length).Nodup := List.Pairwise.filter _ List.nodup_range
    rw [hnd.erase_eq_filter]
    unfold heads
    rw [List.filter_filter]
    refine List.filter_congr fun i hi' => ?_
    rw [List.mem_range] at hi'
    rw [gv_joinL hi']
    by_cases c : gv w i = max (gv w a) (gv w b)
    · rw [if_pos c]
      have h1 : ¬ min (gv w a) (gv w b) = (i : Int) := by
        intro e
        have e2 : (min (gv w a) (gv w b)).toNat = i := by omega
        rw [e2] at hmn; omega
      have h2 : ¬ ((i != hi) = true ∧ gv w i = (i : Int)) := by
        rintro ⟨k1, k2⟩
        have : i = hi := by omega
        subst this; simp at k1
      rw [Bool.eq_iff_iff]
      simp only [beq_iff_eq, Bool.and_eq_true]
      exact ⟨fun h => absurd h h1, fun h => absurd h h2⟩
    · rw [if_neg c]
      rw [Bool.eq_iff_iff]
      simp only [beq_iff_eq, Bool.and_eq_true]
      constructor
      · intro e
        refine ⟨?_, e⟩
        rw [bne_iff_ne]
        intro e2; subst e2; omega
      · exact fun h => h.2
  unfold nb
  rw [joinL_len, he, List.length_erase_of_mem (by unfold heads; rw [List.mem_filter, List.mem_range]; exact ⟨hil, by simp [hih]⟩)]
  have : 0 < (heads w w.length).length := List.length_pos_of_mem (a := hi) (by unfold heads; rw [List.mem_filter, List.mem_range]; exact ⟨hil, by simp [hih]⟩)
  omega
theorem join_ne {w : List Int} {a b : Nat} (ha : a < w.length) (hb : b < w.length) (hab : gv w a ≠ gv w b) : joinL w a b ≠ w := by
  intro e
  have := joined_eq ha hb
  rw [e] at this
  exact hab this
end Go.Pt
