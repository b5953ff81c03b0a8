/-
  Partitions as lists of representatives: joining, blocks, meets, joins.
-/
import Derived.Test.YtjlpjdpaingnkaaPtM
set_option linter.unusedSimpArgs false
set_option linter.unusedVariables false
namespace Go.Pt
/-- the number at place i -/
def gv (w : List Int) (i : Nat) : Int := w.getD i 0
theorem gv_some {w : List Int} {i : Nat} {x : Int} (h : w[i]? = some x) : gv w i = x := by simp [gv, List.getD_eq_getElem?_getD, h]
theorem some_gv {w : List Int} {i : Nat} (h : i < w.length) : w[i]? = some (gv w i) := by simp [gv, List.getD_eq_getElem?_getD, h]
theorem gv_ext {w v : List Int} (hl : w.length = v.length) (h : ∀ i, i < w.length → gv w i = gv v i) : w = v := by
  refine List.ext_getElem? fun i => ?_
  by_cases hi : i < w.length
  · rw [some_gv hi, some_gv (by omega), h i hi]
  · rw [List.getElem?_eq_none (by omega), List.getElem?_eq_none (by omega)]
theorem gv_map_range {f : Nat → Int} {n i : Nat} (h : i < n) : gv ((List.range n).map f) i = f i := gv_some (by simp [h])
/-- the least element of each block -/
structure Rep (w : List Int) : Prop where
  lo : ∀ i, i < w.length → 0 ≤ gv w i
  le : ∀ i, i < w.length → gv w i ≤ i
  idem : ∀ i, i < w.length → gv w (gv w i).toNat = gv w i
theorem Rep.lt {w : List Int} (h : Rep w) {i : Nat} (hi : i < w.length) : (gv w i).toNat < w.length := by have := h.le i hi; have := h.lo i hi; omega
/-- the representatives that a list of parents stands for -/
def reps (u : List Nat) : List Int := (List.range u.length).map fun i => (root u i : Int)
theorem reps_len (u : List Nat) : (reps u).length = u.length := by simp [reps]
theorem gv_reps {u : List Nat} {i : Nat} (h : i < u.length) : gv (reps u) i = (root u i : Int) := gv_map_range h
theorem reps_rep {u : List Nat} (h : Up u) : Rep (reps u) := by
  have hl := reps_len u
  refine ⟨fun i hi => ?_, fun i hi => ?_, fun i hi => ?_⟩
  · rw [gv_reps (by omega)]; omega
  · rw [gv_reps (by omega)]; have := root_le h i; omega
  · rw [gv_reps (u := u) (i := i) (by omega), Int.toNat_natCast, gv_reps (by have := root_le h i; omega), root_root h]
/-- a list of representatives as parents -/
def ups (w : List Int) : List Nat := w.map Int.toNat
theorem par_ups {w : List Int} {i : Nat} (h : i < w.length) : par (ups w) i = (gv w i).toNat := by
  simp [par, ups, gv, List.getD_eq_getElem?_getD, h]
theorem ups_up {w : List Int} (h : Rep w) : Up (ups w) := by
  intro i x hx
  simp only [ups, List.getElem?_map, Option.map_eq_some_iff] at hx
  obtain ⟨y, hy, rfl⟩ := hx
  have := h.le i (List.getElem?_eq_some_iff.1 hy).1
  rw [gv_some hy] at this
  omega
theorem reps_ups {w : List Int} (h : Rep w) : reps (ups w) = w := by
  have hl : (ups w).length = w.length := by simp [ups]
  refine gv_ext (by rw [reps_len, hl]) fun i hi => ?_
  rw [reps_len, hl] at hi
  rw [gv_reps (by omega)]
  have hu := ups_up h
  have h1 := h.lo i hi
  have h2 := h.lt hi
  rw [root_eq hu, par_ups hi]
  split
  · omega
  · rw [root_self hu (by rw [par_ups h2, h.idem i hi])]; omega
theorem root_of_same {u u' : List Nat} (hl : u'.length = u.length) (h : ∀ i, root u' i = root u i) : reps u' = reps u := by
  unfold reps; rw [hl]; exact List.map_congr_left fun i _ => by rw [h]
/-- singletons -/
def idL (n : Nat) : List Int := (List.range n).map fun (i : Nat) => (i : Int)
theorem idL_len (n : Nat) : (idL n).length = n := by simp [idL]
theorem gv_idL {n i : Nat} (h : i < n) : gv (idL n) i = i := gv_map_range h
theorem idL_snoc (n : Nat) : idL (n + 1) = idL n ++ [(n : Int)] := by simp [idL, List.range_succ]
theorem idL_rep (n : Nat) : Rep (idL n) := by
  have hl := idL_len n
  refine ⟨fun i hi => ?_, fun i hi => ?_, fun i hi => ?_⟩ <;> rw [hl] at hi <;> rw [gv_idL hi]
  · omega
  · omega
  · rw [Int.toNat_natCast, gv_idL hi]
/-- the partition after joining the blocks of a and b -/
def joinL (w : List Int) (a b : Nat) : List Int := w.map fun z => if z = max (gv w a) (gv w b) then min (gv w a) (gv w b) else z
theorem joinL_len (w : List Int) (a b : Nat) : (joinL w a b).length = w.length := by simp [joinL]
theorem gv_joinL {w : List Int} {a b i : Nat} (h : i < w.length) : gv (joinL w a b) i = if gv w i = max (gv w a) (gv w b) then min (gv w a) (gv w b) else gv w i := by
  refine gv_some ?_
  simp only [joinL, List.getElem?_map, some_gv h, Option.map_some]
theorem joinL_same {w : List Int} {a b : Nat} (h : gv w a = gv w b) : joinL w a b = w := by
  unfold joinL
  rw [h]
  conv => rhs; rw [← List.map_id w]
  refine List.map_congr_left fun z _ => ?_
  split
  · simp; omega
  · rfl
theorem joinL_comm (w : List Int) (a b : Nat) : joinL w a b = joinL w b a := by unfold joinL; rw [Int.max_comm, Int.min_comm]
theorem reps_joined {u u' : List Nat} {a b : Nat} (hl : u'.length = u.length) (ha : a < u.length) (hb : b < u.length) (h : ∀ i, root u' i = if root u i = max (root u a) (root u b) then min (root u a) (root u b) else root u i) : reps u' = joinL (reps u) a b := by
  refine gv_ext (by rw [joinL_len, reps_len, reps_len, hl]) fun i hi => ?_
  rw [reps_len, hl] at hi
  rw [gv_reps (by omega), gv_joinL (by rw [reps_len]; omega), gv_reps hi, gv_reps ha, gv_reps hb, h i]
  have e1 : max (root u a : Int) (root u b) = ((max (root u a) (root u b) : Nat) : Int) := by omega
  have e2 : min (root u a : Int) (root u b) = ((min (root u a) (root u b) : Nat) : Int) := by omega
  rw [e1, e2]
  by_cases e : root u i = max (root u a) (root u b)
  · rw [if_pos e, if_pos (by omega)]
  · rw [if_neg e, if_neg (by omega)]
theorem joinL_rep {w : List Int} (h : Rep w) {a b : Nat} (ha : a < w.length) (hb : b < w.length) : Rep (joinL w a b) := by
  have hl := joinL_len w a b
  have la := h.lo a ha; have lb := h.lo b hb
  have ta := h.lt ha; have tb := h.lt hb
  have ia := h.idem a ha; have ib := h.idem b hb
  refine ⟨fun i hi => ?_, fun i hi => ?_, fun i hi => ?_⟩ <;> rw [hl] at hi <;> rw [gv_joinL hi]
  · have := h.lo i hi; split <;> omega
  · have := h.le i hi; split <;> omega
  · have li := h.lo i hi; have ti := h.lt hi; have ii := h.idem i hi
    split
    · have hm : min (gv w a) (gv w b) = gv w a ∨ min (gv w a) (gv w b) = gv w b := by omega
      rcases hm with hm | hm
      · rw [hm, gv_joinL ta, ia]; split <;> omega
      · rw [hm, gv_joinL tb, ib]; split <;> omega
    · rw [gv_joinL ti, ii]; split <;> simp_all
/-- the elements below k whose representative is h -/
def blk (w : List Int) (h : Int) (k : Nat) : List Int := ((List.range k).filter fun i => gv w i == h).map fun (i : Nat) => (i : Int)
def blockL (w : List Int) (h : Int) : List Int := blk w h w.length
theorem blk_zero (w : List Int) (h : Int) : blk w h 0 = [] := rfl
theorem blk_snoc (w : List Int) (h : Int) (k : Nat) : blk w h (k + 1) = blk w h k ++ if gv w k = h then [(k : Int)] else [] := by
  unfold blk
  rw [List.range_succ, List.filter_append, List.map_append]
  by_cases e : gv w k = h <;> simp [e]
theorem blk_len (w : List Int) (h : Int) (k : Nat) : (blk w h k).length ≤ k := by
  unfold blk; rw [List.length_map]; exact Nat.le_trans (List.length_filter_le _ _) (by simp)
/-- the representatives below k -/
def heads (w : List Int) (k : Nat) : List Nat := (List.range k).filter fun i => gv w i == (i : Int)
theorem heads_snoc (w : List Int) (k : Nat) : heads w (k + 1) = heads w k ++ if gv w k = k then [k] else [] := by
  unfold heads
  rw [List.range_succ, List.filter_append]
  by_cases e : gv w k = k <;> simp [e]
theorem heads_len (w : List Int) (k : Nat) : (heads w k).length ≤ k := Nat.le_trans (List.length_filter_le _ _) (by simp)
def blocksTo (w : List Int) (k : Nat) : List (List Int) := (heads w k).map fun (i : Nat) => blockL w (i : Int)
def blocksL (w : List Int) : List (List Int) := blocksTo w w.length
theorem blocksTo_snoc (w : List Int) (k : Nat) : blocksTo w (k + 1) = blocksTo w k ++ if gv w k = k then [blockL w (k : Int)] else [] := by
  unfold blocksTo; rw [heads_snoc]
  by_cases e : gv w k = k <;> simp [e]
theorem blocksTo_len (w : List Int) (k : Nat) : (blocksTo w k).length = (heads w k).length := by simp [blocksTo]
/-- the least k that agrees with i in both lists -/
def agree (a b : List Int) (k i : Nat) : Bool := gv a k == gv a i && gv b k == gv b i
def byAt (a b : List Int) (i : Nat) : Nat := ((List.range i).find? fun k => agree a b k i).getD i
theorem byAt_spec (a b : List Int) (i : Nat) : byAt a b i ≤ i ∧ agree a b (byAt a b i) i = true ∧ ∀ k, k < byAt a b i → agree a b k i = false := by
  unfold byAt
  cases h : (List.range i).find? (fun k => agree a b k i) with
  | none =>
    refine ⟨Nat.le_refl _, by simp [agree], fun k hk => ?_⟩
    have := List.find?_eq_none.1 h k (by simpa using hk)
    simpa using this
  | some x =>
    obtain ⟨h1, as, bs, h2, h3⟩ := List.find?_eq_some_iff_append.1 h
    have hx : x = as.length := by
      have := congrArg (fun l => l[as.length]?) h2
      simp only [List.getElem?_append_right (Nat.le_refl _), Nat.sub_self, List.getElem?_cons_zero] at this
      rw [List.getElem?_range (by have := congrArg List.length h2; simp at this; omega)] at this
      exact (Option.some.inj this).symm
    have hxi : x < i := by have := congrArg List.length h2; simp at this; omega
    refine ⟨Nat.le_of_lt hxi, by simpa using h1, fun k hk => ?_⟩
    have hk : k < x := by simpa using hk
    have hm : k ∈ as := by
      have e : as = List.range as.length := by
        have := congrArg (List.take as.length) h2
        rw [List.take_left' rfl, List.take_range, Nat.min_eq_left (by omega)] at this
        exact this.symm
      rw [e]; simp; omega
    have := h3 k hm
    simpa using this
theorem byAt_eq {a b : List Int} {i k : Nat} (hk : k ≤ i) (h : agree a b k i = true) (hl : ∀ j, j < k → agree a b j i = false) : byAt a b i = k := by
  obtain ⟨h1, h2, h3⟩ := byAt_spec a b i
  rcases Nat.lt_trichotomy (byAt a b i) k with e | e | e
  · rw [hl _ e] at h2; cases h2
  · exact e
  · rw [h3 _ e] at h; cases h
def byTo (a b : List Int) (k : Nat) : List Int := (List.range k).map fun i => (byAt a b i : Int)
def byL (a b : List Int) : List Int := byTo a b a.length
theorem byTo_snoc (a b : List Int) (k : Nat) : byTo a b (k + 1) = byTo a b k ++ [(byAt a b k : Int)] := by simp [byTo, List.range_succ]
theorem byTo_len (a b : List Int) (k : Nat) : (byTo a b k).length = k := by simp [byTo]
theorem gv_byTo {a b : List Int} {k i : Nat} (h : i < k) : gv (byTo a b k) i = byAt a b i := gv_map_range h
theorem agree_eq {a b : List Int} {i j : Nat} : agree a b i j = true ↔ gv a i = gv a j ∧ gv b i = gv b j := by simp [agree]
theorem byL_rep (a b : List Int) : Rep (byL a b) := by
  have hl : (byL a b).length = a.length := byTo_len _ _ _
  refine ⟨fun i hi => ?_, fun i hi => ?_, fun i hi => ?_⟩ <;> rw [hl] at hi <;> unfold byL <;> rw [gv_byTo hi]
  · omega
  · have := (byAt_spec a b i).1; omega
  · obtain ⟨h1, h2, h3⟩ := byAt_spec a b i
    rw [Int.toNat_natCast, gv_byTo (by omega)]
    congr 1
    refine byAt_eq (Nat.le_refl _) (by simp [agree]) fun j hj => ?_
    have := h3 j hj
    rw [Bool.eq_false_iff] at this ⊢
    intro h
    rw [agree_eq] at h h2
    exact this (agree_eq.2 ⟨h.1.trans h2.1, h.2.trans h2.2⟩)
/-- two elements agree in both lists just if they have the same number in byL -/
theorem byL_iff {a b : List Int} {i j : Nat} (hi : i < a.length) (hj : j < a.length) : gv (byL a b) i = gv (byL a b) j ↔ gv a i = gv a j ∧ gv b i = gv b j := by
  unfold byL
  rw [gv_byTo hi, gv_byTo hj]
  obtain ⟨h1, h2, h3⟩ := byAt_spec a b i
  obtain ⟨k1, k2, k3⟩ := byAt_spec a b j
  rw [agree_eq] at h2 k2
  constructor
  · intro h
    have h : byAt a b i = byAt a b j := by omega
    rw [h] at h2
    exact ⟨h2.1.symm.trans k2.1, h2.2.symm.trans k2.2⟩
  · intro h
    rcases Nat.lt_trichotomy (byAt a b i) (byAt a b j) with e | e | e
    · have := k3 _ e
      rw [agree_eq.2 ⟨h2.1.trans h.1, h2.2.trans h.2⟩] at this; cases this
    · rw [e]
    · have := h3 _ e
      rw [agree_eq.2 ⟨k2.1.trans h.1.symm, k2.2.trans h.2.symm⟩] at this; cases this
/-- the finest common coarsening -/
def overTo (w v : List Int) (k : Nat) : List Int := (List.range k).foldl (fun c i => joinL c i (gv v i).toNat) w
def overL (w v : List Int) : List Int := overTo w v v.length
theorem overTo_succ (w v : List Int) (k : Nat) : overTo w v (k + 1) = joinL (overTo w v k) k (gv v k).toNat := by simp [overTo, List.range_succ]
theorem overTo_len (w v : List Int) (k : Nat) : (overTo w v k).length = w.length := by
  induction k with
  | zero => rfl
  | succ k ih => rw [overTo_succ, joinL_len, ih]
theorem overTo_rep {w v : List Int} (h : Rep w) (hv : Rep v) (hl : w.length = v.length) : ∀ k, k ≤ v.length → Rep (overTo w v k)
  | 0, _ => h
  | k + 1, hk => by
    rw [overTo_succ]
    exact joinL_rep (overTo_rep h hv hl k (by omega)) (by rw [overTo_len]; omega) (by rw [overTo_len, hl]; exact hv.lt (by omega))
/-- one partition refines another -/
def finerTo (c o : List Int) (k : Nat) : Prop := ∀ i, i < k → gv o i = gv o (gv c i).toNat
instance (c o : List Int) (k : Nat) : Decidable (finerTo c o k) := by unfold finerTo; infer_instance
def finerL (c o : List Int) : Bool := decide (finerTo c o c.length)
end Go.Pt
