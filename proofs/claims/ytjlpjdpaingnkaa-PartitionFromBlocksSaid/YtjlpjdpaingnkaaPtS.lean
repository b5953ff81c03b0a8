/-
  A partition from its blocks: what comes of it.
-/
import Derived.Test.YtjlpjdpaingnkaaPtQ
set_option linter.unusedSimpArgs false
set_option linter.unusedVariables false
namespace Go.Pt
/-- the elements in their order, each with the first of its block -/
def withHead (b : List Int) (l : List Int) : List (Int × Int) := l.map fun a => (a, b.headD 0)
def flat : List (List Int) → List (Int × Int)
  | [] => []
  | b :: r => withHead b b ++ flat r
/-- what comes of it: the partition, and the error's number -/
def ofR (w : List Int) (seen : List Int) : List (Int × Int) → List Int × Nat
  | [] => (w, 0)
  | (a, h) :: r => if okB w a = false then ([], 1) else if a ∈ seen then ([], 7) else ofR (joinL w h.toNat a.toNat) (a :: seen) r
theorem ofR_bad {w seen : List Int} {a h : Int} {r : List (Int × Int)} (e : okB w a = false) : ofR w seen ((a, h) :: r) = ([], 1) := by unfold ofR; rw [if_pos e]
theorem ofR_dup {w seen : List Int} {a h : Int} {r : List (Int × Int)} (e : okB w a = true) (e2 : a ∈ seen) : ofR w seen ((a, h) :: r) = ([], 7) := by unfold ofR; rw [if_neg (by rw [e]; decide), if_pos e2]
theorem ofR_step {w seen : List Int} {a h : Int} {r : List (Int × Int)} (e : okB w a = true) (e2 : a ∉ seen) : ofR w seen ((a, h) :: r) = ofR (joinL w h.toNat a.toNat) (a :: seen) r := by
  conv => lhs; unfold ofR
  rw [if_neg (by rw [e]; decide), if_neg e2]
theorem withHead_drop {b : List Int} {k : Nat} {x : Int} (h : b[k]? = some x) : withHead b (b.drop k) = (x, b.headD 0) :: withHead b (b.drop (k + 1)) := by
  obtain ⟨hk, e⟩ := List.getElem?_eq_some_iff.1 h
  rw [List.drop_eq_getElem_cons hk, e]; rfl
theorem withHead_end {b : List Int} : withHead b (b.drop b.length) = [] := by simp [withHead]
theorem flat_drop {L : List (List Int)} {k : Nat} {b : List Int} (h : L[k]? = some b) : flat (L.drop k) = withHead b (b.drop 0) ++ flat (L.drop (k + 1)) := by
  obtain ⟨hk, e⟩ := List.getElem?_eq_some_iff.1 h
  rw [List.drop_eq_getElem_cons hk, e]; rfl
theorem flat_end {L : List (List Int)} : flat (L.drop L.length) = [] := by simp [flat]
/-- all are elements, no two the same: it is the fold of the joins -/
def joins (w : List Int) : List (Int × Int) → List Int
  | [] => w
  | (a, h) :: r => joins (joinL w h.toNat a.toNat) r
theorem ofR_good : ∀ (r : List (Int × Int)) (w seen : List Int), (∀ p ∈ r, okB w p.1 = true) → (r.map (·.1)).Nodup → (∀ p ∈ r, p.1 ∉ seen) → ofR w seen r = (joins w r, 0)
  | [], _, _, _, _, _ => rfl
  | (a, h) :: r, w, seen, h1, h2, h3 => by
    rw [ofR_step (h1 (a, h) (by simp)) (h3 (a, h) (by simp))]
    rw [List.map_cons, List.nodup_cons] at h2
    refine ofR_good r _ _ (fun p hp => ?_) h2.2 (fun p hp hm => ?_)
    · rw [okB_len (joinL_len w _ _)]; exact h1 p (by simp [hp])
    · rcases List.mem_cons.1 hm with e | e
      · exact h2.1 (by rw [List.mem_map]; exact ⟨p, hp, e⟩)
      · exact h3 p (by simp [hp]) e
theorem joins_len : ∀ (r : List (Int × Int)) (w : List Int), (joins w r).length = w.length
  | [], _ => rfl
  | (a, h) :: r, w => by unfold joins; rw [joins_len r, joinL_len]
theorem joins_rep : ∀ (r : List (Int × Int)) (w : List Int), Rep w → (∀ p ∈ r, okB w p.1 = true ∧ okB w p.2 = true) → Rep (joins w r)
  | [], _, h, _ => h
  | (a, h) :: r, w, hr, hp => by
    obtain ⟨h1, h2⟩ := hp (a, h) (by simp)
    have k1 := okB_iff.1 h1; have k2 := okB_iff.1 h2
    exact joins_rep r _ (joinL_rep hr (by omega) (by omega)) (fun p hp' => by rw [okB_len (joinL_len w _ _), okB_len (joinL_len w _ _)]; exact hp p (by simp [hp']))
theorem joins_fin : ∀ (r : List (Int × Int)) (w : List Int), Fin w (joins w r)
  | [], _ => Fin.refl _
  | (a, h) :: r, w => (fin_join _ _).trans (joinL_len _ _ _).symm (joins_fin r _)
theorem joins_least : ∀ (r : List (Int × Int)) (w p : List Int), Fin w p → (∀ x ∈ r, okB w x.1 = true ∧ okB w x.2 = true ∧ gv p x.2.toNat = gv p x.1.toNat) → Fin (joins w r) p
  | [], _, _, h, _ => h
  | (a, h) :: r, w, p, hf, hp => by
    obtain ⟨h1, h2, h3⟩ := hp (a, h) (by simp)
    have k1 := okB_iff.1 h1; have k2 := okB_iff.1 h2
    exact joins_least r _ _ (join_fin (by omega) (by omega) hf h3) (fun x hx => by rw [okB_len (joinL_len w _ _), okB_len (joinL_len w _ _)]; exact hp x (by simp [hx]))
theorem joins_has : ∀ (r : List (Int × Int)) (w : List Int), (∀ p ∈ r, okB w p.1 = true ∧ okB w p.2 = true) → ∀ x ∈ r, gv (joins w r) x.2.toNat = gv (joins w r) x.1.toNat
  | [], _, _, x, hx => by simp at hx
  | (a, h) :: r, w, hp, x, hx => by
    obtain ⟨h1, h2⟩ := hp (a, h) (by simp)
    have k1 := okB_iff.1 h1; have k2 := okB_iff.1 h2
    have hl := joinL_len w h.toNat a.toNat
    rcases List.mem_cons.1 hx with e | e
    · subst e
      exact joins_fin r _ _ _ (by show h.toNat < _; omega) (by show a.toNat < _; omega) (joined_eq (by omega) (by omega))
    · exact joins_has r _ (fun p hp' => by rw [okB_len (joinL_len w _ _), okB_len (joinL_len w _ _)]; exact hp p (by simp [hp'])) x e
theorem mem_blk {w : List Int} {r x : Int} : x ∈ blockL w r ↔ ∃ i : Nat, i < w.length ∧ gv w i = r ∧ x = i := by
  unfold blockL blk
  simp only [List.mem_map, List.mem_filter, List.mem_range, beq_iff_eq]
  constructor
  · rintro ⟨i, ⟨h1, h2⟩, rfl⟩; exact ⟨i, h1, h2, rfl⟩
  · rintro ⟨i, h1, h2, rfl⟩; exact ⟨i, ⟨h1, h2⟩, rfl⟩
theorem mem_flat : ∀ {L : List (List Int)} {p : Int × Int}, p ∈ flat L ↔ ∃ b ∈ L, p.1 ∈ b ∧ p.2 = b.headD 0
  | [], p => by simp [flat]
  | b :: r, p => by
    unfold flat
    rw [List.mem_append, mem_flat]
    simp only [withHead, List.mem_map, List.mem_cons]
    constructor
    · rintro (⟨a, h1, rfl⟩ | ⟨b', h1, h2⟩)
      · exact ⟨b, .inl rfl, h1, rfl⟩
      · exact ⟨b', .inr h1, h2⟩
    · rintro ⟨b', h1, h2, h3⟩
      rcases h1 with rfl | h1
      · exact .inl ⟨p.1, h2, by rw [← h3]⟩
      · exact .inr ⟨b', h1, h2, h3⟩
theorem flat_fst : ∀ L : List (List Int), (flat L).map (·.1) = L.flatten
  | [] => rfl
  | b :: r => by
    unfold flat
    rw [List.map_append, flat_fst r, List.flatten_cons]
    congr 1
    simp [withHead, Function.comp_def]
/-- the first of a block is its representative -/
theorem head_blk {w : List Int} (h : Rep w) {r : Nat} (hr : r < w.length) (e : gv w r = r) : (blockL w (r : Int)).headD 0 = (r : Int) := by
  have hm : (r : Int) ∈ blockL w (r : Int) := mem_blk.2 ⟨r, hr, e, rfl⟩
  have hs : (blockL w (r : Int)).Pairwise (· < ·) := by
    unfold blockL blk
    rw [List.pairwise_map]
    exact ((List.pairwise_lt_range (n := w.length)).filter _).imp (fun h => by omega)
  cases hb : blockL w (r : Int) with
  | nil => rw [hb] at hm; simp at hm
  | cons x t =>
    rw [hb] at hm hs
    have hx : x ∈ blockL w (r : Int) := by rw [hb]; simp
    obtain ⟨i, hi, hg, rfl⟩ := mem_blk.1 hx
    have := h.le i hi
    rcases List.mem_cons.1 hm with h1 | h1
    · show (i : Int) = r; omega
    · have := (List.pairwise_cons.1 hs).1 _ h1; show (i : Int) = r; omega
theorem mem_blocks {w : List Int} {b : List Int} : b ∈ blocksL w ↔ ∃ r : Nat, r < w.length ∧ gv w r = r ∧ b = blockL w (r : Int) := by
  unfold blocksL blocksTo heads
  simp only [List.mem_map, List.mem_filter, List.mem_range, beq_iff_eq]
  constructor
  · rintro ⟨r, ⟨h1, h2⟩, rfl⟩; exact ⟨r, h1, h2, rfl⟩
  · rintro ⟨r, h1, h2, rfl⟩; exact ⟨r, ⟨h1, h2⟩, rfl⟩
theorem nodup_blocks (w : List Int) : (blocksL w).flatten.Nodup := by
  unfold List.Nodup
  rw [List.pairwise_flatten]
  constructor
  · intro b hb
    obtain ⟨r, _, _, rfl⟩ := mem_blocks.1 hb
    unfold blockL blk
    rw [List.pairwise_map]
    have hnd : (List.range w.length).Pairwise (· ≠ ·) := List.nodup_range
    exact (hnd.filter _).imp (fun h e => h (by omega))
  · unfold blocksL blocksTo
    rw [List.pairwise_map]
    have hnd : (heads w w.length).Pairwise (· ≠ ·) := List.Pairwise.filter _ List.nodup_range
    refine hnd.imp (fun {a b} hab => ?_)
    intro x hx y hy exy
    subst exy
    obtain ⟨i, _, h1, h2⟩ := mem_blk.1 hx
    obtain ⟨j, _, h3, h4⟩ := mem_blk.1 hy
    have : i = j := by omega
    subst this
    exact hab (by omega)
/-- a partition comes back from its own blocks -/
theorem of_blocks {w : List Int} (h : Rep w) : ofR (idL w.length) [] (flat (blocksL w)) = (w, 0) := by
  have hl := idL_len w.length
  have hpairs : ∀ p ∈ flat (blocksL w), ∃ i r : Nat, i < w.length ∧ r < w.length ∧ gv w i = r ∧ gv w r = r ∧ p = ((i : Int), (r : Int)) := by
    intro p hp
    obtain ⟨b, hb, h1, h2⟩ := mem_flat.1 hp
    obtain ⟨r, hr, e, rfl⟩ := mem_blocks.1 hb
    obtain ⟨i, hi, hg, hx⟩ := mem_blk.1 h1
    rw [head_blk h hr e] at h2
    exact ⟨i, r, hi, hr, hg, e, Prod.ext hx h2⟩
  have hok : ∀ p ∈ flat (blocksL w), okB (idL w.length) p.1 = true ∧ okB (idL w.length) p.2 = true := by
    intro p hp
    obtain ⟨i, r, h1, h2, _, _, rfl⟩ := hpairs p hp
    exact ⟨okB_iff.2 ⟨by simp, by simp only [hl]; omega⟩, okB_iff.2 ⟨by simp, by simp only [hl]; omega⟩⟩
  rw [ofR_good _ _ _ (fun p hp => (hok p hp).1) (by rw [flat_fst]; exact nodup_blocks w) (fun p _ h => by simp at h)]
  congr 1
  refine rep_ext (joins_rep _ _ (idL_rep _) hok) h (by rw [joins_len, hl]) ?_ ?_
  · refine joins_least _ _ _ id_fin (fun x hx => ⟨(hok x hx).1, (hok x hx).2, ?_⟩)
    obtain ⟨i, r, h1, h2, h3, h4, rfl⟩ := hpairs x hx
    simp only [Int.toNat_natCast]
    rw [h3, h4]
  · intro i j hi hj e
    have key : ∀ i, i < w.length → gv (joins (idL w.length) (flat (blocksL w))) (gv w i).toNat = gv (joins (idL w.length) (flat (blocksL w))) i := by
      intro i hi
      have hr := h.lt hi
      have hlo := h.lo i hi
      have hid := h.idem i hi
      have hm : ((i : Int), gv w i) ∈ flat (blocksL w) := by
        refine mem_flat.2 ⟨blockL w (((gv w i).toNat : Nat) : Int), mem_blocks.2 ⟨(gv w i).toNat, hr, by omega, rfl⟩, mem_blk.2 ⟨i, hi, by omega, rfl⟩, ?_⟩
        rw [head_blk h hr (by omega)]
        show gv w i = _; omega
      have := joins_has (flat (blocksL w)) (idL w.length) hok _ hm
      simpa using this
    rw [← key i hi, ← key j hj, e]
end Go.Pt
