/-
  Natural numbers as the program keeps them: slices of digits that are never modified.
-/
import Derived.Test.YtogjobmekjighaaDoorKeeps
import Derived.Test.YtogjobmekjighaaDoorRow
import Derived.Test.YtogjobmekjighaaDoorBnN
import Derived.Test.YtogjobmekjighaaDoorProg
import Derived.Deep.CutBlock
set_option linter.unusedSimpArgs false
set_option linter.unusedVariables false
namespace Go.Proofs.YtogjobmekjighaaDoor.bn
open Go.RowKit Go.Own Go.Bn
set_option maxHeartbeats 4000000
set_option maxRecDepth 100000

theorem uI : (Tryd.prog.info? 68).map (fun i => (i.zero, i.size, i.bytes)) = some (some (.int .u32 0), 1, 4) := by kernel_rfl
theorem uU : Tryd.prog.underlying 25 = some (.slice 68) := Tryd.underlying25
def dv (x : Nat) : Value := .int .u32 (x : Int)
/-- the slice reads as these digits, here -/
structure DgAt (q : Option Addr) (m c : Nat) (ds : List Nat) (w : World) : Prop where
  mk' :: (all : m = ds.length ∧ m ≤ 999000 ∧ m ≤ c ∧ c ≤ maxLen ∧ Dig ds ∧ ((ds = [] ∧ q = none ∧ c = 0) ∨ ∃ b off, q = some ⟨b, off, none⟩ ∧ b < w.heap.size ∧ ∀ (i x : Nat), ds[i]? = some x → w.cell? ⟨b, off + i, none⟩ = some (.int .u32 (x : Int))))
theorem DgAt.below {q : Option Addr} {m c : Nat} {ds : List Nat} {w w' : World} (h : DgAt q m c ds w) (hb : Below w.heap.size w w') : DgAt q m c ds w' := by
  obtain ⟨h1, h2, h3, h4, h5, h6⟩ := h.all
  refine ⟨h1, h2, h3, h4, h5, ?_⟩
  rcases h6 with h | ⟨b, off, k1, k2, k3⟩
  · exact .inl h
  · exact .inr ⟨b, off, k1, Nat.lt_of_lt_of_le k2 hb.size, fun i x hx => (hb.cell k2).trans (k3 i x hx)⟩
theorem DgAt.cell {q : Option Addr} {m c : Nat} {ds : List Nat} {w : World} (h : DgAt q m c ds w) {k : Nat} (hk : k < m) : ∃ b off, q = some ⟨b, off, none⟩ ∧ b < w.heap.size ∧ ∀ i, i < m → w.cell? ⟨b, off + i, none⟩ = some (.int .u32 (dg ds i : Int)) := by
  obtain ⟨h1, h2, h3, h4, h5, h6⟩ := h.all
  rcases h6 with ⟨h, _⟩ | ⟨b, off, k1, k2, k3⟩
  · rw [h] at h1; simp at h1; omega
  · exact ⟨b, off, k1, k2, fun i hi => k3 i _ (dg_some (by omega))⟩
theorem DgAt.take {q : Option Addr} {m c : Nat} {ds : List Nat} {w : World} (h : DgAt q m c ds w) {k c' : Nat} (hk : k ≤ m) (h0 : 0 < k) (hc : k ≤ c') (hc2 : c' ≤ maxLen) : DgAt q k c' (ds.take k) w := by
  obtain ⟨h1, h2, h3, h4, h5, h6⟩ := h.all
  refine ⟨by simp; omega, by omega, hc, hc2, dig_take h5 k, ?_⟩
  rcases h6 with h | ⟨b, off, k1, k2, k3⟩
  · exfalso; rw [h.1] at h1; simp at h1; omega
  · exact .inr ⟨b, off, k1, k2, fun i x hx => k3 i x (by rw [List.getElem?_take] at hx; split at hx <;> simp_all)⟩
theorem dg_nil (w : World) : DgAt none 0 0 [] w := ⟨rfl, Nat.zero_le _, Nat.le_refl _, Nat.zero_le _, fun _ h => by simp at h, .inl ⟨rfl, rfl, rfl⟩⟩
/-- the value is this number, here -/
structure NatAt (v : Value) (n : Nat) (w : World) : Prop where
  ex : ∃ q m c ds, v = .agg #[.slice q m c] ∧ DgAt q m c ds w ∧ Nrm ds ∧ val ds = n
theorem NatAt.below {v : Value} {n : Nat} {w w' : World} (h : NatAt v n w) (hb : Below w.heap.size w w') : NatAt v n w' := by
  obtain ⟨q, m, c, ds, h1, h2, h3, h4⟩ := h.ex; exact ⟨q, m, c, ds, h1, h2.below hb, h3, h4⟩
/-- a row of digits that begins with l -/
structure RowU (g : Nat) (l : List Nat) (w : World) : Prop where
  ex : ∃ rest : List Value, w.heap[g]? = some (.cells (l.map dv ++ rest).toArray 68 (0, 0))
theorem RowU.lt {g : Nat} {l : List Nat} {w : World} (h : RowU g l w) : g < w.heap.size := by obtain ⟨r, hr⟩ := h.ex; exact (Array.getElem?_eq_some_iff.1 hr).1
theorem RowU.cell {g : Nat} {l : List Nat} {w : World} (h : RowU g l w) {a : Nat} (ha : a < l.length) : w.cell? ⟨g, a, none⟩ = some (.int .u32 (dg l a : Int)) := by
  obtain ⟨r, hr⟩ := h.ex
  have e : (l.map dv ++ r)[a]? = some (dv (dg l a)) := by
    rw [List.getElem?_append_left (by simpa using ha), List.getElem?_map, dg_some ha]; rfl
  simp [World.cell?, hr]
  simpa [dv] using e
theorem RowU.frozen {g : Nat} {l : List Nat} {w : World} (h : RowU g l w) (a : Nat) : w.frozen? ⟨g, a, none⟩ = false := by obtain ⟨r, hr⟩ := h.ex; simp [World.frozen?, hr]
theorem RowU.set {g : Nat} {l : List Nat} {w : World} (h : RowU g l w) {a : Nat} (ha : a < l.length) (x : Nat) : RowU g (l.set a x) (w.setCell ⟨g, a, none⟩ (.int .u32 (x : Int))) := by
  obtain ⟨r, hr⟩ := h.ex
  refine ⟨r, ?_⟩
  show (w.heap.modify g _)[g]? = _
  rw [Array.getElem?_modify, if_pos rfl, hr]
  simp [List.map_set, List.set_append, ha, dv]
theorem RowU.below {g : Nat} {l : List Nat} {w w' : World} (h : RowU g l w) (hk : Below w.heap.size w w') : RowU g l w' := by
  obtain ⟨r, hr⟩ := h.ex; exact ⟨r, (hk.block g h.lt).trans hr⟩
theorem RowU.at_ {g : Nat} {l : List Nat} {w : World} (h : RowU g l w) (hl : l.length ≤ 999000) (hd : Dig l) {c : Nat} (hc : l.length ≤ c) (hc2 : c ≤ maxLen) : DgAt (some ⟨g, 0, none⟩) l.length c l w := by
  refine ⟨rfl, hl, hc, hc2, hd, .inr ⟨g, 0, rfl, h.lt, fun i x hx => ?_⟩⟩
  have h1 := (List.getElem?_eq_some_iff.1 hx).1
  have := h.cell (a := i) h1
  rw [Nat.zero_add, this]
  have e := dg_some h1
  rw [hx] at e
  injection e with e
  rw [e]
theorem RowU.made {w : World} {g k B : Nat} (h : w.ownsRow B 68 1 (.slice (some ⟨g, 0, none⟩) k k) k (madeCells #[Value.int .u32 0] k).toList) : RowU g (List.replicate k 0) w := by
  rcases h.2 with ⟨h, _⟩ | ⟨g', cap, cur, h, hb, hgg, hn, hc, hs, ht⟩
  · cases h
  · cases h
    refine ⟨[], ?_⟩
    rw [hgg]
    congr 2
    have hcur : cur.toList = (madeCells #[Value.int .u32 0] k).toList := by rw [← ht, ← hs, ← Array.length_toList, List.take_length]
    apply Array.toList_inj.1
    rw [hcur]
    refine List.ext_getElem? fun i => ?_
    by_cases hi : i < k
    · simp [madeCells, hi, Nat.mod_one, dv]
    · simp [madeCells, hi]
/-- hands back this number -/
def RetN (W : World) (n : Nat) (e : Ending) (w' : World) : Prop := ∃ v, e = .returned v ∧ NatAt v n w' ∧ Below W.heap.size W w'
end Go.Proofs.YtogjobmekjighaaDoor.bn
