/-
  The reference's numbers in memory: decimal digits, as ints.
-/
import Derived.Test.YtogjobmekjighaaDoorBdT
import Derived.Test.YtogjobmekjighaaDoorBnPf
set_option linter.unusedSimpArgs false
set_option linter.unusedVariables false
namespace Go.Proofs.YtogjobmekjighaaDoor.bd
open Go.RowKit Go.Own Go.Bd
set_option maxHeartbeats 4000000
set_option maxRecDepth 100000

theorem uI : (Tryd.prog.info? 3).map (fun i => (i.zero, i.size, i.bytes)) = some (some (.int .i64 0), 1, 8) := by kernel_rfl
theorem uU : Tryd.prog.underlying 30 = some (.slice 3) := Tryd.underlying30
def dv (x : Nat) : Value := .int .i64 (x : Int)
/-- the slice reads as these digits, here -/
structure TnAt (q : Option Addr) (m c : Nat) (ds : List Nat) (w : World) : Prop where
  mk' :: (all : m = ds.length ∧ m ≤ 999000 ∧ m ≤ c ∧ c ≤ maxLen ∧ Dig ds ∧ ((ds = [] ∧ (q = none → c = 0)) ∨ ∃ b off, q = some ⟨b, off, none⟩ ∧ b < w.heap.size ∧ ∀ (i x : Nat), ds[i]? = some x → w.cell? ⟨b, off + i, none⟩ = some (.int .i64 (x : Int))))
theorem TnAt.below {q : Option Addr} {m c : Nat} {ds : List Nat} {w w' : World} (h : TnAt q m c ds w) (hb : Below w.heap.size w w') : TnAt q m c ds w' := by
  obtain ⟨h1, h2, h3, h4, h5, h6⟩ := h.all
  refine ⟨h1, h2, h3, h4, h5, ?_⟩
  rcases h6 with h | ⟨b, off, k1, k2, k3⟩
  · exact .inl h
  · exact .inr ⟨b, off, k1, Nat.lt_of_lt_of_le k2 hb.size, fun i x hx => (hb.cell k2).trans (k3 i x hx)⟩
theorem TnAt.cell {q : Option Addr} {m c : Nat} {ds : List Nat} {w : World} (h : TnAt q m c ds w) {k : Nat} (hk : k < m) : ∃ b off, q = some ⟨b, off, none⟩ ∧ b < w.heap.size ∧ ∀ i, i < m → w.cell? ⟨b, off + i, none⟩ = some (.int .i64 (dg ds i : Int)) := by
  obtain ⟨h1, h2, h3, h4, h5, h6⟩ := h.all
  rcases h6 with ⟨h, _⟩ | ⟨b, off, k1, k2, k3⟩
  · rw [h] at h1; simp at h1; omega
  · exact ⟨b, off, k1, k2, fun i hi => k3 i _ (dg_some (by omega))⟩
theorem TnAt.take {q : Option Addr} {m c : Nat} {ds : List Nat} {w : World} (h : TnAt q m c ds w) {k c' : Nat} (hk : k ≤ m) (h0 : 0 < k) (hc : k ≤ c') (hc2 : c' ≤ maxLen) : TnAt q k c' (ds.take k) w := by
  obtain ⟨h1, h2, h3, h4, h5, h6⟩ := h.all
  refine ⟨by simp; omega, by omega, hc, hc2, dig_take h5 k, ?_⟩
  rcases h6 with h | ⟨b, off, k1, k2, k3⟩
  · exfalso; rw [h.1] at h1; simp at h1; omega
  · exact .inr ⟨b, off, k1, k2, fun i x hx => k3 i x (by rw [List.getElem?_take] at hx; split at hx <;> simp_all)⟩
theorem tn_nil (w : World) : TnAt none 0 0 [] w := ⟨rfl, Nat.zero_le _, Nat.le_refl _, Nat.zero_le _, fun _ h => by simp at h, .inl ⟨rfl, fun _ => rfl⟩⟩
/-- a row of digits that begins with l -/
structure RowT (g : Nat) (l : List Nat) (w : World) : Prop where
  ex : ∃ rest : List Value, w.heap[g]? = some (.cells (l.map dv ++ rest).toArray 3 (0, 0))
theorem RowT.lt {g : Nat} {l : List Nat} {w : World} (h : RowT g l w) : g < w.heap.size := by obtain ⟨r, hr⟩ := h.ex; exact (Array.getElem?_eq_some_iff.1 hr).1
theorem RowT.cell {g : Nat} {l : List Nat} {w : World} (h : RowT g l w) {a : Nat} (ha : a < l.length) : w.cell? ⟨g, a, none⟩ = some (.int .i64 (dg l a : Int)) := by
  obtain ⟨r, hr⟩ := h.ex
  have e : (l.map dv ++ r)[a]? = some (dv (dg l a)) := by
    rw [List.getElem?_append_left (by simpa using ha), List.getElem?_map, dg_some ha]; rfl
  simp [World.cell?, hr]
  simpa [dv] using e
theorem RowT.frozen {g : Nat} {l : List Nat} {w : World} (h : RowT g l w) (a : Nat) : w.frozen? ⟨g, a, none⟩ = false := by obtain ⟨r, hr⟩ := h.ex; simp [World.frozen?, hr]
theorem RowT.set {g : Nat} {l : List Nat} {w : World} (h : RowT g l w) {a : Nat} (ha : a < l.length) (x : Nat) : RowT g (l.set a x) (w.setCell ⟨g, a, none⟩ (.int .i64 (x : Int))) := by
  obtain ⟨r, hr⟩ := h.ex
  refine ⟨r, ?_⟩
  show (w.heap.modify g _)[g]? = _
  rw [Array.getElem?_modify, if_pos rfl, hr]
  simp [List.map_set, List.set_append, ha, dv]
theorem RowT.below {g : Nat} {l : List Nat} {w w' : World} (h : RowT g l w) (hk : Below w.heap.size w w') : RowT g l w' := by
  obtain ⟨r, hr⟩ := h.ex; exact ⟨r, (hk.block g h.lt).trans hr⟩
theorem RowT.at_ {g : Nat} {l : List Nat} {w : World} (h : RowT g l w) (hl : l.length ≤ 999000) (hd : Dig l) {c : Nat} (hc : l.length ≤ c) (hc2 : c ≤ maxLen) : TnAt (some ⟨g, 0, none⟩) l.length c l w := by
  refine ⟨rfl, hl, hc, hc2, hd, .inr ⟨g, 0, rfl, h.lt, fun i x hx => ?_⟩⟩
  have h1 := (List.getElem?_eq_some_iff.1 hx).1
  have := h.cell (a := i) h1
  rw [Nat.zero_add, this]
  have e := dg_some h1
  rw [hx] at e
  injection e with e
  rw [e]
theorem RowT.made {w : World} {g k B : Nat} (h : w.ownsRow B 3 1 (.slice (some ⟨g, 0, none⟩) k k) k (madeCells #[Value.int .i64 0] k).toList) : RowT g (List.replicate k 0) w := by
  rcases h.2 with ⟨h, _⟩ | ⟨g', cap, cur, h, hb, hgg, hn, hc, hs, ht⟩
  · cases h
  · cases h
    refine ⟨[], ?_⟩
    rw [hgg]
    congr 2
    have hcur : cur.toList = (madeCells #[Value.int .i64 0] k).toList := by rw [← ht, ← hs, ← Array.length_toList, List.take_length]
    apply Array.toList_inj.1
    rw [hcur]
    refine List.ext_getElem? fun i => ?_
    by_cases hi : i < k
    · simp [madeCells, hi, Nat.mod_one, dv]
    · simp [madeCells, hi]
/-- a row that is being filled: zeros from z on -/
def Mrow (g n z : Nat) (d : List Nat) (w : World) : Prop := RowT g d w ∧ d.length = n ∧ Dig d ∧ ∀ j, z ≤ j → dg d j = 0
theorem Mrow.below {g n z : Nat} {d : List Nat} {w w' : World} (h : Mrow g n z d w) (hb : Below w.heap.size w w') : Mrow g n z d w' := ⟨h.1.below hb, h.2⟩
theorem dg_zeros (n j : Nat) : dg (List.replicate n 0) j = 0 := by
  unfold dg; rw [List.getD_eq_getElem?_getD, List.getElem?_replicate]; split <;> rfl
theorem Mrow.made {w : World} {g k L : Nat} (h : w.ownsRow L 3 1 (.slice (some ⟨g, 0, none⟩) k k) k (madeCells #[Value.int .i64 0] k).toList) (z : Nat) : Mrow g k z (List.replicate k 0) w :=
  ⟨RowT.made h, by simp, fun d hd => by rw [(List.mem_replicate.1 hd).2]; decide, fun j _ => dg_zeros k j⟩
theorem Mrow.set {g n z : Nat} {d : List Nat} {w : World} (h : Mrow g n z d w) {i x : Nat} (hi : i < n) (hz : i < z) (hx : x < B) : Mrow g n z (d.set i x) (w.setCell ⟨g, i, none⟩ (.int .i64 (x : Int))) :=
  ⟨h.1.set (by rw [h.2.1]; exact hi) x, by rw [List.length_set]; exact h.2.1, dig_set h.2.2.1 hx, fun j hj => by rw [dg_set (by rw [h.2.1]; exact hi), if_neg (by omega)]; exact h.2.2.2 j hj⟩
def Byt (ds : List Nat) : Prop := ∀ d ∈ ds, d < 256
theorem byt_take {ds : List Nat} (h : Byt ds) (k : Nat) : Byt (ds.take k) := fun d hd => h d (List.mem_of_mem_take hd)
def bv (x : Nat) : Value := .int .u8 (x : Int)
/-- the slice reads as these digits, here -/
structure U8At (q : Option Addr) (m c : Nat) (ds : List Nat) (w : World) : Prop where
  mk' :: (all : m = ds.length ∧ m ≤ 999000 ∧ m ≤ c ∧ c ≤ maxLen ∧ Byt ds ∧ (ds = [] ∨ ∃ b off, q = some ⟨b, off, none⟩ ∧ b < w.heap.size ∧ ∀ (i x : Nat), ds[i]? = some x → w.cell? ⟨b, off + i, none⟩ = some (.int .u8 (x : Int))))
theorem U8At.below {q : Option Addr} {m c : Nat} {ds : List Nat} {w w' : World} (h : U8At q m c ds w) (hb : Below w.heap.size w w') : U8At q m c ds w' := by
  obtain ⟨h1, h2, h3, h4, h5, h6⟩ := h.all
  refine ⟨h1, h2, h3, h4, h5, ?_⟩
  rcases h6 with h | ⟨b, off, k1, k2, k3⟩
  · exact .inl h
  · exact .inr ⟨b, off, k1, Nat.lt_of_lt_of_le k2 hb.size, fun i x hx => (hb.cell k2).trans (k3 i x hx)⟩
theorem U8At.cell {q : Option Addr} {m c : Nat} {ds : List Nat} {w : World} (h : U8At q m c ds w) {k : Nat} (hk : k < m) : ∃ b off, q = some ⟨b, off, none⟩ ∧ b < w.heap.size ∧ ∀ i, i < m → w.cell? ⟨b, off + i, none⟩ = some (.int .u8 (dg ds i : Int)) := by
  obtain ⟨h1, h2, h3, h4, h5, h6⟩ := h.all
  rcases h6 with h | ⟨b, off, k1, k2, k3⟩
  · rw [h] at h1; simp at h1; omega
  · exact ⟨b, off, k1, k2, fun i hi => k3 i _ (dg_some (by omega))⟩
theorem U8At.take {q : Option Addr} {m c : Nat} {ds : List Nat} {w : World} (h : U8At q m c ds w) {k c' : Nat} (hk : k ≤ m) (h0 : 0 < k) (hc : k ≤ c') (hc2 : c' ≤ maxLen) : U8At q k c' (ds.take k) w := by
  obtain ⟨h1, h2, h3, h4, h5, h6⟩ := h.all
  refine ⟨by simp; omega, by omega, hc, hc2, byt_take h5 k, ?_⟩
  rcases h6 with h | ⟨b, off, k1, k2, k3⟩
  · exfalso; rw [h] at h1; simp at h1; omega
  · exact .inr ⟨b, off, k1, k2, fun i x hx => k3 i x (by rw [List.getElem?_take] at hx; split at hx <;> simp_all)⟩
theorem u8_nil (w : World) : U8At none 0 0 [] w := ⟨rfl, Nat.zero_le _, Nat.le_refl _, Nat.zero_le _, fun _ h => by simp at h, .inl rfl⟩
/-- a row of digits that begins with l -/
structure RowB (g : Nat) (l : List Nat) (w : World) : Prop where
  ex : ∃ rest : List Value, w.heap[g]? = some (.cells (l.map bv ++ rest).toArray 5 (0, 0))
theorem RowB.lt {g : Nat} {l : List Nat} {w : World} (h : RowB g l w) : g < w.heap.size := by obtain ⟨r, hr⟩ := h.ex; exact (Array.getElem?_eq_some_iff.1 hr).1
theorem RowB.cell {g : Nat} {l : List Nat} {w : World} (h : RowB g l w) {a : Nat} (ha : a < l.length) : w.cell? ⟨g, a, none⟩ = some (.int .u8 (dg l a : Int)) := by
  obtain ⟨r, hr⟩ := h.ex
  have e : (l.map bv ++ r)[a]? = some (bv (dg l a)) := by
    rw [List.getElem?_append_left (by simpa using ha), List.getElem?_map, dg_some ha]; rfl
  simp [World.cell?, hr]
  simpa [bv] using e
theorem RowB.frozen {g : Nat} {l : List Nat} {w : World} (h : RowB g l w) (a : Nat) : w.frozen? ⟨g, a, none⟩ = false := by obtain ⟨r, hr⟩ := h.ex; simp [World.frozen?, hr]
theorem RowB.set {g : Nat} {l : List Nat} {w : World} (h : RowB g l w) {a : Nat} (ha : a < l.length) (x : Nat) : RowB g (l.set a x) (w.setCell ⟨g, a, none⟩ (.int .u8 (x : Int))) := by
  obtain ⟨r, hr⟩ := h.ex
  refine ⟨r, ?_⟩
  show (w.heap.modify g _)[g]? = _
  rw [Array.getElem?_modify, if_pos rfl, hr]
  simp [List.map_set, List.set_append, ha, bv]
theorem RowB.below {g : Nat} {l : List Nat} {w w' : World} (h : RowB g l w) (hk : Below w.heap.size w w') : RowB g l w' := by
  obtain ⟨r, hr⟩ := h.ex; exact ⟨r, (hk.block g h.lt).trans hr⟩
theorem RowB.at_ {g : Nat} {l : List Nat} {w : World} (h : RowB g l w) (hl : l.length ≤ 999000) (hd : Byt l) {c : Nat} (hc : l.length ≤ c) (hc2 : c ≤ maxLen) : U8At (some ⟨g, 0, none⟩) l.length c l w := by
  refine ⟨rfl, hl, hc, hc2, hd, .inr ⟨g, 0, rfl, h.lt, fun i x hx => ?_⟩⟩
  have h1 := (List.getElem?_eq_some_iff.1 hx).1
  have := h.cell (a := i) h1
  rw [Nat.zero_add, this]
  have e := dg_some h1
  rw [hx] at e
  injection e with e
  rw [e]
theorem RowB.made {w : World} {g k B : Nat} (h : w.ownsRow B 5 1 (.slice (some ⟨g, 0, none⟩) k k) k (madeCells #[Value.int .u8 0] k).toList) : RowB g (List.replicate k 0) w := by
  rcases h.2 with ⟨h, _⟩ | ⟨g', cap, cur, h, hb, hgg, hn, hc, hs, ht⟩
  · cases h
  · cases h
    refine ⟨[], ?_⟩
    rw [hgg]
    congr 2
    have hcur : cur.toList = (madeCells #[Value.int .u8 0] k).toList := by rw [← ht, ← hs, ← Array.length_toList, List.take_length]
    apply Array.toList_inj.1
    rw [hcur]
    refine List.ext_getElem? fun i => ?_
    by_cases hi : i < k
    · simp [madeCells, hi, Nat.mod_one, bv]
    · simp [madeCells, hi]
end Go.Proofs.YtogjobmekjighaaDoor.bd
