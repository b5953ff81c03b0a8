/-
  Slices of integers that read as lists: those that come in, and those that a call makes for itself by appending.
-/
import Derived.Test.YtogjobmekjighaaDoorBase
set_option linter.unusedSimpArgs false
set_option linter.unusedVariables false
namespace Go.Rw
open Go.RowKit Go.Own

/-- the slice's cells, from its address on, hold the numbers l -/
def Reads (w : World) (q : Option Addr) (l : List Int) : Prop :=
  l = [] ∨ ∃ b off, q = some ⟨b, off, none⟩ ∧ b < w.heap.size ∧ ∀ i x, l[i]? = some x → w.cell? ⟨b, off + i, none⟩ = some (.int .i64 x)
theorem Reads.nil (w : World) (q : Option Addr) : Reads w q [] := .inl rfl
theorem Reads.below {W w : World} {q : Option Addr} {l : List Int} (h : Reads W q l) (hb : Below W.heap.size W w) : Reads w q l := by
  rcases h with h | ⟨b, off, h1, h2, h3⟩
  · exact .inl h
  · exact .inr ⟨b, off, h1, Nat.lt_of_lt_of_le h2 hb.size, fun i x hx => (hb.cell h2).trans (h3 i x hx)⟩
theorem Reads.at {w : World} {q : Option Addr} {l : List Int} (h : Reads w q l) {k : Nat} (hk : k < l.length) :
    ∃ b off x, q = some ⟨b, off, none⟩ ∧ l[k]? = some x ∧ b < w.heap.size ∧ w.cell? ⟨b, off + k, none⟩ = some (.int .i64 x) := by
  rcases h with h | ⟨b, off, h1, h2, h3⟩
  · subst h; simp at hk
  · exact ⟨b, off, l[k], h1, List.getElem?_eq_getElem hk, h2, h3 k _ (List.getElem?_eq_getElem hk)⟩
/-- what a call hands back: a slice that reads as l; nothing that was there has changed -/
def Gives (W : World) (l : List Int) (e : Ending) (w' : World) : Prop :=
  ∃ q m c, e = .returned (.slice q m c) ∧ m = l.length ∧ m ≤ c ∧ c ≤ maxLen ∧ Reads w' q l ∧ Below W.heap.size W w'

/-- a slice that the call has made for itself, from block B on -/
def Own (w : World) (B : Nat) (T : TypeId) (v : Value) (l : List Int) : Prop := w.ownsRow B T 1 v l.length (l.map (Value.int .i64))
theorem Own.empty (w : World) (B : Nat) (T : TypeId) : Own w B T (.slice none 0 0) [] := World.ownsRow_nil w B T 1
theorem Own.made {w : World} {B : Nat} (T : TypeId) (hb : B ≤ w.heap.size) : Own (w.alloc (.cells #[] T)) B T (.slice (some ⟨w.heap.size, 0, none⟩) 0 0) [] := World.ownsRow_made w #[] 0 hb (Nat.zero_le _) (by simp)
theorem Own.below {w w' : World} {B : Nat} {T : TypeId} {v : Value} {l : List Int} (h : Own w B T v l) (hb : Below w.heap.size w w') : Own w' B T v l := by
  refine ⟨h.1, ?_⟩
  rcases h.2 with hn | ⟨g, cap, cur, rfl, hb', hgg, rest⟩
  · exact .inl hn
  · exact .inr ⟨g, cap, cur, rfl, hb', (hb.block g (Array.getElem?_eq_some_iff.1 hgg).1).trans hgg, rest⟩
theorem Own.slice {w : World} {B : Nat} {T : TypeId} {v : Value} {l : List Int} (h : Own w B T v l) : ∃ q c, v = .slice q l.length c ∧ l.length ≤ c ∧ c ≤ maxLen ∧ Reads w q l := by
  rcases h.2 with ⟨rfl, hk⟩ | ⟨g, cap, cur, rfl, hb, hgg, hn, hc, hs, ht⟩
  · obtain rfl := List.eq_nil_of_length_eq_zero hk
    exact ⟨.none, 0, rfl, Nat.le_refl _, Nat.zero_le _, .inl rfl⟩
  · refine ⟨_, cap, rfl, hn, hc, .inr ⟨g, 0, rfl, (Array.getElem?_eq_some_iff.1 hgg).1, fun i x hx => ?_⟩⟩
    have e := World.ownsRow.cells h (g := g) rfl i (.int .i64 x) (by simp [hx])
    have e2 : (⟨g, 0, Option.none⟩ : Addr).add i = ⟨g, i, Option.none⟩ := by unfold Addr.add; split <;> simp_all
    rw [Nat.zero_add, ← e2]; exact e
theorem Own.gives {W w : World} {B : Nat} {T : TypeId} {v : Value} {l : List Int} (h : Own w B T v l) (hb : Below W.heap.size W w) : Gives W l (.returned v) w := by
  obtain ⟨q, c, rfl, h1, h2, h3⟩ := h.slice
  exact ⟨q, _, c, rfl, rfl, h1, h2, h3, hb⟩
theorem Own.drew {w : World} {B : Nat} {T : TypeId} {v : Value} {l : List Int} (h : Own w B T v l) : Own w.drew B T v l := h

theorem below_drewN {B : Nat} {a w : World} (h : Below B a w) (n : Nat) : Below B a (w.drewN n) := h.trans ⟨rfl, rfl, rfl, Nat.le_refl _, fun _ _ => rfl⟩
theorem below_setRow {B : Nat} {a w : World} (h : Below B a w) {g : Nat} (hg : B ≤ g) (cs : Array Value) : Below B a (w.setRow g cs) := by
  refine ⟨h.os, h.tape, h.output, by simpa [World.setRow] using h.size, fun k hk => ?_⟩
  rw [← h.block k hk]
  simp only [World.setRow, Array.getElem?_modify]
  rw [if_neg (by omega)]
theorem cell_new (w : World) (y : Int) (T : TypeId) : ∀ (j : Nat) (u : Value), [Value.int .i64 y][j]? = some u → (w.alloc (.cells #[.int .i64 y] T)).cell? ((⟨w.heap.size, 0, none⟩ : Addr).add j) = some u := by
  intro j u hu
  match j with
  | 0 => simp at hu; subst hu; simp [go_sem, Addr.add]
  | j + 1 => simp at hu
theorem one_cell (v : Int) : ∀ u ∈ [Value.int .i64 v], u.oneCell' = true := by
  intro u hu; simp at hu; subst hu; rfl

section
variable {P : Program}
/-- out = append(out, y) -/
theorem wpList_app {ops : Array Oper} {rest : List Oper} {o : Oper} {a : Act} {Q : Exit → Act → World → Prop} (w : World) (hgd : o.guard = none) (s x : Operand) (t : TypeId)
    (ho : o.op = .call { callee := .builtin .append, args := #[s, x], argTypes := #[t, t] }) {T : TypeId} (ht : P.underlying t = some (.slice T))
    (hT : (P.info? T).map (fun i => (i.zero, i.size, i.bytes)) = some (some (.int .i64 0), 1, 8))
    {v : Value} {l : List Int} {B : Nat} (hown : Own w B T v l) (hB : B ≤ w.heap.size) (hl : l.length ≤ 1000000) (y : Int)
    (hs : a.eval s = v) (hx : a.eval x = .slice (some ⟨w.heap.size, 0, none⟩) 1 1)
    (h : ∀ v' w', Own w' B T v' (l ++ [y]) → Below B w w' → wpList P ops Q rest (a.put o.dst v') w') : wpList P ops Q (o :: rest) a (w.alloc (.cells #[.int .i64 y] T)) := by
  obtain ⟨i0, hi, hz0, hz1, hz2⟩ := info_parts hT
  refine wpList_append_own _ hgd s x t ho B T i0 (.int .i64 0) 1 8 ht hi hz0 hz1 hz2 rfl (by decide) v l.length (l.map (Value.int .i64)) hs (World.ownsRow.alloc hown _) _ 1 1 [.int .i64 y] hx rfl (cell_new _ _ _) (one_cell _) (by unfold maxLen; omega) (by omega) (by simp; omega) ?_
  intro v' w' h1 h2 _
  refine h v' w' ?_ ?_
  · unfold Own; simpa using h1
  · exact ((Below.refl _ _).alloc hB _).grown h2 (by simp; omega) (fun r hr => (hown.lt r hr).1)
end
end Go.Rw
