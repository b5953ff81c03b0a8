/-
  What the body of a loop over an iterator must keep, where the iterator's own state lies in memory: all the cells but the loop's own variables.
-/
import Derived.Test.YtogjobmekjighaaDoorRound
import Derived.RangeFuncKeeps
import Derived.RangeFuncGives
import Derived.RangeFuncFrom
import Derived.RangeFuncBox
set_option linter.unusedSimpArgs false
set_option linter.unusedVariables false
namespace Go.Own
open Go.RowKit
/-- every block of cells that is not in X lies as it lay -/
structure KeepsCells (X : Nat → Prop) (W W' : World) : Prop where
  size : W.heap.size ≤ W'.heap.size
  same : ∀ (k : Nat) (o : Obj), ¬ X k → W.heap[k]? = some o → o.isCells = true → W'.heap[k]? = some o
theorem KeepsCells.refl (X : Nat → Prop) (W : World) : KeepsCells X W W := ⟨Nat.le_refl _, fun _ _ _ h _ => h⟩
theorem KeepsCells.trans {X : Nat → Prop} {A B C : World} (h : KeepsCells X A B) (h2 : KeepsCells X B C) : KeepsCells X A C :=
  ⟨Nat.le_trans h.size h2.size, fun k o hk ho hc => h2.same k o hk (h.same k o hk ho hc) hc⟩
theorem KeepsCells.of_below {X : Nat → Prop} {W W' : World} (h : Below W.heap.size W W') : KeepsCells X W W' :=
  ⟨h.size, fun k o _ ho _ => (h.block k (Array.getElem?_eq_some_iff.1 ho).1).trans ho⟩
theorem KeepsCells.of_belowN {X : Nat → Prop} {n₀ : Nat} {W W' : World} (h : Below n₀ W W') (hX : ∀ k, n₀ ≤ k → k < W.heap.size → X k) : KeepsCells X W W' :=
  ⟨h.size, fun k o hk ho _ => (h.block k (Nat.lt_of_not_le fun hle => hk (hX k hle (Array.getElem?_eq_some_iff.1 ho).1))).trans ho⟩
theorem KeepsCells.cell {X : Nat → Prop} {W W' : World} (h : KeepsCells X W W') {p : Addr} {v : Value} (hp : ¬ X p.block) (hc : W.cell? p = some v) : W'.cell? p = some v := by
  unfold World.cell? at hc ⊢
  split at hc
  · rename_i cs t fz ho
    rw [h.same _ _ hp ho rfl]; exact hc
  · cases hc
theorem KeepsCells.cells {X : Nat → Prop} {W W' : World} (h : KeepsCells X W W') {g : Nat} {cs : Array Value} {t : TypeId} {fz : Nat × Nat} (hp : ¬ X g) (hc : W.heap[g]? = some (.cells cs t fz)) : W'.heap[g]? = some (.cells cs t fz) := h.same g _ hp hc rfl
theorem keepsC_t {X : Nat → Prop} {A B C : World} (h : KeepsCells X A B) (h2 : KeepsCells X B C) : KeepsCells X A C := h.trans h2
theorem keepsC_b {X : Nat → Prop} (W : World) (l : Nat) (o o' : Obj) (hl : W.heap[l]? = some o) (hc : o.isCells = false) : KeepsCells X W (W.putObj l o') := by
  refine ⟨(grownBy_putObj' W l o').size, fun k u _ hu huc => ?_⟩
  have hne : k ≠ l := fun e => by subst e; rw [hl] at hu; cases hu; rw [hc] at huc; cases huc
  exact ((grownBy_putObj' W l o').block k (Array.getElem?_eq_some_iff.1 hu).1 (fun e => hne (by cases e; rfl))).trans hu
theorem grown_of_below {W W' : World} (h : Below W.heap.size W W') : W.grownBy W' none := ⟨h.os, h.tape, h.output, h.size, fun k hk _ => h.block k hk⟩
theorem AbidesFrom.below {β : Type} {B : Nat} {J : β → World → Prop} (h : AbidesFrom B J) {s : β} {W W' : World} (hj : J s W) (hb : Below W.heap.size W W') : J s W' := h s W W' none hj (grown_of_below hb) (fun r e => by cases e)
/-- every block that is not in X lies as it lay, whatever it is -/
structure KeptBut (X : Nat → Prop) (W W' : World) : Prop where
  os : W'.os = W.os
  tape : W'.tape = W.tape
  output : W'.output = W.output
  size : W.heap.size ≤ W'.heap.size
  block : ∀ k, k < W.heap.size → ¬ X k → W'.heap[k]? = W.heap[k]?
theorem KeptBut.refl (X : Nat → Prop) (W : World) : KeptBut X W W := ⟨rfl, rfl, rfl, Nat.le_refl _, fun _ _ _ => rfl⟩
theorem KeptBut.trans {X : Nat → Prop} {A B C : World} (h : KeptBut X A B) (h2 : KeptBut X B C) : KeptBut X A C :=
  ⟨h2.os.trans h.os, h2.tape.trans h.tape, h2.output.trans h.output, Nat.le_trans h.size h2.size, fun k hk hx => (h2.block k (Nat.lt_of_lt_of_le hk h.size) hx).trans (h.block k hk hx)⟩
theorem KeptBut.of_below {X : Nat → Prop} {W W' : World} (h : Below W.heap.size W W') : KeptBut X W W' := ⟨h.os, h.tape, h.output, h.size, fun k hk _ => h.block k hk⟩
theorem KeptBut.of_grown {X : Nat → Prop} {W W' : World} {row : Option Nat} (h : W.grownBy W' row) (hr : ∀ r, row = some r → X r) : KeptBut X W W' :=
  ⟨h.os, h.tape, h.output, h.size, fun k hk hx => h.block k hk (fun e => hx (hr k e.symm))⟩
theorem KeptBut.setCell {X : Nat → Prop} (W : World) (g : Nat) (v : Value) (hg : X g) : KeptBut X W (W.setCell ⟨g, 0, none⟩ v) := .of_grown (grownBy_setCell' W g v) (fun r e => by cases e; exact hg)
theorem KeptBut.cells {X : Nat → Prop} {W W' : World} (h : KeptBut X W W') : KeepsCells X W W' := ⟨h.size, fun k o hk ho _ => (h.block k (Array.getElem?_eq_some_iff.1 ho).1 hk).trans ho⟩
theorem KeptBut.from {X : Nat → Prop} {W W' : World} (h : KeptBut X W W') {B : Nat} (hX : ∀ k, X k → k < B) : KeepsFrom B W W' :=
  ⟨h.size, fun k o hB ho _ => (h.block k (Array.getElem?_eq_some_iff.1 ho).1 (fun hx => by have := hX k hx; omega)).trans ho⟩
theorem KeptBut.below {X : Nat → Prop} {W W' : World} (h : KeptBut X W W') {B : Nat} (hX : ∀ k, X k → B ≤ k) (hB : B ≤ W.heap.size) : Below B W W' :=
  ⟨h.os, h.tape, h.output, h.size, fun k hk => h.block k (Nat.lt_of_lt_of_le hk hB) (fun hx => by have := hX k hx; omega)⟩
end Go.Own
