/-
  Words over any program, used by the walks of this seat: 'beyond w x' is some world that agrees with w below w's heap size (x itself, if x does); with the rules by which a walk looks through it; a region that draws its order and whose operations leave what was there alone; a store of a whole row.
-/
import Derived.WalkKit
import Derived.WalkSpells
import Derived.WalkLawsBesides
import Derived.Deep.QuietTactic
import Derived.BigQuiet
import Derived.Deep.MidRow
import Derived.Deep.WholeRow
import Derived.Laws.EntriesVeiled
import Derived.Deep.RegionWith
import Derived.Deep.DrawnRows
import Derived.Lib.Hide
set_option linter.unusedSimpArgs false
set_option linter.unusedVariables false
namespace Go.Own
open Go.RowKit

open Classical in
/-- x, if it agrees with w below w's heap size; else w. -/
noncomputable def beyond (w x : World) : World := if Below w.heap.size w x then x else w

theorem below_beyond (w x : World) : Below w.heap.size w (beyond w x) := by
  unfold beyond; split
  · assumption
  · exact Below.refl _ _

theorem beyond_of {w w' : World} (h : Below w.heap.size w w') : ∃ x, w' = beyond w x := ⟨w', by simp [beyond, h]⟩

theorem Below.beyond {B : Nat} {a w : World} (h : Below B a w) (hB : B ≤ w.heap.size) (x : World) : Below B a (beyond w x) :=
  h.trans ((below_beyond w x).mono hB)

/-- by how many blocks it has grown -/
noncomputable def grow (w x : World) : Nat := (beyond w x).heap.size - w.heap.size

theorem size_beyond (w x : World) : (beyond w x).heap.size = w.heap.size + grow w x := by
  have := (below_beyond w x).size; unfold grow; omega

/-- block b is there: by rules without conditions, so that a walk finds it at once -/
def inW (b : Nat) (w : World) : Bool := decide (b < w.heap.size)
theorem inW_iff {b : Nat} {w : World} : inW b w = true ↔ b < w.heap.size := by simp [inW]
noncomputable def far (b : Nat) (w x : World) : Bool := inW b (beyond w x)
@[go_sem] theorem inW_beyond (b : Nat) (w x : World) : inW b (beyond w x) = (inW b w || far b w x) := by
  have := (below_beyond w x).size
  unfold far inW
  by_cases h : b < w.heap.size
  · have : b < (beyond w x).heap.size := by omega
    simp [h, this]
  · simp [h]
@[go_sem] theorem inW_alloc (b : Nat) (w : World) (o : Obj) : inW b (w.alloc o) = (inW b w || b == w.heap.size) := by
  unfold inW
  rw [Bool.eq_iff_iff]
  simp
  omega
@[go_sem] theorem inW_setCell (b : Nat) (w : World) (a : Addr) (v : Value) : inW b (w.setCell a v) = inW b w := by simp [inW]
@[go_sem] theorem inW_setRow (b : Nat) (w : World) (g : Nat) (cs : Array Value) : inW b (w.setRow g cs) = inW b w := by simp [inW]
@[go_sem] theorem inW_drew (b : Nat) (w : World) : inW b w.drew = inW b w := rfl
@[go_sem] theorem inW_end (w : World) : inW w.heap.size w = false := by simp [inW]

@[go_sem] theorem cell?_beyond (w x : World) (b o : Nat) (h : inW b w = true) : (beyond w x).cell? ⟨b, o, none⟩ = w.cell? ⟨b, o, none⟩ :=
  (below_beyond w x).cell (p := ⟨b, o, none⟩) (inW_iff.1 h)

@[go_sem] theorem frozen?_beyond (w x : World) (b o : Nat) (h : inW b w = true) : (beyond w x).frozen? ⟨b, o, none⟩ = w.frozen? ⟨b, o, none⟩ :=
  (below_beyond w x).frozen (p := ⟨b, o, none⟩) (inW_iff.1 h)

/-- a whole block -/
def blockOf (w : World) (b : Nat) : Option Obj := w.heap[b]?
@[go_sem] theorem blockOf_beyond (w x : World) (b : Nat) (h : inW b w = true) : blockOf (beyond w x) b = blockOf w b := (below_beyond w x).block b (inW_iff.1 h)
@[go_sem] theorem blockOf_alloc_at (w : World) (o : Obj) (n : Nat) (hn : n = w.heap.size) : blockOf (w.alloc o) n = some o := by subst hn; exact heap_alloc_new w o
@[go_sem] theorem blockOf_alloc_past (w : World) (o : Obj) (n : Nat) (h : inW n w = true) : blockOf (w.alloc o) n = blockOf w n := by
  have hn := inW_iff.1 h
  show (w.heap.push o)[n]? = _
  rw [Array.getElem?_push, if_neg (by omega)]
  rfl
@[go_sem] theorem blockOf_drew (w : World) (n : Nat) : blockOf w.drew n = blockOf w n := rfl

@[go_sem] theorem cell?_past (w : World) (o : Obj) (n i : Nat) (h : inW n w = true) : (w.alloc o).cell? ⟨n, i, none⟩ = w.cell? ⟨n, i, none⟩ :=
  World.cell?_alloc_past o n i (inW_iff.1 h)
@[go_sem] theorem frozen?_past (w : World) (o : Obj) (n i : Nat) (h : inW n w = true) : (w.alloc o).frozen? ⟨n, i, none⟩ = w.frozen? ⟨n, i, none⟩ :=
  World.frozen?_alloc_past o n i (inW_iff.1 h)
@[go_sem] theorem setCell_past (w : World) (o : Obj) (n i : Nat) (v : Value) (h : inW n w = true) : (w.alloc o).setCell ⟨n, i, none⟩ v = (w.setCell ⟨n, i, none⟩ v).alloc o :=
  World.setCell_alloc_past o n i v (inW_iff.1 h)

/-- a store into an old cell, seen from before -/
noncomputable def moved (w x : World) (a : Addr) (v : Value) : World := (beyond w x).setCell a v

@[go_sem] theorem setCell_beyond (w x : World) (b o : Nat) (v : Value) (_h : inW b w = true) :
    (beyond w x).setCell ⟨b, o, none⟩ v = beyond (w.setCell ⟨b, o, none⟩ v) (moved w x ⟨b, o, none⟩ v) := by
  have hb := below_beyond w x
  have : Below (w.setCell ⟨b, o, none⟩ v).heap.size (w.setCell ⟨b, o, none⟩ v) (moved w x ⟨b, o, none⟩ v) := by
    refine ⟨hb.os, hb.tape, hb.output, by simpa [moved, World.setCell] using hb.size, fun k hk => ?_⟩
    have hk' : k < w.heap.size := by simpa [World.setCell] using hk
    simp only [moved, World.setCell, Array.getElem?_modify, hb.block k hk']
  show moved w x ⟨b, o, none⟩ v = _
  unfold beyond; rw [if_pos this]

/-- one behind the other -/
noncomputable def over (w x y : World) : World := beyond (beyond w x) y
theorem beyond_beyond (w x y : World) : beyond (beyond w x) y = beyond w (over w x y) := by
  have h : Below w.heap.size w (over w x y) := Below.beyond (below_beyond w x) (below_beyond w x).size y
  show over w x y = _
  unfold beyond; rw [if_pos h]

/-- a whole row of an old block, seen from before -/
noncomputable def movedRow (w x : World) (g : Nat) (cs : Array Value) : World := (beyond w x).setRow g cs

@[go_sem] theorem setRow_beyond (w x : World) (g : Nat) (cs : Array Value) (_h : inW g w = true) :
    (beyond w x).setRow g cs = beyond (w.setRow g cs) (movedRow w x g cs) := by
  have hb := below_beyond w x
  have : Below (w.setRow g cs).heap.size (w.setRow g cs) (movedRow w x g cs) := by
    refine ⟨hb.os, hb.tape, hb.output, by simpa [movedRow, World.setRow] using hb.size, fun k hk => ?_⟩
    have hk' : k < w.heap.size := by simpa [World.setRow] using hk
    simp only [movedRow, World.setRow, Array.getElem?_modify, hb.block k hk']
  show movedRow w x g cs = _
  unfold beyond; rw [if_pos this]

@[go_sem] theorem setRow_alloc_past (w : World) (o : Obj) (g : Nat) (cs : Array Value) (hg : inW g w = true) : (w.alloc o).setRow g cs = (w.setRow g cs).alloc o := by
  have hn := inW_iff.1 hg
  unfold World.setRow World.alloc
  congr 1
  apply Array.ext_getElem?
  intro k
  simp only [Array.getElem?_modify, Array.getElem?_push, Array.size_modify]
  by_cases hk : k = w.heap.size
  · subst hk
    simp [Nat.ne_of_lt hn]
  · simp [hk]

@[go_sem] theorem setRow_alloc_at (w : World) (c c' : Array Value) (t : TypeId) (g : Nat) (hn : g = w.heap.size) : (w.alloc (.cells c t)).setRow g c' = w.alloc (.cells c' t) := by
  subst hn; exact World.setRow_alloc_new w c c' t

@[go_sem] theorem setRow_drew (w : World) (g : Nat) (cs : Array Value) : w.drew.setRow g cs = (w.setRow g cs).drew := rfl

@[go_sem] theorem lt_add_grow (a b : Nat) (w x : World) (h : a < b) : a < b + grow w x := by omega
@[go_sem] theorem le_add_grow (a b : Nat) (w x : World) (h : a ≤ b) : a ≤ b + grow w x := by omega
@[go_sem] theorem le_add_one_deep (a b : Nat) (h : a ≤ b) : a ≤ b + 1 := by omega

theorem ret_int {k : IntKind} {a b : Int} (h : a = b) : Ending.returned (.int k a) = .returned (.int k b) := by rw [h]
theorem ret_bool {a b : Bool} (h : a = b) : Ending.returned (.bool a) = .returned (.bool b) := by rw [h]

section
variable {P : Program}
/-- A region that draws its order: one walk of the text's order, each operation in whatever world agrees with w below. -/
theorem wp_region_beyond {id : Nat} {Q : Exit → Act → World → Prop} {a : Act} {w : World} {l : List Oper} (hm : P.follows .mixedOrders = true) (hB : Region.lexB .any l.toArray = true)
    (h : wpQuiet P l.toArray (fun w' => ∃ x, w' = beyond w x) (fun a' => ∀ w', (∃ x, w' = beyond w x) → Q .normal a' w') l a) : (Code.region id l.toArray true).wp P Q a w :=
  wp_region_quiet (C := fun w' => ∃ x, w' = beyond w x) hm hB (beyond_of ((Below.refl _ _).drew)) (by simpa using h)

/-- A callee's contract at an operation of such a region. -/
theorem quiet_beyond {f : FuncId} {args : Array Value} {w x : World} {v : Value} (h : Calls P f args (beyond w x) fun e w' => e = .returned v ∧ ∃ y, w' = beyond (beyond w x) y) :
    Calls P f args (beyond w x) fun e w'' => e = .returned v ∧ ∃ y, w'' = beyond w y :=
  h.mono fun _ _ ⟨he, y, hy⟩ => ⟨he, beyond_of (hy ▸ Below.beyond (below_beyond w x) (below_beyond w x).size y)⟩

/-- a whole row is stored over a block -/
theorem wpList_store_block {ops : Array Oper} {rest : List Oper} {op : Oper} {a : Act} {w : World} {Q : Exit → Act → World → Prop} (hgd : op.guard = none) (ty : TypeId) (x y : Operand) (ho : op.op = .store ty x y)
    (g : Nat) (cells : Array Value) (t : TypeId) (old : Array Value) (hx : a.eval x = .pointer (some ⟨g, 0, none⟩)) (hy : a.eval y = .agg cells)
    (hg : blockOf w g = some (.cells old t (0, 0))) (hi : (P.info? ty).map (·.size) = some cells.size) (hs : old.size = cells.size) (h1 : cells.all (·.oneCell') = true)
    (h : wpList P ops Q rest (a.put op.dst undef) (w.setRow g cells)) : wpList P ops Q (op :: rest) a w :=
  wpList_store_row hgd ty x y ho g cells hx hy t old hg hi hs h1 h
/-- a whole row is loaded -/
theorem wpList_load_block {ops : Array Oper} {rest : List Oper} {op : Oper} {a : Act} {w : World} {Q : Exit → Act → World → Prop} (hgd : op.guard = none) (ty : TypeId) (x : Operand) (ho : op.op = .load ty x)
    (g : Nat) (cells : Array Value) (t : TypeId) (d : TypeDesc) (hx : a.eval x = .pointer (some ⟨g, 0, none⟩))
    (hg : blockOf w g = some (.cells cells t (0, 0))) (hu : P.underlying ty = some d) (hd : (match d with | .struct _ | .array _ _ => true | _ => false) = true) (hi : (P.info? ty).map (·.size) = some cells.size)
    (h : wpList P ops Q rest (a.put op.dst (.agg cells)) w) : wpList P ops Q (op :: rest) a w :=
  wpList_load_row hgd ty x ho g hx t cells (0, 0) d hg hu hd hi h
/-- a result that lies in a block -/
theorem results_block {fn : Func} {p : Tmp} {ty : TypeId} (h : fn.results = #[.cell p ty]) (tmps : Array Value) (w : World) (g : Nat) (t : TypeId) (cs : Array Value) (d : TypeDesc)
    (hp : tmps.getD p undef = .pointer (some ⟨g, 0, none⟩)) (hg : blockOf w g = some (.cells cs t (0, 0)))
    (hu : P.underlying ty = some d) (hd : (match d with | .struct _ | .array _ _ => true | _ => false) = true) (hi : (P.info? ty).map (·.size) = some cs.size) :
    (results fn tmps).run P w = .ok (.agg cs) w := results_cell_row h tmps w g t cs (0, 0) d hp hg hu hd hi
/-- a result that lies in a block, and one in a slot -/
theorem results_block2 {fn : Func} {p q : Tmp} {ty : TypeId} (h : fn.results = #[.cell p ty, .tmp q]) (tmps : Array Value) (w : World) (g : Nat) (t : TypeId) (cs : Array Value) (d : TypeDesc) (v : Value)
    (hp : tmps.getD p undef = .pointer (some ⟨g, 0, none⟩)) (hq : tmps.getD q undef = v) (hg : blockOf w g = some (.cells cs t (0, 0)))
    (hu : P.underlying ty = some d) (hd : (match d with | .struct _ | .array _ _ => true | _ => false) = true) (hi : (P.info? ty).map (·.size) = some cs.size) :
    (results fn tmps).run P w = .ok (.tuple #[.agg cs, v]) w := by
  have hp' : tmps[p]?.getD undef = .pointer (some ⟨g, 0, none⟩) := by simpa using hp
  have hq' : tmps[q]?.getD undef = v := by simpa using hq
  simp [results, h, hp', hq', asAddr, run_loadVar_row w g t ty cs (0, 0) d hg hu hd hi]
end
end Go.Own
