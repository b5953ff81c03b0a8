/-
  The walk by a tree, step by step: the operations and what is still to come stand behind names, so that each step looks at little.
-/
import Derived.Test.YtogjobmekjighaaDoorTree
set_option linter.unusedSimpArgs false
set_option linter.unusedVariables false
namespace Go.Own
open Go.RowKit

/-- an operation as it runs: without what orders it and what guards it -/
def slim (o : Oper) : Oper := { o with after := #[], guard := none }
section
variable {P : Program} {ops : Array Oper} {S : World → Prop} {Q : Exit → Act → World → Prop}
theorem pick_cons {i : Nat} {r : List Nat} {o : Oper} (h : ops[i]? = some o) : pick ops (i :: r) = o :: pick ops r := by simp [pick, h]
theorem wanted_slim (o : Oper) (y : Nat → Option Bool) : Region.wanted (slim o) y = true := rfl
theorem slim_parts {i : Nat} {o' : Oper} {a : Act} (hi : (ops[i]?).map slim = some o') (hw : ((ops[i]?).map fun o => Region.wanted o (yielded ops a.tmps)) = some true) : ∃ o, ops[i]? = some o ∧ o' = slim o ∧ Region.wanted o (yielded ops a.tmps) = true := by
  cases h : ops[i]? with
  | none => rw [h] at hi; simp at hi
  | some o =>
    rw [h] at hi hw
    simp only [Option.map_some, Option.some.injEq] at hi hw
    exact ⟨o, rfl, hi.symm, hw⟩
theorem quiet_at {R : Act → Prop} {i : Nat} {r : List Nat} (o' : Oper) {a : Act} (hi : (ops[i]?).map slim = some o') (hw : ((ops[i]?).map fun o => Region.wanted o (yielded ops a.tmps)) = some true) (h : wpQuiet P ops S R (o' :: pick ops r) a) : wpQuiet P ops S R (pick ops (i :: r)) a := by
  obtain ⟨o, h1, rfl, h2⟩ := slim_parts hi hw
  rw [pick_cons h1]
  unfold wpQuiet at h ⊢
  rw [if_pos h2]
  rw [if_pos (wanted_slim o _)] at h
  exact h
theorem quiet_op {R : Act → Prop} {i : Nat} {r : List Nat} (o' : Oper) {a : Act} (hi : (ops[i]?).map slim = some o') (hw : ((ops[i]?).map fun o => Region.wanted o (yielded ops a.tmps)) = some true) (h : ∀ K : Act → Prop, (∀ a', wpQuiet P ops S R (pick ops r) a' → K a') → Oper.quiet P o' a S K) : wpQuiet P ops S R (pick ops (i :: r)) a := by
  refine quiet_at o' hi hw (BigFrame.wpQuiet_want ?_ h)
  obtain ⟨o, _, rfl, _⟩ := slim_parts hi hw
  rfl
theorem quiet_done {R : Act → Prop} {a : Act} (h : R a) : wpQuiet P ops S R (pick ops []) a := by
  show wpQuiet P ops S R [] a
  exact wpQuiet_nil h
theorem event_at {R : Exit → Act → World → Prop} {i : Nat} (o' : Oper) {a : Act} {w : World} (hi : (ops[i]?).map slim = some o') (hw : ((ops[i]?).map fun o => Region.wanted o (yielded ops a.tmps)) = some true) (h : wpList P ops R [o'] a w) : wpList P ops R (pick ops [i]) a w := by
  obtain ⟨o, h1, rfl, h2⟩ := slim_parts hi hw
  rw [pick_cons h1]
  show wpList P ops R [o] a w
  unfold wpList at h ⊢
  rw [if_pos h2]
  rw [if_pos (wanted_slim o _)] at h
  exact h
/-- one operation may come up -/
theorem pt_one {qs : List Nat} {e : Nat} {t : PT} {a : Act} {w : World} (h : ∀ K : Act → World → Prop, (∀ a'' w'', S w'' → wpPT P ops S Q t a'' w'' → K a'' w'') → wpQuiet P ops S (fun a' => wpList P ops (Exit.then K Q) (pick ops [e]) a' w) (pick ops qs) a) :
    wpPT P ops S Q (.one qs e t) a w := h _ fun _ _ h1 h2 => ⟨h1, h2⟩
theorem pt_last {qs : List Nat} {a : Act} {w : World} (h : wpQuiet P ops S (fun a' => Q .normal a' w) (pick ops qs) a) : wpPT P ops S Q (.last qs) a w := h
theorem pt_two {qs : List Nat} {e1 e2 : Nat} {t1 t2 : PT} {a : Act} {w : World} (h : ∀ K1 K2 : Act → World → Prop, (∀ a'' w'', S w'' → wpPT P ops S Q t1 a'' w'' → K1 a'' w'') → (∀ a'' w'', S w'' → wpPT P ops S Q t2 a'' w'' → K2 a'' w'') →
    wpQuiet P ops S (fun a' => wpList P ops (Exit.then K1 Q) (pick ops [e1]) a' w ∧ wpList P ops (Exit.then K2 Q) (pick ops [e2]) a' w) (pick ops qs) a) :
    wpPT P ops S Q (.two qs e1 t1 e2 t2) a w := h _ _ (fun _ _ h1 h2 => ⟨h1, h2⟩) fun _ _ h1 h2 => ⟨h1, h2⟩
/-- THE LAW, the operations behind a name. -/
theorem wp_region_treeK {id : Nat} {a : Act} {w : World} {l : List Oper} (S : World → Prop) (t : PT) (hm : P.follows .mixedOrders = true)
    (hB : (Region.noSelect l.toArray && ptOk l.toArray t (Array.replicate l.length false) && decide (ptFuel t ≤ l.length)) = true)
    (hQ : ∀ c a d v w, Q (.panic c) (a.put d v) w → Q (.panic c) a w) (hS : S w.drew) (h : ∀ ops : Array Oper, ops = l.toArray → wpPT P ops S Q t a w.drew) : (Code.region id l.toArray true).wp P Q a w :=
  wp_region_tree S t hm hB hQ hS (h _ rfl)
end
end Go.Own
