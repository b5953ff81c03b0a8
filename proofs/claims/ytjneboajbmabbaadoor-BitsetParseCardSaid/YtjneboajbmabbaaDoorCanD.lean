/-
  How the real world follows the operations.
-/
import Derived.Test.YtjneboajbmabbaaDoorCanC
set_option linter.unusedSimpArgs false
set_option linter.unusedVariables false
namespace Go.Can
variable {P : Program} {R0 : CR}

/-! ### Programs that look at nothing -/
def dry (P : Program) {α : Type} : Sem α → Option α
  | .pure a => some a
  | .choose q k => if q.forced then dry P (k 0) else none
  | .program k => dry P (k P)
  | .mark _ k => dry P k
  | _ => none
theorem dry_run {α : Type} (s : Sem α) {a : α} (h : dry P s = some a) (w : World) : s.run P w = .ok a w := by
  induction s generalizing w with
  | pure b => cases h; rfl
  | choose q k ih =>
    simp only [dry] at h
    split at h
    · rename_i hq; simp only [Sem.run, hq, if_true]; exact ih _ h w
    · cases h
  | program k ih => exact ih _ h w
  | mark m k ih => exact ih h w
  | _ => cases h
theorem dry_pure {α : Type} (a : α) : dry P (Pure.pure a) = some a := rfl
theorem dry_bind {α β : Type} (s : Sem α) (f : α → Sem β) : dry P (s >>= f) = (dry P s).bind fun a => dry P (f a) := by
  show dry P (s.bind f) = _
  induction s with
  | pure b => rfl
  | choose q k ih => simp only [Sem.bind, dry]; split <;> first | rfl | exact ih _
  | program k ih => simp only [Sem.bind, dry]; exact ih _
  | mark m k ih => simp only [Sem.bind, dry]; exact ih
  | _ => rfl

/-- what an operation comes to -/
inductive NextR (R : CR) : Next → Next → Prop
  | value {v v' : Value} (h : VR R v v') : NextR R (.value v) (.value v')
  | skip : NextR R .skip .skip
  | enter (f : FuncId) {x x' : Array Value} (h : ArrR R x x') : NextR R (.enter f x) (.enter f x')
  | round {l l' : Nat} {f f' : FuncId} {x x' : Array Value} (a b : Code) (hl : R l l' none) (h : ArrR R x x') : NextR R (.round l f x a b) (.round l' f' x' a b)
theorem sim_val {s t : Sem Value} (h : Sim P R0 VR s t) : Sim P R0 NextR (do pure (.value (← s))) (do pure (.value (← t))) :=
  sim_bind h fun R _ a b hv => sim_pure fun R1 hle1 => .value (hv.mono hle1)
theorem sim_unit {s t : Sem Unit} (h : Sim P R0 (fun _ _ _ => True) s t) : Sim P R0 NextR (do s; pure .skip) (do t; pure .skip) :=
  sim_bind h fun R _ a b _ => sim_pure fun R1 hle1 => .skip

theorem sim_loadAt (t : TypeId) {x x' : Value} (h : VR R0 x x') : Sim P R0 VR (Instr.loadAt t x) (Instr.loadAt t x') := by
  unfold Instr.loadAt
  exact sim_bind (sim_sureAddr h) fun R hle a a' ha => sim_loadVar t ha
theorem sim_storeAt (t : TypeId) {x x' v v' : Value} (h : VR R0 x x') (hv : VR R0 v v') : Sim P R0 (fun _ _ _ => True) (Instr.storeAt t x v) (Instr.storeAt t x' v') := by
  unfold Instr.storeAt
  exact sim_bind (sim_sureAddr h) fun R hle a a' ha => sim_storeVar t ha (hv.mono hle)
theorem sim_allocOp (hP : PC P) (t : TypeId) (ht : t < P.types.size) : Sim P R0 VR (Instr.alloc t true (.tuple #[])) (Instr.alloc t true (.tuple #[])) := by
  unfold Instr.alloc
  refine sim_bind (sim_zeroValue hP t ht) fun R hle a a' ⟨_, ha⟩ => ?_
  exact sim_bind (sim_newVar t ha) fun R1 hle1 b b' hb => sim_pure fun R2 hle2 => .ptr (hb.1.mono hle2)
theorem sim_boxOp (t : TypeId) {v v' : Value} (h : VR R0 v v') : Sim P R0 VR (Instr.box t v) (Instr.box t v') := by
  unfold Instr.box
  exact sim_bind (sim_newVar t h) fun R1 hle1 b b' hb => sim_pure fun R2 hle2 => .ptr (hb.1.mono hle2)

/-! Building -/
structure PairR (R : CR) (x x' : Nat × Value) : Prop where
  fst : x'.1 = x.1
  snd : VR R x.2 x'.2
theorem foldl_cells {R : CR} : ∀ (l l' : List Value) (k off : Nat) (cs cs' : Array Value), L2 (VR R) l l' → ArrR R cs cs' →
    ArrR R ((l.zipIdx k).foldl (fun cs (c, j) => cs.setIfInBounds (off + j) c) cs) ((l'.zipIdx k).foldl (fun cs (c, j) => cs.setIfInBounds (off + j) c) cs')
  | [], _, k, off, cs, cs', .nil, h => by simpa using h
  | x :: l, _, k, off, cs, cs', .cons hx ht, h => by
    simp only [List.zipIdx_cons, List.foldl_cons]
    exact foldl_cells l _ (k + 1) off _ _ ht (h.set _ hx)
theorem fill_rel {R : CR} {place : Nat → Option (Nat × Nat)} : ∀ {l l' : List (Nat × Value)} {cs cs' : Array Value}, L2 (PairR R) l l' → ArrR R cs cs' → ∀ out, Instr.fill place cs l = some out → ∃ out', Instr.fill place cs' l' = some out' ∧ ArrR R out out'
  | [], _, cs, cs', .nil, h, out, ho => by simp only [Instr.fill, Option.some.injEq] at ho; subst ho; exact ⟨cs', rfl, h⟩
  | (i, v) :: l, (i', v') :: _, cs, cs', .cons hx ht, h, out, ho => by
    obtain ⟨h1, h2⟩ := hx
    simp only at h1 h2
    subst h1
    simp only [Instr.fill] at ho ⊢
    cases hp : place i' with
    | none => rw [hp] at ho; cases ho
    | some p =>
      rw [hp] at ho
      obtain ⟨off, size⟩ := p
      simp only at ho ⊢
      rw [h2.cells.size, h.size]
      split at ho
      · cases ho
      · rename_i hc
        rw [if_neg hc]
        have e : ∀ (x : Array Value) (c0 : Array Value), x.zipIdx.foldl (fun cs (c, j) => cs.setIfInBounds (off + j) c) c0 = (x.toList.zipIdx 0).foldl (fun cs (c, j) => cs.setIfInBounds (off + j) c) c0 := fun x c0 => by
          rw [← Array.foldl_toList, Array.toList_zipIdx]
        refine fill_rel ht ?_ out ho
        rw [e, e]
        exact foldl_cells _ _ 0 off _ _ h2.cells.l2 h
theorem sim_build (hP : PC P) (t : TypeId) (ht : t < P.types.size) {ps ps' : Array (Nat × Value)} (h : L2 (PairR R0) ps.toList ps'.toList) : Sim P R0 VR (Instr.build t ps) (Instr.build t ps') := by
  unfold Instr.build
  refine sim_bind (sim_zeroValue hP t ht) fun R hle z z' ⟨hz0, hz⟩ => ?_
  subst hz0
  refine sim_bind (sim_underlying t) fun R1 hle1 d d' ⟨hd, _⟩ => ?_
  subst hd
  have go : ∀ (R2 : CR) (place : Nat → Option (Nat × Nat)), CR.le R1 R2 → ∀ out, Instr.fill place z'.cells ps.toList = some out → ∃ out', Instr.fill place z'.cells ps'.toList = some out' ∧ ArrR R2 out out' := by
    intro R2 place hle2 out hf
    have hle02 : CR.le R0 R2 := CR.le_trans hle (CR.le_trans hle1 hle2)
    exact fill_rel (R := R2) (h.mono fun _ _ x => ⟨x.fst, x.snd.mono hle02⟩) ((hz.mono (CR.le_trans hle1 hle2)).cells) out hf
  split
  · rename_i fields _ _
    have hsame : Sim P R1 EqS (fields.mapM fun f => do pure (f.offset, ← Go.sizeOf f.type)) (fields.mapM fun f => do pure (f.offset, ← Go.sizeOf f.type)) := by
      have key : ∀ (l : List Field) (acc : Array (Nat × Nat)) (R : CR), Sim P R EqS (l.foldlM (fun bs (f : Field) => bs.push <$> (do pure (f.offset, ← Go.sizeOf f.type) : Sem (Nat × Nat))) acc) (l.foldlM (fun bs (f : Field) => bs.push <$> (do pure (f.offset, ← Go.sizeOf f.type) : Sem (Nat × Nat))) acc) := by
        intro l
        induction l with
        | nil => intro acc R; exact sim_pureEq _
        | cons f l ih =>
          intro acc R
          simp only [List.foldlM_cons]
          refine sim_bind (S := EqS) ?_ fun R3 _ a b hab => ?_
          · rw [map_eq_pure_bind]
            refine sim_bind (S := EqS) ?_ fun R3 _ a b hab => ?_
            · refine sim_bind (sim_sizeOf _) fun R4 _ n m hnm => ?_
              obtain rfl : m = n := hnm
              exact sim_pureEq _
            · obtain rfl : b = a := hab
              exact sim_pureEq _
          · obtain rfl : b = a := hab
            exact ih _ _
      rw [Array.mapM_eq_foldlM, ← Array.foldlM_toList]
      exact key _ _ _
    refine sim_bind hsame fun R2 hle2 pl pl' hpl => ?_
    obtain rfl : pl' = pl := hpl
    cases hf : Instr.fill (fun x => pl'[x]?) z'.cells ps.toList with
    | none => exact sim_halt
    | some out =>
      obtain ⟨out', ho', hr⟩ := go R2 _ hle2 out hf
      rw [ho']
      exact sim_pure fun R3 hle3 => VR.agg' (hr.mono hle3)
  · rename_i n elem _ _
    refine sim_bind (sim_sizeOf elem) fun R2 hle2 a b hab => ?_
    obtain rfl : b = a := hab
    cases hf : Instr.fill (fun i => some (i * b, b)) z'.cells ps.toList with
    | none => exact sim_halt
    | some out =>
      obtain ⟨out', ho', hr⟩ := go R2 _ hle2 out hf
      rw [ho']
      exact sim_pure fun R3 hle3 => VR.agg' (hr.mono hle3)
  · exact sim_halt
end Go.Can
