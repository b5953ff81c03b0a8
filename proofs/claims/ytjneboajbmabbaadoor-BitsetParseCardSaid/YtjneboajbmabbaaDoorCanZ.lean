/-
  The canonical evaluator again, with quick rows of temporaries: the same function, lighter for the kernel.
-/
import Derived.Test.YtjneboajbmabbaaDoorCanY
set_option linter.unusedSimpArgs false
set_option linter.unusedVariables false
namespace Go.Can
variable {P : Program} {G : List Nat}

noncomputable def lgetD {α : Type} (d : α) (l : List α) : Nat → α := List.rec (motive := fun _ => Nat → α) (fun _ => d) (fun x _ ih i => Nat.rec (motive := fun _ => α) x (fun j _ => ih j) i) l
theorem lgetD_eq {α : Type} (d : α) : ∀ (l : List α) (i : Nat), lgetD d l i = l.getD i d
  | [], _ => rfl
  | _ :: _, 0 => rfl
  | _ :: l, i + 1 => by
    show lgetD d l i = _
    rw [lgetD_eq d l i]; simp
noncomputable def lsetK {α β : Type} (v : α) (l : List α) : Nat → (List α → β) → β := List.rec (motive := fun _ => Nat → (List α → β) → β) (fun _ k => k []) (fun x r ih i k => Nat.rec (motive := fun _ => β) (k (v :: r)) (fun j _ => ih j (fun r' => k (x :: r'))) i) l
theorem lsetK_eq {α β : Type} (v : α) : ∀ (l : List α) (i : Nat) (k : List α → β), lsetK v l i k = k (l.set i v)
  | [], _, _ => rfl
  | _ :: _, 0, _ => rfl
  | x :: l, i + 1, k => by
    show lsetK v l i (fun r' => k (x :: r')) = _
    rw [lsetK_eq v l i]; rfl
noncomputable def feval : Act → Operand → Value
  | ⟨⟨l⟩, _⟩, .tmp t => lgetD undef l t
  | _, .const v => v
  | _, .global g => .pointer (some ⟨g, 0, none⟩)
  | _, .func f => .func (.func f) #[] #[]
theorem feval_eq (a : Act) : feval a = a.eval := by
  funext x
  obtain ⟨⟨l⟩, d⟩ := a
  cases x with
  | tmp t => simp only [feval, Act.eval, lgetD_eq]; simp [Array.getD_eq_getD_getElem?]
  | _ => rfl
noncomputable def putK {β : Type} (a : Act) (dst : Option Tmp) (v : Value) (k : Act → β) : β := match a, dst with
  | ⟨⟨l⟩, d⟩, some t => lsetK v l t fun l' => k ⟨⟨l'⟩, d⟩
  | a, none => k a
theorem putK_eq {β : Type} (a : Act) (dst : Option Tmp) (v : Value) (k : Act → β) : putK a dst v k = k (a.put dst v) := by
  obtain ⟨⟨l⟩, d⟩ := a
  cases dst with
  | none => rfl
  | some t => simp [putK, lsetK_eq, Act.put]
/-- an array of operations' yields -/
noncomputable def fyielded (ops : Array Oper) (a : Act) (o : Oper) : Bool := Region.wanted o (yielded ops a.tmps)
noncomputable def evOpF (P : Program) (G : List Nat) (call : Rec) (o : Oper) (a : Act) (A : AW) : Option (Value × AW) :=
  if o.op.operands.all (okOperand G) then
    match aop P (feval a) o A with
    | some (.value v, A') => some (v, A')
    | some (.skip, A') => some (undef, A')
    | some (.enter f args, A') => call (.call f args) A'
    | some (.round l _ tmps as bd, A') => call (.round l tmps as bd) A'
    | _ => none
  else none
theorem evOpF_eq (call : Rec) (o : Oper) (a : Act) (A : AW) : evOpF P G call o a A = evOp P G call o a A := by
  unfold evOpF evOp; rw [feval_eq]; rfl
/-- the guard first: most have none -/
noncomputable def wantedF (ops : Array Oper) (o : Oper) (a : Act) : Bool := match o.guard with
  | none => true
  | some _ => Region.wanted o (yielded ops a.tmps)
theorem wantedF_eq (ops : Array Oper) (o : Oper) (a : Act) : wantedF ops o a = Region.wanted o (yielded ops a.tmps) := by
  unfold wantedF Region.wanted
  cases o.guard <;> rfl
noncomputable def evOpsF (P : Program) (G : List Nat) (call : Rec) (ops : Array Oper) : List Oper → Act → AW → Option (Act × AW)
  | [], a, A => some (a, A)
  | o :: rest, a, A =>
    if wantedF ops o a then
      match evOpF P G call o a A with
      | some (v, A1) => putK a o.dst v fun a1 => evOpsF P G call ops rest a1 A1
      | none => none
    else putK a o.dst undef fun a1 => evOpsF P G call ops rest a1 A
theorem evOpsF_eq (call : Rec) (ops : Array Oper) : ∀ (l : List Oper) (a : Act) (A : AW), evOpsF P G call ops l a A = evOps P G call ops l a A
  | [], _, _ => rfl
  | o :: l, a, A => by
    unfold evOpsF evOps
    simp only [wantedF_eq, evOpF_eq, putK_eq, evOpsF_eq call ops l]
    rfl
noncomputable def putSeenK {β : Type} (S : Nat → Bool) : Nat → List Done → Act → (Act → β) → β
  | _, [], a, k => k a
  | i, d :: ds, a, k => match S i with
    | true => putK a d.o.dst d.v fun a1 => putSeenK S (i + 1) ds a1 k
    | false => putSeenK S (i + 1) ds a k
theorem putSeenK_eq {β : Type} (S : Nat → Bool) : ∀ (i : Nat) (ds : List Done) (a : Act) (k : Act → β), putSeenK S i ds a k = k (putSeen S i ds a)
  | _, [], _, _ => rfl
  | i, d :: ds, a, k => by
    unfold putSeenK putSeen
    cases hS : S i with
    | true => simp only [putK_eq, putSeenK_eq S (i + 1) ds]; simp
    | false => simp only [putSeenK_eq S (i + 1) ds]; simp
/-- a world with its small parts written out -/
noncomputable def fNat {β : Type} (n : Nat) (k : Nat → β) : β := Nat.rec (motive := fun _ => β) (k 0) (fun m _ => k (m + 1)) n
theorem fNat_eq {β : Type} (n : Nat) (k : Nat → β) : fNat n k = k n := by cases n <;> rfl
noncomputable def fList {α β : Type} (l : List α) : (List α → β) → β := List.rec (motive := fun _ => (List α → β) → β) (fun k => k []) (fun x _ ih k => ih fun r => k (x :: r)) l
theorem fList_eq {α β : Type} : ∀ (l : List α) (k : List α → β), fList l k = k l
  | [], _ => rfl
  | x :: l, k => by
    show fList l (fun r => k (x :: r)) = _
    rw [fList_eq l]
noncomputable def normA {β : Type} (w : World) (loose : List (Nat × Nat)) (ro : Nat) (k : AW → β) : β := fNat ro fun ro' => fList loose fun loose' => k ⟨w, loose', ro'⟩
theorem normA_eq {β : Type} (w : World) (loose : List (Nat × Nat)) (ro : Nat) (k : AW → β) : normA w loose ro k = k ⟨w, loose, ro⟩ := by
  unfold normA; rw [fNat_eq, fList_eq]
/-- what a temporary holds where these have been done -/
noncomputable def seenVal (S : Nat → Bool) (t : Nat) : Nat → List Done → Option Value → Option Value
  | _, [], r => r
  | i, d :: ds, r => match d.o.dst with
    | some u => if decide (u = t) then (match S i with
      | true => seenVal S t (i + 1) ds (some d.v)
      | false => seenVal S t (i + 1) ds r) else seenVal S t (i + 1) ds r
    | none => seenVal S t (i + 1) ds r
theorem seenVal_eq (S : Nat → Bool) (t : Nat) : ∀ (ds : List Done) (i : Nat) (r : Option Value) (a : Act), t < a.tmps.size → (∀ v, r = some v → a.tmps[t]? = some v) →
    (putSeen S i ds a).tmps[t]? = some ((seenVal S t i ds r).getD (a.tmps.getD t undef))
  | [], i, r, a, ht, hr => by
    unfold putSeen seenVal
    cases r with
    | none => simp [Array.getD_eq_getD_getElem?, ht]
    | some v => simp [hr v rfl]
  | d :: ds, i, r, a, ht, hr => by
    have stay : ∀ a' : Act, a'.tmps.size = a.tmps.size → a'.tmps[t]? = a.tmps[t]? → (putSeen S (i + 1) ds a').tmps[t]? = some ((seenVal S t (i + 1) ds r).getD (a.tmps.getD t undef)) := fun a' h1 h2 => by
      rw [seenVal_eq S t ds (i + 1) r a' (by omega) (fun v hv => by rw [h2]; exact hr v hv)]
      simp only [Array.getD_eq_getD_getElem?, h2]
    unfold putSeen seenVal
    cases hd : d.o.dst with
    | none =>
      simp only
      refine stay _ ?_ ?_ <;> split <;> first | rfl | simp [Act.put, hd]
    | some u =>
      simp only
      by_cases hu : u = t
      · subst hu
        simp only [decide_true, if_true]
        cases hS : S i with
        | false => simp only [Bool.false_eq_true, if_false]; exact stay a rfl rfl
        | true =>
          simp only [if_true]
          have hput : (a.put (some u) d.v).tmps[u]? = some d.v := by rw [put_get]; simp [ht]
          rw [seenVal_eq S u ds (i + 1) (some d.v) (a.put (some u) d.v) (by rw [put_size]; exact ht) (fun v hv => by cases hv; exact hput)]
          have some_stays : ∀ (ds : List Done) (i : Nat) (v : Value), ∃ v', seenVal S u i ds (some v) = some v' := by
            intro ds
            induction ds with
            | nil => intro i v; exact ⟨v, rfl⟩
            | cons d ds ih =>
              intro i v
              unfold seenVal
              split
              · split
                · split
                  · exact ih _ _
                  · exact ih _ _
                · exact ih _ _
              · exact ih _ _
          obtain ⟨v', hv'⟩ := some_stays ds (i + 1) d.v
          rw [hv']; rfl
      · simp only [hu, decide_false, Bool.false_eq_true, if_false]
        refine stay _ ?_ ?_ <;> split <;> first | rfl | simp [Act.put, Array.getElem?_setIfInBounds, hu]
noncomputable def feD (S : Nat → Bool) (ds : List Done) (a : Act) : Operand → Value
  | .tmp t => if decide (t < a.tmps.size) then (match seenVal S t 0 ds none with
    | some v => v
    | none => feval a (.tmp t)) else undef
  | .const v => v
  | .global g => .pointer (some ⟨g, 0, none⟩)
  | .func f => .func (.func f) #[] #[]
theorem feD_eq (S : Nat → Bool) (ds : List Done) (a : Act) : feD S ds a = (putSeen S 0 ds a).eval := by
  funext x
  cases x with
  | tmp t =>
    unfold feD Act.eval
    rw [feval_eq]
    simp only
    by_cases ht : t < a.tmps.size
    · rw [if_pos (by simpa using ht), Array.getD_eq_getD_getElem?, seenVal_eq S t ds 0 none a ht (fun v hv => by cases hv)]
      cases seenVal S t 0 ds none <;> rfl
    · have hn : (putSeen S 0 ds a).tmps[t]? = none := Array.getElem?_eq_none_iff.2 (by rw [(putSeen_size S ds 0 a).1]; exact Nat.le_of_not_lt ht)
      rw [if_neg (by simpa using ht), Array.getD_eq_getD_getElem?, hn]
      rfl
  | _ => rfl
noncomputable def evOpR (P : Program) (G : List Nat) (call : Rec) (o : Oper) (ρ : Operand → Value) (A : AW) : Option (Value × AW) :=
  if o.op.operands.all (okOperand G) then
    match aop P ρ o A with
    | some (.value v, A') => some (v, A')
    | some (.skip, A') => some (undef, A')
    | some (.enter f args, A') => call (.call f args) A'
    | some (.round l _ tmps as bd, A') => call (.round l tmps as bd) A'
    | _ => none
  else none
theorem evOpR_eq (call : Rec) (o : Oper) (a : Act) (A : AW) : evOpR P G call o a.eval A = evOp P G call o a A := rfl
noncomputable def evDraw1F (P : Program) (G : List Nat) (call : Rec) (ops : Array Oper) (ds : List Done) (o : Oper) (a0 : Act) (A : AW) : Option (Done × AW) :=
  if !(directs o).all (fun j => decide (j < ds.length)) then none else
  if !apartAll ops (seesOf ds o) o 0 ds then none else
  match o.guard with
  | none =>
    fNat A.size fun sz => normA { A.w with heap := unseen (fun k => (seesOf ds o).contains k) 0 ds A.w.heap } A.loose sz fun A0 =>
    match evOpR P G call o (feD (fun k => (seesOf ds o).contains k) ds a0) A0 with
    | some (v, A1) => if A1.loose.all (fun p => decide (p.1 < A1.size)) && decide (sz ≤ A1.size) then
        fNat A1.size fun sz1 => normA { A.w with heap := A.w.heap ++ A1.w.heap.extract sz sz1 } ((A1.loose.filter fun p => decide (sz ≤ p.1)) ++ A.loose) A.ro fun A2 =>
        some (⟨o, v, seesOf ds o, sz, sz1⟩, A2)
      else none
    | none => none
  | some _ =>
    putSeenK (fun k => (seesOf ds o).contains k) 0 ds a0 fun a1 =>
    if wantedF ops o a1 then
      match evOpF P G call o a1 { w := { A.w with heap := unseen (fun k => (seesOf ds o).contains k) 0 ds A.w.heap }, loose := A.loose, ro := A.size } with
      | some (v, A1) => if A1.loose.all (fun p => decide (p.1 < A1.size)) && decide (A.size ≤ A1.size) then
          some (⟨o, v, seesOf ds o, A.size, A1.size⟩, { w := { A.w with heap := A.w.heap ++ A1.w.heap.extract A.size A1.size }, loose := (A1.loose.filter fun p => decide (A.size ≤ p.1)) ++ A.loose, ro := A.ro })
        else none
      | none => none
    else some (⟨o, undef, seesOf ds o, A.size, A.size⟩, A)
theorem evDraw1F_eq (call : Rec) (ops : Array Oper) (ds : List Done) (o : Oper) (a0 : Act) (A : AW) : evDraw1F P G call ops ds o a0 A = evDraw1 P G call ops ds o a0 A := by
  unfold evDraw1F evDraw1
  simp only [putSeenK_eq, evOpF_eq, feD_eq, evOpR_eq, wantedF_eq, fNat_eq, normA_eq]
  cases hg : o.guard with
  | none =>
    have hw : ∀ x, Region.wanted o x = true := fun x => by unfold Region.wanted; rw [hg]
    simp only [hw, if_true]
    rfl
  | some g => rfl
noncomputable def evDrawF (P : Program) (G : List Nat) (call : Rec) (ops : Array Oper) : List Oper → List Done → Act → AW → Option (List Done × AW)
  | [], ds, _, A => some (ds, A)
  | o :: rest, ds, a0, A =>
    match evDraw1F P G call ops ds o a0 A with
    | some (d, A1) => evDrawF P G call ops rest (ds ++ [d]) a0 A1
    | none => none
theorem evDrawF_eq (call : Rec) (ops : Array Oper) : ∀ (l : List Oper) (ds : List Done) (a0 : Act) (A : AW), evDrawF P G call ops l ds a0 A = evDraw P G call ops l ds a0 A
  | [], _, _, _ => rfl
  | o :: l, ds, a0, A => by
    unfold evDrawF evDraw
    simp only [evDraw1F_eq, evDrawF_eq call ops l]
    rfl
/-- a list of operations, its cells laid out -/
noncomputable def opsK {β : Type} : List Oper → (List Oper → β) → β
  | [], k => k []
  | o :: l, k => opsK l fun r => k (o :: r)
theorem opsK_eq {β : Type} : ∀ (l : List Oper) (k : List Oper → β), opsK l k = k l
  | [], _ => rfl
  | o :: l, k => by unfold opsK; rw [opsK_eq l]
noncomputable def runDrawF (P : Program) (G : List Nat) (call : Rec) (fl : Bool) (ops : Array Oper) (a : Act) (A : AW) : Option (Act × AW) :=
  let m := drawM P fl ops (seesList [] ops.toList)
  match evDrawF P G call ops (ops.toList.take m) [] a A with
  | some (ds, A1) => putSeenK (fun _ => true) 0 ds a fun a1 => evOpsF P G call ops (ops.toList.drop m) a1 A1
  | none => none
theorem runDrawF_eq (call : Rec) (fl : Bool) (ops : Array Oper) (a : Act) (A : AW) : runDrawF P G call fl ops a A = runDraw P G call fl ops a A := by
  unfold runDrawF runDraw
  simp only [putSeenK_eq, evDrawF_eq, evOpsF_eq]
  rfl
noncomputable def runLateF (P : Program) (G : List Nat) (call : Rec) (fl : Bool) (ops : Array Oper) (a : Act) (A : AW) : Option (Act × AW) :=
  let ss := seesList [] ops.toList
  let m := lateM P fl ops ss
  match evDrawF P G call ops (ops.toList.take m) [] a A with
  | some (ds, A1) => putSeenK (fun _ => true) 0 ds a fun a1 => match evOpsF P G call ops ((ops.toList.drop m).take 1) a1 A1 with
    | some (a3, A3) => if (lateOps (drawFl P fl ops ss) ops ss m).all (lateSame P G ops a3 A3) then evOpsF P G call ops (ops.toList.drop (m + 1)) a3 A3 else none
    | none => none
  | none => none
theorem runLateF_eq (call : Rec) (fl : Bool) (ops : Array Oper) (a : Act) (A : AW) : runLateF P G call fl ops a A = runLate P G call fl ops a A := by
  unfold runLateF runLate
  simp only [putSeenK_eq, evDrawF_eq, evOpsF_eq]
  rfl
noncomputable def evRegionF (P : Program) (G : List Nat) (call : Rec) (fl : Bool) (ops : Array Oper) (draw : Bool) (a : Act) (A : AW) : Option (Act × AW) :=
  if draw then
    match howOf P fl ops with
    | .plain => if drawOk P fl ops then runDrawF P G call fl ops a A else none
    | .other => opsK (permuted (sched P ops) ops).toList fun l => if drawOk P fl l.toArray then runDrawF P G call fl l.toArray a A else none
    | .late => opsK (permuted (sched P ops) ops).toList fun l => runLateF P G call fl l.toArray a A
  else evOpsF P G call ops ops.toList a A
theorem evRegionF_eq (call : Rec) (fl : Bool) (ops : Array Oper) (draw : Bool) (a : Act) (A : AW) : evRegionF P G call fl ops draw a A = evRegion P G call fl ops draw a A := by
  unfold evRegionF evRegion
  simp only [runDrawF_eq, runLateF_eq, evOpsF_eq, opsK_eq]
  cases howOf P fl ops <;> rfl
noncomputable def evRangeF (P : Program) (G : List Nat) (call : Rec) (rd : Option Nat) (g : Operand) (ps : Array Tmp) (assign body : Code) (a : Act) (A : AW) : Option (Exit × Act × AW) := evRange P G call rd g ps assign body a A
noncomputable def evCodeF (P : Program) (G : List Nat) (call : Rec) (n : Nat) (rd : Option Nat) : Code → Act → AW → Option (Exit × Act × AW)
  | .skip, a, A => some (.normal, a, A)
  | .label _, a, A => some (.normal, a, A)
  | .region _ ops draw, a, A => match evRegionF P G call rd.isNone ops draw a A with
    | some (a1, A1) => some (.normal, a1, A1)
    | none => none
  | .seq x y, a, A => match evCodeF P G call n rd x a A with
    | some (.normal, a1, A1) => evCodeF P G call n rd y a1 A1
    | r => r
  | .cond c x y, a, A => if okOperand G c then (match feval a c with
    | .bool true => evCodeF P G call n rd x a A
    | .bool false => evCodeF P G call n rd y a A
    | _ => none) else none
  | .block id c, a, A => match evCodeF P G call n rd c a A with
    | some (.exit id', a1, A1) => if id' = id then some (.normal, a1, A1) else some (.exit id', a1, A1)
    | r => r
  | .loop c, a, A => evLoop (evCodeF P G call n rd c) n a A
  | .rangeFunc g ps assign body, a, A => evRange P G call rd g ps assign body a A
  | .exit id, a, A => some (.exit id, a, A)
  | .goto l, a, A => some (.goto l, a, A)
  | .ret, a, A => some (.ret, a, A)
  | .scope c, a, A => match evCodeF P G call n rd c a A with
    | some (e, a1, A1) => if notGoto e then some (e, a1, A1) else none
    | none => none
  | .refuse _, _, _ => none
theorem evCodeF_eq (call : Rec) (n : Nat) (rd : Option Nat) : ∀ c : Code, evCodeF P G call n rd c = evCode P G call n rd c
  | .skip | .label _ | .exit _ | .goto _ | .ret | .refuse _ | .rangeFunc .. => by funext a A; rfl
  | .scope c => by
    funext a A
    unfold evCodeF evCode
    rw [evCodeF_eq call n rd c]; rfl
  | .region _ ops draw => by funext a A; unfold evCodeF evCode; rw [evRegionF_eq]; rfl
  | .seq x y => by
    funext a A
    unfold evCodeF evCode
    rw [evCodeF_eq call n rd x, evCodeF_eq call n rd y]; rfl
  | .cond c x y => by
    funext a A
    unfold evCodeF evCode
    rw [evCodeF_eq call n rd x, evCodeF_eq call n rd y, feval_eq]; rfl
  | .block id c => by
    funext a A
    unfold evCodeF evCode
    rw [evCodeF_eq call n rd c]; rfl
  | .loop c => by
    funext a A
    unfold evCodeF evCode
    rw [evCodeF_eq call n rd c]
noncomputable def evBodyF (P : Program) (G : List Nat) (call : Rec) (n : Nat) (fn : Func) (c : Code) (args : Array Value) (A : AW) : Option (Value × AW) :=
  match evCodeF P G call n none c { tmps := args ++ Array.replicate (fn.ntmps - args.size) undef, defers := [] } A with
  | some (e, a, A1) =>
    match e with
    | .normal | .ret => match evMarks P a.defers A1 with
      | some A2 => match evResults P a.tmps fn.results.toList A2 with
        | some (vs, A3) => some (oneOf vs, A3)
        | none => none
      | none => none
    | _ => none
  | none => none
noncomputable def evStepF (P : Program) (G : List Nat) (call : Rec) (n : Nat) (j : Job) (A : AW) : Option (Value × AW) :=
  match j with
  | .call f args => match P.funcs[f]? with
    | some fn => match fn.body with
      | some c => evBodyF P G call n fn c args A
      | none => none
    | none => none
  | .round l tmps assign body =>
    match evCodeF P G call n (some l) assign { tmps, defers := [] } A with
    | some (.normal, a1, A1) =>
      match arun P (Instr.beginRound l) A1 with
      | some (_, A2) =>
        match evCodeF P G call n (some l) body a1 A2 with
        | some (e, _, A3) => match jumpOf e with
          | some j => arun P (Instr.endRound l j) A3
          | none => none
        | none => none
      | none => none
    | _ => none
theorem evStepF_eq (call : Rec) (n : Nat) (j : Job) (A : AW) : evStepF P G call n j A = evStep P G call n j A := by
  cases j with
  | call f args => unfold evStepF evStep evBodyF evBody; simp only [evCodeF_eq]; rfl
  | round l tmps assign body => unfold evStepF evStep; simp only [evCodeF_eq]; rfl
noncomputable def evF (P : Program) (G : List Nat) : Nat → Rec
  | 0 => fun _ _ => none
  | n + 1 => fun j A => evStepF P G (evF P G n) n j A
theorem evF_eq : ∀ n, evF P G n = ev P G n
  | 0 => rfl
  | n + 1 => by
    funext j A
    show evStepF P G (evF P G n) n j A = evStep P G (ev P G n) n j A
    rw [evF_eq n, evStepF_eq]
theorem true_callsF (hP : PC2 P) {n : Nat} {f : FuncId} {args args' : Array Value} {h : Array Obj} (he : evTrue (evF P G n (.call f args) (AW.start h)) = true) {R : CR} {w : World} (hk : Known h R w) (hg : Gl G R) (ha : ArrR R args args') :
    Calls P f args' w fun e w' => e = .returned (.bool true) ∧ ∃ x, w' = Own.beyond w x := true_calls hP (by rw [← evF_eq]; exact he) hk hg ha
theorem true_plainF (hP : PC2 P) {n : Nat} {f : FuncId} {args : Array Value} (he : evTrue (evF P [] n (.call f args) (AW.start #[])) = true) (ha : args.all (plainV 60) = true) (w : World) :
    Calls P f args w fun e w' => e = .returned (.bool true) ∧ ∃ x, w' = Own.beyond w x := true_plain hP (by rw [← evF_eq]; exact he) ha w
end Go.Can
