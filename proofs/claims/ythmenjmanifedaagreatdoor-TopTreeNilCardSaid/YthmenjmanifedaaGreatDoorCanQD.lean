/-
  The canonical evaluator in fewer steps: code, calls, the whole.
-/
import Derived.Test.YthmenjmanifedaaGreatDoorCanQC
set_option linter.unusedSimpArgs false
set_option linter.unusedVariables false
namespace Go.Can
variable {P : Program} {G : List Nat}

/-! The canonical evaluator in fewer steps: operations over a tree of temporaries. -/
theorem opdT_eq (dd nn : Nat) (x : Operand) (tr : Tr) : (opdT dd nn x).run tr = evalT dd nn tr x := rfl
structure PT where
  run : Tr → Array Obj → Option Value
noncomputable def binCT (op : BinOp) (x y : VT) : PT := ⟨fun a _ => (binE op).run (x.run a) (y.run a)⟩
noncomputable def cpureT (dd nn : Nat) (P : Program) : Op → PT
  | .move x => ⟨fun a _ => some ((opdT dd nn x).run a)⟩
  | .assign x => ⟨fun a _ => some ((opdT dd nn x).run a)⟩
  | .pick c x y => ⟨fun a h => pureH P (evalT dd nn a) (.pick c x y) h⟩
  | .load t x => (match layOf P t with
    | some (true, n) => ⟨fun a h => ptrE ((opdT dd nn x).run a) fun ad => rowE ad n h⟩
    | some (false, _) => ⟨fun a h => ptrE ((opdT dd nn x).run a) fun ad => cellE ad h⟩
    | none => ⟨fun _ _ => none⟩)
  | .indexAddr t x i => (match arrT P t with
    | some (some len, s) => ⟨fun a _ => natE ((opdT dd nn i).run a) fun m => ptrE ((opdT dd nn x).run a) fun ad => addrIfE (Nat.blt m len) ad (m * s)⟩
    | some (none, s) => ⟨fun a _ => natE ((opdT dd nn i).run a) fun m => sliceE ((opdT dd nn x).run a) fun ad n => addrIfE (Nat.blt m n) ad (m * s)⟩
    | none => ⟨fun _ _ => none⟩)
  | .fieldAddr t x f => (match fieldT P t f with
    | some (o, _, n) => (match n with
      | 0 => ⟨fun _ _ => none⟩
      | _ + 1 => ⟨fun a _ => ptrE ((opdT dd nn x).run a) fun ad => addE ad o⟩)
    | none => ⟨fun _ _ => none⟩)
  | .field t x f => (match fieldT P t f with
    | some (o, b, n) => ⟨fun a _ => aggE ((opdT dd nn x).run a) fun c => partH b n c o⟩
    | none => ⟨fun _ _ => none⟩)
  | .index t x i => (match elemT P t with
    | some (len, b, n) => ⟨fun a _ => natE ((opdT dd nn i).run a) fun m => aggE ((opdT dd nn x).run a) fun c => match Nat.blt m len with
      | true => partH b n c (m * n)
      | false => none⟩
    | none => ⟨fun _ _ => none⟩)
  | .binOp op _ x y _ => binCT op (opdT dd nn x) (opdT dd nn y)
  | .unOp op _ x => ⟨fun a _ => unH op ((opdT dd nn x).run a)⟩
  | .convert s d x => ⟨fun a _ => convH P s d ((opdT dd nn x).run a)⟩
  | .extract t i => ⟨fun a _ => match (opdT dd nn t).run a with
    | .tuple vs => aget vs i
    | _ => none⟩
  | .nilCheck x => ⟨fun a _ => ptrE ((opdT dd nn x).run a) fun ad => some (.pointer (some ad))⟩
  | .build t ps => ⟨fun a h => pureH P (evalT dd nn a) (.build t ps) h⟩
  | _ => ⟨fun _ _ => none⟩
theorem cpureT_eq (dd nn : Nat) (op : Op) (a : Tr) (h : Array Obj) : (cpureT dd nn P op).run a h = pureH P (evalT dd nn a) op h := by
  cases op <;> (try rfl) <;> unfold cpureT pureH <;> dsimp only
  case load t x =>
    unfold loadH
    split
    · rename_i n e; simp only [opdT_eq, ptrE_eq, ptrK, e, rowE] <;> rfl
    · rename_i n e; simp only [opdT_eq, ptrE_eq, ptrK, e, cellE_eq] <;> rfl
    · rename_i e
      simp only [e]
      split <;> rfl
  case indexAddr t x i =>
    unfold indexAddrH
    split
    · rename_i len s e
      simp only [opdT_eq, natE_eq, ptrE_eq, addrIfE_eq, natK, ptrK, addrIf, e] <;> rfl
    · rename_i s e
      simp only [opdT_eq, natE_eq, sliceE_eq, addrIfE_eq, natK, sliceK, addrIf, e] <;> rfl
    · rename_i e
      simp only [e]
      split <;> rfl
  case fieldAddr t x f =>
    unfold fieldAddrH
    split
    · rename_i o b n e
      split
      · simp only [e]
        split <;> rfl
      · simp only [opdT_eq, ptrE_eq, addE_eq, ptrK, e] <;> rfl
    · rename_i e
      simp only [e]
      split <;> rfl
  case field t x f =>
    unfold fieldH
    split
    · rename_i o b n e
      simp only [opdT_eq, aggE_eq, aggK, e] <;> rfl
    · rename_i e
      simp only [e]
      split <;> rfl
  case index t x i =>
    unfold indexH
    split
    · rename_i len b n e
      simp only [opdT_eq, natE_eq, aggE_eq, natK, aggK, e] <;> rfl
    · rename_i e
      simp only [e]
      split <;> (try rfl)
      split <;> rfl
  case binOp op t x y yt =>
    show (binE op).run _ _ = _
    rw [binE_eq]; rfl
  case nilCheck x => simp only [opdT_eq, ptrE_eq, ptrK] <;> rfl

structure OT where
  run : Tr → AW → Option (Value × AW)
noncomputable def slowR (P : Program) (call : Rec) (o : Oper) (ρ : Operand → Value) (A : AW) : Option (Value × AW) := match aop P ρ o A with
  | some (.value v, A') => some (v, A')
  | some (.skip, A') => some (undef, A')
  | some (.enter f args, A') => call (.call f args) A'
  | some (.round l _ tmps as bd, A') => call (.round l tmps as bd) A'
  | _ => none
noncomputable def opForm (P : Program) (G : List Nat) (call : Rec) (o : Oper) (ρ : Operand → Value) (A : AW) : Option (Value × AW) := if o.op.operands.all (okOperand G) then orElse' (quick P ρ o.op A) (slowR P call o ρ A) else none
theorem opForm_eq (call : Rec) (o : Oper) (a : Act) (A : AW) : opForm P G call o (feval a) A = evOpQ P G call o a A := by
  rw [evOpQ_form]; rfl
noncomputable def copT (d n : Nat) (P : Program) (G : List Nat) (call : Rec) (o : Oper) : OT :=
  match o.op.operands.all (okOperand G) with
  | false => ⟨fun _ _ => none⟩
  | true => match o.op with
    | .store t x y => ⟨fun a A => orElse' (storeH P t ((opdT d n x).run a) ((opdT d n y).run a) A) (slowR P call o (evalT d n a) A)⟩
    | .box t x => ⟨fun a A => orElse' (boxH t ((opdT d n x).run a) A) (slowR P call o (evalT d n a) A)⟩
    | .alloc t => ⟨fun a A => orElse' (allocH P t A) (slowR P call o (evalT d n a) A)⟩
    | .call c => (match calleeOf P c with
      | some f => ⟨fun a A => call (.call f ⟨c.args.toList.map fun x => (opdT d n x).run a⟩) A⟩
      | none => (match c.callee with
        | .value x => ⟨fun a A => match (opdT d n x).run a with
          | .func (.func g) first captured => if hasBody P g then call (.call g ⟨first.toList ++ (c.args.toList.map (fun x => (opdT d n x).run a) ++ captured.toList)⟩) A else none
          | _ => slowR P call o (evalT d n a) A⟩
        | _ => ⟨fun a A => orElse' (lenH P (evalT d n a) c A) (slowR P call o (evalT d n a) A)⟩))
    | .makeFunc (.func f) first captured => ⟨fun a A => some (.func (.func f) ⟨first.toList.map fun x => (opdT d n x).run a⟩ ⟨captured.toList.map fun x => (opdT d n x).run a⟩, A)⟩
    | op => (match pureKind op with
      | true => ⟨fun a A => optA ((cpureT d n P op).run a A.w.heap) A (slowR P call o (evalT d n a) A)⟩
      | false => ⟨fun a A => slowR P call o (evalT d n a) A⟩)
theorem map_evalT (d n : Nat) (a : Tr) (l : Array Operand) : (⟨l.toList.map fun x => (opdT d n x).run a⟩ : Array Value) = l.map (evalT d n a) := by
  apply Array.ext'
  simp only [Array.toList_map]
  rfl
theorem copT_eq (d n : Nat) (call : Rec) (o : Oper) (a : Tr) (A : AW) : (copT d n P G call o).run a A = opForm P G call o (evalT d n a) A := by
  unfold opForm copT
  split
  · rename_i h; rw [h]; rfl
  · rename_i h
    rw [h]
    simp only [if_true]
    split
    · rename_i t x y e; rw [e]; rfl
    · rename_i t x e; rw [e]; rfl
    · rename_i t e; rw [e]; rfl
    · rename_i c e
      rw [e]
      split
      · rename_i f hf
        unfold calleeOf at hf
        split at hf
        case h_2 => cases hf
        rename_i g hc
        split at hf
        case isFalse => cases hf
        rename_i hb
        cases hf
        have e1 : quick P (evalT d n a) (.call c) A = none := by
          show lenH P (evalT d n a) c A = none
          unfold lenH
          rw [hc]
        rw [e1]
        unfold orElse' slowR aop
        rw [e]
        simp only
        unfold callOn
        rw [hc, map_evalT]
        simp only [evalT, opdT, goEnter, hb, if_true]
        congr 2
        simp
      · split
        · rename_i x hc
          have e1 : quick P (evalT d n a) (.call c) A = none := by
            show lenH P (evalT d n a) c A = none
            unfold lenH
            rw [hc]
          rw [e1]
          show (match evalT d n a x with
            | .func (.func g) first captured => if hasBody P g then call (.call g ⟨first.toList ++ (c.args.toList.map (fun x => (opdT d n x).run a) ++ captured.toList)⟩) A else none
            | _ => slowR P call o (evalT d n a) A) = slowR P call o (evalT d n a) A
          split
          · rename_i g first captured hx
            unfold slowR aop
            rw [e]
            simp only
            unfold callOn
            rw [hc]
            simp only [hx, goEnter]
            have e2 : (⟨first.toList ++ (c.args.toList.map (fun x => (opdT d n x).run a) ++ captured.toList)⟩ : Array Value) = first ++ c.args.map (evalT d n a) ++ captured := by
              apply Array.ext'
              simp only [Array.toList_append, Array.toList_map, List.append_assoc]
              rfl
            rw [e2]
            split
            · rfl
            · rfl
          · rfl
        · rfl
    · rename_i f first captured e
      rw [e]
      have e1 : quick P (evalT d n a) (.makeFunc (.func f) first captured) A = none := rfl
      rw [e1]
      unfold orElse' slowR aop
      rw [e]
      simp only
      congr 2
      rw [← map_evalT, ← map_evalT]
    · rename_i op h1 h2 h3 h4 h5
      have e1 : quick P (evalT d n a) o.op A = (match pureH P (evalT d n a) o.op A.w.heap with | some v => some (v, A) | none => none) := by
        unfold quick
        split
        · rename_i e; exact (h1 _ _ _ e).elim
        · rename_i e; exact (h2 _ _ e).elim
        · rename_i e; exact (h3 _ e).elim
        · rename_i e; exact (h4 _ e).elim
        · rfl
      rw [e1]
      split
      · show optA _ A _ = _
        rw [cpureT_eq, optA_eq]
        cases pureH P (evalT d n a) o.op A.w.heap <;> rfl
      · rename_i hp
        rw [pure_none hp]
        rfl
/-- does it happen -/
structure GT where
  run : Tr → Bool
noncomputable def guardT (d n : Nat) (ops : Array Oper) (o : Oper) : GT := match o.guard with
  | none => ⟨fun _ => true⟩
  | some (j, want) => (match (ops[j]?).bind (·.dst) with
    | some t => if decide (t < n) then fList (pathT d t) fun p => ⟨fun tr => match getT p tr with
      | .bool b => b == want
      | _ => false⟩ else ⟨fun _ => false⟩
    | none => ⟨fun _ => false⟩)
theorem guardT_eq {d n : Nat} (hn : n ≤ 2 ^ d) {tr : Tr} (ht : perf d tr) (D : List Deferred) (ops : Array Oper) (o : Oper) : (guardT d n ops o).run tr = wantedF ops o (actT n D tr) := by
  rw [wantedF_eq]
  unfold guardT Region.wanted
  cases hg : o.guard with
  | none => rfl
  | some g =>
    obtain ⟨j, want⟩ := g
    simp only
    unfold yielded
    cases hd : (ops[j]?).bind (·.dst) with
    | none => rfl
    | some t =>
      simp only [Option.bind_some]
      unfold actT
      simp only [List.getElem?_toArray, List.getElem?_take]
      split
      · rename_i h
        have h := of_decide_eq_true h
        rw [fList_eq, if_pos h]
        show (match getT (pathT d t) tr with | .bool b => b == want | _ => false) = _
        rw [getT_eq d tr t ht (Nat.lt_of_lt_of_le h hn), List.getD_eq_getElem?_getD]
        have hlt : t < (leavesT tr).length := by rw [leaves_len d tr ht]; exact Nat.lt_of_lt_of_le h hn
        rw [List.getElem?_eq_getElem hlt]
        simp only [Option.getD_some]
        cases (leavesT tr)[t] <;> rfl
      · rename_i h
        have h : ¬ t < n := fun e => h (decide_eq_true e)
        rw [if_neg h]
        rfl
structure LT' where
  run : Tr → AW → Option (Tr × AW)
noncomputable def copsT (d n : Nat) (P : Program) (G : List Nat) (call : Rec) (ops : Array Oper) : List Oper → LT'
  | [] => ⟨fun a A => some (a, A)⟩
  | o :: rest => (match o.guard with
    | none => ⟨fun a A => opR ((copT d n P G call o).run a A) fun v A1 => valR v fun v => dstT d n o.dst a v fun a1 => (copsT d n P G call ops rest).run a1 A1⟩
    | some _ => ⟨fun a A => Bool.rec (motive := fun _ => R2) (dstT d n o.dst a undef fun a1 => (copsT d n P G call ops rest).run a1 A) (opR ((copT d n P G call o).run a A) fun v A1 => valR v fun v => dstT d n o.dst a v fun a1 => (copsT d n P G call ops rest).run a1 A1) ((guardT d n ops o).run a)⟩)
theorem copsT_ok {d n : Nat} (hn : n ≤ 2 ^ d) (D : List Deferred) (call : Rec) (ops : Array Oper) : ∀ (l : List Oper) (a : Tr) (A : AW), perf d a → ∀ {a' A'}, (copsT d n P G call ops l).run a A = some (a', A') → perf d a' ∧ evOpsQ P G call ops l (actT n D a) A = some (actT n D a', A')
  | [], a, A, ht, a', A', h => by
    have h : some (a, A) = some (a', A') := h
    cases h
    exact ⟨ht, rfl⟩
  | o :: l, a, A, ht, a', A', h => by
    have step : ∀ v A1, dstT d n o.dst a v (fun a1 => (copsT d n P G call ops l).run a1 A1) = some (a', A') → perf d a' ∧ evOpsQ P G call ops l ((actT n D a).put o.dst v) A1 = some (actT n D a', A') := by
      intro v A1 h
      obtain ⟨tr', h1, h2, h3⟩ := dstT_eq hn ht o.dst v
      rw [h3] at h
      rw [← h2]
      exact copsT_ok hn D call ops l tr' A1 h1 h
    have main : (opR ((copT d n P G call o).run a A) fun v A1 => valR v fun v => dstT d n o.dst a v fun a1 => (copsT d n P G call ops l).run a1 A1) = some (a', A') → perf d a' ∧ (match evOpQ P G call o (actT n D a) A with
      | some (v, A1) => fV v fun v => putK (actT n D a) o.dst v fun a1 => evOpsQ P G call ops l a1 A1
      | none => none) = some (actT n D a', A') := by
      intro h
      rw [opR_eq, copT_eq, evalT_eq hn ht D, opForm_eq] at h
      split at h
      case h_2 => cases h
      rename_i v A1 hv
      rw [valR_eq] at h
      rw [hv]
      simp only [fV_eq, putK_eq]
      exact step v A1 h
    unfold evOpsQ
    unfold copsT at h
    split at h
    · rename_i hg
      have hw : wantedF ops o (actT n D a) = true := by unfold wantedF; rw [hg]
      rw [if_pos hw]
      exact main h
    · dsimp only at h
      rw [guardT_eq hn ht D] at h
      cases hw : wantedF ops o (actT n D a) with
      | true =>
        rw [hw] at h
        rw [if_pos rfl]
        exact main h
      | false =>
        rw [hw] at h
        rw [if_neg (by simp), putK_eq]
        exact step undef A h
structure ST where
  run : Array Obj → Tr → AW → Option (Tr × AW)
structure TT where
  run : Array Obj → Tr → AW → Option (Value × AW)
noncomputable def cstepT (d n : Nat) (P : Program) (G : List Nat) (call : Rec) (o : Oper) : Tag → TT
  | .base => ⟨fun h0 a A => optA ((cpureT d n P o.op).run a h0) A none⟩
  | .cur => ⟨fun _ a A => optA ((cpureT d n P o.op).run a A.w.heap) A none⟩
  | .mk => ⟨fun _ a A => quick P (evalT d n a) o.op A⟩
  | .gen => ⟨fun _ a A => genStep (fun B => (copT d n P G call o).run a B) A⟩
theorem cstepT_eq {d n : Nat} (hn : n ≤ 2 ^ d) (D : List Deferred) (call : Rec) (o : Oper) (t : Tag) (h0 : Array Obj) {a : Tr} (ht : perf d a) (A : AW) : (cstepT d n P G call o t).run h0 a A = stepT P G call o t h0 (actT n D a) A := by
  have he := evalT_eq hn ht D
  cases t
  · show optA ((cpureT d n P o.op).run a h0) A none = _
    rw [optA_eq, cpureT_eq, he]; rfl
  · show optA ((cpureT d n P o.op).run a A.w.heap) A none = _
    rw [optA_eq, cpureT_eq, he]; rfl
  · show quick P (evalT d n a) o.op A = _
    rw [he]; rfl
  · show genStep (fun B => (copT d n P G call o).run a B) A = genStep (evOpQ P G call o (actT n D a)) A
    congr 1
    funext B
    rw [copT_eq, he, opForm_eq]
noncomputable def cseqT (d n : Nat) (P : Program) (G : List Nat) (call : Rec) (ops : Array Oper) : List Oper → List Tag → ST
  | [], _ => ⟨fun _ a A => some (a, A)⟩
  | o :: rest, t :: ts => (match o.op.operands.all (okOperand G) with
    | false => ⟨fun _ _ _ => none⟩
    | true => (match o.guard with
      | none => ⟨fun h0 a A => opR ((cstepT d n P G call o t).run h0 a A) fun v A1 => valR v fun v => dstT d n o.dst a v fun a1 => (cseqT d n P G call ops rest ts).run h0 a1 A1⟩
      | some _ => ⟨fun h0 a A => Bool.rec (motive := fun _ => R2) (dstT d n o.dst a undef fun a1 => (cseqT d n P G call ops rest ts).run h0 a1 A) (opR ((cstepT d n P G call o t).run h0 a A) fun v A1 => valR v fun v => dstT d n o.dst a v fun a1 => (cseqT d n P G call ops rest ts).run h0 a1 A1) ((guardT d n ops o).run a)⟩))
  | _ :: _, [] => ⟨fun _ _ _ => none⟩
theorem cseqT_ok {d n : Nat} (hn : n ≤ 2 ^ d) (D : List Deferred) (call : Rec) (ops : Array Oper) (h0 : Array Obj) : ∀ (l : List Oper) (ts : List Tag) (a : Tr) (A : AW), perf d a → ∀ {a' A'}, (cseqT d n P G call ops l ts).run h0 a A = some (a', A') → perf d a' ∧ seqRun P G call ops h0 l ts (actT n D a) A = some (actT n D a', A')
  | [], ts, a, A, ht, a', A', h => by
    have h : some (a, A) = some (a', A') := by cases ts <;> exact h
    cases h
    exact ⟨ht, by cases ts <;> rfl⟩
  | _ :: _, [], _, _, _, _, _, h => by cases h
  | o :: l, t :: ts, a, A, ht, a', A', h => by
    have step : ∀ v A1, dstT d n o.dst a v (fun a1 => (cseqT d n P G call ops l ts).run h0 a1 A1) = some (a', A') → perf d a' ∧ seqRun P G call ops h0 l ts ((actT n D a).put o.dst v) A1 = some (actT n D a', A') := by
      intro v A1 h
      obtain ⟨tr', h1, h2, h3⟩ := dstT_eq hn ht o.dst v
      rw [h3] at h
      rw [← h2]
      exact cseqT_ok hn D call ops h0 l ts tr' A1 h1 h
    have main : (opR ((cstepT d n P G call o t).run h0 a A) fun v A1 => valR v fun v => dstT d n o.dst a v fun a1 => (cseqT d n P G call ops l ts).run h0 a1 A1) = some (a', A') → perf d a' ∧ (match stepT P G call o t h0 (actT n D a) A with
      | some (v, A1) => seqRun P G call ops h0 l ts ((actT n D a).put o.dst v) A1
      | none => none) = some (actT n D a', A') := by
      intro h
      rw [opR_eq, cstepT_eq hn D call o t h0 ht] at h
      split at h
      case h_2 => cases h
      rename_i v A1 hv
      rw [valR_eq] at h
      rw [hv]
      exact step v A1 h
    unfold cseqT at h
    split at h
    · cases h
    rename_i hok
    unfold seqRun
    split at h
    · rename_i hg
      have hw : wantedF ops o (actT n D a) = true := by unfold wantedF; rw [hg]
      rw [if_pos hw, if_pos hok]
      exact main h
    · dsimp only at h
      rw [guardT_eq hn ht D] at h
      cases hw : wantedF ops o (actT n D a) with
      | true =>
        rw [hw] at h
        rw [if_pos rfl, if_pos hok]
        exact main h
      | false =>
        rw [hw] at h
        rw [if_neg (by simp)]
        exact step undef A h

/-! The canonical evaluator in fewer steps: code over a tree of temporaries, and the whole. -/
structure FS where
  tr : Tr
  df : List Deferred
def actF (nn : Nat) (s : FS) : Act := actT nn s.df s.tr
noncomputable def ofActK {β : Type} (dd nn : Nat) (fail : β) (a : Act) (k : FS → β) : β := match Nat.beq a.tmps.toList.length nn with
  | true => buildT dd a.tmps.toList fun tr _ => k ⟨tr, a.defers⟩
  | false => fail
theorem ofActK_ok {dd nn : Nat} (hn : nn ≤ 2 ^ dd) (a : Act) : (∃ s, perf dd s.tr ∧ actF nn s = a ∧ ∀ {β : Type} (fail : β) (k : FS → β), ofActK dd nn fail a k = k s) ∨ ∀ {β : Type} (fail : β) (k : FS → β), ofActK dd nn fail a k = fail := by
  by_cases h : a.tmps.toList.length = nn
  · left
    obtain ⟨t, h1, h2, h3⟩ := buildT_eq dd a.tmps.toList
    refine ⟨⟨t, a.defers⟩, h1, ?_, fun fail k => ?_⟩
    · unfold actF actT
      simp only [h2]
      obtain ⟨⟨l⟩, D⟩ := a
      have h : l.length = nn := h
      simp only
      congr 2
      rw [List.take_take, Nat.min_eq_left hn, List.take_append_of_le_length (by omega), List.take_of_length_le (by omega)]
    · unfold ofActK
      rw [show Nat.beq a.tmps.toList.length nn = true by rw [h]; exact Nat.beq_refl nn]
      exact h3 _
  · right
    intro β fail k
    unfold ofActK
    rw [show Nat.beq a.tmps.toList.length nn = false by
      cases hb : Nat.beq a.tmps.toList.length nn with
      | false => rfl
      | true => exact absurd (Nat.eq_of_beq_eq_true hb) h]
structure LF where
  run : FS → AW → Option (FS × AW)
noncomputable def slowDraw (dd nn : Nat) (P : Program) (G : List Nat) (call : Rec) (fl : Bool) (ops : Array Oper) (s : FS) (A : AW) : Option (FS × AW) := match runDrawF P G call fl ops (actF nn s) A with
  | some (a, A') => ofActK dd nn none a fun s' => some (s', A')
  | none => none
theorem back_ok {dd nn : Nat} (hn : nn ≤ 2 ^ dd) {r : Option (Act × AW)} {s' : FS} {A' : AW} (h : (match r with | some (a, A') => ofActK dd nn none a fun s' => some (s', A') | none => none : Option (FS × AW)) = some (s', A')) : perf dd s'.tr ∧ r = some (actF nn s', A') := by
  split at h
  case h_2 => cases h
  rename_i a A2
  rcases ofActK_ok hn a with ⟨s, h1, h2, h3⟩ | h3
  · rw [h3] at h
    cases h
    exact ⟨h1, by rw [h2]⟩
  · rw [h3] at h
    cases h
noncomputable def drawT (dd nn : Nat) (P : Program) (G : List Nat) (call : Rec) (fl : Bool) (ops : Array Oper) : LF :=
  match drawOk P fl ops with
  | false => ⟨fun _ _ => none⟩
  | true => match statTags ops (ops.toList.take (drawM P fl ops (seesList [] ops.toList))) [] with
    | none => ⟨fun s A => slowDraw dd nn P G call fl ops s A⟩
    | some ts => ⟨fun s A => match (cseqT dd nn P G call ops (ops.toList.take (drawM P fl ops (seesList [] ops.toList))) ts).run A.w.heap s.tr A with
      | some (t, A1) => (match (copsT dd nn P G call ops (ops.toList.drop (drawM P fl ops (seesList [] ops.toList)))).run t A1 with
        | some (t', A2) => some (⟨t', s.df⟩, A2)
        | none => none)
      | none => slowDraw dd nn P G call fl ops s A⟩
theorem drawT_ok {dd nn : Nat} (hn : nn ≤ 2 ^ dd) {call : Rec} {fl : Bool} {ops : Array Oper} {s : FS} {A : AW} (ht : perf dd s.tr) (hl : ∀ p ∈ A.loose, p.1 < A.size) {s' A'} (h : (drawT dd nn P G call fl ops).run s A = some (s', A')) :
    perf dd s'.tr ∧ (if drawOk P fl ops then runDrawF P G call fl ops (actF nn s) A else none) = some (actF nn s', A') := by
  unfold drawT at h
  split at h
  · cases h
  rename_i hd
  rw [hd]
  simp only [if_true]
  split at h
  · exact back_ok hn h
  rename_i ts hts
  dsimp only at h
  split at h
  case h_2 => exact back_ok hn h
  rename_i t A1 h1
  split at h
  case h_2 => cases h
  rename_i t' A2 h2
  cases h
  obtain ⟨p1, e1⟩ := cseqT_ok hn s.df call ops A.w.heap _ ts s.tr A ht h1
  obtain ⟨p2, e2⟩ := copsT_ok hn s.df call ops _ t A1 p1 h2
  refine ⟨p2, ?_⟩
  obtain ⟨ds2, h3, h4⟩ := seq_draw (a0 := actF nn s) _ ts [] [] A _ hl .nil (by simp) (by simp) (fun _ _ => rfl) (Nat.le_refl _) hts e1
  unfold runDrawF
  simp only [evDrawF_eq, h3, putSeenK_eq, h4]
  rw [← evOpsQ_eq]
  exact e2
noncomputable def regT (dd nn : Nat) (P : Program) (G : List Nat) (call : Rec) (fl : Bool) (ops : Array Oper) (draw : Bool) : LF :=
  match draw with
  | false => ⟨fun s A => match (copsT dd nn P G call ops ops.toList).run s.tr A with
    | some (t', A2) => some (⟨t', s.df⟩, A2)
    | none => none⟩
  | true => match howOf P fl ops with
    | .plain => drawT dd nn P G call fl ops
    | .other => opsK (permuted (sched P ops) ops).toList fun l => drawT dd nn P G call fl l.toArray
    | .late => opsK (permuted (sched P ops) ops).toList fun l => ⟨fun s A => match runLateF P G call fl l.toArray (actF nn s) A with
      | some (a, A') => ofActK dd nn none a fun s' => some (s', A')
      | none => none⟩
theorem regT_ok {dd nn : Nat} (hn : nn ≤ 2 ^ dd) {call : Rec} {fl : Bool} {ops : Array Oper} {draw : Bool} {s : FS} {A : AW} (ht : perf dd s.tr) (hl : ∀ p ∈ A.loose, p.1 < A.size) {s' A'} (h : (regT dd nn P G call fl ops draw).run s A = some (s', A')) :
    perf dd s'.tr ∧ evRegionF P G call fl ops draw (actF nn s) A = some (actF nn s', A') := by
  unfold regT at h
  unfold evRegionF
  split at h
  · simp only [Bool.false_eq_true, if_false]
    dsimp only at h
    split at h
    case h_2 => cases h
    rename_i t' A2 h2
    cases h
    obtain ⟨p2, e2⟩ := copsT_ok hn s.df call ops _ s.tr A ht h2
    rw [← evOpsQ_eq]
    exact ⟨p2, e2⟩
  · simp only [if_true]
    split at h
    · rename_i e; rw [e]; exact drawT_ok hn ht hl h
    · rename_i e; rw [e]
      rw [opsK_eq] at h
      simp only [opsK_eq]
      exact drawT_ok hn ht hl h
    · rename_i e; rw [e]
      rw [opsK_eq] at h
      simp only [opsK_eq]
      exact back_ok hn h
/-! Code -/
structure CF where
  run : FS → AW → Option (List (Exit × FS × AW))
def CodeOkT (dd nn : Nat) (P : Program) (G : List Nat) (rd : Option Nat) (c : Code) (r : FS → AW → Option (List (Exit × FS × AW))) : Prop :=
  ∀ s A L, r s A = some L → perf dd s.tr → ∀ R w a' rd', WR R A w → Gl G R → ActR R (actF nn s) a' → RdR R rd rd' → ∀ m, c.wpIn (Fr rd') m P (fun e' a2 w2 => ∃ x ∈ L, perf dd x.2.1.tr ∧ Post R A w x.1 (actF nn x.2.1) x.2.2 e' a2 w2) a' w
noncomputable def boolE : Value → (Bool → Option (List (Exit × FS × AW))) → Option (List (Exit × FS × AW)) :=
  @Value.rec (fun _ => (Bool → Option (List (Exit × FS × AW))) → Option (List (Exit × FS × AW))) (fun _ => Unit) (fun _ => Unit) (fun b f => f b) (fun _ _ _ => none) (fun _ _ _ => none) (fun _ _ _ _ => none) (fun _ _ => none) (fun _ _ => none) (fun _ _ _ _ => none) (fun _ _ => none) (fun _ _ => none)
    (fun _ _ _ _ _ _ => none) (fun _ => none) (fun _ _ _ _ => none) (fun _ => none) (fun _ _ _ => none) (fun _ _ _ => none) (fun _ _ => ()) () (fun _ _ _ _ => ())
theorem boolE_some {v : Value} {f : Bool → Option (List (Exit × FS × AW))} {L} (h : boolE v f = some L) : ∃ b, v = .bool b ∧ f b = some L := by
  cases v <;> first | exact ⟨_, rfl, h⟩ | cases h
abbrev ROut := Option (List (Exit × FS × AW))
/-- one outcome: on where it is normal -/
noncomputable def oneE (e : Exit) (s : FS) (A : AW) (k : FS → AW → ROut) : ROut := Exit.rec (motive := fun _ => (FS → AW → ROut) → ROut) (fun k => k s A) (fun id _ => some [(.exit id, s, A)]) (fun l _ => some [(.goto l, s, A)]) (fun _ => some [(.ret, s, A)]) (fun c _ => some [(.panic c, s, A)]) (fun _ => some [(.outgrown, s, A)]) e k
theorem oneE_eq (e : Exit) (s : FS) (A : AW) (k : FS → AW → ROut) : oneE e s A k = match e with | .normal => k s A | e => some [(e, s, A)] := by cases e <;> rfl
def contL (k : FS → AW → ROut) (z : Exit × FS × AW) : ROut := match z with
  | (.normal, s1, A1) => k s1 A1
  | z => some [z]
noncomputable def pairE (z : Exit × FS × AW) (k : FS → AW → ROut) : ROut := Prod.rec (motive := fun _ => (FS → AW → ROut) → ROut) (fun e p k => Prod.rec (motive := fun _ => (FS → AW → ROut) → ROut) (fun s A k => oneE e s A k) p k) z k
theorem pairE_eq (z : Exit × FS × AW) (k : FS → AW → ROut) : pairE z k = contL k z := by
  obtain ⟨e, s, A⟩ := z
  show oneE e s A k = _
  cases e <;> rfl
noncomputable def listE : List (Exit × FS × AW) → (FS → AW → ROut) → ROut := List.rec (motive := fun _ => (FS → AW → ROut) → ROut) (fun _ => some []) (fun z rest _ k => List.rec (motive := fun _ => ROut) (pairE z k) (fun _ _ _ => joinL (z :: rest) (contL k)) rest)
theorem listE_eq (L : List (Exit × FS × AW)) (k : FS → AW → ROut) : listE L k = joinL L (contL k) := by
  cases L with
  | nil => rfl
  | cons z rest =>
    cases rest with
    | nil =>
      show pairE z k = _
      rw [pairE_eq]
      unfold joinL
      cases contL k z with
      | none => rfl
      | some u => simp [joinL]
    | cons _ _ => rfl
noncomputable def seqE : ROut → (FS → AW → ROut) → ROut := Option.rec (motive := fun _ => (FS → AW → ROut) → ROut) (fun _ => none) listE
theorem seqE_eq (r : ROut) (k : FS → AW → ROut) : seqE r k = match r with | some L => joinL L (contL k) | none => none := by
  cases r with
  | none => rfl
  | some L => exact listE_eq L k
noncomputable def evLoopT (body : FS → AW → Option (List (Exit × FS × AW))) (n : Nat) : FS → AW → Option (List (Exit × FS × AW)) := Nat.rec (motive := fun _ => FS → AW → ROut) (fun _ _ => none) (fun _ ih a A => seqE (body a A) ih) n
theorem evLoopT_ok {dd nn : Nat} {rd : Option Nat} {c : Code} {r : FS → AW → Option (List (Exit × FS × AW))} (h : CodeOkT dd nn P G rd c r) : ∀ n, CodeOkT dd nn P G rd (.loop c) (evLoopT r n) := by
  intro n a A L he hp R w a' rd' hw hg hr hrd m
  refine wpIn_loop_rounds n ?_
  induction n generalizing a A R w a' L with
  | zero => cases he
  | succ n ih =>
    rw [roundsIn_succ]
    have he : seqE (r a A) (evLoopT r n) = some L := he
    rw [seqE_eq] at he
    split at he
    case h_2 => cases he
    rename_i L1 h1
    refine wpIn_mono (h _ _ _ h1 hp R w a' rd' hw hg hr hrd m) fun e' a3 w3 ⟨x, hx, hpx, h3⟩ => ?_
    obtain ⟨u, hu, hsub⟩ := joinL_mem he x hx
    obtain ⟨e, a2, A2⟩ := x
    obtain ⟨rfl, R3, q1, q2, q3⟩ := h3
    cases e' with
    | normal =>
      have hu : evLoopT r n a2 A2 = some u := hu
      have := ih a2 A2 u hu hpx R3 w3 a3 q3 (hg.mono q2.le) q1 (hrd.mono q2.le)
      have mono : ∀ (n : Nat) (a : Act) (w' : World), Code.roundsIn (Fr rd') m P c (fun e' a2 w2 => ∃ x ∈ u, perf dd x.2.1.tr ∧ Post R3 A2 w3 x.1 (actF nn x.2.1) x.2.2 e' a2 w2) n a w' → Code.roundsIn (Fr rd') m P c (fun e' a2 w2 => ∃ x ∈ L, perf dd x.2.1.tr ∧ Post R A w x.1 (actF nn x.2.1) x.2.2 e' a2 w2) n a w' := by
        intro n
        induction n with
        | zero => intro _ _ h; exact h.elim
        | succ n ih2 =>
          intro a w' h
          rw [roundsIn_succ] at h ⊢
          refine wpIn_mono h fun e a w' h => ?_
          cases e with
          | normal => exact ih2 _ _ h
          | _ => obtain ⟨y, hy, hpy, h⟩ := h; exact ⟨y, hsub y hy, hpy, Post.trans hw q2 h⟩
      exact mono _ _ _ this
    | _ =>
      simp only [contL, Option.some.injEq] at hu
      subst hu
      exact ⟨_, hsub _ (List.mem_singleton.2 rfl), hpx, rfl, R3, q1, q2, q3⟩
def outOfT (id : Nat) : Exit × FS × AW → Exit × FS × AW
  | (.exit id', a1, A1) => if id' = id then (.normal, a1, A1) else (.exit id', a1, A1)
  | z => z
noncomputable def ccodeT (dd nn : Nat) (P : Program) (G : List Nat) (call : Rec) (n : Nat) (rd : Option Nat) : Code → CF
  | .region _ ops draw => (match !draw && ops.any (fun o => (nextOf o).isSome) with
    | true => ⟨fun s A => match evOpsL P G call ops ops.toList (actF nn s) A with
      | some L => allSome (L.map fun y => ofActK dd nn none y.1 fun s' => some (.normal, s', y.2))
      | none => none⟩
    | false => ⟨fun s A => match (regT dd nn P G call rd.isNone ops draw).run s A with
      | some (s1, A1) => some [(.normal, s1, A1)]
      | none => none⟩)
  | .seq x y => ⟨fun s A => seqE ((ccodeT dd nn P G call n rd x).run s A) fun s1 A1 => (ccodeT dd nn P G call n rd y).run s1 A1⟩
  | .cond c x y => (match okOperand G c with
    | true => ⟨fun s A => boolE ((opdT dd nn c).run s.tr) fun b => Bool.rec (motive := fun _ => ROut) ((ccodeT dd nn P G call n rd y).run s A) ((ccodeT dd nn P G call n rd x).run s A) b⟩
    | false => ⟨fun _ _ => none⟩)
  | .block id c => ⟨fun s A => match (ccodeT dd nn P G call n rd c).run s A with
    | some L => some (L.map (outOfT id))
    | none => none⟩
  | .loop c => ⟨fun s A => evLoopT (ccodeT dd nn P G call n rd c).run n s A⟩
  | .skip => ⟨fun s A => some [(.normal, s, A)]⟩
  | .exit id => ⟨fun s A => some [(.exit id, s, A)]⟩
  | .ret => ⟨fun s A => some [(.ret, s, A)]⟩
  | c => ⟨fun s A => match evCode P G call n rd c (actF nn s) A with
    | some (e, a, A') => ofActK dd nn none a fun s' => some [(e, s', A')]
    | none => none⟩
theorem ccodeT_slow {dd nn : Nat} (hn : nn ≤ 2 ^ dd) (hP : PC2 P) {call : Rec} (hc : RecOk P G call) (n : Nat) (rd : Option Nat) (c : Code) : CodeOkT dd nn P G rd c (fun s A => match evCode P G call n rd c (actF nn s) A with
    | some (e, a, A') => ofActK dd nn none a fun s' => some [(e, s', A')]
    | none => none) := by
  intro s A L h hp R w a' rd' hw hg hr hrd m
  dsimp only at h
  split at h
  case h_2 => cases h
  rename_i e a A' he
  rcases ofActK_ok hn a with ⟨s1, h1, h2, h3⟩ | h3
  · rw [h3] at h
    cases h
    subst h2
    refine wpIn_mono (CodeOkL.one (evCode_ok hP hc n rd c) (actF nn s) A [(e, actF nn s1, A')] (by dsimp only; rw [he]; rfl) R w a' rd' hw hg hr hrd m) fun e' a2 w2 ⟨x, hx, h2⟩ => ?_
    cases List.mem_singleton.1 hx
    exact ⟨_, List.mem_singleton.2 rfl, h1, h2⟩
  · rw [h3] at h
    cases h
theorem ccodeT_ok {dd nn : Nat} (hn : nn ≤ 2 ^ dd) (hP : PC2 P) {call : Rec} (hc : RecOk P G call) (n : Nat) (rd : Option Nat) : ∀ c : Code, CodeOkT dd nn P G rd c (ccodeT dd nn P G call n rd c).run
  | .skip => fun s A L he hp R w a' rd' hw hg hr hrd m => by
    cases he
    refine wpIn_mono (CodeOkL.one (evCode_ok hP hc n rd .skip) (actF nn s) A [(.normal, actF nn s, A)] rfl R w a' rd' hw hg hr hrd m) fun e' a2 w2 ⟨x, hx, h2⟩ => ?_
    cases List.mem_singleton.1 hx
    exact ⟨_, List.mem_singleton.2 rfl, hp, h2⟩
  | .exit id => fun s A L he hp R w a' rd' hw hg hr hrd m => by
    cases he
    refine wpIn_mono (CodeOkL.one (evCode_ok hP hc n rd (.exit id)) (actF nn s) A [(.exit id, actF nn s, A)] rfl R w a' rd' hw hg hr hrd m) fun e' a2 w2 ⟨x, hx, h2⟩ => ?_
    cases List.mem_singleton.1 hx
    exact ⟨_, List.mem_singleton.2 rfl, hp, h2⟩
  | .ret => fun s A L he hp R w a' rd' hw hg hr hrd m => by
    cases he
    refine wpIn_mono (CodeOkL.one (evCode_ok hP hc n rd .ret) (actF nn s) A [(.ret, actF nn s, A)] rfl R w a' rd' hw hg hr hrd m) fun e' a2 w2 ⟨x, hx, h2⟩ => ?_
    cases List.mem_singleton.1 hx
    exact ⟨_, List.mem_singleton.2 rfl, hp, h2⟩
  | .label l => ccodeT_slow hn hP hc n rd (.label l)
  | .goto l => ccodeT_slow hn hP hc n rd (.goto l)
  | .scope c => ccodeT_slow hn hP hc n rd (.scope c)
  | .refuse c => ccodeT_slow hn hP hc n rd (.refuse c)
  | .rangeFunc g ps assign body => ccodeT_slow hn hP hc n rd (.rangeFunc g ps assign body)
  | .loop c => evLoopT_ok (ccodeT_ok hn hP hc n rd c) n
  | .region id ops draw => fun s A L he hp R w a' rd' hw hg hr hrd m => by
    unfold ccodeT at he
    split at he
    · rename_i hd
      rw [Bool.and_eq_true, Bool.not_eq_true'] at hd
      obtain ⟨rfl, _⟩ := hd
      dsimp only at he
      split at he
      case h_2 => cases he
      rename_i L2 hL2
      refine wpIn_region ?_
      rw [List.range_eq_range', ← Array.length_toList]
      refine evOpsL_ok hP hc rd' m ops.toList 0 (by simp) hL2 hw hg hr fun a3 w3 ⟨y, hy, h3⟩ => ?_
      obtain ⟨i, hi⟩ := List.getElem?_of_mem hy
      obtain ⟨z, hz, hzL⟩ := allSome_get he i _ (by rw [List.getElem?_map, hi]; rfl)
      rcases ofActK_ok hn y.1 with ⟨s1, p1, p2, p3⟩ | p3
      · dsimp only at hz
        rw [p3] at hz
        cases hz
        exact ⟨_, hzL, p1, by rw [p2]; exact h3⟩
      · dsimp only at hz
        rw [p3] at hz
        cases hz
    · dsimp only at he
      split at he
      case h_2 => cases he
      rename_i s1 A1 hq
      cases he
      obtain ⟨p1, hq⟩ := regT_ok hn hp (loose_small hw) hq
      rw [evRegionF_eq] at hq
      refine wpIn_mono (CodeOkL.one (evRegion_ok hP hc rd id ops draw) (actF nn s) A [(.normal, actF nn s1, A1)] (by dsimp only; rw [hq]; rfl) R w a' rd' hw hg hr hrd m) fun e' a2 w2 ⟨x, hx, h2⟩ => ?_
      cases List.mem_singleton.1 hx
      exact ⟨_, List.mem_singleton.2 rfl, p1, h2⟩
  | .seq x y => fun s A L he hp R w a' rd' hw hg hr hrd m => by
    unfold ccodeT at he
    dsimp only at he
    rw [seqE_eq] at he
    refine wpIn_seq ?_
    split at he
    case h_2 => cases he
    rename_i L1 h1
    refine wpIn_mono (ccodeT_ok hn hP hc n rd x _ _ _ h1 hp R w a' rd' hw hg hr hrd m) fun e' a3 w3 ⟨z, hz, hpz, h3⟩ => ?_
    obtain ⟨u, hu, hsub⟩ := joinL_mem he z hz
    obtain ⟨e, a2, A2⟩ := z
    obtain ⟨rfl, R3, q1, q2, q3⟩ := h3
    cases e' with
    | normal =>
      have hu : (ccodeT dd nn P G call n rd y).run a2 A2 = some u := hu
      exact wpIn_mono (ccodeT_ok hn hP hc n rd y _ _ _ hu hpz R3 w3 a3 rd' q3 (hg.mono q2.le) q1 (hrd.mono q2.le) m) fun e' a4 w4 ⟨z, hz, hpz, h4⟩ => ⟨z, hsub z hz, hpz, Post.trans hw q2 h4⟩
    | _ =>
      simp only [contL, Option.some.injEq] at hu
      subst hu
      exact ⟨_, hsub _ (List.mem_singleton.2 rfl), hpz, rfl, R3, q1, q2, q3⟩
  | .cond c x y => fun s A L he hp R w a' rd' hw hg hr hrd m => by
    unfold ccodeT at he
    split at he
    case h_2 => cases he
    rename_i hok
    dsimp only at he
    have hv := hr.eval hg hok
    have e0 : (opdT dd nn c).run s.tr = (actF nn s).eval c := by
      have := congrFun (evalT_eq hn hp s.df) c
      rw [feval_eq] at this
      exact this
    rw [e0] at he
    obtain ⟨b, ht, he⟩ := boolE_some he
    rw [ht] at hv
    cases b with
    | true =>
      have e1 : a'.eval c = .bool true := by cases h : a'.eval c <;> rw [h] at hv <;> cases hv; rfl
      exact wpIn_cond_true e1 (ccodeT_ok hn hP hc n rd x _ _ _ he hp R w a' rd' hw hg hr hrd m)
    | false =>
      have e1 : a'.eval c = .bool false := by cases h : a'.eval c <;> rw [h] at hv <;> cases hv; rfl
      exact wpIn_cond_false e1 (ccodeT_ok hn hP hc n rd y _ _ _ he hp R w a' rd' hw hg hr hrd m)
  | .block id c => fun s A L he hp R w a' rd' hw hg hr hrd m => by
    unfold ccodeT at he
    dsimp only at he
    refine wpIn_block ?_
    split at he
    case h_2 => cases he
    rename_i L1 h1
    cases he
    refine wpIn_mono (ccodeT_ok hn hP hc n rd c _ _ _ h1 hp R w a' rd' hw hg hr hrd m) fun e' a3 w3 ⟨z, hz, hpz, h3⟩ => ?_
    have hm := List.mem_map.2 ⟨z, hz, (rfl : outOfT id z = _)⟩
    obtain ⟨e, a2, A2⟩ := z
    obtain ⟨rfl, h4⟩ := h3
    unfold outOfT at hm
    cases e' with
    | exit id' =>
      simp only [Exit.inBlock]
      split
      · rename_i e1
        simp only [if_pos e1] at hm
        exact ⟨_, hm, hpz, rfl, h4⟩
      · rename_i e1
        simp only [if_neg e1] at hm
        exact ⟨_, hm, hpz, rfl, h4⟩
    | _ => exact ⟨_, hm, hpz, rfl, h4⟩

/-! The canonical evaluator in fewer steps: calls and rounds over a tree of temporaries. -/
def depthT (n : Nat) : Nat := Nat.log2 n + 1
theorem depthT_le (n : Nat) : n ≤ 2 ^ depthT n := Nat.le_of_lt Nat.lt_log2_self
noncomputable def evResultsT (P : Program) (g : Nat → Value) : List ResultVar → AW → Option (List Value × AW)
  | [], A => some ([], A)
  | r :: rs, A =>
    match (match r with
      | .tmp t => some (g t, A)
      | .cell a t => (match loadH P t (g a) A.w.heap with
        | some v => some (v, A)
        | none => arun P (do loadVar t (← asAddr (g a))) A)) with
    | some (v, A1) => fV v fun v => (match evResultsT P g rs A1 with
      | some (vs, A2) => some (v :: vs, A2)
      | none => none)
    | none => none
theorem evResultsT_eq {g : Nat → Value} {tmps : Array Value} (h : ∀ t, g t = tmps.getD t undef) : ∀ (rs : List ResultVar) (A : AW), evResultsT P g rs A = evResults P tmps rs A
  | [], _ => rfl
  | r :: rs, A => by
    have e : (match r with
      | .tmp t => some (g t, A)
      | .cell a t => (match loadH P t (g a) A.w.heap with
        | some v => some (v, A)
        | none => arun P (do loadVar t (← asAddr (g a))) A) : Option (Value × AW)) = (match r with
      | .tmp t => some (tmps.getD t undef, A)
      | .cell a t => arun P (do loadVar t (← asAddr (tmps.getD a undef))) A) := by
      cases r with
      | tmp t => simp only [h]
      | cell a t =>
        simp only [h]
        split
        · rename_i v hv
          have h1 := loadH_ok (P := P) hv
          unfold loadH at hv
          split at hv
          case h_2 => cases hv
          rename_i ad had
          rw [had] at h1 ⊢
          rw [← h1]
          unfold Instr.loadAt
          rw [arun_bind', arun_bind']
          rfl
        · rfl
    unfold evResultsT evResults
    rw [e]
    simp only [fV_eq, evResultsT_eq h rs]
    rfl
noncomputable def slotT (dd nn : Nat) (tr : Tr) (t : Nat) : Value := (opdT dd nn (.tmp t)).run tr
theorem slotT_eq {dd nn : Nat} (hn : nn ≤ 2 ^ dd) {s : FS} (hp : perf dd s.tr) (t : Nat) : slotT dd nn s.tr t = (actF nn s).tmps.getD t undef := by
  have := congrFun (evalT_eq hn hp s.df) (.tmp t)
  rw [feval_eq] at this
  exact this
noncomputable def outT (P : Program) (dd nn : Nat) (fn : Func) : Exit × FS × AW → Option (Value × AW)
  | (.normal, s, A1) | (.ret, s, A1) => match evMarks P s.df A1 with
    | some A2 => match evResultsT P (slotT dd nn s.tr) fn.results.toList A2 with
      | some (vs, A3) => some (oneOf vs, A3)
      | none => none
    | none => none
  | _ => none
theorem outT_eq {dd nn : Nat} (hn : nn ≤ 2 ^ dd) {fn : Func} {x : Exit × FS × AW} (hp : perf dd x.2.1.tr) : outT P dd nn fn x = outB P fn (x.1, actF nn x.2.1, x.2.2) := by
  obtain ⟨e, s, A⟩ := x
  have h := evResultsT_eq (P := P) (slotT_eq hn hp) fn.results.toList
  cases e <;> simp only [outT, outB] <;> (try rfl) <;> (simp only [h]; rfl)
noncomputable def startT {β : Type} (fail : β) (nn : Nat) (l : List Value) (k : FS → β) : β := putAllK fail (depthT nn) nn l 0 (emptyT (depthT nn)) fun tr => k ⟨tr, []⟩
theorem startT_ok (nn : Nat) (l : List Value) : (∃ s, perf (depthT nn) s.tr ∧ actF nn s = { tmps := ⟨l ++ List.replicate (nn - l.length) undef⟩, defers := [] } ∧ ∀ {β : Type} (fail : β) (k : FS → β), startT fail nn l k = k s) ∨ ∀ {β : Type} (fail : β) (k : FS → β), startT fail nn l k = fail := by
  have hn := depthT_le nn
  obtain ⟨h1, h2⟩ := emptyT_ok (depthT nn)
  rcases putAllK_ok (depthT nn) nn hn l 0 _ h1 with ⟨p1, t', p2, p3, p4⟩ | ⟨_, p4⟩ | ⟨_, p2⟩
  · refine .inl ⟨⟨t', []⟩, p2, ?_, fun fail k => ?_⟩
    · unfold actF actT
      simp only [p3, h2]
      congr 2
      apply List.ext_getElem?
      intro i
      simp only [List.take_zero, List.nil_append, Nat.zero_add, List.getElem?_take]
      by_cases hi : i < l.length
      · rw [if_pos (by omega), List.getElem?_append_left hi, List.getElem?_append_left hi]
      · rw [List.getElem?_append_right (by omega), List.getElem?_append_right (by omega), List.getElem?_replicate, List.getElem?_drop, List.getElem?_replicate]
        by_cases hi2 : i < nn
        · rw [if_pos hi2, if_pos (by omega), if_pos (by omega)]
        · rw [if_neg hi2, if_neg (by omega)]
    · exact p4 fail _
  · exact .inr fun fail k => p4 fail _
  · omega
/-- the outcomes of a call -/
noncomputable def callT (P : Program) (G : List Nat) (call : Rec) (n : Nat) (f : FuncId) : FClo := match P.funcs[f]? with
  | some fn => (match fn.body with
    | some c => ⟨fun args A => startT none fn.ntmps args.toList fun s => match (ccodeT (depthT fn.ntmps) fn.ntmps P G call n none c).run s A with
      | some L => allSome (L.map (outT P (depthT fn.ntmps) fn.ntmps fn))
      | none => none⟩
    | none => ⟨fun _ _ => none⟩)
  | none => ⟨fun _ _ => none⟩
theorem callT_ok (hP : PC2 P) {call : Rec} (ih : RecOk P G call) (n : Nat) {f : FuncId} {x : Array Value} {A : AW} {L2 : List (Value × AW)} (h : (callT P G call n f).run x A = some L2) {R : CR} {w : World} (hw : WR R A w) (hg : Gl G R) {x' : Array Value} (hx : ArrR R x x') (m : Nat) :
    CallsIn Fence.wide m P f x' w fun e w' => ∃ z ∈ L2, ∃ R' v', e = .returned v' ∧ Ext R A w R' z.2 w' ∧ WR R' z.2 w' ∧ VR R' z.1 v' := by
    unfold callT at h
    split at h
    case h_2 => cases h
    rename_i fn hf
    split at h
    case h_2 => cases h
    rename_i c hb
    dsimp only at h
    rcases startT_ok fn.ntmps x.toList with ⟨s, hp, hs, h3⟩ | h3
    case inr => rw [h3] at h; cases h
    rw [h3] at h
    split at h
    case h_2 => cases h
    rename_i L hL
    have hL2 := h
    have hact : ActR R { tmps := x ++ Array.replicate (fn.ntmps - x.size) undef, defers := [] } { tmps := x' ++ Array.replicate (fn.ntmps - x'.size) undef, defers := [] } := by
      refine ⟨hx.append ?_, .nil⟩
      rw [hx.size]
      refine ⟨rfl, fun i u u' h1 h2 => ?_⟩
      simp only [Array.getElem?_replicate] at h1 h2
      split at h1
      · rename_i hi; rw [if_pos hi] at h2; cases h1; cases h2; exact .undef
      · cases h1
    refine callsIn_of_wp_marks hf hb trivial ?_
    have hcode := ccodeT_ok (depthT_le _) hP ih n none c _ _ _ hL hp R w _ none hw hg (by rw [hs, show (⟨x.toList ++ List.replicate (fn.ntmps - x.toList.length) undef⟩ : Array Value) = x ++ Array.replicate (fn.ntmps - x.size) undef from by apply Array.ext'; simp]; exact hact) .none m
    refine wpIn_mono (F := Fence.wide) hcode fun e' a' w1 ⟨y, hy, hpy, h1⟩ => ?_
    obtain ⟨i, hi⟩ := List.getElem?_of_mem hy
    obtain ⟨z, hz, hzL⟩ := allSome_get hL2 i _ (by rw [List.getElem?_map, hi]; rfl)
    rw [outT_eq (depthT_le _) hpy] at hz
    obtain ⟨e, s1, A1⟩ := y
    obtain ⟨a, ea⟩ : ∃ a, a = actF fn.ntmps s1 := ⟨_, rfl⟩
    obtain ⟨zv, zA⟩ := z
    obtain ⟨rfl, R1, q1, q2, q3⟩ := h1
    dsimp only at hz q1
    rw [← ea] at hz q1
    have fin : (match evMarks P a.defers A1 with
      | some A2 => match evResults P a.tmps fn.results.toList A2 with
        | some (vs, A3) => some (oneOf vs, A3)
        | none => none
      | none => none) = some (zv, zA) → LeavesInM Fence.wide m P fn a'.tmps (fun e w' => ∃ z ∈ L2, ∃ R' v', e = .returned v' ∧ Ext R A w R' z.2 w' ∧ WR R' z.2 w' ∧ VR R' z.1 v') a'.defers .returning w1 := by
      intro h
      split at h
      case h_2 => cases h
      rename_i A2 hm
      split at h
      case h_2 => cases h
      rename_i vs A3 hres
      cases h
      refine evMarks_ok m a.defers hm q3 q1.defers fun R2 w2 s1 s2 => ?_
      obtain ⟨vs', t1, rfl, t4⟩ := evResults_ok _ hres s2 (q1.tmps.mono s1.le)
      refine ⟨oneOf vs', ?_, _, hzL, R2, oneOf vs', rfl, q2.trans hw s1, s2, ?_⟩
      · unfold results
        rw [Array.mapM_eq_mapM_toList]
        simp only [Sem.run_bind, Sem.run_map]
        have t2 := congrArg (fun r : Result (List Value) => (r.andThen fun a w' => Result.ok a.toArray w').andThen fun a w' => Result.ok (if h : a.size = 1 then a[0] else Value.tuple a) w') t1
        refine t2.trans ?_
        simp only [Result.andThen_ok]
        congr 1
        unfold oneOf
        match vs' with
        | [] => rfl
        | [u] => rfl
        | u :: u2 :: us => rfl
      · unfold oneOf
        cases t4 with
        | nil => exact .tuple rfl (by simp)
        | cons h1 t =>
          cases t with
          | nil => exact h1
          | cons h2 t => exact VR.tuple' (Can.L2.arr (.cons h1 (.cons h2 t)))
    cases e' with
    | normal => exact fin hz.symm.symm
    | ret => exact fin hz.symm.symm
    | _ => cases hz
/-- a call: run with all that is there held fast, and what it made forgotten, where it is told so and its value is plain -/
noncomputable def callStepT (P : Program) (G : List Nat) (call : Rec) (n : Nat) (pure : Bool) (f : FuncId) (args : Array Value) (A : AW) : Option (Value × AW) := match pure with
  | false => (match (callT P G call n f).run args A with
    | some L => mergeL L
    | none => none)
  | true => (match gNat A.size fun sz => (callT P G call n f).run args { w := A.w, loose := A.loose, ro := sz } with
    | some L => (match agreeL L with
      | some v => some (v, A)
      | none => none)
    | none => none)
theorem callStepT_ok (hP : PC2 P) {call : Rec} (ih : RecOk P G call) (n : Nat) (pure : Bool) {f : FuncId} {x : Array Value} {A A' : AW} {v : Value} (h : callStepT P G call n pure f x A = some (v, A')) {R : CR} {w : World} (hw : WR R A w) (hg : Gl G R) : JobOk P R A w v A' (.call f x) := by
  intro x' hx m
  unfold callStepT at h
  split at h
  · split at h
    case h_2 => cases h
    rename_i L hL
    refine (callT_ok hP ih n hL hw hg hx m).mono fun e w' h1 => ?_
    obtain ⟨z, hz, R', v', he, h2, h3, h4⟩ := h1
    obtain ⟨k1, k2⟩ := mergeL_ok h z hz
    have k1 : z.1 = v := k1
    exact ⟨R', v', he, h2.un k2, h3.un k2, by rw [← k1]; exact h4⟩
  · rw [gNat_eq] at h
    split at h
    case h_2 => cases h
    rename_i L hL
    split at h
    case h_2 => cases h
    rename_i u hu
    cases h
    obtain ⟨hp, hall⟩ := agreeL_ok hu
    refine (callT_ok hP ih n hL (wr_ro hw (Nat.le_refl _)) hg hx m).mono fun e w' h1 => ?_
    obtain ⟨z, hz, R', v', he, hex, hwr, hv⟩ := h1
    have same : ∀ k, k < w.heap.size → w'.heap[k]? = w.heap[k]? := fun k hk => hex.same k hk fun ⟨b, l, hb, _, hro⟩ => by
      have h1 := (hw.dom b k l hb).1
      have h2 : A.size ≤ b := hro
      omega
    refine ⟨R, v', he, ⟨CR.le_refl R, fun _ _ _ h => .inl h, Nat.le_refl _, hex.wsize, rfl, fun _ _ h => h, fun k hk _ => same k hk, hex.os, hex.tape, hex.output⟩,
      ⟨fun b k l x => ⟨(hw.dom b k l x).1, Nat.lt_of_lt_of_le (hw.dom b k l x).2 hex.wsize⟩, hw.fn, hw.inj, hw.loose, fun b k l o o' x p q1 q2 => hw.obj b k l o o' x p q1 (by rw [← same k (hw.dom b k l x).2]; exact q2), hw.ro, hw.lsize⟩, ?_⟩
    rw [hall z hz] at hv
    rw [VR.plain_eq 60 _ _ hp hv]
    exact VR.of_plain 60 _ hp
/-- a round of a range over a function -/
noncomputable def stepR (P : Program) (G : List Nat) (call : Rec) (n : Nat) (j : Job) (A : AW) : Option (Value × AW) := match j with
  | .call _ _ => none
  | .round l tmps assign body => gNat tmps.toList.length fun nn => startT none nn tmps.toList fun s =>
    match (ccodeT (depthT nn) nn P G call n (some l) assign).run s A with
    | some [(.normal, s1, A1)] =>
      (match arun P (Instr.beginRound l) A1 with
      | some (_, A2) =>
        (match (ccodeT (depthT nn) nn P G call n (some l) body).run s1 A2 with
        | some L => (match allSome (L.map fun x => outR P l (x.1, actF nn x.2.1, x.2.2)) with
          | some L2 => mergeL L2
          | none => none)
        | none => none)
      | none => none)
    | _ => none
theorem stepR_ok (hP : PC2 P) {call : Rec} (ih : RecOk P G call) (n : Nat) : RecOk P G (stepR P G call n) := by
  intro j A v A' h R w hw hg
  cases j with
  | call f x => cases h
  | round l x assign body =>
    unfold stepR at h
    intro l' x' hl hx f m
    dsimp only at h
    rw [gNat_eq] at h
    rcases startT_ok x.toList.length x.toList with ⟨s, hp, hs, h3⟩ | h3
    case inr => rw [h3] at h; cases h
    rw [h3] at h
    obtain ⟨nn, hnn⟩ : ∃ nn, nn = x.toList.length := ⟨_, rfl⟩
    rw [← hnn] at h hp hs
    split at h
    case h_2 => cases h
    rename_i s1 A1 h1
    split at h
    case h_2 => cases h
    rename_i u A2 h2
    split at h
    case h_2 => cases h
    rename_i L hL
    split at h
    case h_2 => cases h
    rename_i L2 hL2
    refine roundIn_of_wpIn trivial ?_
    have hact : ActR R { tmps := x, defers := [] } { tmps := x', defers := [] } := ⟨hx, .nil⟩
    refine wpIn_mono (F := Fence.wide.inRound l') (ccodeT_ok (depthT_le nn) hP ih n (some l) assign _ _ _ h1 hp R w _ (some l') hw hg (by rw [hs, hnn]; simpa using hact) (.some hl) m) fun e' a' w1 ⟨y0, hy0, hp0, k1⟩ => ?_
    cases List.mem_singleton.1 hy0
    obtain ⟨rfl, R1, q1, q2, q3⟩ := k1
    obtain ⟨R2, u', w2, s1', s2, s3, s4⟩ := sim_beginRound (P := P) (q2.le _ _ _ hl) R1 A1 w1 (CR.le_refl _) q3 _ _ h2
    refine ⟨w2, s1', ?_⟩
    have hle2 := CR.le_trans q2.le s2.le
    refine wpIn_mono (F := Fence.wide.inRound l') (ccodeT_ok (depthT_le nn) hP ih n (some l) body _ _ _ hL hp0 R2 w2 _ (some l') s3 (hg.mono hle2) (q1.mono s2.le) (.some (hle2 _ _ _ hl)) m) fun e' a' w3 ⟨y, hy, hpy, k3⟩ => ?_
    obtain ⟨i, hi⟩ := List.getElem?_of_mem hy
    obtain ⟨z, hz, hzL⟩ := allSome_get hL2 i _ (by rw [List.getElem?_map, hi]; rfl)
    obtain ⟨hv, hun⟩ := mergeL_ok h z hzL
    obtain ⟨e, sy, A3⟩ := y
    obtain ⟨zv, zA⟩ := z
    simp only at hv hun
    subst hv
    obtain ⟨rfl, R3, t1, t2, t3⟩ := k3
    have hz : outR P l (e', actF nn sy, A3) = some (zv, zA) := hz
    unfold outR at hz
    dsimp only at hz
    split at hz
    case h_2 => cases hz
    rename_i j hj
    obtain ⟨R4, v', w4, r1, r2, r3, r4⟩ := sim_endRound (P := P) j (CR.le_trans hle2 t2.le _ _ _ hl) R3 A3 w3 (CR.le_refl _) t3 _ _ hz
    have hex : Ext R A w R4 A' w4 := (q2.trans hw (s2.trans q3 (t2.trans s3 r2))).un hun
    have hwr := r3.un hun
    cases e' <;> first | (cases hj; done) | skip
    all_goals
      cases hj
      exact ⟨v', w4, r1, R4, v', rfl, hex, hwr, r4⟩
/-- the quick evaluator -/
noncomputable def evT (P : Program) (G : List Nat) (sm : Rec) (pure : FuncId → Bool) : Nat → Rec
  | 0 => fun _ _ => none
  | n + 1 => fun j A => match sm j A with
    | some r => some r
    | none => match j with
      | .call f args => callStepT P G (evT P G sm pure n) n (pure f) f args A
      | .round l t a b => stepR P G (evT P G sm pure n) n (.round l t a b) A
theorem evT_ok (hP : PC2 P) {sm : Rec} (hs : RecOk P G sm) (pure : FuncId → Bool) : ∀ n, RecOk P G (evT P G sm pure n)
  | 0 => fun _ _ _ _ h => by cases h
  | n + 1 => fun j A v A' h R w hw hg => by
    unfold evT at h
    split at h
    · rename_i r hr
      cases h
      exact hs j A v A' hr R w hw hg
    · split at h
      · exact callStepT_ok hP (evT_ok hP hs pure n) n _ h hw hg
      · exact stepR_ok hP (evT_ok hP hs pure n) n _ _ _ _ h R w hw hg

/-! The canonical evaluator in fewer steps: calls whose new blocks are forgotten where no old one names them. -/
noncomputable def allQ {α : Type} (f : α → Bool) (l : List α) : Bool := List.rec (motive := fun _ => Bool) true (fun x _ ih => Bool.rec (motive := fun _ => Bool) false ih (f x)) l
theorem allQ_eq {α : Type} (f : α → Bool) : ∀ l : List α, allQ f l = l.all f
  | [] => rfl
  | x :: l => by
    show Bool.rec (motive := fun _ => Bool) false (allQ f l) (f x) = _
    rw [allQ_eq f l, List.all_cons]
    cases f x <;> rfl
/-- all blocks that a value names are below sz -/
def boundV (sz : Nat) : Nat → Value → Bool
  | 0, _ => false
  | _ + 1, .bool _ | _ + 1, .int _ _ | _ + 1, .float _ _ | _ + 1, .string _ | _ + 1, .pointer none | _ + 1, .slice none _ _ | _ + 1, .map none | _ + 1, .nilFunc | _ + 1, .nilIface => true
  | _ + 1, .pointer (some a) => Nat.blt a.block sz
  | _ + 1, .slice (some a) _ _ => Nat.blt a.block sz
  | _ + 1, .map (some r) => Nat.blt r sz
  | n + 1, .iface _ v => boundV sz n v
  | n + 1, .agg x => x.toList.all (boundV sz n)
  | n + 1, .tuple x => x.toList.all (boundV sz n)
  | n + 1, .func (.func _) x y => x.toList.all (boundV sz n) && y.toList.all (boundV sz n)
  | _ + 1, _ => false
theorem VR.bound {R R' : CR} {sz : Nat} (hres : ∀ b k l, R' b k l → b < sz → R b k l) : ∀ (n : Nat) (v v' : Value), boundV sz n v = true → VR R' v v' → VR R v v'
  | 0, _, _, h, _ => by simp [boundV] at h
  | n + 1, v, v', h, hr => by
    have rows : ∀ x x' : Array Value, x.toList.all (boundV sz n) = true → (∀ (i : Nat) (v v' : Value), x[i]? = some v → x'[i]? = some v' → VR R' v v') → ∀ (i : Nat) (v v' : Value), x[i]? = some v → x'[i]? = some v' → VR R v v' := fun x x' hx hxs i u u' hu hu' =>
      VR.bound hres n u u' (List.all_eq_true.1 hx u (by have := Array.mem_of_getElem? hu; simpa using this)) (hxs i u u' hu hu')
    cases hr
    case ptr a a' ha =>
      have hb := blt_lt (by simpa [boundV] using h)
      obtain ⟨⟨l, hl⟩, h2, h3⟩ := ha
      exact .ptr ⟨⟨l, hres _ _ _ hl hb⟩, h2, h3⟩
    case slice a a' m c c' l hl ho hs hc =>
      have hb := blt_lt (by simpa [boundV] using h)
      exact .slice (hres _ _ _ hl hb) ho hs hc
    case map r r' hm =>
      have hb := blt_lt (by simpa [boundV] using h)
      exact .map (hres _ _ _ hm hb)
    case iface t v v' hv => exact .iface t (VR.bound hres n _ _ (by simpa [boundV] using h) hv)
    case agg x x' hx hxs => exact .agg hx (rows x x' (by simpa [boundV] using h) hxs)
    case tuple x x' hx hxs => exact .tuple hx (rows x x' (by simpa [boundV] using h) hxs)
    case func f f' x x' y y' hf hx hxs hy hys =>
      cases hf
      case func f =>
        simp only [boundV, Bool.and_eq_true] at h
        exact .func (.func f) hx (rows x x' h.1 hxs) hy (rows y y' h.2 hys)
      all_goals simp [boundV] at h
    all_goals constructor
def boundO (sz : Nat) : Obj → Bool
  | .cells c _ _ => c.toList.all (boundV sz 60)
  | .map es _ => es.toList.all fun e => boundV sz 60 e.key && boundV sz 60 e.val
  | .pending _ _ => true
  | .deferred _ => true
  | .stringIter _ _ => true
  | _ => false
theorem OR.bound {R R' : CR} {sz : Nat} (hres : ∀ b k l, R' b k l → b < sz → R b k l) {l : Lab} {o o' : Obj} (h : boundO sz o = true) (hr : OR R' l o o') : OR R l o o' := by
  have rows : ∀ x x' : Array Value, x.toList.all (boundV sz 60) = true → (∀ (i : Nat) (v v' : Value), x[i]? = some v → x'[i]? = some v' → VR R' v v') → ∀ (i : Nat) (v v' : Value), x[i]? = some v → x'[i]? = some v' → VR R v v' := fun x x' hx hxs i u u' hu hu' =>
    VR.bound hres 60 u u' (List.all_eq_true.1 hx u (by have := Array.mem_of_getElem? hu; simpa using this)) (hxs i u u' hu hu')
  cases hr with
  | @cells c c' t f x => exact .cells t f ⟨x.size, rows c c' h x.at_⟩
  | @loose c c' t f' s N hN hs x hf => exact .loose t f' s N hN hs (rows c c' h x) hf
  | @map x x' c hm =>
    refine .map c ⟨hm.size, fun i e e' he he' => ?_⟩
    have h1 := hm.at_ i e e' he he'
    have h2 := List.all_eq_true.1 h e (by have := Array.mem_of_getElem? he; simpa using this)
    rw [Bool.and_eq_true] at h2
    exact ⟨VR.bound hres 60 _ _ h2.1 h1.key, VR.bound hres 60 _ _ h2.2 h1.val, h1.born⟩
  | stringIter s p => exact .stringIter s p
  | deferred d hd => exact .deferred d hd
  | _ => cases h
theorem lookup_below {sz b : Nat} (hb : b < sz) : ∀ l : List (Nat × Nat), (l.filter fun p => decide (p.1 < sz)).lookup b = l.lookup b
  | [] => rfl
  | p :: l => by
    obtain ⟨a, s⟩ := p
    simp only [List.filter_cons, List.lookup]
    by_cases h : a < sz
    · simp only [h, decide_true, if_true, List.lookup]
      split
      · rfl
      · exact lookup_below hb l
    · simp only [h, decide_false, Bool.false_eq_true, if_false]
      have : (b == a) = false := by simp; omega
      rw [this]
      exact lookup_below hb l
/-- what a call leaves, its new blocks forgotten -/
noncomputable def tidy (A : AW) (r : Option (Value × AW)) : Option (Value × AW) := match r with
  | some (v, A1) => (match plainV 60 v with
    | true => gNat A.w.heap.toList.length fun sz => takeK none sz A1.w.heap.toList fun h => (match allQ (boundO sz) h with
      | true => fList (A1.loose.filter fun p => decide (p.1 < sz)) fun l => some (v, { w := { A1.w with heap := ⟨h⟩ }, loose := l, ro := A.ro })
      | false => some (v, A1))
    | false => some (v, A1))
  | none => none
theorem tidy_ok {j : Job} {A A' : AW} {v : Value} {r : Option (Value × AW)} (h : tidy A r = some (v, A')) {R : CR} {w : World} (hw : WR R A w) {f : FuncId} {args : Array Value} (hj : j = .call f args)
    (hr : ∀ v A', r = some (v, A') → JobOk P R A w v A' j) : JobOk P R A w v A' j := by
  subst hj
  unfold tidy at h
  split at h
  case h_2 => cases h
  rename_i u A1
  have h1 := hr u A1 rfl
  split at h
  case h_2 => cases h; exact h1
  rename_i hp
  rw [gNat_eq, takeK_eq] at h
  split at h
  case isFalse => cases h
  rename_i hlen
  split at h
  case h_2 => cases h; exact h1
  rename_i hb
  rw [fList_eq] at h
  cases h
  rw [allQ_eq] at hb
  intro x' hx m
  refine (h1 x' hx m).mono fun e w' h2 => ?_
  obtain ⟨R', v', he, hex, hwr, hv⟩ := h2
  have hsz : A.w.heap.toList.length = A.size := by simp [AW.size]
  rw [hsz] at hb hlen ⊢
  have hres : ∀ b k l, R' b k l → b < A.size → R b k l := fun b k l h hb => by
    rcases hex.fresh b k l h with h | ⟨h, _⟩
    · exact h
    · omega
  have hget : ∀ b, b < A.size → (⟨A1.w.heap.toList.take A.size⟩ : Array Obj)[b]? = A1.w.heap[b]? := fun b hb => by
    simp [hb]
  have hsz2 : (⟨A1.w.heap.toList.take A.size⟩ : Array Obj).size = A.size := by
    have : A1.w.heap.toList.length = A1.w.heap.size := by simp
    simp at hlen ⊢; omega
  have hal : ∀ b, b < A.size → AW.alive { w := { A1.w with heap := ⟨A1.w.heap.toList.take A.size⟩ }, loose := A1.loose.filter fun p => decide (p.1 < A.size), ro := A.ro } b = A1.alive b := fun b hb => by
    unfold AW.alive
    simp only [hget b hb]
  have htl : ∀ b, b < A.size → AW.tail { w := { A1.w with heap := ⟨A1.w.heap.toList.take A.size⟩ }, loose := A1.loose.filter fun p => decide (p.1 < A.size), ro := A.ro } b = A1.tail b := fun b hb => lookup_below hb _
  refine ⟨R, v', he, ⟨CR.le_refl R, fun _ _ _ h => .inl h, Nat.le_of_eq hsz2.symm, hex.wsize, rfl, fun b hb hx => hex.back b hb (by rw [← hal b hb]; exact hx), hex.same, hex.os, hex.tape, hex.output⟩,
    ⟨fun b k l x => ⟨by have := (hw.dom b k l x).1; show b < (⟨A1.w.heap.toList.take A.size⟩ : Array Obj).size; rw [hsz2]; exact this, Nat.lt_of_lt_of_le (hw.dom b k l x).2 hex.wsize⟩, hw.fn, ?_, ?_, ?_, ?_, ?_⟩, ?_⟩
  · intro b c k l l' x y p q
    have hb := (hw.dom b k l x).1
    have hc := (hw.dom c k l' y).1
    exact hwr.inj b c k l l' (hex.le _ _ _ x) (hex.le _ _ _ y) (by rw [← hal b hb]; exact p) (by rw [← hal c hc]; exact q)
  · intro b k l x p
    have hb := (hw.dom b k l x).1
    rw [htl b hb]
    exact hwr.loose b k l (hex.le _ _ _ x) (by rw [← hal b hb]; exact p)
  · intro b k l o o' x p q1 q2
    have hbs := (hw.dom b k l x).1
    have q1 : (⟨A1.w.heap.toList.take A.size⟩ : Array Obj)[b]? = some o := q1
    have hbo := List.all_eq_true.1 hb o (by have := Array.mem_of_getElem? q1; simpa using this)
    rw [hget b hbs] at q1
    exact OR.bound hres hbo (hwr.obj b k l o o' (hex.le _ _ _ x) (by rw [← hal b hbs]; exact p) q1 q2)
  · show A.ro ≤ (⟨A1.w.heap.toList.take A.size⟩ : Array Obj).size
    rw [hsz2]; exact hw.ro
  · intro b s hs
    show b < (⟨A1.w.heap.toList.take A.size⟩ : Array Obj).size
    rw [hsz2]
    have hs : (A1.loose.filter fun p => decide (p.1 < A.size)).lookup b = some s := hs
    by_cases hb : b < A.size
    · exact hb
    · exfalso
      have none : ∀ l : List (Nat × Nat), (l.filter fun p => decide (p.1 < A.size)).lookup b = none := by
        intro l
        induction l with
        | nil => rfl
        | cons p l ih =>
          obtain ⟨a, s'⟩ := p
          simp only [List.filter_cons]
          by_cases h : a < A.size
          · simp only [h, decide_true, if_true, List.lookup]
            have : (b == a) = false := by simp; omega
            rw [this]
            exact ih
          · simp only [h, decide_false, Bool.false_eq_true, if_false]
            exact ih
      rw [none] at hs
      cases hs
  · rw [VR.plain_eq 60 _ _ hp hv]
    exact VR.of_plain 60 _ hp
noncomputable def memQ (f : Nat) (l : List Nat) : Bool := List.rec (motive := fun _ => Bool) false (fun x _ ih => Bool.rec (motive := fun _ => Bool) ih true (Nat.beq f x)) l
/-- the quick evaluator: 'how' tells the calls apart: 1 forgets and holds the old blocks fast, 2 forgets -/
noncomputable def evU (P : Program) (G : List Nat) (sm : Rec) (how : FuncId → Nat) : Nat → Rec
  | 0 => fun _ _ => none
  | n + 1 => fun j A => match sm j A with
    | some r => some r
    | none => match j with
      | .call f args => (match how f with
        | 0 => callStepT P G (evU P G sm how n) n false f args A
        | 1 => callStepT P G (evU P G sm how n) n true f args A
        | _ => tidy A (callStepT P G (evU P G sm how n) n false f args A))
      | .round l t a b => stepR P G (evU P G sm how n) n (.round l t a b) A
theorem evU_ok (hP : PC2 P) {sm : Rec} (hs : RecOk P G sm) (how : FuncId → Nat) : ∀ n, RecOk P G (evU P G sm how n)
  | 0 => fun _ _ _ _ h => by cases h
  | n + 1 => fun j A v A' h R w hw hg => by
    unfold evU at h
    split at h
    · rename_i r hr
      cases h
      exact hs j A v A' hr R w hw hg
    · split at h
      · rename_i f args
        split at h
        · exact callStepT_ok hP (evU_ok hP hs how n) n _ h hw hg
        · exact callStepT_ok hP (evU_ok hP hs how n) n _ h hw hg
        · exact tidy_ok h hw rfl fun v A' h => callStepT_ok hP (evU_ok hP hs how n) n _ h hw hg
      · exact stepR_ok hP (evU_ok hP hs how n) n _ _ _ _ h R w hw hg

/-! A block more, of which nothing is known: what an argument's slice lies in -/
theorem known_dead {h : Array Obj} {G : List Nat} {w : World} (hk : Known h (onG G) w) {b : Nat} (hb : b < w.heap.size) : Known (h.push deadObj) (fun x k l => onG G x k l ∨ (x = h.size ∧ k = b ∧ l = none)) w := by
  obtain ⟨h1, h2, h3, h4⟩ := hk
  have hlt : ∀ x k l, onG G x k l → x < h.size := fun x k l hx => (h1 x k l hx).2.1
  refine ⟨?_, ?_, ?_, ?_⟩
  · rintro x k l (hx | ⟨rfl, rfl, rfl⟩)
    · obtain ⟨e, p, q⟩ := h1 x k l hx
      exact ⟨e, by simp; omega, q⟩
    · exact ⟨rfl, by simp, hb⟩
  · rintro x k k' (hx | ⟨e1, e2, _⟩) (hy | ⟨e, e3, _⟩)
    · exact h2 x k k' hx hy
    · subst e; exact absurd (hlt _ _ _ hx) (Nat.lt_irrefl _)
    · subst e1; exact absurd (hlt _ _ _ hy) (Nat.lt_irrefl _)
    · rw [e2, e3]
  · have hd : ∀ x, (AW.start (h.push deadObj)).alive x = true → x ≠ h.size ∧ (AW.start h).alive x = true := by
      intro x hx
      unfold AW.alive AW.start at hx ⊢
      simp only [Array.getElem?_push] at hx ⊢
      by_cases e : x = h.size
      · rw [if_pos e] at hx; cases hx
      · rw [if_neg e] at hx; exact ⟨e, hx⟩
    rintro x c k (hx | ⟨rfl, _, _⟩) (hy | ⟨e, _, _⟩) p q
    · exact h3 x c k hx hy (hd x p).2 (hd c q).2
    · exact absurd e (hd c q).1
    · exact absurd rfl (hd _ p).1
    · exact e.symm
  · rintro x k o (hx | ⟨rfl, rfl, _⟩) ho
    · have := hlt _ _ _ hx
      rw [Array.getElem?_push, if_neg (by omega)] at ho
      rcases h4 x k o hx ho with ⟨c, t, f, e, c', hc, ha⟩ | hp
      · exact .inl ⟨c, t, f, e, c', hc, ha.mono fun _ _ _ h => .inl h⟩
      · exact .inr hp
    · rw [Array.getElem?_push, if_pos rfl] at ho
      cases ho
      exact .inr ⟨_, _, rfl⟩
theorem gl_dead {G : List Nat} {n b : Nat} : Gl G (fun x k l => onG G x k l ∨ (x = n ∧ k = b ∧ l = none)) := fun _ hg => .inl ⟨rfl, rfl, hg⟩
theorem vr_dead {G : List Nat} {m : Nat} (ad : Addr) (n c : Nat) : VR (fun x k l => onG G x k l ∨ (x = m ∧ k = ad.block ∧ l = none)) (.slice (some ⟨m, ad.off, ad.spot⟩) n c) (.slice (some ad) n c) :=
  .slice (l := none) (.inr ⟨rfl, rfl, rfl⟩) rfl rfl rfl
end Go.Can
