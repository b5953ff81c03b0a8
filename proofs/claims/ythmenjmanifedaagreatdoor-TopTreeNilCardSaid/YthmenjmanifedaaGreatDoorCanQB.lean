/-
  The canonical evaluator in fewer steps: regions that draw their order.
-/
import Derived.Test.YthmenjmanifedaaGreatDoorCanQA
set_option linter.unusedSimpArgs false
set_option linter.unusedVariables false
namespace Go.Can
variable {P : Program} {G : List Nat}

/-! The canonical evaluator in fewer steps: regions that draw their order, but only look before their end; code; the whole. -/
theorem map_congr' {ρ ρ' : Operand → Value} (ps : Array (Nat × Operand)) (h : ∀ x ∈ (ps.toList.map (·.2)), ρ x = ρ' x) : (ps.map fun (i, x) => (i, ρ x)) = ps.map fun (i, x) => (i, ρ' x) := by
  apply Array.ext'
  simp only [Array.toList_map]
  apply List.map_congr_left
  intro a ha
  obtain ⟨i, x⟩ := a
  simp only
  rw [h x (List.mem_map.2 ⟨(i, x), ha, rfl⟩)]
theorem pureH_congr {ρ ρ' : Operand → Value} {op : Op} (h : Array Obj) (hx : ∀ x ∈ op.operands, ρ x = ρ' x) : pureH P ρ op h = pureH P ρ' op h := by
  cases op <;> simp only [Op.operands] at hx <;> unfold pureH <;> (try rfl)
  case move x => simp only [hx x (by simp)]
  case assign x => simp only [hx x (by simp)]
  case pick c a b => simp only [hx c (by simp), hx a (by simp), hx b (by simp)]
  case load t a => simp only [hx a (by simp)]
  case indexAddr t x i => simp only [hx x (by simp), hx i (by simp)]
  case fieldAddr t x f => simp only [hx x (by simp)]
  case field t x f => simp only [hx x (by simp)]
  case index t x i => simp only [hx x (by simp), hx i (by simp)]
  case binOp op t x y yt => simp only [hx x (by simp), hx y (by simp)]
  case unOp op t x => simp only [hx x (by simp)]
  case convert s d x => simp only [hx x (by simp)]
  case extract t i => simp only [hx t (by simp)]
  case nilCheck x => simp only [hx x (by simp)]
  case build t ps => simp only [map_congr' ps (fun x h => hx x (by simpa using h))]

/-- what is known of the operations before the values are -/
def sDone (o : Oper) (sees : List Nat) : Done := ⟨o, undef, sees, 0, 0⟩
/-- the same operations, with the same looks -/
def Same (ds ds' : List Done) : Prop := L2 (fun d d' => d'.o = d.o ∧ d'.sees = d.sees) ds ds'
theorem Same.get {ds ds' : List Done} (h : Same ds ds') (j : Nat) : ((ds'[j]?).map (·.sees)) = ((ds[j]?).map (·.sees)) := by
  induction h generalizing j with
  | nil => rfl
  | cons h0 t ih => cases j with
    | zero => simp [h0.2]
    | succ j => simpa using ih j
theorem Same.sees {ds ds' : List Done} (h : Same ds ds') (o : Oper) : seesOf ds' o = seesOf ds o := by
  unfold seesOf
  congr 2
  congr 1
  funext j
  rw [h.get j]
theorem Same.length {ds ds' : List Done} (h : Same ds ds') : ds'.length = ds.length := by
  induction h with
  | nil => rfl
  | cons _ _ ih => simp [ih]
theorem Same.apart {ds ds' : List Done} (h : Same ds ds') (ops : Array Oper) (ss : List Nat) (o : Oper) (k : Nat) : apartAll ops ss o k ds' = apartAll ops ss o k ds := by
  induction h generalizing k with
  | nil => rfl
  | cons h0 t ih => unfold apartAll; rw [h0.1, ih]
theorem Same.snoc {ds ds' : List Done} (h : Same ds ds') {d d' : Done} (h1 : d'.o = d.o) (h2 : d'.sees = d.sees) : Same (ds ++ [d]) (ds' ++ [d']) := by
  induction h with
  | nil => exact .cons ⟨h1, h2⟩ .nil
  | cons h0 t ih => exact .cons h0 ih

theorem put_get' (a : Act) (dst : Option Tmp) (v : Value) (t : Nat) (h : dst ≠ some t) : (a.put dst v).tmps[t]? = a.tmps[t]? := by
  cases dst with
  | none => rfl
  | some u =>
    have : u ≠ t := fun e => h (by rw [e])
    simp [Act.put, this]
theorem put_both (a b : Act) (dst : Option Tmp) (v : Value) (t : Nat) (hs : a.tmps.size = b.tmps.size) (h : a.tmps[t]? = b.tmps[t]?) : (a.put dst v).tmps[t]? = (b.put dst v).tmps[t]? := by
  cases dst with
  | none => exact h
  | some u => simp only [Act.put, Array.getElem?_setIfInBounds, hs, h]
/-- what an operation looks at is the same where only what it has seen has been done -/
theorem seen_agree {ops : Array Oper} {o : Oper} {ss : List Nat} : ∀ (ds : List Done) (k : Nat) (a b : Act), apartAll ops ss o k ds = true → a.tmps.size = b.tmps.size → (∀ t ∈ o.looksAt ops, a.tmps[t]? = b.tmps[t]?) →
    ∀ t ∈ o.looksAt ops, (putSeen (fun j => ss.contains j) k ds a).tmps[t]? = (putSeen (fun _ => true) k ds b).tmps[t]?
  | [], _, _, _, _, _, h => h
  | d :: ds, k, a, b, hap, hs, h => by
    unfold apartAll at hap
    rw [Bool.and_eq_true] at hap
    unfold putSeen
    simp only [if_true]
    split
    · refine seen_agree ds (k + 1) _ _ hap.2 (by simp [put_size, hs]) fun t ht => put_both a b _ _ t hs (h t ht)
    · rename_i hc
      refine seen_agree ds (k + 1) _ _ hap.2 (by simp [put_size, hs]) fun t ht => ?_
      rw [h t ht, put_get']
      intro hd
      have h1 := hap.1
      rw [hd] at h1
      simp only [Bool.or_eq_true, Bool.and_eq_true] at h1
      rcases h1 with h1 | h1
      · exact hc h1
      · have := h1.1.1
        rw [List.contains_iff_mem.2 ht] at this
        cases this
theorem unseen_none (S : Nat → Bool) : ∀ (ds : List Done) (k : Nat) (h : Array Obj), (∀ d ∈ ds, d.hi = d.lo) → unseen S k ds h = h
  | [], _, _, _ => rfl
  | d :: ds, k, h, hd => by
    unfold unseen
    have e : deadRange d.lo (d.hi - d.lo) h = h := by rw [hd d (by simp), Nat.sub_self]; rfl
    rw [e]
    split <;> exact unseen_none S ds _ _ fun x hx => hd x (by simp [hx])
theorem putSeen_snoc : ∀ (ds : List Done) (k : Nat) (d : Done) (a : Act), putSeen (fun _ => true) k (ds ++ [d]) a = (putSeen (fun _ => true) k ds a).put d.o.dst d.v
  | [], k, d, a => by simp [putSeen]
  | x :: ds, k, d, a => by
    simp only [List.cons_append, putSeen, if_true]
    exact putSeen_snoc ds (k + 1) d _
theorem eval_agree {ops : Array Oper} {o : Oper} {a b : Act} (h : ∀ t ∈ o.looksAt ops, a.tmps[t]? = b.tmps[t]?) : ∀ x ∈ o.op.operands, a.eval x = b.eval x := by
  intro x hx
  cases x with
  | tmp t =>
    have := h t (by
      unfold Oper.looksAt
      exact List.mem_append.2 (.inl (List.mem_filterMap.2 ⟨.tmp t, by simpa using hx, rfl⟩)))
    simp only [Act.eval, Array.getD_eq_getD_getElem?, this]
  | _ => rfl
theorem wanted_agree {ops : Array Oper} {o : Oper} {a b : Act} (h : ∀ t ∈ o.looksAt ops, a.tmps[t]? = b.tmps[t]?) : Region.wanted o (yielded ops a.tmps) = Region.wanted o (yielded ops b.tmps) := by
  unfold Region.wanted
  cases hg : o.guard with
  | none => rfl
  | some g =>
    obtain ⟨j, want⟩ := g
    simp only
    have : yielded ops a.tmps j = yielded ops b.tmps j := by
      unfold yielded
      cases hd : (ops[j]?).bind (·.dst) with
      | none => rfl
      | some t =>
        have := h t (by
          unfold Oper.looksAt
          refine List.mem_append.2 (.inr ?_)
          rw [hg]
          simp [hd])
        simp only [Option.bind_some, this]
    rw [this]

/-! The canonical evaluator in fewer steps: code, and the whole. -/
theorem mem_lookup {l : List (Nat × Nat)} {p : Nat × Nat} (h : p ∈ l) : ∃ s, l.lookup p.1 = some s := by
  induction l with
  | nil => cases h
  | cons q l ih =>
    obtain ⟨a, b⟩ := q
    simp only [List.lookup]
    split
    · exact ⟨b, rfl⟩
    · rename_i hne
      rcases List.mem_cons.1 h with rfl | h
      · simp at hne
      · exact ih h
theorem loose_small {R : CR} {A : AW} {w : World} (hw : WR R A w) : ∀ p ∈ A.loose, p.1 < A.size := fun p hp => by
  obtain ⟨s, hs⟩ := mem_lookup hp
  exact hw.lsize _ s hs

/-! what values hold -/
noncomputable def ptrK {β : Type} (fail : β) (v : Value) (k : Addr → β) : β := match v with
  | .pointer (some a) => k a
  | _ => fail
noncomputable def natK {β : Type} (fail : β) (v : Value) (k : Nat → β) : β := match v with
  | .int _ (.ofNat m) => k m
  | _ => fail
noncomputable def sliceK {β : Type} (fail : β) (v : Value) (k : Addr → Nat → β) : β := match v with
  | .slice (some a) n _ => k a n
  | _ => fail
noncomputable def aggK {β : Type} (fail : β) (v : Value) (k : Array Value → β) : β := match v with
  | .agg c => k c
  | _ => fail
noncomputable def addrIf (b : Bool) (a : Addr) (n : Nat) : Option Value := match b with
  | true => addH a n
  | false => none

/-! The canonical evaluator in fewer steps: regions that draw their order and make blocks before their end. -/
def pureKind : Op → Bool
  | .move _ | .assign _ | .pick .. | .load .. | .indexAddr .. | .fieldAddr .. | .field .. | .index .. | .binOp .. | .unOp .. | .convert .. | .extract .. | .nilCheck _ | .build .. => true
  | _ => false
/-- does it write no old block whatever it is, and makes none -/
inductive Tag where
  | base | cur | mk | gen
def mkNone (sees : List Nat) : Nat → List Done → Bool
  | _, [] => true
  | k, d :: ds => (pureKind d.o.op || !sees.contains k) && mkNone sees (k + 1) ds
def mkAll (sees : List Nat) : Nat → List Done → Bool
  | _, [] => true
  | k, d :: ds => (pureKind d.o.op || sees.contains k) && mkAll sees (k + 1) ds
def tagD (ds : List Done) (sees : List Nat) (o : Oper) : Option Tag :=
  if pureKind o.op then (if mkNone sees 0 ds then some .base else if mkAll sees 0 ds then some .cur else none)
  else match o.op with
    | .box _ _ => some .mk
    | .alloc _ => some .mk
    | _ => if mkAll sees 0 ds then some .gen else none
def statTags (ops : Array Oper) : List Oper → List Done → Option (List Tag)
  | [], _ => some []
  | o :: rest, ds =>
    if (directs o).all (fun j => decide (j < ds.length)) && apartAll ops (seesOf ds o) o 0 ds then
      match tagD ds (seesOf ds o) o with
      | some t => (match statTags ops rest (ds ++ [sDone o (seesOf ds o)]) with
        | some ts => some (t :: ts)
        | none => none)
      | none => none
    else none
/-- what a call in the middle of a region leaves -/
noncomputable def genStep (r : AW → Option (Value × AW)) (A : AW) : Option (Value × AW) :=
  gNat A.size fun sz => match r { w := A.w, loose := A.loose, ro := sz } with
    | some (v, A1) => if A1.loose.all (fun p => decide (p.1 < A1.size)) && decide (sz ≤ A1.size) then
        fList (A.w.heap ++ A1.w.heap.extract sz A1.size).toList fun h => fList ((A1.loose.filter fun p => decide (sz ≤ p.1)) ++ A.loose) fun l => some (v, { w := { A.w with heap := ⟨h⟩ }, loose := l, ro := A.ro })
      else none
    | none => none
noncomputable def stepT (P : Program) (G : List Nat) (call : Rec) (o : Oper) (t : Tag) (h0 : Array Obj) (a : Act) (A : AW) : Option (Value × AW) := match t with
  | .base => (match pureH P (feval a) o.op h0 with
    | some v => some (v, A)
    | none => none)
  | .cur => (match pureH P (feval a) o.op A.w.heap with
    | some v => some (v, A)
    | none => none)
  | .mk => quick P (feval a) o.op A
  | .gen => genStep (evOpQ P G call o a) A
noncomputable def seqRun (P : Program) (G : List Nat) (call : Rec) (ops : Array Oper) (h0 : Array Obj) : List Oper → List Tag → Act → AW → Option (Act × AW)
  | [], _, a, A => some (a, A)
  | o :: rest, t :: ts, a, A =>
    if wantedF ops o a then
      if o.op.operands.all (okOperand G) then
        match stepT P G call o t h0 a A with
        | some (v, A1) => seqRun P G call ops h0 rest ts (a.put o.dst v) A1
        | none => none
      else none
    else seqRun P G call ops h0 rest ts (a.put o.dst undef) A
  | _ :: _, [], _, _ => none

theorem Same.none {ds ds' : List Done} (h : Same ds ds') (ss : List Nat) (k : Nat) : mkNone ss k ds' = mkNone ss k ds := by
  induction h generalizing k with
  | nil => rfl
  | cons h0 t ih => unfold mkNone; rw [h0.1, ih]
theorem Same.all {ds ds' : List Done} (h : Same ds ds') (ss : List Nat) (k : Nat) : mkAll ss k ds' = mkAll ss k ds := by
  induction h generalizing k with
  | nil => rfl
  | cons h0 t ih => unfold mkAll; rw [h0.1, ih]
theorem Same.tag {ds ds' : List Done} (h : Same ds ds') (ss : List Nat) (o : Oper) : tagD ds' ss o = tagD ds ss o := by
  unfold tagD; rw [h.none, h.all]
theorem dead_get (lo : Nat) : ∀ (n : Nat) (h : Array Obj) (i : Nat), i < lo → (deadRange lo n h)[i]? = h[i]?
  | 0, _, _, _ => rfl
  | n + 1, h, i, hi => by
    unfold deadRange
    rw [Array.getElem?_setIfInBounds, if_neg (by omega)]
    exact dead_get lo n h i hi
theorem dead_size (lo : Nat) : ∀ (n : Nat) (h : Array Obj), (deadRange lo n h).size = h.size
  | 0, _ => rfl
  | n + 1, h => by unfold deadRange; simp [dead_size lo n h]
theorem unseen_below (S : Nat → Bool) (b : Nat) : ∀ (ds : List Done) (k : Nat) (h : Array Obj), (∀ d ∈ ds, b ≤ d.lo) → ∀ i, i < b → (unseen S k ds h)[i]? = h[i]?
  | [], _, _, _, _, _ => rfl
  | d :: ds, k, h, hd, i, hi => by
    unfold unseen
    rw [unseen_below S b ds (k + 1) _ (fun x hx => hd x (by simp [hx])) i hi]
    split
    · rfl
    · have := hd d (by simp)
      exact dead_get _ _ _ _ (by omega)
theorem unseen_size' (S : Nat → Bool) : ∀ (ds : List Done) (k : Nat) (h : Array Obj), (unseen S k ds h).size = h.size
  | [], _, _ => rfl
  | d :: ds, k, h => by
    unfold unseen
    rw [unseen_size' S ds (k + 1)]
    split
    · rfl
    · exact dead_size _ _ _
theorem unseen_all (ss : List Nat) : ∀ (ds : List Done) (k : Nat) (h : Array Obj), mkAll ss k ds = true → (∀ d ∈ ds, pureKind d.o.op = true → d.hi = d.lo) → unseen (fun j => ss.contains j) k ds h = h
  | [], _, _, _, _ => rfl
  | d :: ds, k, h, hm, hd => by
    unfold mkAll at hm
    rw [Bool.and_eq_true, Bool.or_eq_true] at hm
    unfold unseen
    have e : (if ss.contains k then h else deadRange d.lo (d.hi - d.lo) h) = h := by
      rcases hm.1 with h1 | h1
      · rw [hd d (by simp) h1, Nat.sub_self]
        split <;> rfl
      · rw [if_pos h1]
    rw [e]
    exact unseen_all ss ds (k + 1) h hm.2 fun x hx => hd x (by simp [hx])

/-! Reading an extended heap -/
theorem cellH_mono {h h' : Array Obj} (hh : ∀ i, i < h.size → h'[i]? = h[i]?) {a : Addr} {v : Value} (e : cellH h a = some v) : cellH h' a = some v := by
  unfold cellH at e ⊢
  rw [aget_eq] at e ⊢
  cases hb : h[a.block]? with
  | none => rw [hb] at e; cases e
  | some o => rw [hh _ (Array.getElem?_eq_some_iff.1 hb).1]; exact e
theorem rowH_mono {h h' : Array Obj} (hh : ∀ i, i < h.size → h'[i]? = h[i]?) {a : Addr} {n : Nat} {v : Array Value} (e : rowH h a n = some v) : rowH h' a n = some v := by
  unfold rowH at e ⊢
  rw [aget_eq] at e ⊢
  cases hb : h[a.block]? with
  | none => rw [hb] at e; cases e
  | some o => rw [hh _ (Array.getElem?_eq_some_iff.1 hb).1]; exact e
theorem pureH_mono {ρ : Operand → Value} {op : Op} {h h' : Array Obj} (hh : ∀ i, i < h.size → h'[i]? = h[i]?) {v : Value} (e : pureH P ρ op h = some v) : pureH P ρ op h' = some v := by
  cases op <;> try exact e
  case load t a =>
    unfold pureH loadH at e ⊢
    dsimp only at e ⊢
    split at e
    case h_2 => cases e
    rename_i ad had
    try rw [had]
    try simp only
    split at e
    · rename_i n hl
      try (rw [hl]; simp only)
      split at e
      case h_2 => cases e
      rename_i r hr
      rw [rowH_mono hh hr]
      exact e
    · rename_i n hl
      try rw [hl]
      exact cellH_mono hh e
    · cases e

/-! What an operation comes to depends on its operands alone -/
theorem map_congr2 {ρ ρ' : Operand → Value} (ps : Array Operand) (h : ∀ x ∈ ps, ρ x = ρ' x) : ps.map ρ = ps.map ρ' := by
  apply Array.ext'
  simp only [Array.toList_map]
  exact List.map_congr_left fun a ha => h a (by simpa using ha)
theorem opt_congr {ρ ρ' : Operand → Value} (x : Option Operand) (h : ∀ y ∈ x, ρ y = ρ' y) : x.map ρ = x.map ρ' := by
  cases x with
  | none => rfl
  | some y => simp [h y rfl]
theorem callOn_congr {ρ ρ' : Operand → Value} {c : Call} {t : TypeId} {A : AW} (h : ∀ x ∈ c.operands, ρ x = ρ' x) : callOn P ρ c t A = callOn P ρ' c t A := by
  have hargs := map_congr2 c.args fun x hx => h x (by simp [Call.operands, hx])
  unfold callOn
  rw [hargs]
  cases hc : c.callee with
  | builtin b => rfl
  | value f => simp only [h f (by simp [Call.operands, hc])]
  | invoke r n => simp only [h r (by simp [Call.operands, hc])]
theorem aop_congr {ρ ρ' : Operand → Value} {o : Oper} {A : AW} (hx : ∀ x ∈ o.op.operands, ρ x = ρ' x) : aop P ρ o A = aop P ρ' o A := by
  obtain ⟨dst, op, ty, pos, after, guard⟩ := o
  dsimp only at hx
  cases op <;> simp only [Op.operands] at hx <;> unfold aop <;> dsimp only <;> (try rfl)
  case move x => rw [hx x (by simp)]
  case assign x => rw [hx x (by simp)]
  case pick c a b => simp only [hx c (by simp), hx a (by simp), hx b (by simp)]
  case box t x => rw [hx x (by simp)]
  case build t ps => simp only [map_congr' ps (fun x h => hx x (by simpa using h))]
  case buildSlice t n ps => simp only [map_congr' ps (fun x h => hx x (by simpa using h))]
  case load t a => rw [hx a (by simp)]
  case store t a x => rw [hx a (by simp), hx x (by simp)]
  case nilCheck x => simp only [hx x (by simp)]
  case binOp op t x y yt => rw [hx x (by simp), hx y (by simp)]
  case unOp op t x => rw [hx x (by simp)]
  case convert s d x => simp only [hx x (by simp)]
  case makeInterface t x => simp only [hx x (by simp)]
  case makeFunc fn first captured =>
    cases fn <;> (try rfl)
    dsimp only
    rw [map_congr2 first fun x h => hx x (by simp [h]), map_congr2 captured fun x h => hx x (by simp [h])]
  case makeMap t r =>
    cases r with
    | none => rfl
    | some h => simp only [hx h (by simp)]
  case makeSlice t l c => rw [hx l (by simp), hx c (by simp)]
  case slice t x lo hi mx => rw [hx x (by simp), opt_congr lo fun y h => hx y (by simp_all), opt_congr hi fun y h => hx y (by simp_all), opt_congr mx fun y h => hx y (by simp_all)]
  case fieldAddr t x f => rw [hx x (by simp)]
  case field t x f => rw [hx x (by simp)]
  case indexAddr t x i => rw [hx x (by simp), hx i (by simp)]
  case index t x i => rw [hx x (by simp), hx i (by simp)]
  case lookup t x i ok => rw [hx x (by simp), hx i (by simp)]
  case mapUpdate t m k x => rw [hx m (by simp), hx k (by simp), hx x (by simp)]
  case insert t m k x => rw [hx m (by simp), hx k (by simp), hx x (by simp)]
  case range t x => simp only [hx x (by simp)]
  case next it is => rw [hx it (by simp)]
  case entry it => rw [hx it (by simp)]
  case typeAssert x t u ok => rw [hx x (by simp)]
  case extract t i => simp only [hx t (by simp)]
  case call c => exact callOn_congr hx
theorem evOp_congr {call : Rec} {o : Oper} {a b : Act} {A : AW} (hx : ∀ x ∈ o.op.operands, a.eval x = b.eval x) : evOp P G call o a A = evOp P G call o b A := by
  unfold evOp
  rw [aop_congr hx]
/-- an operation that makes one block -/
theorem quick_mk {ρ : Operand → Value} {op : Op} {A A1 : AW} {v : Value} (hop : (∃ t x, op = .box t x) ∨ ∃ t, op = .alloc t) (h : quick P ρ op A = some (v, A1)) : ∃ o, v = .pointer (some ⟨A.w.heap.size, 0, none⟩) ∧ A1 = { w := A.w.alloc o, loose := A.loose, ro := A.ro } ∧
    ∀ (ρ' : Operand → Value) (A' : AW), (∀ x ∈ op.operands, ρ' x = ρ x) → quick P ρ' op A' = some (.pointer (some ⟨A'.w.heap.size, 0, none⟩), { w := A'.w.alloc o, loose := A'.loose, ro := A'.ro }) := by
  rcases hop with ⟨t, x, rfl⟩ | ⟨t, rfl⟩
  · have h : boxH t (ρ x) A = some (v, A1) := h
    unfold boxH at h
    rw [cellsK_eq, newK_eq] at h
    cases h
    refine ⟨_, rfl, rfl, fun ρ' A' hx => ?_⟩
    show boxH t (ρ' x) A' = _
    rw [hx x (by simp [Op.operands])]
    unfold boxH
    rw [cellsK_eq, newK_eq]
  · have h : allocH P t A = some (v, A1) := h
    unfold allocH at h
    split at h
    case isFalse => cases h
    rename_i ht
    split at h
    case h_2 => cases h
    rename_i i hi
    split at h
    case h_2 => cases h
    rename_i z hz
    unfold boxH at h
    rw [cellsK_eq, newK_eq] at h
    cases h
    refine ⟨_, rfl, rfl, fun ρ' A' hx => ?_⟩
    show allocH P t A' = _
    unfold allocH
    rw [if_pos ht, hi]
    simp only
    rw [hz]
    simp only
    unfold boxH
    rw [cellsK_eq, newK_eq]

theorem seq_draw {ops : Array Oper} {call : Rec} {a0 : Act} {h0 : Array Obj} : ∀ (l : List Oper) (ts : List Tag) (ds0 ds : List Done) (A : AW) (r : Act × AW), (∀ p ∈ A.loose, p.1 < A.size) → Same ds0 ds → (∀ d ∈ ds, pureKind d.o.op = true → d.hi = d.lo) → (∀ d ∈ ds, h0.size ≤ d.lo) →
    (∀ i, i < h0.size → A.w.heap[i]? = h0[i]?) → h0.size ≤ A.w.heap.size → statTags ops l ds0 = some ts →
    seqRun P G call ops h0 l ts (putSeen (fun _ => true) 0 ds a0) A = some r → ∃ ds2, evDraw P G call ops l ds a0 A = some (ds2, r.2) ∧ putSeen (fun _ => true) 0 ds2 a0 = r.1
  | [], ts, ds0, ds, A, r, _, _, _, _, _, _, _, h => by
    simp only [seqRun, Option.some.injEq] at h
    subst h
    exact ⟨ds, rfl, rfl⟩
  | o :: l, ts, ds0, ds, A, r, hl, hsame, hlo, hbs, hpre, hsz, hst, h => by
    unfold statTags at hst
    split at hst
    case isFalse => cases hst
    rename_i hc
    simp only [Bool.and_eq_true] at hc
    obtain ⟨h1, h2⟩ := hc
    split at hst
    case h_2 => cases hst
    rename_i t ht
    split at hst
    case h_2 => cases hst
    rename_i ts' h3
    cases hst
    rw [← hsame.length] at h1
    rw [← hsame.sees] at h2 h3 ht
    rw [← hsame.apart] at h2
    rw [← hsame.tag] at ht
    have hag := seen_agree (ops := ops) (o := o) ds 0 a0 a0 h2 rfl (fun _ _ => rfl)
    have hus := unseen_size' (fun k => (seesOf ds o).contains k) ds 0 A.w.heap
    have hug := unseen_below (fun k => (seesOf ds o).contains k) h0.size ds 0 A.w.heap hbs
    have hnop : ∀ (Z : List (Nat × Nat)), Z = A.loose → ({ w := { A.w with heap := A.w.heap ++ (unseen (fun k => (seesOf ds o).contains k) 0 ds A.w.heap).extract A.size A.size }, loose := (Z.filter fun p => decide (A.size ≤ p.1)) ++ A.loose, ro := A.ro } : AW) = A := by
      intro Z hZ
      rw [hZ]
      have e1 : (A.loose.filter fun p => decide (A.size ≤ p.1)) = [] := by
        rw [List.filter_eq_nil_iff]
        intro p hp
        have := hl p hp
        simp; omega
      have e2 : A.w.heap ++ (unseen (fun k => (seesOf ds o).contains k) 0 ds A.w.heap).extract A.size A.size = A.w.heap := by
        rw [Array.extract_empty_of_stop_le_start (Nat.le_refl _)]
        simp
      rw [e1, e2]
      simp
    unfold evDraw evDraw1
    rw [if_neg (by simp only [h1]; simp), if_neg (by simp only [h2]; simp)]
    unfold seqRun at h
    rw [wantedF_eq, ← wanted_agree hag] at h
    split at h
    case isFalse =>
      rename_i hw
      rw [if_neg hw]
      simp only
      refine seq_draw l ts' _ _ A r hl (hsame.snoc (d := sDone o (seesOf ds o)) (d' := ⟨o, undef, seesOf ds o, A.size, A.size⟩) rfl rfl) ?_ ?_ hpre hsz h3 (by rw [putSeen_snoc]; exact h)
      · intro d hd hp
        rcases List.mem_append.1 hd with hd | hd
        · exact hlo d hd hp
        · cases List.mem_singleton.1 hd; rfl
      · intro d hd
        rcases List.mem_append.1 hd with hd | hd
        · exact hbs d hd
        · cases List.mem_singleton.1 hd; exact hsz
    rename_i hw
    rw [if_pos hw]
    split at h
    case isFalse => cases h
    rename_i hok
    split at h
    case h_2 => cases h
    rename_i v A1 hstep
    -- a pure one
    have pureCase : ∀ hv : pureH P (feval (putSeen (fun k => (seesOf ds o).contains k) 0 ds a0)) o.op (unseen (fun k => (seesOf ds o).contains k) 0 ds A.w.heap) = some v, A1 = A → ∃ ds2, (match (match evOp P G call o (putSeen (fun k => (seesOf ds o).contains k) 0 ds a0) { w := { A.w with heap := unseen (fun k => (seesOf ds o).contains k) 0 ds A.w.heap }, loose := A.loose, ro := A.size } with
        | some (v, A1) => if (A1.loose.all (fun p => decide (p.1 < A1.size)) && decide (A.size ≤ A1.size)) = true then
            some (⟨o, v, seesOf ds o, A.size, A1.size⟩, { w := { A.w with heap := A.w.heap ++ A1.w.heap.extract A.size A1.size }, loose := (A1.loose.filter fun p => decide (A.size ≤ p.1)) ++ A.loose, ro := A.ro })
          else none
        | none => none : Option (Done × AW)) with
        | some (d, A1) => evDraw P G call ops l (ds ++ [d]) a0 A1
        | none => none) = some (ds2, r.2) ∧ putSeen (fun _ => true) 0 ds2 a0 = r.1 := by
      intro hv hA1
      subst hA1
      have hev : evOp P G call o (putSeen (fun k => (seesOf ds o).contains k) 0 ds a0) { w := { A1.w with heap := unseen (fun k => (seesOf ds o).contains k) 0 ds A1.w.heap }, loose := A1.loose, ro := A1.size } = some (v, { w := { A1.w with heap := unseen (fun k => (seesOf ds o).contains k) 0 ds A1.w.heap }, loose := A1.loose, ro := A1.size }) := by
        unfold evOp
        rw [if_pos hok]
        rw [feval_eq] at hv
        rw [pureH_ok (A := { w := { A1.w with heap := unseen (fun k => (seesOf ds o).contains k) 0 ds A1.w.heap }, loose := A1.loose, ro := A1.size }) hv]
      rw [hev]
      have e3 : ({ w := { A1.w with heap := unseen (fun k => (seesOf ds o).contains k) 0 ds A1.w.heap }, loose := A1.loose, ro := A1.size } : AW).size = A1.size := hus
      simp only [e3]
      rw [if_pos (by
        simp only [Bool.and_eq_true, List.all_eq_true, decide_eq_true_eq]
        exact ⟨hl, Nat.le_refl _⟩)]
      simp only
      rw [hnop A1.loose rfl]
      refine seq_draw l ts' _ _ A1 r hl (hsame.snoc (d := sDone o (seesOf ds o)) (d' := ⟨o, v, seesOf ds o, A1.size, A1.size⟩) rfl rfl) ?_ ?_ hpre hsz h3 (by rw [putSeen_snoc]; exact h)
      · intro d hd hp
        rcases List.mem_append.1 hd with hd | hd
        · exact hlo d hd hp
        · cases List.mem_singleton.1 hd; rfl
      · intro d hd
        rcases List.mem_append.1 hd with hd | hd
        · exact hbs d hd
        · cases List.mem_singleton.1 hd; exact hsz
    have cong : ∀ hh, pureH P (feval (putSeen (fun k => (seesOf ds o).contains k) 0 ds a0)) o.op hh = pureH P (feval (putSeen (fun _ => true) 0 ds a0)) o.op hh := fun hh => by
      rw [feval_eq, feval_eq]
      exact pureH_congr hh (eval_agree hag)
    unfold tagD at ht
    split at ht
    · rename_i hpk
      split at ht
      · cases ht
        unfold stepT at hstep
        dsimp only at hstep
        split at hstep
        case h_2 => cases hstep
        rename_i v' hv'
        cases hstep
        exact pureCase (by rw [cong]; exact pureH_mono (fun i hi => by rw [hug i hi]; exact hpre i hi) hv') rfl
      · split at ht
        case isFalse => cases ht
        rename_i hma
        cases ht
        unfold stepT at hstep
        dsimp only at hstep
        split at hstep
        case h_2 => cases hstep
        rename_i v' hv'
        cases hstep
        exact pureCase (by rw [cong, unseen_all _ ds 0 _ hma hlo]; exact hv') rfl
    · rename_i hpk
      have agree2 : ∀ x ∈ o.op.operands, (putSeen (fun k => (seesOf ds o).contains k) 0 ds a0).eval x = (putSeen (fun _ => true) 0 ds a0).eval x := eval_agree hag
      have mkCase : ((∃ t x, o.op = .box t x) ∨ ∃ t, o.op = .alloc t) → stepT P G call o .mk h0 (putSeen (fun _ => true) 0 ds a0) A = some (v, A1) → ∃ ds2, (match (match evOp P G call o (putSeen (fun k => (seesOf ds o).contains k) 0 ds a0) { w := { A.w with heap := unseen (fun k => (seesOf ds o).contains k) 0 ds A.w.heap }, loose := A.loose, ro := A.size } with
        | some (v, A1) => if (A1.loose.all (fun p => decide (p.1 < A1.size)) && decide (A.size ≤ A1.size)) = true then
            some (⟨o, v, seesOf ds o, A.size, A1.size⟩, { w := { A.w with heap := A.w.heap ++ A1.w.heap.extract A.size A1.size }, loose := (A1.loose.filter fun p => decide (A.size ≤ p.1)) ++ A.loose, ro := A.ro })
          else none
        | none => none : Option (Done × AW)) with
        | some (d, A1) => evDraw P G call ops l (ds ++ [d]) a0 A1
        | none => none) = some (ds2, r.2) ∧ putSeen (fun _ => true) 0 ds2 a0 = r.1 := by
        intro hop hq
        unfold stepT at hq
        dsimp only at hq
        obtain ⟨ob, rfl, rfl, hall⟩ := quick_mk hop hq
        have hq2 := hall (feval (putSeen (fun k => (seesOf ds o).contains k) 0 ds a0)) { w := { A.w with heap := unseen (fun k => (seesOf ds o).contains k) 0 ds A.w.heap }, loose := A.loose, ro := A.size } (fun x hx => by rw [feval_eq, feval_eq]; exact agree2 x hx)
        have hev : evOp P G call o (putSeen (fun k => (seesOf ds o).contains k) 0 ds a0) { w := { A.w with heap := unseen (fun k => (seesOf ds o).contains k) 0 ds A.w.heap }, loose := A.loose, ro := A.size } = some (.pointer (some ⟨A.w.heap.size, 0, none⟩), { w := { A.w with heap := (unseen (fun k => (seesOf ds o).contains k) 0 ds A.w.heap).push ob }, loose := A.loose, ro := A.size }) := by
          rw [← evOpF_eq, ← evOpQ_eq]
          unfold evOpQ
          rw [if_pos hok, hq2]
          simp only [hus]
          rfl
        rw [hev]
        have e3 : ({ w := { A.w with heap := (unseen (fun k => (seesOf ds o).contains k) 0 ds A.w.heap).push ob }, loose := A.loose, ro := A.size } : AW).size = A.size + 1 := by
          show ((unseen (fun k => (seesOf ds o).contains k) 0 ds A.w.heap).push ob).size = A.w.heap.size + 1
          rw [Array.size_push, hus]
        simp only [e3]
        rw [if_pos (by
          simp only [Bool.and_eq_true, List.all_eq_true, decide_eq_true_eq]
          exact ⟨fun p hp => Nat.lt_succ_of_lt (hl p hp), Nat.le_succ _⟩)]
        simp only
        have e4 : ({ w := { A.w with heap := A.w.heap ++ ((unseen (fun k => (seesOf ds o).contains k) 0 ds A.w.heap).push ob).extract A.size (A.size + 1) }, loose := (A.loose.filter fun p => decide (A.size ≤ p.1)) ++ A.loose, ro := A.ro } : AW) = { w := A.w.alloc ob, loose := A.loose, ro := A.ro } := by
          have e5 : (A.loose.filter fun p => decide (A.size ≤ p.1)) = [] := by
            rw [List.filter_eq_nil_iff]
            intro p hp
            have := hl p hp
            simp; omega
          have e6 : A.w.heap ++ ((unseen (fun k => (seesOf ds o).contains k) 0 ds A.w.heap).push ob).extract A.size (A.size + 1) = A.w.heap.push ob := by
            apply Array.ext_getElem?
            intro i
            have hs : A.size = A.w.heap.size := rfl
            rw [Array.getElem?_append, Array.getElem?_push]
            by_cases hi : i < A.w.heap.size
            · rw [if_pos hi, if_neg (by omega)]
            · rw [if_neg hi, Array.getElem?_extract, hs]
              by_cases hi2 : i = A.w.heap.size
              · subst hi2
                have e7 : ((unseen (fun k => (seesOf ds o).contains k) 0 ds A.w.heap).push ob)[A.w.heap.size + (A.w.heap.size - A.w.heap.size)]? = some ob := by
                  rw [Nat.sub_self, Nat.add_zero, Array.getElem?_push, if_pos hus.symm]
                rw [if_pos (by rw [Array.size_push, hus]; omega), e7, if_pos rfl]
              · rw [if_neg hi2, if_neg (by simp [unseen_size']; omega)]
                exact (Array.getElem?_eq_none_iff.2 (by omega)).symm
          rw [e5, e6]
          rfl
        rw [e4]
        refine seq_draw l ts' _ _ { w := A.w.alloc ob, loose := A.loose, ro := A.ro } r (fun p hp => by show p.1 < (A.w.heap.push ob).size; rw [Array.size_push]; exact Nat.lt_succ_of_lt (hl p hp)) (hsame.snoc (d := sDone o (seesOf ds o)) (d' := ⟨o, .pointer (some ⟨A.w.heap.size, 0, none⟩), seesOf ds o, A.size, A.size + 1⟩) rfl rfl) ?_ ?_ ?_ ?_ h3 (by rw [putSeen_snoc]; exact h)
        · intro d hd hp
          rcases List.mem_append.1 hd with hd | hd
          · exact hlo d hd hp
          · cases List.mem_singleton.1 hd; exact absurd hp hpk
        · intro d hd
          rcases List.mem_append.1 hd with hd | hd
          · exact hbs d hd
          · cases List.mem_singleton.1 hd; exact hsz
        · intro i hi
          show (A.w.heap.push ob)[i]? = _
          rw [Array.getElem?_push, if_neg (by omega)]
          exact hpre i hi
        · show _ ≤ (A.w.heap.push ob).size
          simp; omega
      split at ht
      · rename_i t' x hbox
        cases ht
        exact mkCase (.inl ⟨_, _, hbox⟩) hstep
      · rename_i t' halloc
        cases ht
        exact mkCase (.inr ⟨_, halloc⟩) hstep
      · split at ht
        case isFalse => cases ht
        rename_i hma
        cases ht
        unfold stepT genStep at hstep
        dsimp only at hstep
        rw [gNat_eq] at hstep
        split at hstep
        case h_2 => cases hstep
        rename_i v' A' hq
        split at hstep
        case isFalse => cases hstep
        rename_i hck
        simp only [fList_eq] at hstep
        cases hstep
        rw [unseen_all _ ds 0 _ hma hlo]
        rw [evOpQ_eq, evOpF_eq] at hq
        rw [evOp_congr agree2]
        have hq : evOp P G call o (putSeen (fun _ => true) 0 ds a0) { w := { A.w with heap := A.w.heap }, loose := A.loose, ro := A.size } = some (v, A') := hq
        rw [hq]
        simp only
        rw [if_pos hck]
        simp only
        simp only [Bool.and_eq_true, List.all_eq_true, decide_eq_true_eq] at hck
        obtain ⟨hck1, hck2⟩ := hck
        have esz : (A.w.heap ++ A'.w.heap.extract A.size A'.size).size = A'.size := by
          have hs : A.size = A.w.heap.size := rfl
          have hs' : A'.size = A'.w.heap.size := rfl
          simp [← hs, ← hs']; omega
        refine seq_draw l ts' _ _ _ r ?_ (hsame.snoc (d := sDone o (seesOf ds o)) (d' := ⟨o, v, seesOf ds o, A.size, A'.size⟩) rfl rfl) ?_ ?_ ?_ ?_ h3 (by rw [putSeen_snoc]; exact h)
        · intro p hp
          show p.1 < (A.w.heap ++ A'.w.heap.extract A.size A'.size).size
          rw [esz]
          rcases List.mem_append.1 hp with hp | hp
          · exact hck1 p (List.mem_filter.1 hp).1
          · exact Nat.lt_of_lt_of_le (hl p hp) hck2
        · intro d hd hp
          rcases List.mem_append.1 hd with hd | hd
          · exact hlo d hd hp
          · cases List.mem_singleton.1 hd; exact absurd hp hpk
        · intro d hd
          rcases List.mem_append.1 hd with hd | hd
          · exact hbs d hd
          · cases List.mem_singleton.1 hd; exact hsz
        · intro i hi
          show (A.w.heap ++ A'.w.heap.extract A.size A'.size)[i]? = _
          rw [Array.getElem?_append, if_pos (by omega)]
          exact hpre i hi
        · show _ ≤ (A.w.heap ++ A'.w.heap.extract A.size A'.size).size
          rw [esz]
          exact Nat.le_trans hsz hck2
end Go.Can
