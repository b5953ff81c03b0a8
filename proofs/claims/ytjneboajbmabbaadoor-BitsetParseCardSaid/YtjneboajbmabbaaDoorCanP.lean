/-
  The canonical evaluator: whole code, calls, loops, rounds of a range over a function.
-/
import Derived.Test.YtjneboajbmabbaaDoorCanO
set_option linter.unusedSimpArgs false
set_option linter.unusedVariables false
namespace Go.Can

inductive Job where
  | call (f : FuncId) (args : Array Value)
  | round (l : Nat) (tmps : Array Value) (assign body : Code)
abbrev Rec := Job → AW → Option (Value × AW)

def okOperand (G : List Nat) : Operand → Bool
  | .tmp _ => true
  | .const v => plainV 60 v
  | .global g => G.contains g
  | .func _ => true
def evOp (P : Program) (G : List Nat) (call : Rec) (o : Oper) (a : Act) (A : AW) : Option (Value × AW) :=
  if o.op.operands.all (okOperand G) then
    match aop P a.eval o A with
    | some (.value v, A') => some (v, A')
    | some (.skip, A') => some (undef, A')
    | some (.enter f args, A') => call (.call f args) A'
    | some (.round l _ tmps as bd, A') => call (.round l tmps as bd) A'
    | _ => none
  else none
def evOps (P : Program) (G : List Nat) (call : Rec) (ops : Array Oper) : List Oper → Act → AW → Option (Act × AW)
  | [], a, A => some (a, A)
  | o :: rest, a, A =>
    if Region.wanted o (yielded ops a.tmps) then
      match evOp P G call o a A with
      | some (v, A1) => evOps P G call ops rest (a.put o.dst v) A1
      | none => none
    else evOps P G call ops rest (a.put o.dst undef) A

/-! A region that may draw any order: each operation is evaluated in what it must have seen. -/
structure Done where
  o : Oper
  v : Value
  sees : List Nat
  lo : Nat
  hi : Nat
def deadRange (lo : Nat) : Nat → Array Obj → Array Obj
  | 0, h => h
  | n + 1, h => (deadRange lo n h).setIfInBounds (lo + n) deadObj
def unseen (S : Nat → Bool) : Nat → List Done → Array Obj → Array Obj
  | _, [], h => h
  | k, d :: ds, h => unseen S (k + 1) ds (if S k then h else deadRange d.lo (d.hi - d.lo) h)
def putSeen (S : Nat → Bool) : Nat → List Done → Act → Act
  | _, [], a => a
  | k, d :: ds, a => putSeen S (k + 1) ds (if S k then a.put d.o.dst d.v else a)
def directs (o : Oper) : List Nat := (o.after.toList.filter (Region.binds .any ·)).map (·.on)
/-- numbers, each once: by the bits of a number -/
def maskOf : List Nat → Nat
  | [] => 0
  | j :: l => Nat.lor (2 ^ j) (maskOf l)
theorem testBit_maskOf (j : Nat) : ∀ l, (maskOf l).testBit j = l.contains j
  | [] => by simp [maskOf]
  | i :: l => by
    show (2 ^ i ||| maskOf l).testBit j = _
    rw [Nat.testBit_or, testBit_maskOf j l, Nat.testBit_two_pow, List.contains_cons]
    congr 1
    rw [Bool.eq_iff_iff]; simp; exact eq_comm
def dedup (l : List Nat) : List Nat := match maskOf l with
  | 0 => []
  | m + 1 => (List.range ((m + 1).log2 + 1)).filter (Nat.testBit (m + 1))
theorem mem_dedup {l : List Nat} {j : Nat} : j ∈ dedup l ↔ j ∈ l := by
  have h := testBit_maskOf j l
  rw [show (j ∈ l ↔ l.contains j = true) by simp, ← h]
  unfold dedup
  split
  · rename_i e; rw [e]; simp
  · rename_i m e
    rw [e, List.mem_filter, List.mem_range]
    constructor
    · exact fun h => h.2
    · intro hb
      refine ⟨?_, hb⟩
      rcases Nat.lt_or_ge j ((m + 1).log2 + 1) with h | h
      · exact h
      · have : m + 1 < 2 ^ j := Nat.lt_of_lt_of_le Nat.lt_log2_self (Nat.pow_le_pow_right (by omega) h)
        rw [Nat.testBit_lt_two_pow this] at hb; cases hb
def seesOf (ds : List Done) (o : Oper) : List Nat := dedup (directs o ++ (directs o).flatMap fun j => ((ds[j]?).map (·.sees)).getD [])
/-- what it looks at is what it has seen; it writes nothing that one that it has not seen looks at or writes -/
def apartAll (ops : Array Oper) (sees : List Nat) (o : Oper) : Nat → List Done → Bool
  | _, [] => true
  | k, d :: ds => (sees.contains k || ((match d.o.dst with
      | some t => !(o.looksAt ops).contains t && o.dst != some t
      | none => true) && (match o.dst with
      | some t => !(d.o.looksAt ops).contains t
      | none => true))) && apartAll ops sees o (k + 1) ds
/-- operation number k, when those of 'ds' (numbers 0 .. k-1) have been evaluated -/
def evDraw1 (P : Program) (G : List Nat) (call : Rec) (ops : Array Oper) (ds : List Done) (o : Oper) (a0 : Act) (A : AW) : Option (Done × AW) :=
  if !(directs o).all (fun j => decide (j < ds.length)) then none else
  if !apartAll ops (seesOf ds o) o 0 ds then none else
  if Region.wanted o (yielded ops (putSeen (fun k => (seesOf ds o).contains k) 0 ds a0).tmps) then
    match evOp P G call o (putSeen (fun k => (seesOf ds o).contains k) 0 ds a0) { w := { A.w with heap := unseen (fun k => (seesOf ds o).contains k) 0 ds A.w.heap }, loose := A.loose, ro := A.size } with
    | some (v, A1) => if A1.loose.all (fun p => decide (p.1 < A1.size)) && decide (A.size ≤ A1.size) then
        some (⟨o, v, seesOf ds o, A.size, A1.size⟩, { w := { A.w with heap := A.w.heap ++ A1.w.heap.extract A.size A1.size }, loose := (A1.loose.filter fun p => decide (A.size ≤ p.1)) ++ A.loose, ro := A.ro })
      else none
    | none => none
  else some (⟨o, undef, seesOf ds o, A.size, A.size⟩, A)
def evDraw (P : Program) (G : List Nat) (call : Rec) (ops : Array Oper) : List Oper → List Done → Act → AW → Option (List Done × AW)
  | [], ds, _, A => some (ds, A)
  | o :: rest, ds, a0, A =>
    match evDraw1 P G call ops ds o a0 A with
    | some (d, A1) => evDraw P G call ops rest (ds ++ [d]) a0 A1
    | none => none
/-- what each of these has before it, when those before them have this -/
def seesList : List (List Nat) → List Oper → List (List Nat)
  | ss, [] => ss
  | ss, o :: l => seesList (ss ++ [dedup (directs o ++ (directs o).flatMap fun j => (ss[j]?).getD [])]) l
/-- a field that takes room -/
def roomy (P : Program) (t : TypeId) (f : Nat) : Bool := match P.underlying t with
  | some (.struct fs) => match fs[f]? with
    | some fd => match P.info? fd.type with
      | some i => !(Nat.beq i.size 0)
      | none => false
    | none => false
  | _ => false
/-- a taking out of a tuple, a move, a look at a pointer, an address: where all the others that are not bound to it keep off what it reads and writes, it may be done as soon as it can be -/
def floatsOp (P : Program) (o : Oper) : Bool := match o.op with
  | .extract .. | .move _ | .nilCheck _ | .indexAddr .. => true
  | .fieldAddr t _ f => roomy P t f
  | _ => false
def floatB (P : Program) (ops : Array Oper) (ss : List (List Nat)) (f : Nat) : Bool := match ops[f]?, ss[f]? with
  | some o, some s => floatsOp P o && (List.range ops.size).all fun j => j == f || s.contains j || match ops[j]? with
    | some oj => oj.after.any (fun e => Region.binds .any e && e.on == f) || o.apart ops oj
    | none => true
  | _, _ => false
/-- it may stand at the end: it floats, or what comes behind it waits for it or for what comes behind it -/
def endOk (F : Nat → Bool) (ops : Array Oper) (k : Nat) (o : Oper) : Bool := (directs o).all (fun j => decide (j < k)) && (F k || (List.range ops.size).all fun i => decide (i ≤ k) || match ops[i]? with
  | some oi => (directs oi).any fun j => decide (k ≤ j)
  | none => true)
def seesHead (F : Nat → Bool) (m : Nat) (s : List Nat) : Bool := (List.range m).all fun j => s.contains j || F j
/-- from which operation on all may stand at the end -/
def endFrom (F : Nat → Bool) (ops : Array Oper) : Nat → Nat
  | 0 => 0
  | k + 1 => match ops[k]? with
    | some o => if endOk F ops k o then endFrom F ops k else k + 1
    | none => endFrom F ops k
/-- from which operation on all have seen all before that don't float -/
def fitM (F : Nat → Bool) (ss : List (List Nat)) : Nat → Nat → Nat
  | 0, m => m
  | n + 1, m => if (ss.drop m).all (seesHead F m) then m else fitM F ss n (m + 1)
def tailCheck (F : Nat → Bool) (ops : Array Oper) (ss : List (List Nat)) (m : Nat) : Bool := (List.range ops.size).all fun k => decide (k < m) || match ops[k]?, ss[k]? with
  | some o, some s => endOk F ops k o && seesHead F m s
  | _, _ => false
def writes (o : Oper) : Bool := match o.op with
  | .store .. | .mapUpdate .. => true
  | .call c => match c.callee with
    | .builtin .append | .builtin .copy | .builtin .delete | .builtin .clear => true
    | _ => false
  | _ => false
/-! The same region, its operations in another order -/
def posOf : List Nat → Nat → Nat
  | [], _ => 0
  | j :: l, i => if Nat.beq j i then 0 else posOf l i + 1
def relabel (ord : List Nat) (o : Oper) : Oper := { o with after := o.after.map fun e => { e with on := posOf ord e.on }, guard := o.guard.map fun g => (posOf ord g.1, g.2) }
def permuted (ord : List Nat) (ops : Array Oper) : Array Oper := (ord.filterMap fun i => (ops[i]?).map (relabel ord)).toArray
def permOk (ord : List Nat) (ops : Array Oper) : Bool :=
  Nat.beq ord.length ops.size && (List.range ops.size).all (fun i => Nat.blt (posOf ord i) ops.size) && (List.range ops.size).all fun k => match ord[k]? with
    | some i => Nat.blt i ops.size && Nat.beq (posOf ord i) k
    | none => false
/-- what floats goes as early as it can -/
def schedGo (P : Program) (ops : Array Oper) : Nat → List Nat → List Nat → List Nat
  | 0, acc, _ => acc.reverse
  | n + 1, acc, todo =>
    match todo.find? (fun i => match ops[i]? with | some o => floatsOp P o && (directs o).all acc.contains | none => false) with
    | some i => schedGo P ops n (i :: acc) (todo.filter (fun j => !(Nat.beq j i)))
    | none => match todo.find? (fun i => match ops[i]? with | some o => (directs o).all acc.contains | none => false) with
      | some i => schedGo P ops n (i :: acc) (todo.filter (fun j => !(Nat.beq j i)))
      | none => acc.reverse
def sched (P : Program) (ops : Array Oper) : List Nat := schedGo P ops ops.size [] (List.range ops.size)
def drawFl (P : Program) (fl : Bool) (ops : Array Oper) (ss : List (List Nat)) (j : Nat) : Bool := fl && Region.noSelect ops && floatB P ops ss j
def drawM (P : Program) (fl : Bool) (ops : Array Oper) (ss : List (List Nat)) : Nat := fitM (drawFl P fl ops ss) ss ops.size (endFrom (drawFl P fl ops ss) ops ops.size)
def drawOk (P : Program) (fl : Bool) (ops : Array Oper) : Bool :=
  let ss := seesList [] ops.toList
  tailCheck (drawFl P fl ops ss) ops ss (drawM P fl ops ss)
/-- nothing is written before the end -/
def drawClean (P : Program) (fl : Bool) (ops : Array Oper) : Bool := (ops.toList.take (drawM P fl ops (seesList [] ops.toList))).all fun o => !writes o
def runDraw (P : Program) (G : List Nat) (call : Rec) (fl : Bool) (ops : Array Oper) (a : Act) (A : AW) : Option (Act × AW) :=
  let m := drawM P fl ops (seesList [] ops.toList)
  match evDraw P G call ops (ops.toList.take m) [] a A with
  | some (ds, A1) => evOps P G call ops (ops.toList.drop m) (putSeen (fun _ => true) 0 ds a) A1
  | none => none
/-! Looks that may also come after the first operation of the end -/
def quietKind (o : Oper) : Bool := match o.op with
  | .load .. | .move _ | .nilCheck _ | .unOp .. | .build .. => true
  | _ => false
def lateOps (F : Nat → Bool) (ops : Array Oper) (ss : List (List Nat)) (m : Nat) : List Nat := (List.range m).foldl (fun acc j => match ops[j]?, ss[m]? with
  | some o, some s => if !(s.contains j) && (!(F j) || (directs o).any acc.contains) then j :: acc else acc
  | _, _ => acc) []
/-- the first that writes, among those that may stand at the end -/
def lateM (P : Program) (fl : Bool) (ops : Array Oper) (ss : List (List Nat)) : Nat :=
  let e := endFrom (drawFl P fl ops ss) ops ops.size
  match (List.range ops.size).find? (fun k => decide (e ≤ k) && match ops[k]? with | some o => writes o | none => false) with
  | some k => k
  | none => ops.size
/-- x writes nothing that y looks at or writes -/
def keepsOff (ops : Array Oper) (x y : Oper) : Bool := match x.dst with
  | some t => !((y.looksAt ops).contains t) && y.dst != some t
  | none => true
def lateOk (P : Program) (fl : Bool) (ops : Array Oper) : Bool :=
  let ss := seesList [] ops.toList
  let m := lateM P fl ops ss
  let F := drawFl P fl ops ss
  let late := lateOps F ops ss m
  decide (m < ops.size) &&
  ((List.range ops.size).all fun k => decide (k < m) || match ops[k]?, ss[k]? with
    | some o, some s => endOk F ops k o && (decide (k = m) || (seesHead F m s && late.all s.contains))
    | _, _ => false) &&
  (match ss[m]? with
    | some s => (List.range m).all fun j => s.contains j || F j || late.contains j
    | none => false) &&
  ((List.range m).all fun j => match ops[j]? with
    | some o => !(F j && (directs o).any late.contains) || late.contains j
    | none => true) &&
  late.all fun f => decide (f < m) && match ops[f]?, ops[m]?, ss[f]? with
    | some x, some o, some s => quietKind x && keepsOff ops x o && keepsOff ops o x && (match x.dst with | some t => !((x.looksAt ops).contains t) | none => true) && late.all fun g => s.contains g || decide (g = f) || match ops[g]? with
      | some y => keepsOff ops y x
      | none => true
    | _, _, _ => false
def sameC : Value → Value → Bool
  | .bool a, .bool b => decide (a = b)
  | .int k a, .int k' b => decide (k = k') && decide (a = b)
  | .pointer a, .pointer b => decide (a = b)
  | .slice a n c, .slice a' n' c' => decide (a = a') && decide (n = n') && decide (c = c')
  | .map a, .map b => decide (a = b)
  | .string a, .string b => decide (a = b)
  | _, _ => false
theorem sameC_eq {u v : Value} (h : sameC u v = true) : u = v := by
  unfold sameC at h
  split at h <;> simp_all
def sameL : List Value → List Value → Bool
  | [], [] => true
  | a :: l, b :: m => sameC a b && sameL l m
  | _, _ => false
theorem sameL_eq : ∀ {l m : List Value}, sameL l m = true → l = m
  | [], [], _ => rfl
  | a :: l, b :: m, h => by
    simp only [sameL, Bool.and_eq_true] at h
    rw [sameC_eq h.1, sameL_eq h.2]
  | [], _ :: _, h => by cases h
  | _ :: _, [], h => by cases h
def sameV : Value → Value → Bool
  | .agg x, .agg y => sameL x.toList y.toList
  | u, v => sameC u v
theorem sameV_eq {u v : Value} (h : sameV u v = true) : u = v := by
  unfold sameV at h
  split at h
  · rename_i x y
    have := sameL_eq h
    cases x; cases y; simp_all
  · exact sameC_eq h
/-- a late look, in the world behind: it shows what it has shown before -/
def lateSame (P : Program) (G : List Nat) (ops : Array Oper) (a : Act) (A : AW) (f : Nat) : Bool := match ops[f]? with
  | some o => Region.wanted o (yielded ops a.tmps) && match o.dst with
    | some t => (match evOp P G (fun _ _ => none) o a A, a.tmps[t]? with
      | some (v, _), some u => sameV v u
      | _, _ => false)
    | none => false
  | none => false
def runLate (P : Program) (G : List Nat) (call : Rec) (fl : Bool) (ops : Array Oper) (a : Act) (A : AW) : Option (Act × AW) :=
  let ss := seesList [] ops.toList
  let m := lateM P fl ops ss
  match evDraw P G call ops (ops.toList.take m) [] a A with
  | some (ds, A1) => match evOps P G call ops ((ops.toList.drop m).take 1) (putSeen (fun _ => true) 0 ds a) A1 with
    | some (a3, A3) => if (lateOps (drawFl P fl ops ss) ops ss m).all (lateSame P G ops a3 A3) then evOps P G call ops (ops.toList.drop (m + 1)) a3 A3 else none
    | none => none
  | none => none
/-- how a region is taken: as it stands, in another order, or in another order with late looks -/
inductive How where
  | plain | other | late
def howOf (P : Program) (fl : Bool) (ops : Array Oper) : How :=
  if drawClean P fl ops then .plain
  else if permOk (sched P ops) ops then
    if drawClean P fl (permuted (sched P ops) ops) then .other
    else if lateOk P fl (permuted (sched P ops) ops) then .late else .plain
  else .plain
def evRegion (P : Program) (G : List Nat) (call : Rec) (fl : Bool) (ops : Array Oper) (draw : Bool) (a : Act) (A : AW) : Option (Act × AW) :=
  if draw then
    match howOf P fl ops with
    | .plain => if drawOk P fl ops then runDraw P G call fl ops a A else none
    | .other => if drawOk P fl (permuted (sched P ops) ops) then runDraw P G call fl (permuted (sched P ops) ops) a A else none
    | .late => runLate P G call fl (permuted (sched P ops) ops) a A
  else evOps P G call ops ops.toList a A

def evLoop (body : Act → AW → Option (Exit × Act × AW)) : Nat → Act → AW → Option (Exit × Act × AW)
  | 0, _, _ => none
  | n + 1, a, A => match body a A with
    | some (.normal, a1, A1) => evLoop body n a1 A1
    | r => r
def evJump (c : Code) (a : Act) (A : AW) : Option (Exit × Act × AW) :=
  match c with
  | .ret => some (.ret, a, A)
  | .exit id => some (.exit id, a, A)
  | .goto l => some (.goto l, a, A)
  | _ => none
def evRange (P : Program) (G : List Nat) (call : Rec) (rd : Option Nat) (g : Operand) (ps : Array Tmp) (assign body : Code) (a : Act) (A : AW) : Option (Exit × Act × AW) :=
  if okOperand G g then
    match arun P (Instr.enterLoop 0 a.tmps ps assign body rd) A with
    | some ((l, mark), A1) =>
      match a.eval g with
      | .func (.func f) first captured =>
        if hasBody P f then
          match call (.call f (first ++ #[.func (.yield l) #[] #[]] ++ captured)) A1 with
          | some (_, A2) =>
            match arun P (Instr.endLoop l) A2 with
            | some (none, A3) => some (.normal, { a with defers := mark ++ a.defers }, A3)
            | some (some c, A3) => evJump c { a with defers := mark ++ a.defers } A3
            | none => none
          | none => none
        else none
      | _ => none
    | none => none
  else none
def notGoto : Exit → Bool
  | .goto _ => false
  | _ => true
def evCode (P : Program) (G : List Nat) (call : Rec) (n : Nat) (rd : Option Nat) : Code → Act → AW → Option (Exit × Act × AW)
  | .skip, a, A => some (.normal, a, A)
  | .label _, a, A => some (.normal, a, A)
  | .region _ ops draw, a, A => match evRegion P G call rd.isNone ops draw a A with
    | some (a1, A1) => some (.normal, a1, A1)
    | none => none
  | .seq x y, a, A => match evCode P G call n rd x a A with
    | some (.normal, a1, A1) => evCode P G call n rd y a1 A1
    | r => r
  | .cond c x y, a, A => if okOperand G c then (match a.eval c with
    | .bool true => evCode P G call n rd x a A
    | .bool false => evCode P G call n rd y a A
    | _ => none) else none
  | .block id c, a, A => match evCode P G call n rd c a A with
    | some (.exit id', a1, A1) => if id' = id then some (.normal, a1, A1) else some (.exit id', a1, A1)
    | r => r
  | .loop c, a, A => evLoop (evCode P G call n rd c) n a A
  | .rangeFunc g ps assign body, a, A => evRange P G call rd g ps assign body a A
  | .exit id, a, A => some (.exit id, a, A)
  | .goto l, a, A => some (.goto l, a, A)
  | .ret, a, A => some (.ret, a, A)
  | .scope c, a, A => match evCode P G call n rd c a A with
    | some (e, a1, A1) => if notGoto e then some (e, a1, A1) else none
    | none => none
  | .refuse _, _, _ => none
/-- a function's marks are taken off -/
def evMarks (P : Program) : List Deferred → AW → Option AW
  | [], A => some A
  | d :: ds, A => match d.target with
    | .collected r => match arun P (Instr.takeDeferred r) A with
      | some ([], A1) => evMarks P ds A1
      | _ => none
    | _ => none
def evResults (P : Program) (tmps : Array Value) : List ResultVar → AW → Option (List Value × AW)
  | [], A => some ([], A)
  | r :: rs, A =>
    match (match r with
      | .tmp t => some (tmps.getD t undef, A)
      | .cell a t => arun P (do loadVar t (← asAddr (tmps.getD a undef))) A) with
    | some (v, A1) => match evResults P tmps rs A1 with
      | some (vs, A2) => some (v :: vs, A2)
      | none => none
    | none => none
def oneOf : List Value → Value
  | [v] => v
  | vs => .tuple vs.toArray
def evBody (P : Program) (G : List Nat) (call : Rec) (n : Nat) (fn : Func) (c : Code) (args : Array Value) (A : AW) : Option (Value × AW) :=
  match evCode P G call n none c { tmps := args ++ Array.replicate (fn.ntmps - args.size) undef, defers := [] } A with
  | some (e, a, A1) =>
    match e with
    | .normal | .ret => match evMarks P a.defers A1 with
      | some A2 => match evResults P a.tmps fn.results.toList A2 with
        | some (vs, A3) => some (oneOf vs, A3)
        | none => none
      | none => none
    | _ => none
  | none => none
def jumpOf : Exit → Option (Option Code)
  | .normal => some none
  | .ret => some (some .ret)
  | .exit id => some (some (.exit id))
  | .goto l => some (some (.goto l))
  | _ => none
def evStep (P : Program) (G : List Nat) (call : Rec) (n : Nat) (j : Job) (A : AW) : Option (Value × AW) :=
  match j with
  | .call f args => match P.funcs[f]? with
    | some fn => match fn.body with
      | some c => evBody P G call n fn c args A
      | none => none
    | none => none
  | .round l tmps assign body =>
    match evCode P G call n (some l) assign { tmps, defers := [] } A with
    | some (.normal, a1, A1) =>
      match arun P (Instr.beginRound l) A1 with
      | some (_, A2) =>
        match evCode P G call n (some l) body a1 A2 with
        | some (e, _, A3) => match jumpOf e with
          | some j => arun P (Instr.endRound l j) A3
          | none => none
        | none => none
      | none => none
    | _ => none
def ev (P : Program) (G : List Nat) : Nat → Rec
  | 0 => fun _ _ => none
  | n + 1 => fun j A => evStep P G (ev P G n) n j A
end Go.Can
