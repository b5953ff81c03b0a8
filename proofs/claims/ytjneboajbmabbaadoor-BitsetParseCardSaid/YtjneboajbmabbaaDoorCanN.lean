/-
  One canonical operation, and that the real one follows it.
-/
import Derived.Test.YtjneboajbmabbaaDoorCanM
set_option linter.unusedSimpArgs false
set_option linter.unusedVariables false
namespace Go.Can
variable {P : Program} {R0 : CR}

def av (P : Program) (s : Sem Value) (A : AW) : Option (Next × AW) := (arun P s A).map fun r => (.value r.1, r.2)
def au (P : Program) (s : Sem Unit) (A : AW) : Option (Next × AW) := (arun P s A).map fun r => (.skip, r.2)
def vv (r : Option (Value × AW)) : Option (Next × AW) := r.map fun r => (.value r.1, r.2)
def hasBody (P : Program) (f : FuncId) : Bool := match P.funcs[f]? with | some fn => fn.body.isSome | none => false
def goEnter (P : Program) (f : FuncId) (args : Array Value) (A : AW) : Option (Next × AW) := if hasBody P f then some (.enter f args, A) else none
/-- a block whose tail is known, or no block at all -/
def firmIn (A : AW) : Value → Bool
  | .slice (some a) _ _ => A.alive a.block && (A.tail a.block).isNone
  | .pointer (some a) => A.alive a.block && (A.tail a.block).isNone
  | _ => true
def capOn (P : Program) (t : TypeId) (x : Value) (A : AW) : Option (Value × AW) :=
  match P.underlying t, x with
  | some (.slice _), .slice _ _ c => if firmIn A x then some (goInt c, A) else none
  | _, _ => none
def sizeIs (P : Program) (t : TypeId) (s : Nat) : Bool := match P.underlying t with
  | some (.slice e) => (match P.info? e with | some i => i.size == s | none => false)
  | _ => true
def sliceOn (P : Program) (t : TypeId) (x : Value) (lo hi mx : Option Value) (A : AW) : Option (Value × AW) :=
  match P.underlying t with
  | some (.pointer _) => none
  | _ =>
    if firmIn A x then arun P (Instr.sliceAt t x lo hi mx) A
    else match x, mx with
      | .slice (some a) _ _, none =>
        match A.tail a.block with
        | some s => if A.alive a.block && sizeIs P t s then
            (match arun P (Instr.sliceAt t x lo hi none) A with
             | some (.slice b k m, A') => if m == 0 then none else some (.slice b k m, A')
             | _ => none)
          else none
        | none => none
      | .slice (some a) _ _, some m =>
        match A.tail a.block with
        | some s => if A.alive a.block && sizeIs P t s then arun P (Instr.sliceAt t x lo hi (some m)) A else none
        | none => none
      | _, _ => none
def elemKnown (P : Program) (t : TypeId) : Bool :=
  match P.underlying t with
  | some (.slice e) | some (.map _ e) => decide (e < P.types.size)
  | _ => true
def builtinOn (P : Program) (b : Builtin) (ts : Array TypeId) (t : TypeId) (args : Array Value) (A : AW) : Option (Next × AW) :=
  match b with
  | .len => av P (Builtin.len_ ts t args) A
  | .cap => match ts[0]?, args[0]? with
    | some t0, some x => vv (capOn P t0 x A)
    | _, _ => none
  | .copy => av P (Builtin.copy_ ts t args) A
  | .delete => av P (deleteC ts t args) A
  | .clear => match ts[0]? with
    | some t0 => if elemKnown P t0 then av P (Builtin.clear_ ts t args) A else none
    | none => none
  | .min => if args.all (plainV 60) then av P (dryV (Builtin.min_ ts t args)) A else none
  | .max => if args.all (plainV 60) then av P (dryV (Builtin.max_ ts t args)) A else none
  | .append => match ts.toList, args.toList with
    | [t0, t1], [.slice b n c, x] => vv (appendOn P t0 t1 b n c x A)
    | _, _ => none
  | _ => none
def callOn (P : Program) (ρ : Operand → Value) (c : Call) (t : TypeId) (A : AW) : Option (Next × AW) :=
  let args := c.args.map ρ
  match c.callee with
  | .builtin b => builtinOn P b c.argTypes t args A
  | .value f => match ρ f with
    | .func (.func g) first captured => goEnter P g (first ++ args ++ captured) A
    | .func (.yield l) first _ => arun P (Instr.yield l (first ++ args)) A
    | _ => none
  | .invoke recv name => match ρ recv with
    | .iface u v => match arun P (Go.method (P.types.size + Made.depth) u v name) A with
      | some ((f, r), A') => goEnter P f (#[r] ++ args) A'
      | none => none
    | _ => none
def bytesLike (P : Program) (s d : TypeId) : Bool :=
  match P.underlying s, P.underlying d with
  | some (.slice e), some .string => (match P.underlying e with | some (.int .u8) => true | _ => false)
  | _, _ => false
def aop (P : Program) (ρ : Operand → Value) (o : Oper) (A : AW) : Option (Next × AW) :=
  match o.op with
  | .move x | .assign x => some (.value (ρ x), A)
  | .pick c a b => match ρ c with
    | .bool t => some (.value (if t then ρ a else ρ b), A)
    | _ => none
  | .alloc t => if decide (t < P.types.size) then av P (Instr.alloc t true (.tuple #[])) A else none
  | .box t x => av P (Instr.box t (ρ x)) A
  | .build t ps => if decide (t < P.types.size) then av P (Instr.build t (ps.map fun (i, x) => (i, ρ x))) A else none
  | .buildSlice t n ps => if elemKnown P t then av P (Instr.buildSlice t n (ps.map fun (i, x) => (i, ρ x))) A else none
  | .load t a => av P (Instr.loadAt t (ρ a)) A
  | .store t a x => au P (Instr.storeAt t (ρ a) (ρ x)) A
  | .nilCheck x => match ρ x with
    | .pointer none | .nilIface | .nilFunc | .func (.method _) _ _ => none
    | v => some (.value v, A)
  | .binOp op t x y _ => if plainV 60 (ρ x) && plainV 60 (ρ y) then av P (dryV (do eqGuard op t x y (ρ x) (ρ y); binOp op t (ρ x) (ρ y))) A else av P (nilEqC op t (ρ x) (ρ y)) A
  | .unOp op _ x => if plainV 60 (ρ x) then av P (dryV (Op.unary op (ρ x))) A else none
  | .convert s d x => match ρ x with
    | .slice a n c => if bytesLike P s d then av P (convert s d (.slice a n c)) A else none
    | .string b => match P.underlying d with
      | some (.slice _) => vv (bytesOn P s d b A)
      | _ => av P (dryV (convert s d (.string b))) A
    | v => if plainV 60 v then av P (dryV (convert s d v)) A else none
  | .makeInterface t x => match P.underlying t with
    | some (.interface _) | none => none
    | _ => some (.value (.iface t (ρ x)), A)
  | .makeFunc (.func f) first captured => some (.value (.func (.func f) (first.map ρ) (captured.map ρ)), A)
  | .makeMap t r => match r with
    | none => av P (Instr.makeMap t none) A
    | some h => match ρ h with
      | .int k n => av P (Instr.makeMap t (some (.int k n))) A
      | _ => none
  | .makeSlice t l c => if elemKnown P t then av P (Instr.makeSlice t (ρ l) (ρ c)) A else none
  | .slice t x lo hi mx => vv (sliceOn P t (ρ x) (lo.map ρ) (hi.map ρ) (mx.map ρ) A)
  | .fieldAddr t x f => av P (Instr.fieldAt t (ρ x) f) A
  | .field t x f => av P (Instr.field t (ρ x) f) A
  | .indexAddr t x i => av P (Instr.indexAt t (ρ x) (ρ i)) A
  | .index t x i => av P (Instr.index t (ρ x) (ρ i)) A
  | .lookup t x i ok => if elemKnown P t then av P (lookupC t (ρ x) (ρ i) ok) A else none
  | .mapUpdate t m k x => au P (mapUpdateC t (ρ m) (ρ k) (ρ x)) A
  | .insert t m k x => au P (mapUpdateC t (ρ m) (ρ k) (ρ x)) A
  | .range t x => match ρ x with
    | .string s => av P (Instr.range t (.string s)) A
    | .map m => av P (Instr.range t (.map m)) A
    | _ => none
  | .next it s => av P (Instr.next (ρ it) s o.type) A
  | .entry it => av P (Instr.entry (ρ it)) A
  | .typeAssert x t u ok => if decide (u < P.types.size) then av P (Instr.typeAssert (ρ x) t u ok) A else none
  | .extract t i => match ρ t with
    | .tuple vs => match vs[i]? with
      | some v => some (.value v, A)
      | none => none
    | _ => none
  | .call c => callOn P ρ c o.type A
  | _ => none

structure PC2 (P : Program) : Prop extends PC P where
  zs : ZS P
  names : ∀ (f : FuncId) (fn : Func), P.funcs[f]? = some fn → fn.body.isSome = true → (fn.name == "runtime.NumGoroutine") = false

def Follows (P : Program) (R : CR) (A : AW) (w : World) {α β : Type} (S : CR → α → β → Prop) (r : Option (α × AW)) (t : Sem β) : Prop :=
  ∀ a A', r = some (a, A') → ∃ R' b w', t.run P w = .ok b w' ∧ Ext R A w R' A' w' ∧ WR R' A' w' ∧ S R' a b
section
variable {R : CR} {A : AW} {w : World}
theorem Follows.of_sim {α β : Type} {S : CR → α → β → Prop} {s : Sem α} {t : Sem β} (hw : WR R A w) (h : Sim P R S s t) : Follows P R A w S (arun P s A) t := fun a A' ha => h R A w (CR.le_refl _) hw a A' ha
theorem Follows.none {α β : Type} {S : CR → α → β → Prop} {t : Sem β} : Follows P R A w S (none : Option (α × AW)) t := fun _ _ h => by cases h
theorem Follows.vv {r : Option (Value × AW)} {t : Sem Value} (h : Follows P R A w VR r t) : Follows P R A w NextR (Can.vv r) (do pure (.value (← t))) := by
  intro a A' ha
  simp only [Can.vv, Option.map_eq_some_iff] at ha
  obtain ⟨⟨v, A1⟩, h1, h2⟩ := ha
  cases h2
  obtain ⟨R', b, w', hr, he, hw', hv⟩ := h v A1 h1
  exact ⟨R', .value b, w', by simp [hr], he, hw', .value hv⟩
theorem Follows.av {s t : Sem Value} (hw : WR R A w) (h : Sim P R VR s t) : Follows P R A w NextR (Can.av P s A) (do pure (.value (← t))) := Follows.vv (Follows.of_sim hw h)
theorem Follows.au {s t : Sem Unit} (hw : WR R A w) (h : Sim P R (fun _ _ _ => True) s t) : Follows P R A w NextR (Can.au P s A) (do t; pure .skip) := by
  intro a A' ha
  simp only [Can.au, Option.map_eq_some_iff] at ha
  obtain ⟨⟨v, A1⟩, h1, h2⟩ := ha
  cases h2
  obtain ⟨R', b, w', hr, he, hw', hv⟩ := h R A w (CR.le_refl _) hw v A1 h1
  exact ⟨R', .skip, w', by simp [hr], he, hw', .skip⟩
theorem Follows.now {a : Next} {t : Sem Next} {b : Next} (hw : WR R A w) (hr : t.run P w = .ok b w) (h : NextR R a b) : Follows P R A w NextR (some (a, A)) t := by
  intro a' A' ha; cases ha
  exact ⟨R, b, w, hr, .refl _ _ _, hw, h⟩
end
end Go.Can
