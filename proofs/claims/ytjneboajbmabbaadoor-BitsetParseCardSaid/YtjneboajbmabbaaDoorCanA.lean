/-
  A canonical run beside a real one: values, objects and worlds that agree but for where their blocks lie; a runner of the model's small programs over a canonical heap; and how a canonical step is followed by the real one.
-/
import Derived.WalkKit
import Derived.RangeFuncLeaves
import Derived.OrdersIn
set_option linter.unusedSimpArgs false
set_option linter.unusedVariables false
namespace Go.Can

/-- what is known of a block's tail: nothing to be known; or the real block has N cells, an element takes s -/
abbrev Lab := Option (Nat × Nat)
/-- block b of the canonical heap is block k of the real one, with this tail -/
abbrev CR := Nat → Nat → Lab → Prop
/-- how the real slice's capacity lies to the canonical one's -/
def Fit (off : Nat) : Lab → Nat → Nat → Prop
  | none, c, c' => c' = c
  | some (s, N), c, c' => c ≤ c' ∧ off + c' * s ≤ N
def CR.le (R R' : CR) : Prop := ∀ b k l, R b k l → R' b k l
theorem CR.le_refl (R : CR) : CR.le R R := fun _ _ _ h => h
theorem CR.le_trans {R R' R'' : CR} (h : CR.le R R') (k : CR.le R' R'') : CR.le R R'' := fun b c l x => k b c l (h b c l x)

structure AddrR (R : CR) (a a' : Addr) : Prop where
  bl : ∃ l, R a.block a'.block l
  off : a'.off = a.off
  spot : a'.spot = a.spot

inductive FnR (R : CR) : Fn → Fn → Prop
  | func (f : FuncId) : FnR R (.func f) (.func f)
  | method (n : String) : FnR R (.method n) (.method n)
  | methodOf (t : TypeId) (n : String) : FnR R (.methodOf t n) (.methodOf t n)
  | via (t : TypeId) (p : Array FieldStep) (f : FuncId) (b : Bool) : FnR R (.via t p f b) (.via t p f b)
  | yield {l l' : Nat} (h : R l l' none) : FnR R (.yield l) (.yield l')

inductive VR (R : CR) : Value → Value → Prop
  | bool (b : Bool) : VR R (.bool b) (.bool b)
  | int (k : IntKind) (n : Int) : VR R (.int k n) (.int k n)
  | float (k : FloatKind) (n : Nat) : VR R (.float k n) (.float k n)
  | string (s : ByteArray) : VR R (.string s) (.string s)
  | nilPtr : VR R (.pointer none) (.pointer none)
  | ptr {a a' : Addr} (h : AddrR R a a') : VR R (.pointer (some a)) (.pointer (some a'))
  | nilSlice (n c : Nat) : VR R (.slice none n c) (.slice none n c)
  | slice {a a' : Addr} {n c c' : Nat} {l : Lab} (h : R a.block a'.block l) (ho : a'.off = a.off) (hs : a'.spot = a.spot) (hc : Fit a.off l c c') : VR R (.slice (some a) n c) (.slice (some a') n c')
  | nilMap : VR R (.map none) (.map none)
  | map {r r' : Nat} (h : R r r' none) : VR R (.map (some r)) (.map (some r'))
  | func {f f' : Fn} {x x' y y' : Array Value} (h : FnR R f f') (hx : x'.size = x.size) (hxs : ∀ (i : Nat) (v v' : Value), x[i]? = some v → x'[i]? = some v' → VR R v v')
      (hy : y'.size = y.size) (hys : ∀ (i : Nat) (v v' : Value), y[i]? = some v → y'[i]? = some v' → VR R v v') : VR R (.func f x y) (.func f' x' y')
  | nilFunc : VR R .nilFunc .nilFunc
  | iface (t : TypeId) {v v' : Value} (h : VR R v v') : VR R (.iface t v) (.iface t v')
  | nilIface : VR R .nilIface .nilIface
  | agg {x x' : Array Value} (hx : x'.size = x.size) (hxs : ∀ (i : Nat) (v v' : Value), x[i]? = some v → x'[i]? = some v' → VR R v v') : VR R (.agg x) (.agg x')
  | tuple {x x' : Array Value} (hx : x'.size = x.size) (hxs : ∀ (i : Nat) (v v' : Value), x[i]? = some v → x'[i]? = some v' → VR R v v') : VR R (.tuple x) (.tuple x')

theorem AddrR.mono {R R' : CR} (h : CR.le R R') {a a' : Addr} (k : AddrR R a a') : AddrR R' a a' := ⟨k.bl.imp fun _ x => h _ _ _ x, k.off, k.spot⟩
theorem FnR.mono {R R' : CR} (h : CR.le R R') {a a' : Fn} (k : FnR R a a') : FnR R' a a' := by
  cases k
  case yield l l' x => exact .yield (h _ _ _ x)
  all_goals constructor
theorem VR.mono {R R' : CR} (h : CR.le R R') {v v' : Value} (k : VR R v v') : VR R' v v' := by
  induction k with
  | bool b => exact .bool b
  | int k n => exact .int k n
  | float k n => exact .float k n
  | string s => exact .string s
  | nilPtr => exact .nilPtr
  | ptr x => exact .ptr (x.mono h)
  | nilSlice n c => exact .nilSlice n c
  | slice x ho hs hc => exact .slice (h _ _ _ x) ho hs hc
  | nilMap => exact .nilMap
  | map x => exact .map (h _ _ _ x)
  | func x hx hxs hy hys ih1 ih2 => exact .func (x.mono h) hx ih1 hy ih2
  | nilFunc => exact .nilFunc
  | iface t x ih => exact .iface t ih
  | nilIface => exact .nilIface
  | agg hx hxs ih => exact .agg hx ih
  | tuple hx hxs ih => exact .tuple hx ih

/-- rows of values -/
structure ArrR (R : CR) (x x' : Array Value) : Prop where
  size : x'.size = x.size
  at_ : ∀ (i : Nat) (v v' : Value), x[i]? = some v → x'[i]? = some v' → VR R v v'
theorem ArrR.mono {R R' : CR} (h : CR.le R R') {x x' : Array Value} (k : ArrR R x x') : ArrR R' x x' := ⟨k.size, fun i v v' a b => (k.at_ i v v' a b).mono h⟩
theorem VR.agg' {R : CR} {x x' : Array Value} (h : ArrR R x x') : VR R (.agg x) (.agg x') := .agg h.size h.at_
theorem VR.tuple' {R : CR} {x x' : Array Value} (h : ArrR R x x') : VR R (.tuple x) (.tuple x') := .tuple h.size h.at_
theorem ArrR.get {R : CR} {x x' : Array Value} (h : ArrR R x x') {i : Nat} {v : Value} (hv : x[i]? = some v) : ∃ v', x'[i]? = some v' ∧ VR R v v' := by
  have hi : i < x.size := (Array.getElem?_eq_some_iff.1 hv).1
  have hi' : i < x'.size := by have := h.size; omega
  exact ⟨x'[i], Array.getElem?_eq_getElem hi', h.at_ i v _ hv (Array.getElem?_eq_getElem hi')⟩
theorem ArrR.none {R : CR} {x x' : Array Value} (h : ArrR R x x') {i : Nat} (hv : x[i]? = none) : x'[i]? = none := by
  have hs := h.size
  rw [Array.getElem?_eq_none_iff] at *
  omega
theorem ArrR.getD {R : CR} {x x' : Array Value} (h : ArrR R x x') (i : Nat) {d d' : Value} (hd : VR R d d') : VR R (x.getD i d) (x'.getD i d') := by
  rw [Array.getD_eq_getD_getElem?, Array.getD_eq_getD_getElem?]
  cases hx : x[i]? with
  | none => rw [h.none hx]; exact hd
  | some v => obtain ⟨v', hv', hr⟩ := h.get hx; rw [hv']; exact hr
theorem VR.undef {R : CR} : VR R undef undef := .tuple rfl (by simp)
theorem ArrR.nil {R : CR} : ArrR R #[] #[] := ⟨rfl, by simp⟩
theorem ArrR.push {R : CR} {x x' : Array Value} (h : ArrR R x x') {v v' : Value} (hv : VR R v v') : ArrR R (x.push v) (x'.push v') := by
  refine ⟨by simp [h.size], fun i a b ha hb => ?_⟩
  rw [Array.getElem?_push] at ha hb
  rw [h.size] at hb
  split at ha <;> rename_i hi
  · rw [if_pos hi] at hb; cases ha; cases hb; exact hv
  · rw [if_neg hi] at hb; exact h.at_ i a b ha hb
theorem ArrR.set {R : CR} {x x' : Array Value} (h : ArrR R x x') (i : Nat) {v v' : Value} (hv : VR R v v') : ArrR R (x.setIfInBounds i v) (x'.setIfInBounds i v') := by
  refine ⟨by simp [h.size], fun j a b ha hb => ?_⟩
  simp only [Array.getElem?_setIfInBounds, h.size] at ha hb
  split at ha
  · rename_i hij
    simp only [if_pos hij] at hb
    split at ha
    · rename_i hlt; rw [if_pos hlt] at hb; cases ha; cases hb; exact hv
    · cases ha
  · rename_i hij; rw [if_neg hij] at hb; exact h.at_ j a b ha hb
theorem ArrR.append {R : CR} {x x' y y' : Array Value} (h : ArrR R x x') (k : ArrR R y y') : ArrR R (x ++ y) (x' ++ y') := by
  refine ⟨by simp [h.size, k.size], fun i a b ha hb => ?_⟩
  rw [Array.getElem?_append] at ha hb
  rw [h.size] at hb
  split at ha <;> rename_i hi
  · rw [if_pos hi] at hb; exact h.at_ i a b ha hb
  · rw [if_neg hi] at hb; exact k.at_ _ a b ha hb
theorem ArrR.extract {R : CR} {x x' : Array Value} (h : ArrR R x x') (i j : Nat) : ArrR R (x.extract i j) (x'.extract i j) := by
  refine ⟨by simp [h.size], fun n a b ha hb => ?_⟩
  simp only [Array.getElem?_extract, h.size] at ha hb
  split at ha <;> rename_i hi
  · rw [if_pos hi] at hb; exact h.at_ _ a b ha hb
  · cases ha
theorem ArrR.of_list {R : CR} {x x' : List Value} (h : ArrR R x.toArray x'.toArray) : ArrR R x.toArray x'.toArray := h
theorem VR.cells {R : CR} {v v' : Value} (h : VR R v v') : ArrR R v.cells v'.cells := by
  have one : ∀ {u u' : Value}, VR R u u' → ArrR R #[u] #[u'] := fun {u u'} hu => by simpa using ArrR.nil.push hu
  cases h
  case agg x x' hx hxs => exact ⟨hx, hxs⟩
  all_goals (refine one ?_; first | (constructor <;> assumption))

/-- a value without blocks -/
def plainV : Nat → Value → Bool
  | 0, _ => false
  | _ + 1, .bool _ | _ + 1, .int _ _ | _ + 1, .float _ _ | _ + 1, .string _ | _ + 1, .pointer none | _ + 1, .slice none _ _ | _ + 1, .map none | _ + 1, .nilFunc | _ + 1, .nilIface => true
  | n + 1, .iface _ v => plainV n v
  | n + 1, .agg x => x.all (plainV n)
  | n + 1, .tuple x => x.all (plainV n)
  | n + 1, .func (.func _) x y => x.all (plainV n) && y.all (plainV n)
  | _ + 1, _ => false
theorem VR.of_plain {R : CR} : ∀ (n : Nat) (v : Value), plainV n v = true → VR R v v
  | 0, _, h => by simp [plainV] at h
  | n + 1, v, h => by
    have rows : ∀ x : Array Value, x.all (plainV n) = true → ∀ (i : Nat) (u u' : Value), x[i]? = some u → x[i]? = some u' → VR R u u' := fun x hx i u u' hu hu' => by
      rw [hu] at hu'; cases hu'
      exact VR.of_plain n u (Array.all_eq_true_iff_forall_mem.1 hx u (Array.mem_of_getElem? hu))
    cases v with
    | bool b => exact .bool b
    | int k n => exact .int k n
    | float k n => exact .float k n
    | string s => exact .string s
    | pointer a => cases a with
      | none => exact .nilPtr
      | some a => simp [plainV] at h
    | slice a n c => cases a with
      | none => exact .nilSlice n c
      | some a => simp [plainV] at h
    | map a => cases a with
      | none => exact .nilMap
      | some a => simp [plainV] at h
    | nilFunc => exact .nilFunc
    | nilIface => exact .nilIface
    | iface t v => exact .iface t (VR.of_plain n v (by simpa [plainV] using h))
    | agg x => exact .agg rfl (rows x (by simpa [plainV] using h))
    | tuple x => exact .tuple rfl (rows x (by simpa [plainV] using h))
    | func f x y =>
      cases f with
      | func f =>
        simp only [plainV, Bool.and_eq_true] at h
        exact .func (.func f) rfl (rows x h.1) rfl (rows y h.2)
      | _ => simp [plainV] at h
    | complex k a b => simp [plainV] at h
    | chan r => simp [plainV] at h

/-! ### Objects and worlds -/
structure EntryR (R : CR) (e e' : MapEntry) : Prop where
  key : VR R e.key e'.key
  val : VR R e.val e'.val
  born : e'.born = e.born
structure MapR (R : CR) (x x' : Array MapEntry) : Prop where
  size : x'.size = x.size
  at_ : ∀ (i : Nat) (e e' : MapEntry), x[i]? = some e → x'[i]? = some e' → EntryR R e e'
structure LoopR (R : CR) (x x' : Loop) : Prop where
  state : x'.state = x.state
  pending : x'.pending = x.pending
  fn : True
  tmps : ArrR R x.tmps x'.tmps
  params : x'.params = x.params
  assign : x'.assign = x.assign
  body : x'.body = x.body
  defers : R x.defers x'.defers none
inductive OR (R : CR) : Lab → Obj → Obj → Prop
  | cells {c c' : Array Value} (t : TypeId) (f : Nat × Nat) (h : ArrR R c c') : OR R none (.cells c t f) (.cells c' t f)
  | loose {c c' : Array Value} (t : TypeId) (f' : Nat × Nat) (s N : Nat) (hN : c'.size = N) (hs : c.size ≤ c'.size) (h : ∀ (i : Nat) (v v' : Value), c[i]? = some v → c'[i]? = some v' → VR R v v') (hf : ∀ o, o < c'.size → (f'.1 ≤ o && o < f'.2) = false) : OR R (some (s, N)) (.cells c t (0, 0)) (.cells c' t f')
  | map {x x' : Array MapEntry} (clock : Nat) (h : MapR R x x') : OR R none (.map x clock) (.map x' clock)
  | stringIter (s : ByteArray) (p : Nat) : OR R none (.stringIter s p) (.stringIter s p)
  | mapIterNil (s : Nat) (x : Array Nat) (k : Nat) : OR R none (.mapIter none s x k) (.mapIter none s x k)
  | mapIter {m m' : Nat} (h : R m m' none) (s : Nat) (x : Array Nat) (k : Nat) : OR R none (.mapIter (some m) s x k) (.mapIter (some m') s x k)
  | loop {x x' : Loop} (h : LoopR R x x') : OR R none (.loop x) (.loop x')
  | deferred (d : Option (List Deferred)) (h : d = none ∨ d = some []) : OR R none (.deferred d) (.deferred d)
theorem EntryR.mono {R R' : CR} (h : CR.le R R') {x x' : MapEntry} (k : EntryR R x x') : EntryR R' x x' := ⟨k.key.mono h, k.val.mono h, k.born⟩
theorem MapR.mono {R R' : CR} (h : CR.le R R') {x x' : Array MapEntry} (k : MapR R x x') : MapR R' x x' := ⟨k.size, fun i e e' a b => (k.at_ i e e' a b).mono h⟩
theorem OR.mono {R R' : CR} (h : CR.le R R') {l : Lab} {o o' : Obj} (k : OR R l o o') : OR R' l o o' := by
  cases k with
  | cells t f x => exact .cells t f (x.mono h)
  | loose t f s N hN hs x hf => exact .loose t f s N hN hs (fun i v v' a b => (x i v v' a b).mono h) hf
  | map c x => exact .map c (x.mono h)
  | stringIter s p => exact .stringIter s p
  | mapIterNil s x k => exact .mapIterNil s x k
  | mapIter y s x k => exact .mapIter (h _ _ _ y) s x k
  | loop x => exact .loop ⟨x.state, x.pending, trivial, x.tmps.mono h, x.params, x.assign, x.body, h _ _ _ x.defers⟩
  | deferred d hd => exact .deferred d hd

/-- a canonical world: a heap, the blocks whose tails are not known, and how far it is only read -/
structure AW where
  w : World
  loose : List (Nat × Nat)
  ro : Nat
def deadObj : Obj := .pending #[] 0
def AW.alive (A : AW) (b : Nat) : Bool := match A.w.heap[b]? with
  | some (.pending ..) => false
  | some _ => true
  | none => false
def AW.tail (A : AW) (b : Nat) : Option Nat := A.loose.lookup b
abbrev AW.size (A : AW) : Nat := A.w.heap.size

structure WR (R : CR) (A : AW) (w : World) : Prop where
  dom : ∀ b k l, R b k l → b < A.size ∧ k < w.heap.size
  fn : ∀ b k l k' l', R b k l → R b k' l' → k' = k ∧ l' = l
  inj : ∀ b c k l l', R b k l → R c k l' → A.alive b = true → A.alive c = true → b = c
  loose : ∀ b k l, R b k l → A.alive b = true → A.tail b = l.map (·.1)
  obj : ∀ b k l o o', R b k l → A.alive b = true → A.w.heap[b]? = some o → w.heap[k]? = some o' → OR R l o o'
  ro : A.ro ≤ A.size
  lsize : ∀ b s, A.tail b = some s → b < A.size

structure Ext (R : CR) (A : AW) (w : World) (R' : CR) (A' : AW) (w' : World) : Prop where
  le : CR.le R R'
  fresh : ∀ b k l, R' b k l → R b k l ∨ (A.size ≤ b ∧ (w.heap.size ≤ k ∨ ∃ b0 l0, R b0 k l0 ∧ A.alive b0 = true ∧ A.ro ≤ b0))
  asize : A.size ≤ A'.size
  wsize : w.heap.size ≤ w'.heap.size
  ro : A'.ro = A.ro
  back : ∀ b, b < A.size → A'.alive b = true → A.alive b = true
  same : ∀ k, k < w.heap.size → (¬ ∃ b l, R b k l ∧ A.alive b = true ∧ A.ro ≤ b) → w'.heap[k]? = w.heap[k]?
  os : w'.os = w.os
  tape : w'.tape = w.tape
  output : w'.output = w.output
theorem Ext.refl (R : CR) (A : AW) (w : World) : Ext R A w R A w :=
  ⟨CR.le_refl R, fun _ _ _ h => .inl h, Nat.le_refl _, Nat.le_refl _, rfl, fun _ _ h => h, fun _ _ _ => rfl, rfl, rfl, rfl⟩
theorem Ext.trans {R R1 R2 : CR} {A A1 A2 : AW} {w w1 w2 : World} (hw : WR R A w) (h : Ext R A w R1 A1 w1) (k : Ext R1 A1 w1 R2 A2 w2) : Ext R A w R2 A2 w2 := by
  refine ⟨CR.le_trans h.le k.le, fun b c l x => ?_, Nat.le_trans h.asize k.asize, Nat.le_trans h.wsize k.wsize, k.ro.trans h.ro, fun b hb hx => h.back b hb (k.back b (Nat.lt_of_lt_of_le hb h.asize) hx), fun c hc hn => ?_,
    k.os.trans h.os, k.tape.trans h.tape, k.output.trans h.output⟩
  · rcases k.fresh b c l x with x | ⟨hb, x⟩
    · exact h.fresh b c l x
    · refine .inr ⟨Nat.le_trans h.asize hb, ?_⟩
      rcases x with x | ⟨b0, l0, x, ha, hr⟩
      · exact .inl (Nat.le_trans h.wsize x)
      · rcases h.fresh b0 c l0 x with y | ⟨hb0, y⟩
        · exact .inr ⟨b0, l0, y, h.back b0 (hw.dom _ _ _ y).1 ha, h.ro ▸ hr⟩
        · exact y
  · have h1 := h.same c hc hn
    refine (k.same c (Nat.lt_of_lt_of_le hc h.wsize) ?_).trans h1
    rintro ⟨b, l, x, ha, hr⟩
    rcases h.fresh b c l x with y | ⟨hb, y⟩
    · exact hn ⟨b, l, y, h.back b (hw.dom _ _ _ y).1 ha, h.ro ▸ hr⟩
    · rcases y with y | ⟨b0, l0, y, ha0, hr0⟩
      · omega
      · exact hn ⟨b0, l0, y, ha0, hr0⟩

/-! ### The canonical runner -/
def okObj : Obj → Bool
  | .cells .. | .pending .. => false
  | _ => true
def arun (P : Program) {α : Type} : Sem α → AW → Option (α × AW)
  | .pure a, A => some (a, A)
  | .load _ a k, A => match A.w.cell? a with
    | some v => arun P (k v) A
    | none => none
  | .store _ _ (.agg _) _, _ | .store _ _ (.tuple _) _, _ => none
  | .store _ a v k, A => if a.block < A.ro then none else
    match A.w.cell? a with
    | some _ => if A.w.frozen? a then none else arun P k { A with w := A.w.setCell a v }
    | none => none
  | .new o k, A => match o with
    | .pending .. => none
    | _ => arun P (k A.w.heap.size) { A with w := A.w.alloc o }
  | .shape r k, A => if (A.tail r).isSome || !A.alive r then none else arun P (k (A.w.shape? r)) A
  | .frozen a k, A => if (A.tail a.block).isSome || !A.alive a.block then none else arun P (k (A.w.frozen? a)) A
  | .getObj r k, A => if (A.tail r).isSome then none else match A.w.heap[r]? with
    | some (.cells ..) | some (.pending ..) | none => none
    | some o => arun P (k o) A
  | .setObj r o k, A => if r < A.ro || (A.tail r).isSome || !okObj o then none else match A.w.heap[r]? with
    | some (.cells ..) | some (.pending ..) | none => none
    | some _ => arun P k { A with w := { A.w with heap := A.w.heap.setIfInBounds r o } }
  | .choose q k, A => if q.forced then arun P (k 0) A else none
  | .program k, A => arun P (k P) A
  | .mark _ k, A => arun P k A
  | .freeze _ _ _, _ | .sys _ _, _ | .halt _, _ => none

theorem arun_bind (P : Program) {α β : Type} (s : Sem α) (f : α → Sem β) : ∀ A, arun P (s.bind f) A = (arun P s A).bind fun x => arun P (f x.1) x.2 := by
  induction s with
  | pure a => intro A; rfl
  | load m a k ih => intro A; simp only [Sem.bind, arun]; split <;> simp_all
  | store m a v k ih =>
    intro A
    cases v <;> simp only [Sem.bind, arun] <;> (try rfl) <;> (split <;> (try rfl)) <;> (split <;> (try rfl)) <;> (split <;> (try rfl)) <;> exact ih _
  | new o k ih => intro A; cases o <;> simp only [Sem.bind, arun] <;> first | rfl | exact ih _ _
  | shape r k ih => intro A; simp only [Sem.bind, arun]; split <;> first | rfl | exact ih _ _
  | frozen a k ih => intro A; simp only [Sem.bind, arun]; split <;> first | rfl | exact ih _ _
  | getObj r k ih => intro A; simp only [Sem.bind, arun]; split <;> (try rfl); split <;> first | rfl | exact ih _ _
  | setObj r o k ih => intro A; simp only [Sem.bind, arun]; split <;> (try rfl); split <;> first | rfl | exact ih _
  | choose q k ih => intro A; simp only [Sem.bind, arun]; split <;> first | rfl | exact ih _ _
  | program k ih => intro A; simp only [Sem.bind, arun]; exact ih _ _
  | mark m k ih => intro A; simp only [Sem.bind, arun]; exact ih _
  | freeze a n k ih => intro A; rfl
  | sys c k ih => intro A; rfl
  | halt h => intro A; rfl

/-! ### Following -/
def Sim (P : Program) (R0 : CR) {α β : Type} (S : CR → α → β → Prop) (s : Sem α) (t : Sem β) : Prop :=
  ∀ R A w, CR.le R0 R → WR R A w → ∀ a A', arun P s A = some (a, A') → ∃ R' b w', t.run P w = .ok b w' ∧ Ext R A w R' A' w' ∧ WR R' A' w' ∧ S R' a b
variable {P : Program} {R0 : CR} {α β γ δ : Type}
theorem sim_mono {S S' : CR → α → β → Prop} {s : Sem α} {t : Sem β} (h : Sim P R0 S s t) (hs : ∀ R a b, CR.le R0 R → S R a b → S' R a b) : Sim P R0 S' s t := by
  intro R A w hle hw a A' ha
  obtain ⟨R', b, w', hr, he, hw', hS⟩ := h R A w hle hw a A' ha
  exact ⟨R', b, w', hr, he, hw', hs _ _ _ (CR.le_trans hle he.le) hS⟩
theorem sim_up {R1 : CR} (h1 : CR.le R0 R1) {S : CR → α → β → Prop} {s : Sem α} {t : Sem β} (h : Sim P R0 S s t) : Sim P R1 S s t :=
  fun R A w hle hw => h R A w (CR.le_trans h1 hle) hw
theorem sim_pure {S : CR → α → β → Prop} {a : α} {b : β} (h : ∀ R, CR.le R0 R → S R a b) : Sim P R0 S (Pure.pure a) (Pure.pure b) := by
  intro R A w hle hw a' A' ha
  simp only [Pure.pure, arun, Option.some.injEq, Prod.mk.injEq] at ha
  obtain ⟨rfl, rfl⟩ := ha
  exact ⟨R, b, w, rfl, .refl _ _ _, hw, h R hle⟩
theorem sim_bind {S : CR → α → β → Prop} {T : CR → γ → δ → Prop} {s : Sem α} {t : Sem β} {f : α → Sem γ} {g : β → Sem δ} (h : Sim P R0 S s t)
    (k : ∀ R, CR.le R0 R → ∀ a b, S R a b → Sim P R T (f a) (g b)) : Sim P R0 T (s >>= f) (t >>= g) := by
  intro R A w hle hw c A' ha
  have ha : arun P (s.bind f) A = some (c, A') := ha
  rw [arun_bind] at ha
  cases h1 : arun P s A with
  | none => rw [h1] at ha; cases ha
  | some x =>
    obtain ⟨a, A1⟩ := x
    rw [h1] at ha
    simp only [Option.bind_some] at ha
    obtain ⟨R1, b, w1, hr1, he1, hw1, hS⟩ := h R A w hle hw a A1 h1
    obtain ⟨R2, d, w2, hr2, he2, hw2, hT⟩ := k R1 (CR.le_trans hle he1.le) a b hS R1 A1 w1 (CR.le_refl _) hw1 c A' ha
    refine ⟨R2, d, w2, ?_, he1.trans hw he2, hw2, hT⟩
    simp [hr1, hr2, Result.andThen]
theorem sim_halt {S : CR → α → β → Prop} {h : Halt} {t : Sem β} : Sim P R0 S (.halt h) t := by
  intro R A w _ _ a A' ha; cases ha
theorem sim_program : Sim P R0 (fun _ a b => a = P ∧ b = P) Go.program Go.program := by
  intro R A w hle hw a A' ha
  simp only [Go.program, arun, Option.some.injEq, Prod.mk.injEq] at ha
  obtain ⟨rfl, rfl⟩ := ha
  exact ⟨R, P, w, rfl, .refl _ _ _, hw, rfl, rfl⟩
theorem sim_mark (m : Mark) : Sim P R0 (fun _ _ _ => True) (Go.mark m) (Go.mark m) := by
  intro R A w hle hw a A' ha
  simp only [Go.mark, arun, Option.some.injEq, Prod.mk.injEq] at ha
  obtain ⟨_, rfl⟩ := ha
  exact ⟨R, (), w, rfl, .refl _ _ _, hw, trivial⟩
/-- a small program that looks at nothing -/
theorem sim_same {s : Sem α} (h : ∀ A a A', arun P s A = some (a, A') → A' = A ∧ ∀ w, s.run P w = .ok a w) : Sim P R0 (fun _ a b => b = a) s s := by
  intro R A w hle hw a A' ha
  obtain ⟨rfl, hr⟩ := h A a A' ha
  exact ⟨R, a, w, hr w, .refl _ _ _, hw, rfl⟩
end Go.Can
