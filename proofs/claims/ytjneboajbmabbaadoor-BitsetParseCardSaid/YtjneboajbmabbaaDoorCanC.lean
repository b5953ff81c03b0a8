/-
  How the real world follows the small programs that every operation is made of.
-/
import Derived.Test.YtjneboajbmabbaaDoorCanB
set_option linter.unusedSimpArgs false
set_option linter.unusedVariables false
namespace Go.Can
variable {P : Program} {R0 : CR}

def EqS {α : Type} : CR → α → α → Prop := fun _ a b => b = a
theorem sim_pureEq {α : Type} (a : α) : Sim P R0 EqS (Pure.pure a) (Pure.pure a) := sim_pure fun _ _ => rfl
theorem sim_none {α β : Type} {S : CR → α → β → Prop} {s : Sem α} {t : Sem β} (h : ∀ A, arun P s A = Option.none) : Sim P R0 S s t := by
  intro R A w _ _ a A' ha; rw [h] at ha; cases ha
theorem arun_bind' {α β : Type} (s : Sem α) (f : α → Sem β) (A : AW) : arun P (s >>= f) A = (arun P s A).bind fun x => arun P (f x.1) x.2 := arun_bind P s f A
theorem arun_pure {α : Type} (a : α) (A : AW) : arun P (Pure.pure a) A = some (a, A) := rfl

inductive L2 {α β : Type} (S : α → β → Prop) : List α → List β → Prop
  | nil : L2 S [] []
  | cons {a : α} {b : β} {x : List α} {y : List β} (h : S a b) (t : L2 S x y) : L2 S (a :: x) (b :: y)
theorem L2.of_get {α β : Type} {S : α → β → Prop} : ∀ (x : List α) (y : List β), y.length = x.length → (∀ (i : Nat) (a : α) (b : β), x[i]? = some a → y[i]? = some b → S a b) → L2 S x y
  | [], [], _, _ => .nil
  | a :: x, b :: y, hl, h => .cons (h 0 a b rfl rfl) (L2.of_get x y (by simpa using hl) fun i u v hu hv => h (i + 1) u v (by simpa using hu) (by simpa using hv))
theorem L2.length {α β : Type} {S : α → β → Prop} {x : List α} {y : List β} (h : L2 S x y) : y.length = x.length := by
  induction h with
  | nil => rfl
  | cons _ _ ih => simp [ih]
theorem L2.get {α β : Type} {S : α → β → Prop} {x : List α} {y : List β} (h : L2 S x y) : ∀ (i : Nat) (a : α) (b : β), x[i]? = some a → y[i]? = some b → S a b := by
  induction h with
  | nil => intro i a b ha; simp at ha
  | cons hs _ ih =>
    intro i a b ha hb
    cases i with
    | zero => simp at ha hb; subst ha; subst hb; exact hs
    | succ i => exact ih i a b (by simpa using ha) (by simpa using hb)
theorem L2.mono {α β : Type} {S S' : α → β → Prop} (hm : ∀ a b, S a b → S' a b) {x : List α} {y : List β} (h : L2 S x y) : L2 S' x y := by
  induction h with
  | nil => exact .nil
  | cons hs _ ih => exact .cons (hm _ _ hs) ih
theorem ArrR.l2 {R : CR} {x x' : Array Value} (h : ArrR R x x') : L2 (VR R) x.toList x'.toList :=
  L2.of_get _ _ (by simpa using h.size) fun i a b ha hb => h.at_ i a b (by simpa using ha) (by simpa using hb)
theorem L2.arr {R : CR} {x x' : List Value} (h : L2 (VR R) x x') : ArrR R x.toArray x'.toArray :=
  ⟨by simpa using h.length, fun i a b ha hb => h.get i a b (by simpa using ha) (by simpa using hb)⟩

theorem sim_typeInfo (t : TypeId) : Sim P R0 (fun _ a b => b = a ∧ P.info? t = some a) (Go.typeInfo t) (Go.typeInfo t) := by
  unfold Go.typeInfo
  refine sim_bind sim_program fun R hle a b ⟨ha, hb⟩ => ?_
  subst ha; subst hb
  cases h : b.info? t with
  | none => exact sim_halt
  | some i => exact sim_pure fun _ _ => ⟨rfl, rfl⟩
theorem sim_underlying (t : TypeId) : Sim P R0 (fun _ a b => b = a ∧ P.underlying t = some a) (Go.underlying t) (Go.underlying t) := by
  unfold Go.underlying
  refine sim_bind sim_program fun R hle a b ⟨ha, hb⟩ => ?_
  subst ha; subst hb
  cases h : b.underlying t with
  | none => exact sim_halt
  | some i => exact sim_pure fun _ _ => ⟨rfl, rfl⟩
theorem sim_sizeOf (t : TypeId) : Sim P R0 EqS (Go.sizeOf t) (Go.sizeOf t) := by
  unfold Go.sizeOf
  refine sim_bind (sim_typeInfo t) fun R hle a b ⟨ha, _⟩ => ?_
  subst ha; exact sim_pureEq _
theorem sim_isAgg (t : TypeId) : Sim P R0 EqS (Go.isAgg t) (Go.isAgg t) := by
  unfold Go.isAgg
  refine sim_bind (sim_underlying t) fun R hle a b ⟨ha, _⟩ => ?_
  subst ha
  split <;> exact sim_pureEq _
/-- the zero values of the program's types hold no blocks; regions may draw any order -/
structure PC (P : Program) : Prop where
  zeros : ∀ t i v, t < P.types.size → P.info? t = some i → i.zero = some v → plainV 60 v = true
  mixed : P.follows .mixedOrders = true
theorem sim_zeroValue (hP : PC P) (t : TypeId) (ht : t < P.types.size) : Sim P R0 (fun R a b => b = a ∧ VR R a b) (Go.zeroValue t) (Go.zeroValue t) := by
  unfold Go.zeroValue
  refine sim_bind (sim_typeInfo t) fun R hle a b ⟨ha, hi⟩ => ?_
  subst ha
  cases h : b.zero with
  | none => exact sim_halt
  | some v => exact sim_pure fun _ _ => ⟨rfl, VR.of_plain 60 v (hP.zeros t b v ht hi h)⟩

theorem AddrR.add {R : CR} {a a' : Addr} (h : AddrR R a a') (n : Nat) : AddrR R (a.add n) (a'.add n) := by
  unfold Addr.add
  split
  · exact h
  · exact ⟨h.bl, by simp [h.off], rfl⟩
theorem sim_loadCellsFrom {a a' : Addr} : ∀ (n i : Nat) {acc acc' : Array Value} {R0 : CR}, AddrR R0 a a' → ArrR R0 acc acc' → Sim P R0 ArrR (Go.loadCellsFrom a i n acc) (Go.loadCellsFrom a' i n acc')
  | 0, i, acc, acc', R0, h, hx => by
    simp only [Go.loadCellsFrom]; exact sim_pure fun R hle => hx.mono hle
  | n + 1, i, acc, acc', R0, h, hx => by
    simp only [Go.loadCellsFrom]
    refine sim_bind (sim_load _ (h.add i)) fun R hle v v' hv => ?_
    exact sim_loadCellsFrom n (i + 1) (h.mono hle) ((hx.mono hle).push hv)
theorem sim_loadCells {a a' : Addr} (h : AddrR R0 a a') (n : Nat) : Sim P R0 ArrR (Go.loadCells a n) (Go.loadCells a' n) := sim_loadCellsFrom n 0 h .nil
theorem sim_storeCells {a a' : Addr} : ∀ {vs vs' : List Value} (i : Nat) {R0 : CR}, AddrR R0 a a' → L2 (VR R0) vs vs' → Sim P R0 (fun _ _ _ => True) (Go.storeCells a vs i) (Go.storeCells a' vs' i)
  | [], _, i, R0, h, .nil => by simp only [Go.storeCells]; exact sim_pure fun _ _ => trivial
  | v :: vs, _, i, R0, h, .cons hv ht => by
    simp only [Go.storeCells]
    refine sim_bind (sim_store _ (h.add i) hv) fun R hle _ _ _ => ?_
    exact sim_storeCells (i + 1) (h.mono hle) (ht.mono fun _ _ x => x.mono hle)
theorem sim_loadVar {a a' : Addr} (t : TypeId) (h : AddrR R0 a a') : Sim P R0 VR (Go.loadVar t a) (Go.loadVar t a') := by
  unfold Go.loadVar
  refine sim_bind (sim_isAgg t) fun R hle x y hxy => ?_
  obtain rfl : y = x := hxy
  split
  · refine sim_bind (sim_sizeOf t) fun R1 hle1 n m hnm => ?_
    obtain rfl : m = n := hnm
    refine sim_bind (sim_loadCells (h.mono (CR.le_trans hle hle1)) m) fun R2 hle2 cs cs' hc => ?_
    exact sim_pure fun R3 hle3 => VR.agg' (hc.mono hle3)
  · exact sim_load _ (h.mono hle)
theorem sim_storeVar {a a' : Addr} {v v' : Value} (t : TypeId) (h : AddrR R0 a a') (hv : VR R0 v v') : Sim P R0 (fun _ _ _ => True) (Go.storeVar t a v) (Go.storeVar t a' v') := by
  unfold Go.storeVar
  refine sim_bind (sim_sizeOf t) fun R hle n m hnm => ?_
  obtain rfl : m = n := hnm
  rw [hv.cells.size]
  split
  · exact sim_halt
  · exact sim_storeCells 0 (h.mono hle) (hv.cells.mono hle).l2
theorem sim_newRow {c c' : Array Value} (t : TypeId) (h : ArrR R0 c c') : Sim P R0 (fun R a a' => AddrR R a a' ∧ a.off = 0 ∧ a.spot = Option.none ∧ R a.block a'.block none) (Go.newRow t c) (Go.newRow t c') := by
  unfold Go.newRow
  refine sim_bind (sim_newObj (.cells t _ h)) fun R hle r r' hr => ?_
  exact sim_pure fun R1 hle1 => ⟨⟨⟨none, hle1 _ _ _ hr⟩, rfl, rfl⟩, rfl, rfl, hle1 _ _ _ hr⟩
theorem sim_newVar {v v' : Value} (t : TypeId) (h : VR R0 v v') : Sim P R0 (fun R a a' => AddrR R a a' ∧ a.off = 0 ∧ a.spot = Option.none ∧ R a.block a'.block none) (Go.newVar t v) (Go.newVar t v') := sim_newRow t h.cells
theorem sim_part {c c' : Array Value} (t : TypeId) (off : Nat) (h : ArrR R0 c c') : Sim P R0 VR (Go.part t c off) (Go.part t c' off) := by
  unfold Go.part
  refine sim_bind (sim_isAgg t) fun R hle x y hxy => ?_
  obtain rfl : y = x := hxy
  split
  · refine sim_bind (sim_sizeOf t) fun R1 hle1 n m hnm => ?_
    obtain rfl : m = n := hnm
    exact sim_pure fun R2 hle2 => VR.agg' ((h.mono (CR.le_trans hle (CR.le_trans hle1 hle2))).extract _ _)
  · cases hc : c[off]? with
    | none => exact sim_halt
    | some v =>
      obtain ⟨v', hv', hr⟩ := h.get hc
      rw [hv']
      exact sim_pure fun R1 hle1 => hr.mono (CR.le_trans hle hle1)
theorem sim_asIntOf {v v' : Value} (h : VR R0 v v') : Sim P R0 EqS (Go.asIntOf v) (Go.asIntOf v') := by
  cases h <;> first | exact sim_pureEq _ | exact sim_halt
theorem sim_asInt {v v' : Value} (h : VR R0 v v') : Sim P R0 EqS (Go.asInt v) (Go.asInt v') := by
  unfold Go.asInt
  refine sim_bind (sim_asIntOf h) fun R hle a b hab => ?_
  obtain rfl : b = a := hab
  exact sim_pureEq _
theorem sim_asBool {v v' : Value} (h : VR R0 v v') : Sim P R0 (fun _ a b => b = a ∧ v = .bool a ∧ v' = .bool a) (Go.asBool v) (Go.asBool v') := by
  cases h <;> first | exact sim_pure fun _ _ => ⟨rfl, rfl, rfl⟩ | exact sim_halt
theorem sim_asAgg {v v' : Value} (h : VR R0 v v') : Sim P R0 ArrR (Go.asAgg v) (Go.asAgg v') := by
  cases h
  case agg x x' hx hxs => exact sim_pure fun R hle => ArrR.mono hle ⟨hx, hxs⟩
  all_goals exact sim_halt
theorem none_runtimePanic {α : Type} (e : RuntimeError) (A : AW) : arun P (runtimePanic e : Sem α) A = none := by
  unfold runtimePanic
  rw [arun_bind']
  simp only [Go.program, arun, Option.bind_some]
  have tail : ∀ (t : TypeId) (s : Sem TypeId) (f : TypeId → Sem Addr) (g : Addr → Value) (A : AW), arun P (s >>= fun x => f x >>= fun r => (goPanic (g r) : Sem α)) A = none := by
    intro t s f g A
    rw [arun_bind']
    cases arun P s A with
    | none => rfl
    | some x =>
      simp only [Option.bind_some]
      rw [arun_bind']
      cases arun P (f x.1) x.2 with
      | none => rfl
      | some y => rfl
  cases e <;> first | rfl | exact tail 0 _ _ _ A
theorem sim_runtimePanic {α β : Type} {S : CR → α → β → Prop} (e : RuntimeError) {t : Sem β} : Sim P R0 S (Go.runtimePanic e) t := sim_none fun A => none_runtimePanic e A
theorem sim_boundsPanic {α β : Type} {S : CR → α → β → Prop} (k : IntKind) (x y : Int) (c : BoundsCode) {t : Sem β} : Sim P R0 S (Go.boundsPanic k x y c) t := by
  refine sim_none fun A => ?_
  unfold Go.boundsPanic
  dsimp only
  split
  · rw [arun_bind']; rfl
  · exact none_runtimePanic (.bounds (IntKind.i64.wrap x) y (k != IntKind.u64) c) A
theorem sim_asAddr {v v' : Value} (h : VR R0 v v') : Sim P R0 AddrR (Go.asAddr v) (Go.asAddr v') := by
  cases h
  case ptr a a' x => exact sim_pure fun R hle => x.mono hle
  case nilPtr => exact sim_runtimePanic .nilDeref
  all_goals exact sim_halt
theorem sim_sureAddr {v v' : Value} (h : VR R0 v v') : Sim P R0 AddrR (Instr.sureAddr v) (Instr.sureAddr v') := by
  cases h
  case ptr a a' x => exact sim_pure fun R hle => x.mono hle
  all_goals exact sim_halt

/-! ### Loops of the small programs -/
theorem sim_each {α β : Type} {f g : α → β → Sem (ForInStep β)} : ∀ (l : List α) (b : β) {R0 : CR}, (∀ R, CR.le R0 R → ∀ x b, Sim P R EqS (f x b) (g x b)) → Sim P R0 EqS (forIn l b f) (forIn l b g)
  | [], b, R0, h => by simp only [List.forIn_nil]; exact sim_pureEq _
  | x :: l, b, R0, h => by
    simp only [List.forIn_cons]
    refine sim_bind (h R0 (CR.le_refl _) x b) fun R hle s s' hs => ?_
    obtain rfl : s' = s := hs
    cases s' with
    | done b => exact sim_pureEq _
    | yield b => exact sim_each l b fun R1 hle1 => h R1 (CR.le_trans hle hle1)
theorem sim_eachArr {α β : Type} {f g : α → β → Sem (ForInStep β)} (l : Array α) (b : β) (h : ∀ R, CR.le R0 R → ∀ x b, Sim P R EqS (f x b) (g x b)) : Sim P R0 EqS (forIn l b f) (forIn l b g) := by
  rw [← Array.forIn_toList, ← Array.forIn_toList]; exact sim_each _ _ h
theorem sim_eachRange {β : Type} {f g : Nat → β → Sem (ForInStep β)} (l : Std.Legacy.Range) (b : β) (h : ∀ R, CR.le R0 R → ∀ x b, Sim P R EqS (f x b) (g x b)) : Sim P R0 EqS (forIn l b f) (forIn l b g) := by
  rw [Std.Legacy.Range.forIn_eq_forIn_range', Std.Legacy.Range.forIn_eq_forIn_range']; exact sim_each _ _ h
/-- a loop over two related rows -/
theorem sim_each2 {α β γ : Type} {S : CR → α → α → Prop} (hS : ∀ R R' a b, CR.le R R' → S R a b → S R' a b) {f : α → β → Sem (ForInStep β)} :
    ∀ (l l' : List α) (b : β) {R0 : CR}, L2 (S R0) l l' → (∀ R, CR.le R0 R → ∀ x x' b, S R x x' → Sim P R EqS (f x b) (f x' b)) → Sim P R0 EqS (forIn l b f) (forIn l' b f)
  | [], _, b, R0, .nil, h => by simp only [List.forIn_nil]; exact sim_pureEq _
  | x :: l, _, b, R0, .cons hx ht, h => by
    simp only [List.forIn_cons]
    refine sim_bind (h R0 (CR.le_refl _) x _ b hx) fun R hle s s' hs => ?_
    obtain rfl : s' = s := hs
    cases s' with
    | done b => exact sim_pureEq _
    | yield b => exact sim_each2 (γ := γ) hS l _ b (ht.mono fun _ _ x => hS _ _ _ _ hle x) fun R1 hle1 => h R1 (CR.le_trans hle hle1)
theorem sim_asFalse {α β : Type} {S : CR → α → β → Prop} {u : Unsupported} {t : Sem β} : Sim P R0 S (Go.unsupported u) t := sim_halt
end Go.Can
