/-
  From the canonical evaluator to a call's contract.
-/
import Derived.Test.YtjneboajbmabbaaDoorCanT
import Derived.Test.YtjneboajbmabbaaDoorBase
set_option linter.unusedSimpArgs false
set_option linter.unusedVariables false
namespace Go.Can
variable {P : Program} {G : List Nat}

def AW.start (h : Array Obj) : AW := { w := { heap := h, tape := fun _ _ => 0, drawn := 0, os := default, output := #[] }, loose := [], ro := h.size }
/-- the canonical blocks that are known are the real ones' -/
def Known (h : Array Obj) (R : CR) (w : World) : Prop :=
  (∀ b k l, R b k l → l = none ∧ b < h.size ∧ k < w.heap.size) ∧ (∀ b k k', R b k none → R b k' none → k' = k) ∧
  (∀ b c k, R b k none → R c k none → (AW.start h).alive b = true → (AW.start h).alive c = true → b = c) ∧
  ∀ b k o, R b k none → h[b]? = some o → (∃ c t f, o = .cells c t f ∧ ∃ c', w.heap[k]? = some (.cells c' t f) ∧ ArrR R c c') ∨ (∃ c t, o = .pending c t)
theorem WR.start {h : Array Obj} {R : CR} {w : World} (k : Known h R w) : WR R (AW.start h) w := by
  obtain ⟨k1, k2, k3, k4⟩ := k
  refine ⟨fun b k l x => (k1 b k l x).2, fun b k l k' l' x y => ?_, fun b c k l l' x y p q => ?_, fun b k l x p => ?_, fun b k l o o' x p h1 h2 => ?_, Nat.le_refl _, fun b s hb => by cases hb⟩
  · obtain ⟨rfl, _⟩ := k1 _ _ _ x
    obtain ⟨rfl, _⟩ := k1 _ _ _ y
    exact ⟨k2 _ _ _ x y, rfl⟩
  · obtain ⟨rfl, _⟩ := k1 _ _ _ x
    obtain ⟨rfl, _⟩ := k1 _ _ _ y
    exact k3 _ _ _ x y p q
  · obtain ⟨rfl, _⟩ := k1 _ _ _ x
    rfl
  · obtain ⟨rfl, _⟩ := k1 _ _ _ x
    have h1 : h[b]? = some o := h1
    rcases k4 b k o x h1 with ⟨c, t, f, rfl, c', hc', hr⟩ | ⟨c, t, rfl⟩
    · rw [h2] at hc'; cases hc'
      exact .cells t f hr
    · simp [AW.alive, AW.start, h1] at p
theorem ev_calls (hP : PC2 P) {n : Nat} {f : FuncId} {args args' : Array Value} {h : Array Obj} {v : Value} {A1 : AW} (he : ev P G n (.call f args) (AW.start h) = some (v, A1)) {R : CR} {w : World} (hk : Known h R w) (hg : Gl G R) (ha : ArrR R args args') :
    Calls P f args' w fun e w' => ∃ R' v', e = .returned v' ∧ Ext R (AW.start h) w R' A1 w' ∧ WR R' A1 w' ∧ VR R' v v' :=
  callsIn_wide (n := 0).1 (ev_ok hP n _ _ _ _ he R w (WR.start hk) hg args' ha 0)
theorem ext_below {h : Array Obj} {R R' : CR} {w w' : World} {A1 : AW} (hk : Known h R w) (he : Ext R (AW.start h) w R' A1 w') : RowKit.Below w.heap.size w w' :=
  ⟨he.os, he.tape, he.output, he.wsize, fun k hk2 => he.same k hk2 fun ⟨b, l, x, _, hro⟩ => by
    have := (hk.1 _ _ _ x).2.1
    have hro : h.size ≤ b := hro
    omega⟩
def evTrue : Option (Value × AW) → Bool
  | some (.bool true, _) => true
  | _ => false
theorem evTrue_some {r : Option (Value × AW)} (h : evTrue r = true) : ∃ A1, r = some (.bool true, A1) := by
  unfold evTrue at h
  split at h
  · exact ⟨_, rfl⟩
  · cases h
/-- a call that the evaluator has found to return true -/
theorem true_calls (hP : PC2 P) {n : Nat} {f : FuncId} {args args' : Array Value} {h : Array Obj} (he : evTrue (ev P G n (.call f args) (AW.start h)) = true) {R : CR} {w : World} (hk : Known h R w) (hg : Gl G R) (ha : ArrR R args args') :
    Calls P f args' w fun e w' => e = .returned (.bool true) ∧ ∃ x, w' = Own.beyond w x := by
  obtain ⟨A1, he⟩ := evTrue_some he
  refine (ev_calls hP he hk hg ha).mono fun e w' h => ?_
  obtain ⟨R', v', rfl, h1, _, h2⟩ := h
  cases h2
  exact ⟨rfl, Own.beyond_of (ext_below hk h1)⟩
theorem known_none (w : World) : Known #[] (fun _ _ _ => False) w := ⟨fun _ _ _ h => h.elim, fun _ _ _ h => h.elim, fun _ _ _ h => h.elim, fun _ _ _ h => h.elim⟩
theorem plain_args {R : CR} {x : Array Value} (h : x.all (plainV 60) = true) : ArrR R x x :=
  ⟨rfl, fun i v v' h1 h2 => by rw [h1] at h2; cases h2; exact VR.of_plain 60 v (Array.all_eq_true_iff_forall_mem.1 h _ (Array.mem_of_getElem? h1))⟩
/-- plain arguments, no variable read -/
theorem true_plain (hP : PC2 P) {n : Nat} {f : FuncId} {args : Array Value} (he : evTrue (ev P [] n (.call f args) (AW.start #[])) = true) (ha : args.all (plainV 60) = true) (w : World) :
    Calls P f args w fun e w' => e = .returned (.bool true) ∧ ∃ x, w' = Own.beyond w x :=
  true_calls hP he (known_none w) (fun g h => by cases h) (plain_args ha)
/-- what is asked of the program, by looking at its tables -/
def pcB (P : Program) : Bool :=
  (P.types.all fun i => match i.zero with | some v => plainV 60 v && v.cells.size == i.size | none => true) && P.follows .mixedOrders &&
  P.funcs.all fun fn => fn.body.isNone || fn.name != "runtime.NumGoroutine"
theorem PC2.of_bool (h : pcB P = true) : PC2 P := by
  simp only [pcB, Bool.and_eq_true] at h
  obtain ⟨⟨h1, h2⟩, h3⟩ := h
  have one : ∀ t i v, t < P.types.size → P.info? t = some i → i.zero = some v → plainV 60 v = true ∧ v.cells.size = i.size := fun t i v hlt ht hz => by
    unfold Tables.info? at ht
    rw [if_pos hlt] at ht
    have := Array.all_eq_true_iff_forall_mem.1 h1 i (Array.mem_of_getElem? ht)
    rw [hz] at this
    simpa using this
  refine ⟨⟨fun t i v hl ht hz => (one t i v hl ht hz).1, h2⟩, fun t i v hl ht hz => (one t i v hl ht hz).2, fun f fn hf hb => ?_⟩
  have := Array.all_eq_true_iff_forall_mem.1 h3 fn (Array.mem_of_getElem? hf)
  cases hx : fn.body with
  | none => rw [hx] at hb; cases hb
  | some c => rw [hx] at this; simpa using this
end Go.Can
