/-
  The real run follows the canonical evaluator: operations, loops.
-/
import Derived.Test.YtjneboajbmabbaaDoorCanP
import Derived.LoopNIn
set_option linter.unusedSimpArgs false
set_option linter.unusedVariables false
namespace Go.Can
variable {P : Program} {G : List Nat}

/-- globals lie where they lie -/
def Gl (G : List Nat) (R : CR) : Prop := ∀ g, g ∈ G → R g g none
theorem Gl.mono {R R' : CR} (h : CR.le R R') (k : Gl G R) : Gl G R' := fun g hg => h _ _ _ (k g hg)
inductive RdR (R : CR) : Option Nat → Option Nat → Prop
  | none : RdR R none none
  | some {l l' : Nat} (h : R l l' Option.none) : RdR R (some l) (some l')
theorem RdR.mono {R R' : CR} (h : CR.le R R') {x x' : Option Nat} (k : RdR R x x') : RdR R' x x' := by
  cases k with
  | none => exact .none
  | some x => exact .some (h _ _ _ x)
inductive DefR (R : CR) : Deferred → Deferred → Prop
  | mk {r r' : Nat} (h : R r r' none) : DefR R { target := .collected r, args := #[] } { target := .collected r', args := #[] }
structure ActR (R : CR) (a a' : Act) : Prop where
  tmps : ArrR R a.tmps a'.tmps
  defers : L2 (DefR R) a.defers a'.defers
theorem DefR.mono {R R' : CR} (h : CR.le R R') {x x' : Deferred} (k : DefR R x x') : DefR R' x x' := by cases k with | mk x => exact .mk (h _ _ _ x)
theorem ActR.mono {R R' : CR} (h : CR.le R R') {x x' : Act} (k : ActR R x x') : ActR R' x x' := ⟨k.tmps.mono h, k.defers.mono fun _ _ y => y.mono h⟩
theorem ActR.put {R : CR} {a a' : Act} (h : ActR R a a') (d : Option Tmp) {v v' : Value} (hv : VR R v v') : ActR R (a.put d v) (a'.put d v') := by
  cases d with
  | none => exact h
  | some d => exact ⟨h.tmps.set d hv, h.defers⟩
theorem ActR.eval {R : CR} {a a' : Act} (h : ActR R a a') (hg : Gl G R) {x : Operand} (hx : okOperand G x = true) : VR R (a.eval x) (a'.eval x) := by
  cases x with
  | tmp t => exact h.tmps.getD t .undef
  | const v => exact VR.of_plain 60 v hx
  | global g => exact .ptr ⟨⟨_, hg g (by simpa [okOperand] using hx)⟩, rfl, rfl⟩
  | func f => exact .func (.func f) rfl (by simp) rfl (by simp)
theorem yielded_rel {R : CR} {ops : Array Oper} {t t' : Array Value} (h : ArrR R t t') : yielded ops t' = yielded ops t := by
  funext j
  unfold yielded
  cases hd : (ops[j]?.bind fun x => x.dst) with
  | none => rfl
  | some d =>
    simp only [Option.bind_some]
    cases hv : t[d]? with
    | none => rw [h.none hv]
    | some v =>
      obtain ⟨v', hv', hr⟩ := h.get hv
      rw [hv']
      cases hr <;> rfl

def Fr (rd : Option Nat) : Fence := { Fence.wide with round := rd }
/-- what a job's real counterpart does -/
def JobOk (P : Program) (R : CR) (A : AW) (w : World) (v : Value) (A' : AW) : Job → Prop
  | .call f x => ∀ x', ArrR R x x' → ∀ m, CallsIn Fence.wide m P f x' w fun e w' => ∃ R' v', e = .returned v' ∧ Ext R A w R' A' w' ∧ WR R' A' w' ∧ VR R' v v'
  | .round l x assign body => ∀ l' x', R l l' none → ArrR R x x' → ∀ f m, RoundIn Fence.wide m P l' f x' assign body w fun e w' => ∃ R' v', e = .returned v' ∧ Ext R A w R' A' w' ∧ WR R' A' w' ∧ VR R' v v'
def RecOk (P : Program) (G : List Nat) (call : Rec) : Prop := ∀ j A v A', call j A = some (v, A') → ∀ R w, WR R A w → Gl G R → JobOk P R A w v A' j

def Post (R : CR) (A : AW) (w : World) (e : Exit) (a1 : Act) (A1 : AW) (e' : Exit) (a' : Act) (w' : World) : Prop :=
  e' = e ∧ ∃ R', ActR R' a1 a' ∧ Ext R A w R' A1 w' ∧ WR R' A1 w'

theorem callsIn_fr {rd : Option Nat} {m : Nat} {f : FuncId} {x : Array Value} {w : World} {Q : Ending → World → Prop} (h : CallsIn Fence.wide m P f x w Q) : CallsIn (Fr rd) m P f x w Q := h
theorem roundIn_fr {rd : Option Nat} {m l : Nat} {f : FuncId} {x : Array Value} {c d : Code} {w : World} {Q : Ending → World → Prop} (h : RoundIn Fence.wide m P l f x c d w Q) : RoundIn (Fr rd) m P l f x c d w Q := h

theorem evOp_ok (hP : PC2 P) {call : Rec} (hc : RecOk P G call) {o : Oper} {a : Act} {A A1 : AW} {v : Value} (he : evOp P G call o a A = some (v, A1)) {R : CR} {w : World} (hw : WR R A w) (hg : Gl G R) {a' : Act}
    (hρ : ∀ x ∈ o.op.operands, okOperand G x = true → VR R (a.eval x) (a'.eval x)) (rd : Option Nat) (m : Nat) {K : Act → World → Prop} {Q : Exit → Act → World → Prop}
    (hK : ∀ R' v' w', Ext R A w R' A1 w' → WR R' A1 w' → VR R' v v' → K (a'.put o.dst v') w') : o.wpIn (Fr rd) m P a' w K Q := by
  unfold evOp at he
  split at he
  case isFalse => cases he
  rename_i hops
  have hops : ∀ x ∈ o.op.operands, okOperand G x = true := fun x hx => Array.all_eq_true_iff_forall_mem.1 hops x hx
  refine ⟨fun _ _ => trivial, ?_⟩
  cases ha : aop P a.eval o A with
  | none => rw [ha] at he; cases he
  | some r =>
    obtain ⟨nx, A2⟩ := r
    rw [ha] at he
    have hnd : ∀ c, o.op ≠ .defer c := fun c e => by
      unfold aop at ha; rw [e] at ha; cases ha
    rw [show (Fr rd).round = rd from rfl, Oper.semAt_eq rd _ o hnd]
    obtain ⟨R1, nx', w1, hr, hex, hw1, hn⟩ := op_follow hP hw o (fun x hx => hρ x hx (hops x hx)) nx A2 ha
    rw [hr]
    have hg1 := hg.mono hex.le
    cases hn with
    | value hv =>
      simp only [Option.some.injEq, Prod.mk.injEq] at he
      obtain ⟨rfl, rfl⟩ := he
      exact hK R1 _ w1 hex hw1 hv
    | skip =>
      simp only [Option.some.injEq, Prod.mk.injEq] at he
      obtain ⟨rfl, rfl⟩ := he
      exact hK R1 _ w1 hex hw1 .undef
    | @enter f x x' hx =>
      have hj := hc _ _ _ _ he R1 w1 hw1 hg1 x' hx (m - 1)
      refine ⟨(fun h => by cases h), (callsIn_fr (rd := rd) hj).mono fun e w2 h2 => ?_⟩
      obtain ⟨R2, v2, rfl, h3, h4, h5⟩ := h2
      exact hK R2 v2 w2 (hex.trans hw h3) h4 h5
    | @round l l' f f' x x' c d hl hx =>
      have hj := hc _ _ _ _ he R1 w1 hw1 hg1 l' x' hl hx f' (m - 1)
      refine ⟨(fun h => by cases h), (roundIn_fr (rd := rd) hj).mono fun e w2 h2 => ?_⟩
      obtain ⟨R2, v2, rfl, h3, h4, h5⟩ := h2
      exact hK R2 v2 w2 (hex.trans hw h3) h4 h5

theorem evOps_ok (hP : PC2 P) {call : Rec} (hc : RecOk P G call) (rd : Option Nat) (m : Nat) {ops : Array Oper} {Q : Exit → Act → World → Prop} :
    ∀ (l : List Oper) (k : Nat), (∀ j, l[j]? = ops[k + j]?) → ∀ {a : Act} {A : AW} {a1 : Act} {A1 : AW}, evOps P G call ops l a A = some (a1, A1) → ∀ {R : CR} {w : World} {a' : Act}, WR R A w → Gl G R → ActR R a a' →
    (∀ a2 w2, Post R A w .normal a1 A1 .normal a2 w2 → Q .normal a2 w2) → wpOpsIn (Fr rd) m P ops Q (List.range' k l.length) a' w
  | [], k, _, a, A, a1, A1, he, R, w, a', hw, hg, hr, hQ => by
    simp only [evOps, Option.some.injEq, Prod.mk.injEq] at he
    obtain ⟨rfl, rfl⟩ := he
    exact hQ _ _ ⟨rfl, R, hr, .refl _ _ _, hw⟩
  | o :: l, k, hl, a, A, a1, A1, he, R, w, a', hw, hg, hr, hQ => by
    have h0 : ops[k]? = some o := by simpa using (hl 0).symm
    have hl' : ∀ j, l[j]? = ops[k + 1 + j]? := fun j => by have := hl (j + 1); simpa [Nat.add_assoc, Nat.add_comm 1 j] using this
    simp only [List.length_cons, List.range'_succ]
    rw [wpOpsIn_cons]
    unfold wpOpIn
    simp only [h0]
    rw [yielded_rel hr.tmps]
    unfold evOps at he
    split at he
    · rename_i hwn
      rw [if_pos hwn]
      split at he
      case h_2 => cases he
      rename_i v A2 hop
      refine evOp_ok hP hc hop hw hg (fun x _ hx => hr.eval hg hx) rd m fun R2 v2 w2 hex hw2 hv => ?_
      refine evOps_ok hP hc rd m l (k + 1) hl' he hw2 (hg.mono hex.le) ((hr.mono hex.le).put o.dst hv) fun a3 w3 h3 => hQ _ _ ?_
      obtain ⟨_, R3, q1, q2, q3⟩ := h3
      exact ⟨rfl, R3, q1, hex.trans hw q2, q3⟩
    · rename_i hwn
      rw [if_neg hwn]
      exact ⟨fun _ _ => trivial, evOps_ok hP hc rd m l (k + 1) hl' he hw hg (hr.put o.dst .undef) hQ⟩

/-- a piece of code's real run follows -/
def CodeOk (P : Program) (G : List Nat) (rd : Option Nat) (c : Code) (r : Act → AW → Option (Exit × Act × AW)) : Prop :=
  ∀ a A e a1 A1, r a A = some (e, a1, A1) → ∀ R w a' rd', WR R A w → Gl G R → ActR R a a' → RdR R rd rd' → ∀ m, c.wpIn (Fr rd') m P (Post R A w e a1 A1) a' w
theorem Post.trans {R R1 : CR} {A A1 A2 : AW} {w w1 w2 : World} {e e' : Exit} {a1 a2 : Act} (hw : WR R A w) (h : Ext R A w R1 A1 w1) (k : Post R1 A1 w1 e a1 A2 e' a2 w2) : Post R A w e a1 A2 e' a2 w2 := by
  obtain ⟨h0, R2, h1, h2, h3⟩ := k
  exact ⟨h0, R2, h1, h.trans hw h2, h3⟩
theorem evLoop_ok {rd : Option Nat} {c : Code} {r : Act → AW → Option (Exit × Act × AW)} (h : CodeOk P G rd c r) : ∀ n, CodeOk P G rd (.loop c) (evLoop r n) := by
  intro n a A e a1 A1 he R w a' rd' hw hg hr hrd m
  refine wpIn_loop_rounds n ?_
  induction n generalizing a A R w a' with
  | zero => cases he
  | succ n ih =>
    rw [roundsIn_succ]
    unfold evLoop at he
    split at he
    · rename_i a2 A2 h2
      refine wpIn_mono (h _ _ _ _ _ h2 R w a' rd' hw hg hr hrd m) fun e' a3 w3 h3 => ?_
      obtain ⟨rfl, R3, q1, q2, q3⟩ := h3
      have := ih a2 A2 he R3 w3 a3 q3 (hg.mono q2.le) q1 (hrd.mono q2.le)
      have mono : ∀ (n : Nat) (a : Act) (w' : World), Code.roundsIn (Fr rd') m P c (Post R3 A2 w3 e a1 A1) n a w' → Code.roundsIn (Fr rd') m P c (Post R A w e a1 A1) n a w' := by
        intro n
        induction n with
        | zero => intro _ _ h; exact h.elim
        | succ n ih2 =>
          intro a w' h
          rw [roundsIn_succ] at h ⊢
          refine wpIn_mono h fun e a w' h => ?_
          cases e with
          | normal => exact ih2 _ _ h
          | _ => exact Post.trans hw q2 h
      exact mono _ _ _ this
    · rename_i hno
      refine wpIn_mono (h _ _ _ _ _ he R w a' rd' hw hg hr hrd m) fun e' a3 w3 h3 => ?_
      obtain ⟨rfl, h4⟩ := h3
      cases e' with
      | normal => exact absurd he (hno _ _)
      | _ => exact ⟨rfl, h4⟩
end Go.Can
