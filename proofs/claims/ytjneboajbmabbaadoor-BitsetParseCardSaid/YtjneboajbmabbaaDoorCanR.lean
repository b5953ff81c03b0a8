/-
  The real run follows the canonical evaluator: a range over a function; calls; the whole.
-/
import Derived.Test.YtjneboajbmabbaaDoorCanQ
set_option linter.unusedSimpArgs false
set_option linter.unusedVariables false
namespace Go.Can
variable {P : Program} {G : List Nat} {R0 : CR}

theorem l2_defers {R R' : CR} (h : CR.le R R') {x x' : List Deferred} (k : L2 (DefR R) x x') : L2 (DefR R') x x' := k.mono fun _ _ y => y.mono h

theorem sim_enterLoop (f : FuncId) {t t' : Array Value} (ps : Array Tmp) (assign body : Code) {rd rd' : Option Nat} (ht : ArrR R0 t t') (hrd : RdR R0 rd rd') :
    Sim P R0 (fun R x y => R x.1 y.1 none ∧ L2 (DefR R) x.2 y.2) (Instr.enterLoop 0 t ps assign body rd) (Instr.enterLoop f t' ps assign body rd') := by
  unfold Instr.enterLoop
  have fin : ∀ {R1 : CR} (d d' : Nat) (k k' : List Deferred), CR.le R0 R1 → R1 d d' none → L2 (DefR R1) k k' → Sim P R1 (fun R x y => R x.1 y.1 none ∧ L2 (DefR R) x.2 y.2)
      (do pure (← newObj (.loop { state := .ready, pending := none, fn := 0, tmps := t, params := ps, assign, body, defers := d }), k))
      (do pure (← newObj (.loop { state := .ready, pending := none, fn := f, tmps := t', params := ps, assign, body, defers := d' }), k')) := by
    intro R1 d d' k k' hle hd hk
    refine sim_bind (sim_newObj (.loop ⟨rfl, rfl, trivial, ht.mono hle, rfl, rfl, rfl, hd⟩)) fun R2 hle2 r r' hr => ?_
    exact sim_pure fun R3 hle3 => ⟨hle3 _ _ _ hr, l2_defers (CR.le_trans hle2 hle3) hk⟩
  cases hrd with
  | none =>
    dsimp only
    refine sim_bind (sim_newObj (.deferred (some []) (.inr rfl))) fun R1 hle1 r r' hr => ?_
    refine sim_bind (S := fun R x y => R x.1 y.1 none ∧ L2 (DefR R) x.2 y.2) (sim_pure fun R2 hle2 => ⟨hle2 _ _ _ hr, .cons (.mk (hle2 _ _ _ hr)) .nil⟩) fun R2 hle2 x y hxy => ?_
    exact fin _ _ _ _ (CR.le_trans hle1 hle2) hxy.1 hxy.2
  | some hl =>
    dsimp only
    refine sim_bind (S := fun R a b => LoopR R a b) ?_ fun R1 hle1 r r' hr => ?_
    · unfold Instr.getLoop
      refine sim_bind (sim_getObj hl) fun R1 hle1 o o' ⟨ho, _⟩ => ?_
      cases ho with
      | loop hx => exact sim_pure fun R2 hle2 => (by cases (OR.loop hx).mono hle2 with | loop x => exact x)
      | _ => exact sim_halt
    · refine sim_bind (S := fun R x y => R x.1 y.1 none ∧ L2 (DefR R) x.2 y.2) (sim_pure fun R2 hle2 => ⟨hle2 _ _ _ hr.defers, .nil⟩) fun R2 hle2 x y hxy => ?_
      exact fin _ _ _ _ (CR.le_trans hle1 hle2) hxy.1 hxy.2
theorem sim_getLoop {l l' : Nat} (h : R0 l l' none) : Sim P R0 (fun R a b => LoopR R a b) (Instr.getLoop l) (Instr.getLoop l') := by
  unfold Instr.getLoop
  refine sim_bind (sim_getObj h) fun R1 hle1 o o' ⟨ho, _⟩ => ?_
  cases ho with
  | loop hx => exact sim_pure fun R2 hle2 => (by cases (OR.loop hx).mono hle2 with | loop x => exact x)
  | _ => exact sim_halt
theorem sim_endLoop {l l' : Nat} (h : R0 l l' none) : Sim P R0 EqS (Instr.endLoop l) (Instr.endLoop l') := by
  unfold Instr.endLoop
  refine sim_bind (sim_getLoop h) fun R1 hle1 r r' hr => ?_
  rw [hr.state]
  split
  · exact sim_bind (S := fun _ _ _ => False) (sim_runtimePanic _) fun _ _ _ _ h => h.elim
  · refine sim_bind (sim_setObj (hle1 _ _ _ h) (.loop ⟨rfl, hr.pending, trivial, hr.tmps, hr.params, hr.assign, hr.body, hr.defers⟩)) fun R2 hle2 _ _ _ => ?_
    rw [hr.pending]
    exact sim_pureEq _
theorem sim_beginRound {l l' : Nat} (h : R0 l l' none) : Sim P R0 EqS (Instr.beginRound l) (Instr.beginRound l') := by
  unfold Instr.beginRound
  refine sim_bind (sim_getLoop h) fun R1 hle1 r r' hr => ?_
  refine sim_bind (sim_setObj (hle1 _ _ _ h) (.loop ⟨rfl, hr.pending, trivial, hr.tmps, hr.params, hr.assign, hr.body, hr.defers⟩)) fun R2 hle2 _ _ _ => ?_
  rw [hr.state]
  cases r.state with
  | ready => exact sim_pureEq _
  | _ => exact sim_runtimePanic _
theorem sim_endRound {l l' : Nat} (j : Option Code) (h : R0 l l' none) : Sim P R0 VR (Instr.endRound l j) (Instr.endRound l' j) := by
  unfold Instr.endRound
  refine sim_bind (sim_getLoop h) fun R1 hle1 r r' hr => ?_
  refine sim_bind (sim_setObj (hle1 _ _ _ h) (.loop ⟨rfl, rfl, trivial, hr.tmps, hr.params, hr.assign, hr.body, hr.defers⟩)) fun R2 hle2 _ _ _ => ?_
  exact sim_pure fun _ _ => .bool _
theorem sim_takeDeferred {l l' : Nat} (h : R0 l l' none) : Sim P R0 (fun _ a b => a = [] → b = []) (Instr.takeDeferred l) (Instr.takeDeferred l') := by
  unfold Instr.takeDeferred
  refine sim_bind (sim_getObj h) fun R1 hle1 o o' ⟨ho, _⟩ => ?_
  cases ho with
  | deferred d hd =>
    rcases hd with rfl | rfl
    · exact sim_halt
    · exact sim_bind (sim_setObj (hle1 _ _ _ h) (.deferred none (.inl rfl))) fun R2 hle2 _ _ _ => sim_pure fun _ _ _ => rfl
  | _ => exact sim_halt

theorem evJump_ok {rd : Option Nat} {c : Code} : CodeOk P G rd c (evJump c) := by
  intro a A e a1 A1 he R w a' rd' hw hg hr hrd m
  cases c <;> first | (cases he; done) | skip
  case ret => cases he; exact wpIn_ret ⟨rfl, R, hr, .refl _ _ _, hw⟩
  case exit id => cases he; exact wpIn_exit ⟨rfl, R, hr, .refl _ _ _, hw⟩
  case goto l => cases he; exact wpIn_goto ⟨rfl, R, hr, .refl _ _ _, hw⟩
theorem evRange_ok (hP : PC2 P) {call : Rec} (hc : RecOk P G call) (rd : Option Nat) (g : Operand) (ps : Array Tmp) (assign body : Code) : CodeOk P G rd (.rangeFunc g ps assign body) (evRange P G call rd g ps assign body) := by
  intro a A e a1 A1 he R w a' rd' hw hg hr hrd m
  unfold evRange at he
  split at he
  case isFalse => cases he
  rename_i hgo
  have hvg := hr.eval hg hgo
  split at he
  case h_2 => cases he
  rename_i l mark A2 hen
  split at he
  case h_2 => cases he
  rename_i f first captured hfv
  split at he
  case isFalse => cases he
  rename_i hbody
  split at he
  case h_2 => cases he
  rename_i v A3 hcall
  refine wpIn_rangeFunc fun fn _ => ?_
  obtain ⟨R1, ⟨l', mark'⟩, w1, q1, q2, q3, q4⟩ := sim_enterLoop (P := P) fn ps assign body hr.tmps hrd R A w (CR.le_refl _) hw _ _ hen
  obtain ⟨hl, hmk⟩ := q4
  simp only at hl hmk
  rw [hfv] at hvg
  obtain ⟨first', captured', hv', hf1, hc1⟩ : ∃ first' captured', a'.eval g = .func (.func f) first' captured' ∧ ArrR R first first' ∧ ArrR R captured captured' := by
    cases hv : a'.eval g <;> rw [hv] at hvg <;> cases hvg
    rename_i hfn hx hxs hy hys
    cases hfn
    exact ⟨_, _, rfl, ⟨hx, hxs⟩, ⟨hy, hys⟩⟩
  have hargs : ArrR R1 (first ++ #[.func (.yield l) #[] #[]] ++ captured) (first' ++ #[.func (.yield l') #[] #[]] ++ captured') := by
    refine ((hf1.mono q2.le).append ?_).append (hc1.mono q2.le)
    have : VR R1 (.func (.yield l) #[] #[]) (.func (.yield l') #[] #[]) := .func (.yield hl) rfl (by simp) rfl (by simp)
    simpa using ArrR.nil.push this
  have hen2 : Follows P R1 A2 w1 NextR (goEnter P f (first ++ #[.func (.yield l) #[] #[]] ++ captured) A2) (callFunc f (first' ++ #[.func (.yield l') #[] #[]] ++ captured')) := enter_follow hP q3 hargs
  obtain ⟨R1', nx, w1', s1, s2, s3, s4⟩ := hen2 (.enter f (first ++ #[.func (.yield l) #[] #[]] ++ captured)) A2 (by simp [goEnter, hbody])
  have hj := hc _ _ _ _ hcall R1' w1' s3 (hg.mono (CR.le_trans q2.le s2.le))
  cases s4 with
  | @enter _ x x' hx =>
  refine ⟨l', mark', w1, (⟨.fn (.func f) captured', first' ++ #[Value.func (.yield l') #[] #[]]⟩ : Deferred), w1, f, x', w1', q1, ?_, fun _ _ => trivial, ?_, (fun h => by cases h), ?_⟩
  · simp only [resolve, rangeCall, hv', Deferred.ofValue]
    simp [Act.eval]
  · unfold invoke; exact s1
  · refine (callsIn_fr (rd := rd') (hj x' hx (m - 1))).mono fun e' w2 h2 => ?_
    obtain ⟨R2, v2, rfl, h3, h4, h5⟩ := h2
    have hle2 : CR.le R R2 := CR.le_trans q2.le (CR.le_trans s2.le h3.le)
    have hact : ∀ R3, CR.le R2 R3 → ActR R3 { a with defers := mark ++ a.defers } { a' with defers := mark' ++ a'.defers } := by
      intro R3 hle3
      refine ⟨hr.tmps.mono (CR.le_trans hle2 hle3), ?_⟩
      have h1 := l2_defers (CR.le_trans s2.le (CR.le_trans h3.le hle3)) hmk
      have h2 := l2_defers (CR.le_trans hle2 hle3) hr.defers
      have app : ∀ (a b c d : List Deferred), L2 (DefR R3) a b → L2 (DefR R3) c d → L2 (DefR R3) (a ++ c) (b ++ d) := by
        intro a b c d hab hcd
        induction hab with
        | nil => exact hcd
        | cons h _ ih => exact .cons h ih
      exact app _ _ _ _ h1 h2
    have hex : Ext R A w R2 A3 w2 := q2.trans hw (s2.trans q3 (h3))
    split at he
    · rename_i A4 hend
      cases he
      obtain ⟨R3, j, w3, t1, t2, t3, t4⟩ := sim_endLoop (P := P) (R0 := R2) (CR.le_trans s2.le h3.le _ _ _ hl) R2 A3 w2 (CR.le_refl _) h4 _ _ hend
      obtain rfl : j = none := t4
      exact ⟨none, w3, t1, rfl, R3, hact R3 t2.le, hex.trans hw t2, t3⟩
    · rename_i c A4 hend
      obtain ⟨R3, j, w3, t1, t2, t3, t4⟩ := sim_endLoop (P := P) (R0 := R2) (CR.le_trans s2.le h3.le _ _ _ hl) R2 A3 w2 (CR.le_refl _) h4 _ _ hend
      obtain rfl : j = some c := t4
      refine ⟨some c, w3, t1, ?_⟩
      refine wpIn_mono (evJump_ok (rd := rd) _ _ _ _ _ he R3 w3 _ rd' t3 (hg.mono (CR.le_trans hle2 t2.le)) (hact R3 t2.le) (hrd.mono (CR.le_trans hle2 t2.le)) m) fun e' a3 w4 h => ?_
      exact Post.trans hw (hex.trans hw t2) h
    · cases he
end Go.Can
