/-
  The real operation follows the canonical one.
-/
import Derived.Test.YtjneboajbmabbaaDoorCanN
set_option linter.unusedSimpArgs false
set_option linter.unusedVariables false
namespace Go.Can
variable {P : Program} {R : CR} {A : AW} {w : World}

theorem map_rel {ρ ρ' : Operand → Value} (l : Array Operand) (h : ∀ x ∈ l, VR R (ρ x) (ρ' x)) : ArrR R (l.map ρ) (l.map ρ') := by
  refine ⟨by simp, fun i v v' hv hv' => ?_⟩
  simp only [Array.getElem?_map, Option.map_eq_some_iff] at hv hv'
  obtain ⟨a, ha, rfl⟩ := hv
  obtain ⟨b, hb, rfl⟩ := hv'
  rw [ha] at hb; cases hb
  exact h _ (Array.mem_of_getElem? ha)
theorem pairs_rel {ρ ρ' : Operand → Value} (l : Array (Nat × Operand)) (h : ∀ x ∈ l.map (·.2), VR R (ρ x) (ρ' x)) : L2 (PairR R) (l.map fun (i, x) => (i, ρ x)).toList (l.map fun (i, x) => (i, ρ' x)).toList := by
  refine L2.of_get _ _ (by simp) fun i a b ha hb => ?_
  simp only [Array.getElem?_toList, Array.getElem?_map, Option.map_eq_some_iff] at ha hb
  obtain ⟨p, hp, rfl⟩ := ha
  obtain ⟨q, hq, rfl⟩ := hb
  rw [hp] at hq; cases hq
  exact ⟨rfl, h _ (Array.mem_map.2 ⟨_, Array.mem_of_getElem? hp, rfl⟩)⟩
theorem opt_rel {ρ ρ' : Operand → Value} (l : Option Operand) (h : ∀ x, l = some x → VR R (ρ x) (ρ' x)) : OptR R (l.map ρ) (l.map ρ') := by
  cases l with
  | none => exact .none
  | some x => exact .some (h x rfl)
theorem firm_of (hw : WR R A w) {x x' : Value} (h : VR R x x') (hf : firmIn A x = true) : Firm R x x' := by
  refine ⟨fun a n c e => ?_, fun a e => ?_⟩
  · subst e
    simp only [firmIn, Bool.and_eq_true, Option.isNone_iff_eq_none] at hf
    cases h
    case slice a' c' l hl ho hs hc =>
      have := hw.loose _ _ _ hl hf.1
      rw [hf.2] at this
      cases l with
      | none => have e : c' = c := hc; subst e; exact ⟨a', rfl, hl, ho, hs⟩
      | some p => cases this
  · subst e
    simp only [firmIn, Bool.and_eq_true, Option.isNone_iff_eq_none] at hf
    cases h
    case ptr a' ha =>
      obtain ⟨l, hl⟩ := ha.bl
      have := hw.loose _ _ _ hl hf.1
      rw [hf.2] at this
      cases l with
      | none => exact ⟨a', rfl, hl, ha.off, ha.spot⟩
      | some p => cases this
theorem cap_follow (hw : WR R A w) {ts : Array TypeId} {t t0 : TypeId} {args' : Array Value} {x x' : Value} (h0 : ts[0]? = some t0) (h1 : args'[0]? = some x') (h : VR R x x') : Follows P R A w VR (capOn P t0 x A) (Builtin.cap_ ts t args') := by
  intro v A' ha
  unfold capOn at ha
  split at ha
  case h_2 => cases ha
  rename_i e b n c hu
  split at ha
  case isFalse => cases ha
  rename_i hf
  simp only [Option.some.injEq, Prod.mk.injEq] at ha
  obtain ⟨rfl, rfl⟩ := ha
  have hF := firm_of hw h hf
  have : ∃ b', x' = .slice b' n c := by
    cases h
    case nilSlice => exact ⟨_, rfl⟩
    case slice a a' c' l hl ho hs hc => obtain ⟨a2, e2, _⟩ := hF.slice _ _ _ rfl; exact ⟨_, e2⟩
  obtain ⟨b', rfl⟩ := this
  refine ⟨R, goInt c, w, ?_, .refl _ _ _, hw, .int _ _⟩
  simp [Builtin.cap_, h0, h1, run_underlying hu]
theorem slice_follow (hw : WR R A w) (t : TypeId) {x x' : Value} {lo lo' hi hi' mx mx' : Option Value} (h : VR R x x') (h1 : OptR R lo lo') (h2 : OptR R hi hi') (h3 : OptR R mx mx') :
    Follows P R A w VR (sliceOn P t x lo hi mx A) (Instr.sliceAt t x' lo' hi' mx') := by
  unfold sliceOn
  split
  · exact .none
  rename_i hnp
  split
  · rename_i hf
    exact .of_sim hw (sim_sliceAt t (fun e he => hnp e he) h (firm_of hw h hf) h1 h2 h3)
  split
  case h_3 => exact .none
  case h_2 =>
    rename_i a n c mv _
    cases h3
    rename_i mv' hmv
    split
    case h_2 => exact .none
    rename_i s hs
    split
    case isFalse => exact .none
    rename_i hck
    simp only [Bool.and_eq_true] at hck
    cases h
    case slice a' c' l hl ho hsp hc =>
      have hlab := hw.loose _ _ _ hl hck.1
      rw [hs] at hlab
      exact .of_sim hw (sim_sliceLoose3 (P := P) (R0 := R) t (n := n) hl ho hsp hc (fun e s2 N sz he hlb hsz => by
        subst hlb
        simp only [Option.map_some, Option.some.injEq] at hlab
        subst hlab
        have := hck.2
        simp only [sizeIs, he] at this
        cases hi : P.info? e with
        | none => rw [hi] at hsz; cases hsz
        | some i => rw [hi] at this hsz; simp at hsz this; omega) h1 h2 hmv)
  rename_i a n c _
  cases h3
  split
  case h_2 => exact .none
  rename_i s hs
  split
  case isFalse => exact .none
  rename_i hck
  simp only [Bool.and_eq_true] at hck
  cases h
  case slice a' c' l hl ho hsp hc =>
    intro v A' ha
    split at ha
    case h_2 => cases ha
    rename_i b k m A2 hrun
    split at ha
    · cases ha
    rename_i hm
    cases ha
    have hlab := hw.loose _ _ _ hl hck.1
    rw [hs] at hlab
    obtain ⟨R', v', w', q1, q2, q3, q4⟩ := sim_sliceLoose (P := P) (R0 := R) t (n := n) hl ho hsp hc (fun e s2 N sz he hlb hsz => by
      subst hlb
      simp only [Option.map_some, Option.some.injEq] at hlab
      subst hlab
      have := hck.2
      simp only [sizeIs, he] at this
      cases hi : P.info? e with
      | none => rw [hi] at hsz; cases hsz
      | some i => rw [hi] at this hsz; simp at hsz this; omega) h1 h2 R A w (CR.le_refl _) hw _ _ hrun
    exact ⟨R', v', w', q1, q2, q3, q4 _ _ _ rfl (by simpa using hm)⟩
theorem yield_follow (hw : WR R A w) {l l' : Nat} (h : R l l' none) {x x' : Array Value} (hx : ArrR R x x') : Sim P R NextR (Instr.yield l x) (Instr.yield l' x') := by
  unfold Instr.yield Instr.getLoop
  refine sim_bind (S := fun R a b => LoopR R a b) ?_ fun R1 hle1 r r' hr => ?_
  · refine sim_bind (sim_getObj h) fun R1 hle1 o o' ⟨ho, _⟩ => ?_
    cases ho with
    | loop hl => exact sim_pure fun R2 hle2 => (by cases (OR.loop hl).mono hle2 with | loop x => exact x)
    | _ => exact sim_halt
  · rw [hr.params, hx.size]
    split
    · exact sim_halt
    · refine sim_pure fun R2 hle2 => ?_
      have hle := CR.le_trans hle1 hle2
      rw [hr.assign, hr.body]
      refine .round _ _ (hle _ _ _ h) ?_
      have ht := hr.tmps.mono hle2
      have hx2 := hx.mono hle
      rw [← Array.foldl_toList, ← Array.foldl_toList, Array.toList_zip, Array.toList_zip]
      have go : ∀ (ps : List Tmp) (a b : List Value) (c d : Array Value), L2 (VR R2) a b → ArrR R2 c d → ArrR R2 ((ps.zip a).foldl (fun tmps (t, a) => tmps.setIfInBounds t a) c) ((ps.zip b).foldl (fun tmps (t, a) => tmps.setIfInBounds t a) d) := by
        intro ps
        induction ps with
        | nil => intro a b c d _ hc; simpa using hc
        | cons p ps ih =>
          intro a b c d hab hc
          cases hab with
          | nil => simpa using hc
          | cons h0 t0 => simp only [List.zip_cons_cons, List.foldl_cons]; exact ih _ _ _ _ t0 (hc.set _ h0)
      exact go _ _ _ _ _ hx2.l2 ht
theorem enter_follow (hP : PC2 P) (hw : WR R A w) {f : FuncId} {x x' : Array Value} (hx : ArrR R x x') : Follows P R A w NextR (goEnter P f x A) (callFunc f x') := by
  unfold goEnter
  split
  case isFalse => exact .none
  rename_i hb
  unfold hasBody at hb
  cases hf : P.funcs[f]? with
  | none => rw [hf] at hb; cases hb
  | some fn =>
    rw [hf] at hb
    have hn := hP.names f fn hf hb
    refine .now hw (b := .enter f x') ?_ (.enter f hx)
    have hb2 : fn.body ≠ none := by intro e; have hb : fn.body.isSome = true := hb; rw [e] at hb; cases hb
    have hn2 : fn.name ≠ "runtime.NumGoroutine" := by simpa using hn
    simp [callFunc, hf, hn2, hb2]
theorem builtin_follow (hP : PC2 P) (hw : WR R A w) (b : Builtin) (ts : Array TypeId) (t : TypeId) (cs : Array Bool) {x x' : Array Value} (h : ArrR R x x') : Follows P R A w NextR (builtinOn P b ts t x A) (builtin b ts t cs x') := by
  have same : x.all (plainV 60) = true → x' = x := fun hp => by
    have := VR.plain_eq (R := R) 61 (.agg x) (.agg x') (by simpa [plainV] using hp) (VR.agg' h)
    simpa using this
  cases b <;> try exact .none
  case len => exact .av hw (sim_len t h)
  case copy => exact .av hw (sim_copy t h)
  case delete => exact .av hw (sim_delete ts t h)
  case clear =>
    unfold builtinOn
    dsimp only
    split
    · rename_i t0 h0
      split
      · rename_i he
        exact .av hw (sim_clear hP.toPC t h0 (fun e hu => by unfold elemKnown at he; rw [hu] at he; exact of_decide_eq_true he) h)
      · exact .none
    · exact .none
  case min =>
    unfold builtinOn
    dsimp only
    split
    · rename_i hp
      rw [same hp]
      exact .av hw (sim_dryV fun a ha => ha)
    · exact .none
  case max =>
    unfold builtinOn
    dsimp only
    split
    · rename_i hp
      rw [same hp]
      exact .av hw (sim_dryV fun a ha => ha)
    · exact .none
  case cap =>
    unfold builtinOn
    dsimp only
    split
    · rename_i t0 y h0 h1
      obtain ⟨y', hy', hr⟩ := h.get h1
      exact .vv (cap_follow hw h0 hy' hr)
    · exact .none
  case append =>
    unfold builtinOn
    dsimp only
    split
    · rename_i t0 t1 b n c y e1 e2
      have hts : ts = #[t0, t1] := by apply Array.ext'; simpa using e1
      have hxs : x = #[.slice b n c, y] := by apply Array.ext'; simpa using e2
      subst hts; subst hxs
      have hs := h.size
      obtain ⟨s', hs0, hsr⟩ := h.get (i := 0) (v := .slice b n c) rfl
      obtain ⟨y', hy0, hyr⟩ := h.get (i := 1) (v := y) rfl
      have hx' : x' = #[s', y'] := by
        refine Array.ext (by simpa using hs) fun i h1 h2 => ?_
        simp at h2
        rcases Nat.lt_or_ge i 1 with hi | hi
        · obtain rfl : i = 0 := by omega
          simpa [Array.getElem?_eq_getElem h1] using hs0
        · obtain rfl : i = 1 := by omega
          simpa [Array.getElem?_eq_getElem h1] using hy0
      subst hx'
      exact .vv fun v A' ha => append_follow hP.zs rfl hw hsr hyr ha
    · exact .none
theorem call_follow (hP : PC2 P) (hw : WR R A w) {ρ ρ' : Operand → Value} (c : Call) (t : TypeId) (h : ∀ x ∈ c.operands, VR R (ρ x) (ρ' x)) :
    Follows P R A w NextR (callOn P ρ c t A) (do let d ← resolve ρ' c t; invoke d.target d.args) := by
  have hargs : ArrR R (c.args.map ρ) (c.args.map ρ') := map_rel _ fun x hx => h x (by simp [Call.operands, hx])
  unfold callOn
  cases hc : c.callee with
  | builtin b =>
    dsimp only
    have e : (do let d ← resolve ρ' c t; invoke d.target d.args) = builtin b c.argTypes t (c.args.map fun | .const _ => true | _ => false) (c.args.map ρ') := by
      unfold resolve
      simp only [hc]
      rfl
    rw [e]
    exact builtin_follow hP hw b _ _ _ hargs
  | value f =>
    have hf : VR R (ρ f) (ρ' f) := h f (by simp [Call.operands, hc])
    dsimp only
    have e : (do let d ← resolve ρ' c t; invoke d.target d.args) = (do let d ← Deferred.ofValue (ρ' f) (c.args.map ρ'); invoke d.target d.args) := by
      unfold resolve
      simp only [hc]
    rw [e]
    split
    · rename_i g first captured hg
      rw [hg] at hf
      cases hρ : ρ' f <;> rw [hρ] at hf <;> cases hf
      rename_i hfn hx hxs hy hys
      cases hfn
      exact enter_follow hP hw ((ArrR.append ⟨hx, hxs⟩ hargs).append ⟨hy, hys⟩)
    · rename_i l first captured hg
      rw [hg] at hf
      cases hρ : ρ' f <;> rw [hρ] at hf <;> cases hf
      rename_i hfn hx hxs hy hys
      cases hfn
      rename_i l' hl
      exact .of_sim hw (yield_follow hw hl (ArrR.append ⟨hx, hxs⟩ hargs))
    · exact .none
  | invoke recv name =>
    have hf : VR R (ρ recv) (ρ' recv) := h recv (by simp [Call.operands, hc])
    dsimp only
    have e : (do let d ← resolve ρ' c t; invoke d.target d.args) = callMethod (ρ' recv) name (c.args.map ρ') := by
      unfold resolve
      simp only [hc]
      show invoke (.fn (.method name) #[]) (#[ρ' recv] ++ c.args.map ρ') = _
      unfold invoke
      have e0 : (#[ρ' recv] ++ c.args.map ρ')[0]? = some (ρ' recv) := by simp [Array.getElem?_append]
      have e1 : (#[ρ' recv] ++ c.args.map ρ').extract 1 (#[ρ' recv] ++ c.args.map ρ').size = c.args.map ρ' := by
        apply Array.ext_getElem?
        intro i
        simp only [Array.getElem?_extract, Array.getElem?_append]
        simp
        intro hi
        rw [Array.getElem?_eq_none (by simpa using hi)]
        rfl
      simp only [e0, e1]
    rw [e]
    split
    · rename_i u v hg
      rw [hg] at hf
      cases hρ : ρ' recv <;> rw [hρ] at hf <;> cases hf
      rename_i v' hv
      intro nx A' ha
      split at ha
      case h_2 => cases ha
      rename_i f r A1 hm
      obtain ⟨R1, ⟨f', r'⟩, w1, q1, q2, q3, q4⟩ := sim_method (P := P) _ u name hv R A w (CR.le_refl _) hw _ _ hm
      obtain ⟨e1, e2⟩ := q4
      simp only at e1 e2
      subst e1
      have hx2 : ArrR R1 (#[r] ++ c.args.map ρ) (#[r'] ++ c.args.map ρ') := ArrR.append (by simpa using ArrR.nil.push e2) (hargs.mono q2.le)
      obtain ⟨R2, n2, w2, s1, s2, s3, s4⟩ := enter_follow hP q3 hx2 nx A' ha
      refine ⟨R2, n2, w2, ?_, q2.trans hw s2, s3, s4⟩
      simp only [callMethod, Sem.run_bind, run_program, Result.andThen_ok, q1, s1]
    · exact .none
theorem op_follow (hP : PC2 P) (hw : WR R A w) {ρ ρ' : Operand → Value} (o : Oper) (h : ∀ x ∈ o.op.operands, VR R (ρ x) (ρ' x)) : Follows P R A w NextR (aop P ρ o A) (execOp ρ' o) := by
  have hpc : PC P := hP.toPC
  obtain ⟨dst, op, type, pos, after, guard⟩ := o
  unfold aop execOp
  cases op <;> try exact .none
  all_goals simp only [Op.operands] at h
  case move x => exact .now hw rfl (.value (h x (by simp)))
  case assign x => exact .now hw rfl (.value (h x (by simp)))
  case pick c a b =>
    have hc := h c (by simp)
    have ha := h a (by simp)
    have hb := h b (by simp)
    dsimp only
    split
    · rename_i t ht
      rw [ht] at hc
      have e : ρ' c = .bool t := by cases hρ : ρ' c <;> rw [hρ] at hc <;> cases hc; rfl
      refine .now hw (b := .value (if t then ρ' a else ρ' b)) ?_ (.value ?_)
      · rw [e]; cases t <;> rfl
      · cases t
        · exact hb
        · exact ha
    · exact .none
  case alloc t =>
    dsimp only
    split
    · rename_i ht; exact .av hw (sim_allocOp hpc t (by simpa using ht))
    · exact .none
  case box t x => exact .av hw (sim_boxOp t (h x (by simp)))
  case build t ps =>
    dsimp only
    split
    case isFalse => exact .none
    rename_i ht
    exact .av hw (sim_build hpc t (by simpa using ht) (pairs_rel ps fun x hx => h x (by simpa using hx)))
  case buildSlice t n ps =>
    dsimp only
    split
    case isFalse => exact .none
    rename_i ht
    exact .av hw (sim_buildSlice hpc t (fun e he => by simpa [elemKnown, he] using ht) n (pairs_rel ps fun x hx => h x (by simpa using hx)))
  case load t a => exact .av hw (sim_loadAt t (h a (by simp)))
  case store t a x => exact .au hw (sim_storeAt t (h a (by simp)) (h x (by simp)))
  case nilCheck x =>
    have hx := h x (by simp)
    dsimp only
    revert hx
    generalize ρ x = v
    generalize ρ' x = v'
    intro hx
    cases hx <;> first | exact .none | skip
    case func f f' x x' y y' hf hx hxs hy hys =>
      cases hf <;> first | exact .none | exact .now hw rfl (.value (.func (by first | exact .yield (by assumption) | constructor) hx hxs hy hys))
    all_goals exact .now hw rfl (.value (by first | (constructor; done) | (constructor <;> assumption)))
  case binOp op t x y yt =>
    have hx := h x (by simp)
    have hy := h y (by simp)
    dsimp only
    split
    · rename_i hp
      simp only [Bool.and_eq_true] at hp
      rw [VR.plain_eq 60 _ _ hp.1 hx, VR.plain_eq 60 _ _ hp.2 hy]
      exact .av hw (sim_dryV fun a ha => ha)
    · exact .av hw (sim_nilEq op t x y hx hy)
  case unOp op t x =>
    have hx := h x (by simp)
    dsimp only
    split
    · rename_i hp
      rw [VR.plain_eq 60 _ _ hp hx]
      exact .av hw (sim_dryV fun a ha => ha)
    · exact .none
  case convert s d x =>
    have hx := h x (by simp)
    dsimp only
    split
    · rename_i a n c hv
      split
      case isFalse => exact .none
      rename_i hck
      rw [hv] at hx
      rw [← hv] at hx ⊢
      have hsl : (∃ e, P.underlying s = some (.slice e) ∧ P.underlying e = some (.int .u8)) ∧ P.underlying d = some .string := by
        unfold bytesLike at hck
        split at hck
        · rename_i e h1 h2
          split at hck
          · rename_i h3; exact ⟨⟨e, h1, h3⟩, h2⟩
          · cases hck
        · cases hck
      exact .av hw (sim_convBytes s d hx ⟨_, _, _, hv⟩ hsl.1 hsl.2)
    · rename_i b hv
      rw [hv] at hx
      have e : ρ' x = .string b := by cases hρ : ρ' x <;> rw [hρ] at hx <;> cases hx; rfl
      rw [e]
      split
      · exact .vv fun v A' ha => bytes_follow hw ha
      · exact .av hw (sim_dryV fun a ha => ha)
    · split
      · rename_i hp
        rw [VR.plain_eq 60 _ _ hp hx]
        exact .av hw (sim_dryV fun a ha => ha)
      · exact .none
  case makeInterface t x =>
    have hx := h x (by simp)
    dsimp only
    split
    · exact .none
    · exact .none
    · rename_i h1 h2
      cases hd : P.underlying t with
      | none => exact absurd hd h2
      | some d =>
        refine .now hw (b := .value (.iface t (ρ' x))) ?_ (.value (.iface t hx))
        have : (Instr.makeInterface t (ρ' x)).run P w = .ok (.iface t (ρ' x)) w := by
          unfold Instr.makeInterface
          simp only [Sem.run_bind, run_underlying hd, Result.andThen_ok]
          cases d <;> first | rfl | exact absurd hd (h1 _)
        simp [this]
  case makeFunc fn first captured =>
    cases fn <;> try exact .none
    rename_i f
    have h1 := map_rel (R := R) (ρ := ρ) (ρ' := ρ') first fun x hx => h x (by simp [hx])
    have h2 := map_rel (R := R) (ρ := ρ) (ρ' := ρ') captured fun x hx => h x (by simp [hx])
    exact .now hw rfl (.value (.func (.func f) h1.size h1.at_ h2.size h2.at_))
  case makeMap t r =>
    have hm : ∀ (x y : Option Value), y = x → (x = none ∨ ∃ k n, x = some (.int k n)) → Sim P R VR (Instr.makeMap t x) (Instr.makeMap t y) := by
      intro x y hxy hx
      subst hxy
      unfold Instr.makeMap
      have mk : ∀ {R1 : CR}, Sim P R1 VR (do pure (.map (some (← newObj (.map #[] 0))))) (do pure (.map (some (← newObj (.map #[] 0))))) := fun {R1} =>
        sim_bind (sim_newObj (.map 0 ⟨rfl, by simp⟩)) fun R2 hle2 r r' hr => sim_pure fun R3 hle3 => .map (hle3 _ _ _ hr)
      rcases hx with rfl | ⟨k, n, rfl⟩
      · exact mk
      · dsimp only
        refine sim_bind (sim_underlying t) fun R1 hle1 d d' ⟨hd, _⟩ => ?_
        subst hd
        cases d' <;> first | exact sim_bind (S := fun _ _ _ => False) sim_halt (fun _ _ _ _ h => h.elim) | exact mk
    cases r with
    | none => exact .av hw (hm none none rfl (.inl rfl))
    | some y =>
      have hy := h y (by simp)
      dsimp only
      split
      · rename_i k n hv
        rw [hv] at hy
        have e : ρ' y = .int k n := by cases hρ : ρ' y <;> rw [hρ] at hy <;> cases hy; rfl
        rw [Option.map_some, e]
        exact .av hw (hm _ _ rfl (.inr ⟨k, n, rfl⟩))
      · exact .none
  case makeSlice t l c =>
    dsimp only
    split
    case isFalse => exact .none
    rename_i ht
    exact .av hw (sim_makeSlice hpc t (fun e he => by simpa [elemKnown, he] using ht) (h l (by simp)) (h c (by simp)))
  case slice t x lo hi mx =>
    exact .vv (slice_follow hw t (h x (by simp)) (opt_rel lo fun y hy => h y (by simp [hy])) (opt_rel hi fun y hy => h y (by simp [hy])) (opt_rel mx fun y hy => h y (by simp [hy])))
  case fieldAddr t x f => exact .av hw (sim_fieldAt t f (h x (by simp)))
  case field t x f => exact .av hw (sim_field t f (h x (by simp)))
  case indexAddr t x i => exact .av hw (sim_indexAt t (h x (by simp)) (h i (by simp)))
  case index t x i => exact .av hw (sim_index t (h x (by simp)) (h i (by simp)))
  case lookup t x i ok =>
    dsimp only
    split
    case isFalse => exact .none
    rename_i ht
    exact .av hw (sim_lookup hpc t (fun k e he => by simpa [elemKnown, he] using ht) ok (h x (by simp)) (h i (by simp)))
  case mapUpdate t m k x => exact .au hw (sim_mapUpdate t (h m (by simp)) (h k (by simp)) (h x (by simp)))
  case insert t m k x => exact .au hw (sim_mapUpdate t (h m (by simp)) (h k (by simp)) (h x (by simp)))
  case range t x =>
    have hx := h x (by simp)
    dsimp only
    split
    · rename_i s hv
      rw [hv] at hx
      have e : ρ' x = .string s := by cases hρ : ρ' x <;> rw [hρ] at hx <;> cases hx; rfl
      rw [e]
      exact .av hw (sim_rangeStr t s)
    · rename_i m hv
      rw [hv] at hx
      obtain ⟨m', e⟩ : ∃ m', ρ' x = .map m' := by cases hρ : ρ' x <;> rw [hρ] at hx <;> cases hx <;> exact ⟨_, rfl⟩
      rw [e] at hx ⊢
      exact .av hw (sim_rangeMap t hx)
    · exact .none
  case next it is =>
    cases is with
    | false => exact .av hw (sim_nextMap type (h it (by simp)))
    | true => exact .av hw (sim_nextStr type (h it (by simp)))
  case entry it => exact .av hw (sim_entry (h it (by simp)))
  case typeAssert x t u ok =>
    dsimp only
    split
    case isFalse => exact .none
    rename_i ht
    exact .av hw (sim_typeAssert hpc t u (by simpa using ht) ok (h x (by simp)))
  case extract t i =>
    have hx := h t (by simp)
    dsimp only
    split
    · rename_i vs hv
      rw [hv] at hx
      split
      · rename_i v hvi
        cases hρ : ρ' t <;> rw [hρ] at hx <;> cases hx
        rename_i vs' hs hxs
        obtain ⟨v', hv', hr⟩ := ArrR.get ⟨hs, hxs⟩ hvi
        exact .now hw (b := .value v') (by simp [Instr.extract, hv']) (.value hr)
      · exact .none
    · exact .none
  case call c => exact call_follow hP hw c type (fun x hx => h x hx)
end Go.Can
