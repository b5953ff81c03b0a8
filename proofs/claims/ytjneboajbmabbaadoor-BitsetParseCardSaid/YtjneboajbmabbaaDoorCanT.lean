/-
  The real run follows the canonical evaluator: the whole.
-/
import Derived.Test.YtjneboajbmabbaaDoorCanVA
set_option linter.unusedSimpArgs false
set_option linter.unusedVariables false
namespace Go.Can
variable {P : Program} {G : List Nat}

section
variable {b : Frame} {a : Act} {k : List Item} {cs : List Frame} {w : World}
theorem stepR_scope {c : Code} : step P (lone (b.atR a (.code (.scope c) :: k)) cs w) = .next (lone (b.atR a (.code c :: .inScope c :: k)) cs w) :=
  step_lone_go (by simp [stepG, stepG.exec, Frame.atR])
theorem stepR_inScope {c : Code} : step P (lone (b.atR a (.inScope c :: k)) cs w) = .next (lone (b.atR a k) cs w) :=
  step_lone_go (by simp [stepG, stepG.exec, Frame.atR])
theorem wpIn_scope_straight {F : Fence} {n : Nat} {Q : Exit → Act → World → Prop} {c : Code} (h : c.wpIn F n P (Exit.noGoto Q) a w) : (Code.scope c).wpIn F n P Q a w := by
  intro b k cs hro hb hr
  have h0 : (lone (b.atR a (.code (.scope c) :: k)) cs w).fenced P F := fenced_calm hb hr rfl
  obtain ⟨e, a₁, w₁, hq, harr⟩ := h b (.inScope c :: k) cs hro hb hr
  cases e with
  | normal => exact ⟨.normal, a₁, w₁, hq, .head h0 stepR_scope (StepsIn.trans harr (.one (fenced_calm hb hr rfl) stepR_inScope))⟩
  | exit id =>
    have hx : exitTo id (.inScope c :: k) = exitTo id k := by simp [exitTo]
    exact ⟨_, a₁, w₁, hq, fun k' hk => .head h0 stepR_scope (harr.1 k' (by rw [hx]; exact hk)),
      fun hr' hk => let ⟨k₁, h1, h2⟩ := harr.2 hr' (by rw [hx]; exact hk); ⟨k₁, h1, .head h0 stepR_scope h2⟩⟩
  | goto l => exact hq.elim
  | ret => exact ⟨_, a₁, w₁, hq, .of_steps (.one h0 stepR_scope) harr⟩
  | panic ch => exact ⟨_, a₁, w₁, hq, .of_steps (.one h0 stepR_scope) harr⟩
  | outgrown => exact ⟨_, a₁, w₁, hq, .of_steps (.one h0 stepR_scope) harr⟩
theorem noGoto_of {Q : Exit → Act → World → Prop} {e : Exit} (h : notGoto e = true) (q : Q e a w) : Exit.noGoto Q e a w := by
  cases e <;> first | exact q | cases h
end
theorem evRegion_ok (hP : PC2 P) {call : Rec} (hc : RecOk P G call) (rd : Option Nat) (id : Nat) (ops : Array Oper) (draw : Bool) : CodeOk P G rd (.region id ops draw) fun a A => match evRegion P G call rd.isNone ops draw a A with
    | some (a1, A1) => some (.normal, a1, A1)
    | none => none := by
  intro a A e a1 A1 he R w a' rd' hw hg hr hrd m
  dsimp only at he
  split at he
  case h_2 => cases he
  rename_i a2 A2 h2
  cases he
  cases draw with
  | true => exact evDraw_ok hP hc rd' (fun h => by cases hrd with | none => rfl | some _ => cases h) h2 hw hg hr id m
  | false =>
    unfold evRegion at h2
    simp only [Bool.false_eq_true, if_false] at h2
    refine wpIn_region ?_
    rw [List.range_eq_range', ← Array.length_toList]
    exact evOps_ok hP hc rd' m ops.toList 0 (by simp) h2 hw hg hr fun a3 w3 h3 => h3
theorem evCode_ok (hP : PC2 P) {call : Rec} (hc : RecOk P G call) (n : Nat) (rd : Option Nat) : ∀ c : Code, CodeOk P G rd c (evCode P G call n rd c)
  | .skip => fun a A e a1 A1 he R w a' rd' hw hg hr hrd m => by cases he; exact wpIn_skip ⟨rfl, R, hr, .refl _ _ _, hw⟩
  | .label l => fun a A e a1 A1 he R w a' rd' hw hg hr hrd m => by cases he; exact wpIn_label ⟨rfl, R, hr, .refl _ _ _, hw⟩
  | .exit id => fun a A e a1 A1 he R w a' rd' hw hg hr hrd m => by cases he; exact wpIn_exit ⟨rfl, R, hr, .refl _ _ _, hw⟩
  | .goto l => fun a A e a1 A1 he R w a' rd' hw hg hr hrd m => by cases he; exact wpIn_goto ⟨rfl, R, hr, .refl _ _ _, hw⟩
  | .ret => fun a A e a1 A1 he R w a' rd' hw hg hr hrd m => by cases he; exact wpIn_ret ⟨rfl, R, hr, .refl _ _ _, hw⟩
  | .scope c => fun a A e a1 A1 he R w a' rd' hw hg hr hrd m => by
    unfold evCode at he
    refine wpIn_scope_straight ?_
    split at he
    case h_2 => cases he
    rename_i e2 a2 A2 h2
    split at he
    case isFalse => cases he
    rename_i hn
    cases he
    refine wpIn_mono (evCode_ok hP hc n rd c _ _ _ _ _ h2 R w a' rd' hw hg hr hrd m) fun e' a3 w3 h3 => ?_
    obtain ⟨rfl, h4⟩ := h3
    exact noGoto_of hn ⟨rfl, h4⟩
  | .refuse c => fun a A e a1 A1 he => by cases he
  | .region id ops draw => evRegion_ok hP hc rd id ops draw
  | .rangeFunc g ps assign body => evRange_ok hP hc rd g ps assign body
  | .loop c => evLoop_ok (evCode_ok hP hc n rd c) n
  | .seq x y => fun a A e a1 A1 he R w a' rd' hw hg hr hrd m => by
    unfold evCode at he
    refine wpIn_seq ?_
    split at he
    · rename_i a2 A2 h2
      refine wpIn_mono (evCode_ok hP hc n rd x _ _ _ _ _ h2 R w a' rd' hw hg hr hrd m) fun e' a3 w3 h3 => ?_
      obtain ⟨rfl, R3, q1, q2, q3⟩ := h3
      exact wpIn_mono (evCode_ok hP hc n rd y _ _ _ _ _ he R3 w3 a3 rd' q3 (hg.mono q2.le) q1 (hrd.mono q2.le) m) fun e' a4 w4 h4 => Post.trans hw q2 h4
    · rename_i hno
      refine wpIn_mono (evCode_ok hP hc n rd x _ _ _ _ _ he R w a' rd' hw hg hr hrd m) fun e' a3 w3 h3 => ?_
      obtain ⟨rfl, h4⟩ := h3
      cases e' with
      | normal => exact absurd he (hno _ _)
      | _ => exact ⟨rfl, h4⟩
  | .cond c x y => fun a A e a1 A1 he R w a' rd' hw hg hr hrd m => by
    unfold evCode at he
    split at he
    case isFalse => cases he
    rename_i hok
    have hv := hr.eval hg hok
    split at he
    · rename_i ht
      rw [ht] at hv
      have e1 : a'.eval c = .bool true := by cases h : a'.eval c <;> rw [h] at hv <;> cases hv; rfl
      exact wpIn_cond_true e1 (evCode_ok hP hc n rd x _ _ _ _ _ he R w a' rd' hw hg hr hrd m)
    · rename_i ht
      rw [ht] at hv
      have e1 : a'.eval c = .bool false := by cases h : a'.eval c <;> rw [h] at hv <;> cases hv; rfl
      exact wpIn_cond_false e1 (evCode_ok hP hc n rd y _ _ _ _ _ he R w a' rd' hw hg hr hrd m)
    · cases he
  | .block id c => fun a A e a1 A1 he R w a' rd' hw hg hr hrd m => by
    unfold evCode at he
    refine wpIn_block ?_
    split at he
    · rename_i id' a2 A2 h2
      refine wpIn_mono (evCode_ok hP hc n rd c _ _ _ _ _ h2 R w a' rd' hw hg hr hrd m) fun e' a3 w3 h3 => ?_
      obtain ⟨rfl, h4⟩ := h3
      simp only [Exit.inBlock]
      split at he
      · rename_i e1
        cases he
        rw [if_pos e1]
        exact ⟨rfl, h4⟩
      · rename_i e1
        cases he
        rw [if_neg e1]
        exact ⟨rfl, h4⟩
    · rename_i hno
      refine wpIn_mono (evCode_ok hP hc n rd c _ _ _ _ _ he R w a' rd' hw hg hr hrd m) fun e' a3 w3 h3 => ?_
      obtain ⟨rfl, h4⟩ := h3
      cases e' with
      | exit id' => exact absurd he (hno _ _ _)
      | _ => exact ⟨rfl, h4⟩

theorem arun_underlying {t : TypeId} {A : AW} : arun P (Go.underlying t) A = (P.underlying t).map fun d => (d, A) := by
  unfold Go.underlying
  rw [arun_bind']
  show arun P (match P.underlying t with | some d => pure d | none => stuck "no such type") A = _
  cases P.underlying t <;> rfl
theorem arun_sizeOf {t : TypeId} {A : AW} : arun P (Go.sizeOf t) A = (P.info? t).map fun i => (i.size, A) := by
  unfold Go.sizeOf Go.typeInfo
  rw [arun_bind', arun_bind']
  show (Option.bind (arun P (match P.info? t with | some i => pure i | none => stuck "no such type") A) _) = _
  cases P.info? t <;> rfl
theorem run_sizeOf' {t : TypeId} {i : TypeInfo} (h : P.info? t = some i) (w : World) : (Go.sizeOf t).run P w = .ok i.size w := by simp [Go.sizeOf, Go.typeInfo, h]
theorem loadVar_follow {R : CR} {A A1 : AW} {w : World} (hw : WR R A w) {a a' : Addr} (h : AddrR R a a') (t : TypeId) {v : Value} (ha : arun P (Go.loadVar t a) A = some (v, A1)) : ∃ v', (Go.loadVar t a').run P w = .ok v' w ∧ VR R v v' ∧ A1 = A := by
  unfold Go.loadVar Go.isAgg at ha ⊢
  rw [arun_bind', arun_bind', arun_underlying] at ha
  cases hd : P.underlying t with
  | none => rw [hd] at ha; cases ha
  | some d =>
    rw [hd] at ha
    simp only [Option.map_some, Option.bind_some] at ha
    simp only [Sem.run_bind, run_underlying hd, Result.andThen_ok]
    have one : ∀ {v}, arun P (Go.load a) A = some (v, A1) → ∃ v', (Go.load a').run P w = .ok v' w ∧ VR R v v' ∧ A1 = A := by
      intro v hl
      simp only [Go.load, arun] at hl
      split at hl
      · rename_i u hu
        cases hl
        obtain ⟨v', hv', hr⟩ := cell_follow hw h hu
        exact ⟨v', by simp [run_load, hv'], hr, rfl⟩
      · cases hl
    have many : ∀ {v}, arun P (do pure (.agg (← Go.loadCells a (← Go.sizeOf t)))) A = some (v, A1) → ∃ v', (do pure (.agg (← Go.loadCells a' (← Go.sizeOf t))) : Sem Value).run P w = .ok v' w ∧ VR R v v' ∧ A1 = A := by
      intro v hl
      rw [arun_bind', arun_sizeOf] at hl
      cases hi : P.info? t with
      | none => rw [hi] at hl; cases hl
      | some i =>
        rw [hi] at hl
        simp only [Option.map_some, Option.bind_some] at hl
        rw [arun_bind'] at hl
        cases hc : arun P (Go.loadCells a i.size) A with
        | none => rw [hc] at hl; cases hl
        | some r =>
          obtain ⟨cs, A2⟩ := r
          rw [hc] at hl
          cases hl
          obtain ⟨cs', q1, q2, q3⟩ := loadCellsFrom_follow hw h i.size 0 .nil hc
          refine ⟨.agg cs', ?_, VR.agg' q2, q3⟩
          have q1 : Sem.run P (Go.loadCells a' i.size) w = .ok cs' w := q1
          simp only [Sem.run_bind, run_sizeOf' hi, Result.andThen_ok, q1, Sem.run_pure]
    cases d <;> first | exact one ha | exact many ha
theorem evResults_ok {tmps : Array Value} : ∀ (rs : List ResultVar) {A A1 : AW} {vs : List Value}, evResults P tmps rs A = some (vs, A1) → ∀ {R : CR} {w : World} {tmps' : Array Value}, WR R A w → ArrR R tmps tmps' →
    ∃ vs', (rs.mapM fun | .tmp t => pure (tmps'.getD t undef) | .cell a t => do loadVar t (← asAddr (tmps'.getD a undef)) : Sem (List Value)).run P w = .ok vs' w ∧ A1 = A ∧ L2 (VR R) vs vs'
  | [], A, A1, vs, he, R, w, tmps', hw, ht => by
    cases he
    exact ⟨[], rfl, rfl, .nil⟩
  | r :: rs, A, A1, vs, he, R, w, tmps', hw, ht => by
    unfold evResults at he
    split at he
    case h_2 => cases he
    rename_i v A2 h1
    split at he
    case h_2 => cases he
    rename_i vs2 A3 h2
    cases he
    have one : ∃ v', (match r with | .tmp t => pure (tmps'.getD t undef) | .cell a t => do loadVar t (← asAddr (tmps'.getD a undef)) : Sem Value).run P w = .ok v' w ∧ A2 = A ∧ VR R v v' := by
      cases r with
      | tmp t => cases h1; exact ⟨_, rfl, rfl, ht.getD t .undef⟩
      | cell a t =>
        dsimp only at h1 ⊢
        have hv := ht.getD a .undef
        revert hv h1
        generalize tmps.getD a undef = u
        generalize tmps'.getD a undef = u'
        intro h1 hv
        cases hv <;> first | (cases h1; done) | skip
        case ptr b b' hb =>
          have h1 : arun P (Go.loadVar t b) A = some (v, A2) := h1
          obtain ⟨v', q1, q2, q3⟩ := loadVar_follow hw hb t h1
          exact ⟨v', q1, q3, q2⟩
    obtain ⟨v', q1, rfl, q4⟩ := one
    obtain ⟨vs', s1, s2, s4⟩ := evResults_ok rs h2 hw ht
    refine ⟨v' :: vs', ?_, s2, .cons q4 s4⟩
    rw [List.mapM_cons]
    cases r <;> simp only [Sem.run_bind] at q1 ⊢ <;> simp_all [Result.andThen]
theorem evMarks_ok {Q : Ending → World → Prop} {fn : Func} {tmps' : Array Value} (m : Nat) : ∀ (ds : List Deferred) {A A1 : AW}, evMarks P ds A = some A1 → ∀ {R : CR} {w : World} {ds' : List Deferred}, WR R A w → L2 (DefR R) ds ds' →
    (∀ R' w', Ext R A w R' A1 w' → WR R' A1 w' → LeavesIn Fence.wide m P fn tmps' Q [] .returning w') → LeavesInM Fence.wide m P fn tmps' Q ds' .returning w
  | [], A, A1, he, R, w, _, hw, .nil, h => by
    cases he
    exact h R w (.refl _ _ _) hw
  | d :: ds, A, A1, he, R, w, _, hw, .cons hd ht, h => by
    cases hd with
    | mk hr =>
      unfold evMarks at he
      dsimp only at he
      split at he
      case h_2 => cases he
      rename_i A2 h2
      obtain ⟨R1, k, w1, q1, q2, q3, q4⟩ := sim_takeDeferred (P := P) hr R A w (CR.le_refl _) hw _ _ h2
      obtain rfl := q4 rfl
      refine ⟨by simp, .inl ⟨_, w1, rfl, q1, evMarks_ok m ds he q3 (l2_defers q2.le ht) fun R' w' h3 h4 => h R' w' (q2.trans hw h3) h4⟩⟩
theorem ev_ok (hP : PC2 P) : ∀ n, RecOk P G (ev P G n)
  | 0 => fun j A v A' h => by cases h
  | n + 1 => fun j A v A' h R w hw hg => by
    have ih := ev_ok hP n
    unfold ev evStep at h
    cases j with
    | call f x =>
      intro x' hx m
      dsimp only at h
      split at h
      case h_2 => cases h
      rename_i fn hf
      split at h
      case h_2 => cases h
      rename_i c hb
      unfold evBody at h
      split at h
      case h_2 => cases h
      rename_i e a A1 hc
      have hact : ActR R { tmps := x ++ Array.replicate (fn.ntmps - x.size) undef, defers := [] } { tmps := x' ++ Array.replicate (fn.ntmps - x'.size) undef, defers := [] } := by
        refine ⟨hx.append ?_, .nil⟩
        rw [hx.size]
        refine ⟨rfl, fun i u u' h1 h2 => ?_⟩
        simp only [Array.getElem?_replicate] at h1 h2
        split at h1
        · rename_i hi; rw [if_pos hi] at h2; cases h1; cases h2; exact .undef
        · cases h1
      refine callsIn_of_wp_marks hf hb trivial ?_
      have hcode := evCode_ok hP ih n none c _ _ _ _ _ hc R w _ none hw hg hact .none m
      refine wpIn_mono (F := Fence.wide) hcode fun e' a' w1 h1 => ?_
      obtain ⟨rfl, R1, q1, q2, q3⟩ := h1
      have fin : (match evMarks P a.defers A1 with
        | some A2 => match evResults P a.tmps fn.results.toList A2 with
          | some (vs, A3) => some (oneOf vs, A3)
          | none => none
        | none => none) = some (v, A') → LeavesInM Fence.wide m P fn a'.tmps (fun e w' => ∃ R' v', e = .returned v' ∧ Ext R A w R' A' w' ∧ WR R' A' w' ∧ VR R' v v') a'.defers .returning w1 := by
        intro h
        split at h
        case h_2 => cases h
        rename_i A2 hm
        split at h
        case h_2 => cases h
        rename_i vs A3 hres
        cases h
        refine evMarks_ok m a.defers hm q3 q1.defers fun R2 w2 s1 s2 => ?_
        obtain ⟨vs', t1, rfl, t4⟩ := evResults_ok _ hres s2 (q1.tmps.mono s1.le)
        refine ⟨oneOf vs', ?_, R2, oneOf vs', rfl, q2.trans hw s1, s2, ?_⟩
        · unfold results
          rw [Array.mapM_eq_mapM_toList]
          simp only [Sem.run_bind, Sem.run_map]
          have t2 := congrArg (fun r : Result (List Value) => (r.andThen fun a w' => Result.ok a.toArray w').andThen fun a w' => Result.ok (if h : a.size = 1 then a[0] else Value.tuple a) w') t1
          refine t2.trans ?_
          simp only [Result.andThen_ok]
          congr 1
          unfold oneOf
          match vs' with
          | [] => rfl
          | [u] => rfl
          | u :: u2 :: us => rfl
        · unfold oneOf
          cases t4 with
          | nil => exact .tuple rfl (by simp)
          | cons h1 t =>
            cases t with
            | nil => exact h1
            | cons h2 t => exact VR.tuple' (L2.arr (.cons h1 (.cons h2 t)))
      cases e' with
      | normal => exact fin h
      | ret => exact fin h
      | _ => cases h
    | round l x assign body =>
      intro l' x' hl hx f m
      dsimp only at h
      split at h
      case h_2 => cases h
      rename_i a1 A1 h1
      split at h
      case h_2 => cases h
      rename_i u A2 h2
      split at h
      case h_2 => cases h
      rename_i e a2 A3 h3
      split at h
      case h_2 => cases h
      rename_i j hj
      refine roundIn_of_wpIn trivial ?_
      have hact : ActR R { tmps := x, defers := [] } { tmps := x', defers := [] } := ⟨hx, .nil⟩
      refine wpIn_mono (F := Fence.wide.inRound l') (evCode_ok hP ih n (some l) assign _ _ _ _ _ h1 R w _ (some l') hw hg hact (.some hl) m) fun e' a' w1 k1 => ?_
      obtain ⟨rfl, R1, q1, q2, q3⟩ := k1
      obtain ⟨R2, u', w2, s1, s2, s3, s4⟩ := sim_beginRound (P := P) (q2.le _ _ _ hl) R1 A1 w1 (CR.le_refl _) q3 _ _ h2
      refine ⟨w2, s1, ?_⟩
      have hle2 := CR.le_trans q2.le s2.le
      refine wpIn_mono (F := Fence.wide.inRound l') (evCode_ok hP ih n (some l) body _ _ _ _ _ h3 R2 w2 _ (some l') s3 (hg.mono hle2) (q1.mono s2.le) (.some (hle2 _ _ _ hl)) m) fun e' a' w3 k3 => ?_
      obtain ⟨rfl, R3, t1, t2, t3⟩ := k3
      obtain ⟨R4, v', w4, r1, r2, r3, r4⟩ := sim_endRound (P := P) j (CR.le_trans hle2 t2.le _ _ _ hl) R3 A3 w3 (CR.le_refl _) t3 _ _ h
      have hex : Ext R A w R4 A' w4 := q2.trans hw (s2.trans q3 (t2.trans s3 r2))
      cases e' <;> first | (cases hj; done) | skip
      all_goals
        cases hj
        exact ⟨v', w4, r1, R4, v', rfl, hex, r3, r4⟩
end Go.Can
