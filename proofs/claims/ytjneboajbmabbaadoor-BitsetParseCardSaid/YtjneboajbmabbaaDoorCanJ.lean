/-
  How the real world follows the operations: map updates and deletes; comparisons with nil.
-/
import Derived.Test.YtjneboajbmabbaaDoorCanI
set_option linter.unusedSimpArgs false
set_option linter.unusedVariables false
namespace Go.Can
variable {P : Program} {R0 : CR}

def mapUpdateC (t : TypeId) (m k v : Value) : Sem Unit := do
  let .map keyType _ ← underlying t | stuck ""
  okIf (plainV 60 k)
  let .map (some r) := m | stuck ""
  let .map es clock ← getObj r | stuck ""
  okIf (keysPlain es)
  let _ ← dryS (Instr.checkKey false 10000 keyType k)
  match ← dryS (Instr.findKey keyType k es.toList) with
  | some (i, _) => do
    let key ← dryS (Instr.keyThatStays (((es[i]?).map (·.key)).getD k) k)
    okIf (plainV 60 key)
    setObj r (.map (es.modify i fun e => { e with key, val := v }) clock)
  | none => setObj r (.map (es.push { key := k, val := v, born := clock }) (clock + 1))
theorem MapR.modify {R : CR} {x x' : Array MapEntry} (h : MapR R x x') (i : Nat) {k : Value} (hk : VR R k k) {v v' : Value} (hv : VR R v v') :
    MapR R (x.modify i fun e => { e with key := k, val := v }) (x'.modify i fun e => { e with key := k, val := v' }) := by
  refine ⟨by simp [h.size], fun j e e' he he' => ?_⟩
  simp only [Array.getElem?_modify] at he he'
  split at he
  · rename_i hij
    rw [if_pos hij] at he'
    simp only [Option.map_eq_some_iff] at he he'
    obtain ⟨a, ha, rfl⟩ := he
    obtain ⟨b, hb, rfl⟩ := he'
    exact ⟨hk, hv, (h.at_ _ _ _ ha hb).born⟩
  · rename_i hij
    rw [if_neg hij] at he'
    exact h.at_ _ _ _ he he'
theorem MapR.push {R : CR} {x x' : Array MapEntry} (h : MapR R x x') {e e' : MapEntry} (he : EntryR R e e') : MapR R (x.push e) (x'.push e') := by
  refine ⟨by simp [h.size], fun i a b ha hb => ?_⟩
  rw [Array.getElem?_push] at ha hb
  rw [h.size] at hb
  split at ha <;> rename_i hi
  · rw [if_pos hi] at hb; cases ha; cases hb; exact he
  · rw [if_neg hi] at hb; exact h.at_ i a b ha hb
theorem sim_mapUpdate (t : TypeId) {m m' k k' v v' : Value} (hm : VR R0 m m') (hk : VR R0 k k') (hv : VR R0 v v') : Sim P R0 (fun _ _ _ => True) (mapUpdateC t m k v) (Instr.mapUpdate t m' k' v') := by
  unfold mapUpdateC Instr.mapUpdate
  refine sim_bind (sim_underlying t) fun R hle d d' ⟨hd, _⟩ => ?_
  subst hd
  cases d' <;> try exact sim_halt
  rename_i kt elem _ _
  dsimp only
  refine sim_okIf fun hpk => ?_
  obtain rfl : k' = k := VR.plain_eq 60 _ _ hpk hk
  cases hm
  case map r r' hr =>
    dsimp only
    refine sim_bind (sim_getObj (hle _ _ _ hr)) fun R1 hle1 o o' ⟨ho, _⟩ => ?_
    cases ho with
    | @map es es' clock h =>
      dsimp only
      refine sim_okIf fun hkp => ?_
      have ht := twins h hkp
      refine sim_bind (S := fun _ _ _ => True) (sim_dryS fun a ha => ⟨a, ha, fun _ _ => trivial⟩) fun R2 hle2 _ _ _ => ?_
      refine sim_bind (S := fun R => HitR R) (sim_dryS fun a ha => ?_) fun R3 hle3 a b hab => ?_
      · obtain ⟨r', hr', hh⟩ := findKey_rel (R := R1) kt k' ht a ha
        refine ⟨r', hr', fun R hle3 => ?_⟩
        cases hh with
        | none => exact .none
        | some i hv => exact .some i (hv.mono (CR.le_trans hle2 hle3))
      · have hle03 := CR.le_trans hle (CR.le_trans hle1 (CR.le_trans hle2 hle3))
        cases hab with
        | none => exact sim_setObj (hle03 _ _ _ hr) (.map _ ((h.mono (CR.le_trans hle2 hle3)).push ⟨hk.mono hle03, hv.mono hle03, rfl⟩))
        | some i _ =>
          dsimp only
          have hkey : ((es'[i]?).map (·.key)).getD k' = ((es[i]?).map (·.key)).getD k' := by
            cases he : es[i]? with
            | none =>
              have : es'[i]? = none := by rw [Array.getElem?_eq_none_iff] at *; rw [h.size]; exact he
              rw [this]
            | some e =>
              have hi : i < es'.size := by rw [h.size]; exact (Array.getElem?_eq_some_iff.1 he).1
              rw [Array.getElem?_eq_getElem hi]
              exact (ht.get i e es'[i] (by simpa using he) (by simp [hi])).key
          rw [hkey]
          refine sim_bind (S := fun _ a b => b = a) (sim_dryS fun a ha => ⟨a, ha, fun _ _ => rfl⟩) fun R4 hle4 key key' hkk => ?_
          subst hkk
          refine sim_okIf fun hpk2 => ?_
          have hle04 := CR.le_trans hle03 hle4
          exact sim_setObj (hle04 _ _ _ hr) (.map _ ((h.mono (CR.le_trans hle2 (CR.le_trans hle3 hle4))).modify i (VR.of_plain 60 _ hpk2) (hv.mono hle04)))
    | _ => exact sim_halt
  all_goals exact sim_halt

def deleteC (ts : Array TypeId) (t : TypeId) (args : Array Value) : Sem Value := do
  let (some mapType, some m, some k) := (ts[0]?, args[0]?, args[1]?) | stuck ""
  let .map keyType _ ← underlying mapType | stuck ""
  okIf (plainV 60 k)
  let .map (some r) := m | stuck ""
  let .map es clock ← getObj r | stuck ""
  okIf (keysPlain es)
  let _ ← dryS (Instr.checkKey es.isEmpty 10000 keyType k)
  match ← dryS (Instr.findKey keyType k es.toList) with
  | some (i, _) => setObj r (.map (es.eraseIdxIfInBounds i) clock)
  | none => setObj r (.map es clock)
  pure (.tuple #[])
theorem MapR.erase {R : CR} {x x' : Array MapEntry} (h : MapR R x x') (i : Nat) : MapR R (x.eraseIdxIfInBounds i) (x'.eraseIdxIfInBounds i) := by
  have hs : (x'.eraseIdxIfInBounds i).size = (x.eraseIdxIfInBounds i).size := by
    simp only [Array.eraseIdxIfInBounds, h.size]
    split <;> simp [h.size]
  refine ⟨hs, fun j e e' he he' => ?_⟩
  simp only [Array.eraseIdxIfInBounds, h.size] at he he'
  split at he
  · rename_i hi
    rw [dif_pos hi] at he'
    rw [Array.getElem?_eraseIdx] at he he'
    split at he
    · rename_i hj; rw [if_pos hj] at he'; exact h.at_ _ _ _ he he'
    · rename_i hj; rw [if_neg hj] at he'; exact h.at_ _ _ _ he he'
  · rename_i hi
    rw [dif_neg hi] at he'
    exact h.at_ _ _ _ he he'
theorem sim_delete (ts : Array TypeId) (t : TypeId) {x x' : Array Value} (h : ArrR R0 x x') : Sim P R0 VR (deleteC ts t x) (Builtin.delete_ ts t x') := by
  unfold deleteC Builtin.delete_
  cases h0 : x[0]? with
  | none => cases ts[0]? <;> exact sim_halt
  | some m =>
    obtain ⟨m', hm', hm⟩ := h.get h0
    rw [hm']
    cases h1 : x[1]? with
    | none => cases ts[0]? <;> exact sim_halt
    | some k =>
      obtain ⟨k', hk', hk⟩ := h.get h1
      rw [hk']
      cases ts[0]? with
      | none => exact sim_halt
      | some t0 =>
        dsimp only
        refine sim_bind (sim_underlying t0) fun R hle d d' ⟨hd, _⟩ => ?_
        subst hd
        cases d' <;> try exact sim_halt
        rename_i kt elem _ _
        dsimp only
        refine sim_okIf fun hpk => ?_
        obtain rfl : k' = k := VR.plain_eq 60 _ _ hpk hk
        cases hm
        case map r r' hr =>
          dsimp only
          refine sim_bind (sim_getObj (hle _ _ _ hr)) fun R1 hle1 o o' ⟨ho, _⟩ => ?_
          cases ho with
          | @map es es' clock h =>
            dsimp only
            refine sim_okIf fun hkp => ?_
            have ht := twins h hkp
            have he : es'.isEmpty = es.isEmpty := by simp [Array.isEmpty, h.size]
            rw [he]
            refine sim_bind (S := fun _ _ _ => True) (sim_dryS fun a ha => ⟨a, ha, fun _ _ => trivial⟩) fun R2 hle2 _ _ _ => ?_
            refine sim_bind (S := fun R => HitR R) (sim_dryS fun a ha => ?_) fun R3 hle3 a b hab => ?_
            · obtain ⟨r', hr', hh⟩ := findKey_rel (R := R1) kt k' ht a ha
              refine ⟨r', hr', fun R hle3 => ?_⟩
              cases hh with
              | none => exact .none
              | some i hv => exact .some i (hv.mono (CR.le_trans hle2 hle3))
            · have hle03 := CR.le_trans hle (CR.le_trans hle1 (CR.le_trans hle2 hle3))
              have fin : ∀ {R4 : CR}, Sim P R4 VR (pure (.tuple #[])) (pure (.tuple #[])) := fun {R4} => sim_pure fun _ _ => .undef
              cases hab with
              | none => exact sim_bind (sim_setObj (hle03 _ _ _ hr) (.map _ (h.mono (CR.le_trans hle2 hle3)))) fun R4 _ _ _ _ => fin
              | some i _ => exact sim_bind (sim_setObj (hle03 _ _ _ hr) (.map _ ((h.mono (CR.le_trans hle2 hle3)).erase i))) fun R4 _ _ _ _ => fin
          | _ => exact sim_halt
        all_goals exact sim_halt

/-! Comparisons with nil -/
/-- the value, its blocks forgotten: what a comparison with nil can tell of it -/
def nilish : Value → Value → Bool
  | .pointer (some _), .pointer none | .pointer none, .pointer (some _)
  | .slice (some _) _ _, .slice none _ _ | .slice none _ _, .slice (some _) _ _
  | .map (some _), .map none | .map none, .map (some _)
  | .func _ _ _, .nilFunc | .nilFunc, .func _ _ _
  | .iface _ _, .nilIface | .nilIface, .iface _ _ => true
  | _, _ => false
def nilFits : TypeDesc → Value → Bool
  | .pointer _, .pointer _ | .unsafePointer, .pointer _ | .slice _, .slice _ _ _ | .map _ _, .map _ | .func _ _ _, .func _ _ _ | .func _ _ _, .nilFunc | .interface _, .iface _ _ | .interface _, .nilIface => true
  | _, _ => false
def nilEqC (op : BinOp) (t : TypeId) (x y : Value) : Sem Value := do
  okIf (nilish x y)
  let d ← underlying t
  okIf (nilFits d x)
  match op with
  | .eql => pure (.bool false)
  | .neq => pure (.bool true)
  | _ => stuck ""
theorem equal_nil {t : TypeId} {d : TypeDesc} (hd : P.underlying t = some d) {x y : Value} (h : nilish x y = true) (hm : (nilFits d x) = true) : dry P (Op.equal t x y) = some false := by
  have hu : dry P (Go.underlying t) = some d := by
    unfold Go.underlying
    rw [dry_bind]
    show dry P (match P.underlying t with | some d => pure d | none => stuck "no such type") = _
    rw [hd]; rfl
  unfold Op.equal Op.maxDepth
  show dry P (Op.equalIn (9999 + 1) t x y) = some false
  unfold Op.equalIn
  rw [dry_bind, hu]
  simp only [Option.bind_some]
  unfold nilish at h
  split at h <;> first | (cases h; done) | skip
  all_goals (cases d <;> first | (cases hm; done) | rfl)
theorem nilish_rel {R : CR} {x x' y y' : Value} (hx : VR R x x') (hy : VR R y y') (h : nilish x y = true) : nilish x' y' = true := by
  unfold nilish at h
  split at h <;> first | (cases h; done) | skip
  all_goals (cases hx; cases hy; rfl)
theorem sim_nilEq (op : BinOp) (t : TypeId) (xo yo : Operand) {x x' y y' : Value} (hx : VR R0 x x') (hy : VR R0 y y') : Sim P R0 VR (nilEqC op t x y) (do eqGuard op t xo yo x' y'; binOp op t x' y') := by
  unfold nilEqC
  refine sim_okIf fun hn => ?_
  have hn' := nilish_rel hx hy hn
  intro R A w hle hw v A' ha
  rw [arun_bind'] at ha
  cases hd : P.underlying t with
  | none =>
    have : arun P (Go.underlying t) A = none := by
      unfold Go.underlying; rw [arun_bind']
      show arun P (match P.underlying t with | some d => pure d | none => stuck "no such type") A = none
      rw [hd]; rfl
    rw [this] at ha; cases ha
  | some d =>
    have : arun P (Go.underlying t) A = some (d, A) := by
      unfold Go.underlying; rw [arun_bind']
      show arun P (match P.underlying t with | some d => pure d | none => stuck "no such type") A = some (d, A)
      rw [hd]; rfl
    rw [this] at ha
    simp only [Option.bind_some] at ha
    have hm : (nilFits d x) = true := by
      cases hb : nilFits d x with
      | true => rfl
      | false =>
        rw [hb, arun_bind'] at ha
        cases ha
    have hm2 : nilFits d x = true := hm
    rw [hm2, arun_bind'] at ha
    have ha : arun P (match op with | .eql => (pure (.bool false) : Sem Value) | .neq => pure (.bool true) | _ => stuck "") A = some (v, A') := ha
    have hm' : (nilFits d x') = true := by cases hx <;> cases d <;> exact hm
    have heq := equal_nil (P := P) hd hn' hm'
    have hg : dry P (eqGuard op t xo yo x' y') = some () := by
      unfold eqGuard
      cases op <;> try rfl
      all_goals
        dsimp only
        unfold nilish at hn'
        split at hn' <;> first | (cases hn'; done) | rfl
    have go : ∀ b, arun P (pure (.bool b) : Sem Value) A = some (v, A') → dry P (binOp op t x' y') = some (.bool b) → ∃ R' b w', Sem.run P (do eqGuard op t xo yo x' y'; binOp op t x' y') w = .ok b w' ∧ Ext R A w R' A' w' ∧ WR R' A' w' ∧ VR R' v b := by
      intro b hb hd2
      simp only [arun_pure, Option.some.injEq, Prod.mk.injEq] at hb
      obtain ⟨rfl, rfl⟩ := hb
      refine ⟨R, .bool b, w, dry_run _ ?_ w, .refl _ _ _, hw, .bool b⟩
      rw [dry_bind, hg]; exact hd2
    cases op <;> first | (cases ha; done) | skip
    · refine go false ha ?_
      unfold nilish at hn'
      split at hn' <;> first | (cases hn'; done) | skip
      all_goals
        show dry P (do let b ← Op.equal t _ _; pure (Value.bool b)) = some (Value.bool false)
        rw [dry_bind, heq]; rfl
    · refine go true ha ?_
      unfold nilish at hn'
      split at hn' <;> first | (cases hn'; done) | skip
      all_goals
        show dry P (do let b ← Op.equal t _ _; pure (Value.bool (!b))) = some (Value.bool true)
        rw [dry_bind, heq]; rfl
end Go.Can
