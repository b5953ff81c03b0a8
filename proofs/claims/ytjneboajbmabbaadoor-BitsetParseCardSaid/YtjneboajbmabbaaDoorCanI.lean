/-
  How the real world follows the operations: what looks at nothing; maps with plain keys.
-/
import Derived.Test.YtjneboajbmabbaaDoorCanH
set_option linter.unusedSimpArgs false
set_option linter.unusedVariables false
namespace Go.Can
variable {P : Program} {R0 : CR}

theorem VR.plain_eq {R : CR} : ∀ (n : Nat) (v v' : Value), plainV n v = true → VR R v v' → v' = v
  | 0, _, _, h, _ => by simp [plainV] at h
  | n + 1, v, v', h, hr => by
    have rows : ∀ x x' : Array Value, x.all (plainV n) = true → x'.size = x.size → (∀ (i : Nat) (v v' : Value), x[i]? = some v → x'[i]? = some v' → VR R v v') → x' = x := fun x x' hx hs hxs => by
      refine Array.ext hs fun i h1 h2 => ?_
      exact VR.plain_eq n _ _ (Array.all_eq_true_iff_forall_mem.1 hx _ (Array.getElem_mem h2)) (hxs i _ _ (Array.getElem?_eq_getElem h2) (Array.getElem?_eq_getElem h1))
    cases hr
    case ptr => simp [plainV] at h
    case slice => simp [plainV] at h
    case map => simp [plainV] at h
    case iface t v v' hv => rw [VR.plain_eq n _ _ (by simpa [plainV] using h) hv]
    case agg x x' hx hxs => rw [rows x x' (by simpa [plainV] using h) hx hxs]
    case tuple x x' hx hxs => rw [rows x x' (by simpa [plainV] using h) hx hxs]
    case func f f' x x' y y' hf hx hxs hy hys =>
      cases hf
      case func f =>
        simp only [plainV, Bool.and_eq_true] at h
        rw [rows x x' h.1 hx hxs, rows y y' h.2 hy hys]
      all_goals simp [plainV] at h
    all_goals rfl

def okIf (b : Bool) : Sem Unit := if b then pure () else stuck ""
def dryS {α : Type} (s : Sem α) : Sem α := do
  match dry (← program) s with
  | some a => pure a
  | none => stuck ""
theorem sim_okIf {α β : Type} {S : CR → α → β → Prop} {b : Bool} {s : Sem α} {t : Sem β} (h : b = true → Sim P R0 S s t) : Sim P R0 S (do okIf b; s) t := by
  cases b with
  | false => exact sim_none fun A => by rw [arun_bind']; rfl
  | true =>
    have := h rfl
    intro R A w hle hw a A' ha
    rw [arun_bind'] at ha
    exact this R A w hle hw a A' ha
theorem sim_dryS {α β : Type} {S : CR → α → β → Prop} {s : Sem α} {t : Sem β} (h : ∀ a, dry P s = some a → ∃ b, dry P t = some b ∧ ∀ R, CR.le R0 R → S R a b) : Sim P R0 S (dryS s) t := by
  intro R A w hle hw a A' ha
  have e : arun P (dryS s) A = match dry P s with | some a => some (a, A) | none => none := by
    unfold dryS
    rw [arun_bind']
    show arun P (match dry P s with | some a => pure a | none => stuck "") A = _
    cases dry P s <;> rfl
  rw [e] at ha
  cases hd : dry P s with
  | none => rw [hd] at ha; cases ha
  | some a0 =>
    rw [hd] at ha
    simp only [Option.some.injEq, Prod.mk.injEq] at ha
    obtain ⟨rfl, rfl⟩ := ha
    obtain ⟨b, hb, hS⟩ := h _ hd
    exact ⟨R, b, w, dry_run t hb w, .refl _ _ _, hw, hS R hle⟩
/-- a value that is found by looking at nothing, and holds no blocks -/
def dryV (s : Sem Value) : Sem Value := do
  let v ← dryS s
  okIf (plainV 60 v)
  pure v
theorem sim_dryV {s t : Sem Value} (h : ∀ a, dry P s = some a → dry P t = some a) : Sim P R0 VR (dryV s) t := by
  have : Sim P R0 VR (dryV s) (t >>= pure) := by
    unfold dryV
    refine sim_bind (S := fun _ a b => b = a) (sim_dryS fun a ha => ⟨a, h a ha, fun _ _ => rfl⟩) fun R hle a b hab => ?_
    subst hab
    exact sim_okIf fun hp => sim_pure fun _ _ => VR.of_plain 60 _ hp
  simpa using this

/-! Maps -/
def keysPlain (es : Array MapEntry) : Bool := es.all fun e => plainV 60 e.key
structure Twin (R : CR) (e e' : MapEntry) : Prop where
  key : e'.key = e.key
  val : VR R e.val e'.val
  born : e'.born = e.born
theorem twins {R : CR} {x x' : Array MapEntry} (h : MapR R x x') (hk : keysPlain x = true) : L2 (Twin R) x.toList x'.toList := by
  refine L2.of_get _ _ (by simpa using h.size) fun i a b ha hb => ?_
  have h1 : x[i]? = some a := by simpa using ha
  have h2 := h.at_ i a b h1 (by simpa using hb)
  exact ⟨VR.plain_eq 60 _ _ (Array.all_eq_true_iff_forall_mem.1 hk _ (Array.mem_of_getElem? h1)) h2.key, h2.val, h2.born⟩
inductive HitR (R : CR) : Option (Nat × Value) → Option (Nat × Value) → Prop
  | none : HitR R none none
  | some (i : Nat) {v v' : Value} (h : VR R v v') : HitR R (some (i, v)) (some (i, v'))
theorem findNow_rel {R : CR} (kind : TypeDesc) (k : Value) : ∀ {es es' : List MapEntry} (i : Nat), L2 (Twin R) es es' →
    (Instr.findNow kind k es i = none ∧ Instr.findNow kind k es' i = none) ∨ ∃ r r', Instr.findNow kind k es i = some r ∧ Instr.findNow kind k es' i = some r' ∧ HitR R r r'
  | [], _, i, .nil => .inr ⟨_, _, rfl, rfl, .none⟩
  | e :: es, _, i, .cons h t => by
    simp only [Instr.findNow, h.key]
    cases Instr.sameNow kind k e.key with
    | none => exact .inl ⟨rfl, rfl⟩
    | some b =>
      cases b with
      | true => exact .inr ⟨_, _, rfl, rfl, .some i h.val⟩
      | false => exact findNow_rel kind k (i + 1) t
theorem findAsking_rel {R : CR} (kt : TypeId) (k : Value) : ∀ {es es' : List MapEntry} (i : Nat), L2 (Twin R) es es' → ∀ r, dry P (Instr.findAsking kt k es i) = some r → ∃ r', dry P (Instr.findAsking kt k es' i) = some r' ∧ HitR R r r'
  | [], _, i, .nil, r, hr => by cases hr; exact ⟨_, rfl, .none⟩
  | e :: es, _, i, .cons h t, r, hr => by
    simp only [Instr.findAsking, h.key, dry_bind] at hr ⊢
    cases hd : dry P (Op.equal kt k e.key) with
    | none => rw [hd] at hr; cases hr
    | some b =>
      rw [hd] at hr
      simp only [Option.bind_some] at hr ⊢
      cases b with
      | true => cases hr; exact ⟨_, rfl, .some i h.val⟩
      | false => exact findAsking_rel kt k (i + 1) t r hr
theorem findKey_rel {R : CR} (kt : TypeId) (k : Value) {es es' : List MapEntry} (h : L2 (Twin R) es es') (r : Option (Nat × Value)) (hr : dry P (Instr.findKey kt k es) = some r) : ∃ r', dry P (Instr.findKey kt k es') = some r' ∧ HitR R r r' := by
  unfold Instr.findKey at hr ⊢
  rw [dry_bind] at hr ⊢
  cases hd : dry P (Go.underlying kt) with
  | none => rw [hd] at hr; cases hr
  | some d =>
    rw [hd] at hr
    simp only [Option.bind_some] at hr ⊢
    rcases findNow_rel d k 0 h with ⟨h1, h2⟩ | ⟨q, q', h1, h2, h3⟩
    · rw [h1] at hr; rw [h2]; exact findAsking_rel kt k 0 h r hr
    · rw [h1] at hr; rw [h2]; cases hr; exact ⟨_, rfl, h3⟩
def lookupC (t : TypeId) (m k : Value) (ok : Bool) : Sem Value := do
  let .map key elem ← underlying t | stuck ""
  okIf (plainV 60 k)
  let es ← match m with
    | .map none => pure #[]
    | .map (some r) => do
      let .map es _ ← getObj r | stuck ""
      pure es
    | _ => stuck ""
  okIf (keysPlain es)
  let _ ← dryS (Instr.checkKey es.isEmpty 10000 key k)
  let (v, is) ← match ← dryS (Instr.findKey key k es.toList) with
    | some (_, v) => pure (v, true)
    | none => pure (← zeroValue elem, false)
  pure (if ok then .tuple #[v, .bool is] else v)
theorem sim_lookup (hP : PC P) (t : TypeId) (hel : ∀ k e, P.underlying t = some (.map k e) → e < P.types.size) {m m' k k' : Value} (ok : Bool) (hm : VR R0 m m') (hk : VR R0 k k') : Sim P R0 VR (lookupC t m k ok) (Instr.lookup t m' k' ok) := by
  unfold lookupC Instr.lookup
  refine sim_bind (sim_underlying t) fun R hle d d' ⟨hd, _⟩ => ?_
  subst hd
  cases d' <;> try exact sim_halt
  rename_i key elem _ _
  dsimp only
  refine sim_okIf fun hpk => ?_
  obtain rfl : k' = k := VR.plain_eq 60 _ _ hpk hk
  have fin : ∀ (R1 : CR) (es es' : Array MapEntry), MapR R1 es es' → Sim P R1 VR (do
      okIf (keysPlain es)
      let _ ← dryS (Instr.checkKey es.isEmpty 10000 key k')
      let (v, is) ← match ← dryS (Instr.findKey key k' es.toList) with
        | some (_, v) => pure (v, true)
        | none => pure (← zeroValue elem, false)
      pure (if ok then .tuple #[v, .bool is] else v)) (do
      Instr.checkKey es'.isEmpty 10000 key k'
      let (v, is) ← match ← Instr.findKey key k' es'.toList with
        | some (_, v) => pure (v, true)
        | none => pure (← zeroValue elem, false)
      pure (if ok then .tuple #[v, .bool is] else v)) := by
    intro R1 es es' h
    refine sim_okIf fun hkp => ?_
    have ht := twins h hkp
    have he : es'.isEmpty = es.isEmpty := by simp [Array.isEmpty, h.size]
    rw [he]
    refine sim_bind (S := fun _ _ _ => True) (sim_dryS fun a ha => ⟨a, ha, fun _ _ => trivial⟩) fun R2 hle2 _ _ _ => ?_
    refine sim_bind (S := fun R => HitR R) (sim_dryS fun a ha => ?_) fun R3 hle3 a b hab => ?_
    · obtain ⟨r', hr', hh⟩ := findKey_rel (R := R1) key k' ht a ha
      refine ⟨r', hr', fun R hle3 => ?_⟩
      cases hh with
      | none => exact .none
      | some i hv => exact .some i (hv.mono (CR.le_trans hle2 hle3))
    · have two : ∀ {R : CR} {u u' : Value} (b : Bool), VR R u u' → VR R (if ok then .tuple #[u, .bool b] else u) (if ok then .tuple #[u', .bool b] else u') := fun {R u u'} b hu => by
        split
        · have : ArrR R (#[].push u |>.push (.bool b)) (#[].push u' |>.push (.bool b)) := (ArrR.nil.push hu).push (.bool b)
          exact VR.tuple' (by simpa using this)
        · exact hu
      cases hab with
      | none =>
        dsimp only
        refine sim_bind (sim_zeroValue hP elem (hel _ _ (by assumption))) fun R4 hle4 z z' hz => ?_
        exact sim_pure fun R5 hle5 => two false (hz.2.mono hle5)
      | some i hv => exact sim_pure fun R5 hle5 => two true (hv.mono hle5)
  cases hm
  case nilMap => exact fin R #[] #[] ⟨rfl, by simp⟩
  case map r r' hr =>
    dsimp only
    refine sim_bind (sim_getObj (hle _ _ _ hr)) fun R1 hle1 o o' ⟨ho, _⟩ => ?_
    cases ho with
    | map clock hx => exact fin R1 _ _ hx
    | _ => exact sim_halt
  all_goals exact sim_halt
end Go.Can
