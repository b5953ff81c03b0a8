/-
  The real run follows the canonical evaluator: regions with looks that may also come after the first operation of the end.
-/
import Derived.Test.YtjneboajbmabbaaDoorCanV
set_option linter.unusedSimpArgs false
set_option linter.unusedVariables false
namespace Go.Can
variable {P : Program} {G : List Nat}

/-! What only reads leaves the canonical world as it is -/
def Reads (P : Program) {α : Type} (s : Sem α) : Prop := ∀ A v A', arun P s A = some (v, A') → A' = A
theorem reads_pure {α : Type} (a : α) : Reads P (pure a : Sem α) := fun A v A' h => by
  have h' : some (a, A) = some (v, A') := h
  cases h'; rfl
theorem reads_program : Reads P program := fun A v A' h => by
  have h' : some (P, A) = some (v, A') := h
  cases h'; rfl
theorem reads_stuck {α : Type} (e : String) : Reads P (stuck e : Sem α) := fun A v A' h => by cases h
theorem reads_bind {α β : Type} {s : Sem α} {f : α → Sem β} (hs : Reads P s) (hf : ∀ a, Reads P (f a)) : Reads P (s >>= f) := fun A v A' h => by
  rw [arun_bind'] at h
  cases hr : arun P s A with
  | none => rw [hr] at h; cases h
  | some x =>
    rw [hr] at h
    have h1 := hs A x.1 x.2 hr
    have h2 := hf x.1 x.2 v A' h
    rw [h2, h1]
theorem reads_underlying (t : TypeId) : Reads P (underlying t) := by
  unfold underlying
  refine reads_bind reads_program fun p => ?_
  cases p.underlying t with
  | none => exact reads_stuck _
  | some d => exact reads_pure d
theorem reads_sizeOf (t : TypeId) : Reads P (sizeOf t) := by
  unfold sizeOf typeInfo
  refine reads_bind (reads_bind reads_program fun p => ?_) fun i => reads_pure _
  cases p.info? t with
  | none => exact reads_stuck _
  | some d => exact reads_pure d
theorem reads_load (a : Addr) : Reads P (load a) := fun A v A' h => by
  unfold load at h
  unfold arun at h
  split at h
  · have h' : some (_, A) = some (v, A') := h
    cases h'; rfl
  · cases h
theorem reads_cells (a : Addr) : ∀ (n i : Nat) (acc : Array Value), Reads P (loadCellsFrom a i n acc)
  | 0, _, acc => reads_pure acc
  | n + 1, i, acc => reads_bind (reads_load _) fun _ => reads_cells a n (i + 1) _
theorem reads_loadVar (t : TypeId) (a : Addr) : Reads P (loadVar t a) := by
  unfold loadVar isAgg
  refine reads_bind (reads_bind (reads_underlying t) fun d => ?_) fun b => ?_
  · split <;> exact reads_pure _
  · cases b with
    | true => exact reads_bind (reads_sizeOf t) fun n => reads_bind (reads_cells a n 0 _) fun _ => reads_pure _
    | false => exact reads_load a
theorem reads_loadAt (t : TypeId) (v : Value) : Reads P (Instr.loadAt t v) := by
  unfold Instr.loadAt Instr.sureAddr
  refine reads_bind ?_ fun a => reads_loadVar t a
  split
  · exact reads_pure _
  · exact reads_stuck _
theorem reads_okIf (b : Bool) : Reads P (okIf b) := by
  cases b
  · exact reads_stuck _
  · exact reads_pure _
theorem reads_dryV (s : Sem Value) : Reads P (dryV s) := by
  unfold dryV dryS
  refine reads_bind (reads_bind reads_program fun p => ?_) fun v => reads_bind (reads_okIf _) fun _ => reads_pure _
  cases dry p s with
  | none => exact reads_stuck _
  | some a => exact reads_pure a
theorem reads_build (t : TypeId) (ps : Array (Nat × Value)) : Reads P (Instr.build t ps) := by
  unfold Instr.build zeroValue typeInfo
  refine reads_bind (reads_bind (reads_bind reads_program fun p => ?_) fun i => ?_) fun z => reads_bind (reads_underlying t) fun d => ?_
  · cases p.info? t with
    | none => exact reads_stuck _
    | some d => exact reads_pure d
  · cases i.zero with
    | none => exact fun A v A' h => by cases h
    | some v => exact reads_pure v
  · cases d with
    | struct fields =>
      refine reads_bind ?_ fun places => ?_
      · have key : ∀ (l : List Field) (acc : Array (Nat × Nat)), Reads P (l.foldlM (fun bs (f : Field) => bs.push <$> (do pure (f.offset, ← sizeOf f.type) : Sem (Nat × Nat))) acc) := by
          intro l
          induction l with
          | nil => intro acc; exact reads_pure _
          | cons f l ih =>
            intro acc
            simp only [List.foldlM_cons]
            refine reads_bind ?_ fun _ => ih _
            rw [map_eq_pure_bind]
            exact reads_bind (reads_bind (reads_sizeOf _) fun _ => reads_pure _) fun _ => reads_pure _
        rw [Array.mapM_eq_foldlM, ← Array.foldlM_toList]
        exact key _ _
      · cases Instr.fill (fun x => places[x]?) z.cells ps.toList with
        | none => exact reads_stuck _
        | some c => exact reads_pure _
    | array n elem =>
      refine reads_bind (reads_sizeOf _) fun size => ?_
      cases Instr.fill (fun i => some (i * size, size)) z.cells ps.toList with
      | none => exact reads_stuck _
      | some c => exact reads_pure _
    | _ => exact reads_stuck _
/-- a look makes no call, and leaves the canonical world as it is -/
theorem quiet_same {o : Oper} (hq : quietKind o = true) {c : Rec} {a : Act} {A A' : AW} {v : Value} (h : evOp P G c o a A = some (v, A')) (call : Rec) : evOp P G call o a A = some (v, A) := by
  unfold evOp at h ⊢
  split at h
  case isFalse => cases h
  rename_i hops
  rw [if_pos hops]
  unfold aop at h ⊢
  cases ho : o.op <;> first | (rw [quietKind, ho] at hq; cases hq; done) | skip
  case move x =>
    rw [ho] at h
    dsimp only at h ⊢
    cases h; rfl
  case load t x =>
    rw [ho] at h
    dsimp only at h ⊢
    unfold av at h ⊢
    cases hr : arun P (Instr.loadAt t (a.eval x)) A with
    | none => rw [hr] at h; cases h
    | some y =>
      obtain ⟨u, A2⟩ := y
      have := reads_loadAt t (a.eval x) A u A2 hr
      subst this
      rw [hr] at h
      cases h; rfl
  case nilCheck x =>
    rw [ho] at h
    dsimp only at h ⊢
    split at h <;> first | (cases h; done) | skip
    all_goals
      rename_i hx
      split at hx <;> first | (cases hx; done) | (cases hx; cases h; rfl)
  case unOp op ty x =>
    rw [ho] at h
    dsimp only at h ⊢
    by_cases hp : plainV 60 (a.eval x) = true
    · rw [if_pos hp] at h ⊢
      unfold av at h ⊢
      cases hr : arun P (dryV (Op.unary op (a.eval x))) A with
      | none => rw [hr] at h; cases h
      | some y =>
        obtain ⟨u, A2⟩ := y
        have := reads_dryV _ A u A2 hr
        subst this
        rw [hr] at h
        cases h; rfl
    · rw [if_neg hp] at h; cases h
  case build t ps =>
    rw [ho] at h
    dsimp only at h ⊢
    by_cases hp : decide (t < P.types.size) = true
    · rw [if_pos hp] at h ⊢
      unfold av at h ⊢
      cases hr : arun P (Instr.build t (ps.map fun (i, x) => (i, a.eval x))) A with
      | none => rw [hr] at h; cases h
      | some y =>
        obtain ⟨u, A2⟩ := y
        have := reads_build _ _ A u A2 hr
        subst this
        rw [hr] at h
        cases h; rfl
    · rw [if_neg hp] at h; cases h

/-- the slots of two runs, but for those in X -/
structure ActX (R : CR) (X : Nat → Prop) (a a' : Act) : Prop where
  size : a'.tmps.size = a.tmps.size
  slot : ∀ t, ¬ X t → ∀ v v', a.tmps[t]? = some v → a'.tmps[t]? = some v' → VR R v v'
  defers : L2 (DefR R) a.defers a'.defers
theorem ActX.mono {R R' : CR} {X : Nat → Prop} {a a' : Act} (h : ActX R X a a') (hle : CR.le R R') : ActX R' X a a' := ⟨h.size, fun t hx v v' h1 h2 => (h.slot t hx v v' h1 h2).mono hle, l2_defers hle h.defers⟩
theorem ActX.all {R : CR} {X : Nat → Prop} {a a' : Act} (h : ActX R X a a') (hX : ∀ t, ¬ X t) : ActR R a a' := ⟨⟨h.size, fun i v v' h1 h2 => h.slot i (hX i) v v' h1 h2⟩, h.defers⟩
theorem ActX.sub {R : CR} {X Y : Nat → Prop} {a a' : Act} (h : ActX R X a a') (hX : ∀ t, X t → Y t) : ActX R Y a a' := ⟨h.size, fun t ht => h.slot t fun hx => ht (hX t hx), h.defers⟩
theorem ActX.put {R : CR} {X : Nat → Prop} {a a' : Act} (h : ActX R X a a') (d : Option Tmp) {v v' : Value} (hv : VR R v v') : ActX R X (a.put d v) (a'.put d v') := by
  refine ⟨by rw [put_size, put_size, h.size], fun t ht u u' hu hu' => ?_, by cases d <;> exact h.defers⟩
  rw [put_get] at hu hu'
  rw [h.size] at hu'
  split at hu
  · rename_i hc
    rw [if_pos hc] at hu'
    cases hu; cases hu'; exact hv
  · rename_i hc
    rw [if_neg hc] at hu'
    exact h.slot t ht u u' hu hu'
theorem ActX.eval {ops : Array Oper} {R : CR} {X : Nat → Prop} {a a' : Act} (h : ActX R X a a') (hg : Gl G R) {o : Oper} (hX : ∀ t ∈ o.looksAt ops, ¬ X t) {x : Operand} (hx : x ∈ o.op.operands) (hxo : okOperand G x = true) : VR R (a.eval x) (a'.eval x) := by
  cases x with
  | tmp t =>
    have hlook : t ∈ o.looksAt ops := by
      unfold Oper.looksAt
      exact List.mem_append_left _ (List.mem_filterMap.2 ⟨.tmp t, by simpa using hx, rfl⟩)
    show VR R (a.tmps.getD t undef) (a'.tmps.getD t undef)
    rw [Array.getD_eq_getD_getElem?, Array.getD_eq_getD_getElem?]
    cases hv : a.tmps[t]? with
    | none =>
      have hge := Array.getElem?_eq_none_iff.1 hv
      have : a'.tmps[t]? = none := Array.getElem?_eq_none_iff.2 (by rw [h.size]; exact hge)
      rw [this]; exact .undef
    | some v =>
      have hlt2 : t < a'.tmps.size := by have := (Array.getElem?_eq_some_iff.1 hv).1; rw [h.size]; exact this
      have hv' : a'.tmps[t]? = some a'.tmps[t] := Array.getElem?_eq_getElem hlt2
      rw [hv']
      exact h.slot t (hX t hlook) v _ hv hv'
  | const v => exact VR.of_plain 60 v hxo
  | global g => exact .ptr ⟨⟨_, hg g (by simpa [okOperand] using hxo)⟩, rfl, rfl⟩
  | func f => exact .func (.func f) rfl (by simp) rfl (by simp)
theorem ActX.wanted {ops : Array Oper} {R : CR} {X : Nat → Prop} {a a' : Act} (h : ActX R X a a') {o : Oper} (hX : ∀ t ∈ o.looksAt ops, ¬ X t) : Region.wanted o (yielded ops a'.tmps) = Region.wanted o (yielded ops a.tmps) := by
  unfold Region.wanted
  cases hgd : o.guard with
  | none => rfl
  | some gw =>
    obtain ⟨g, want⟩ := gw
    have hy : yielded ops a'.tmps g = yielded ops a.tmps g := by
      unfold yielded
      cases ht : (ops[g]?.bind fun x => x.dst) with
      | none => rfl
      | some t =>
        have hlook : t ∈ o.looksAt ops := by
          unfold Oper.looksAt
          rw [hgd]
          simp only [List.mem_append]
          right
          have ht2 : (ops[g]?).bind (·.dst) = some t := ht
          simp [ht2]
        simp only [Option.bind_some]
        cases hv : a.tmps[t]? with
        | none =>
          have hge := Array.getElem?_eq_none_iff.1 hv
          have : a'.tmps[t]? = none := Array.getElem?_eq_none_iff.2 (by rw [h.size]; exact hge)
          rw [this]
        | some v =>
          have hlt2 : t < a'.tmps.size := by have := (Array.getElem?_eq_some_iff.1 hv).1; rw [h.size]; exact this
          have hv' : a'.tmps[t]? = some a'.tmps[t] := Array.getElem?_eq_getElem hlt2
          have := h.slot t (hX t hlook) v _ hv hv'
          rw [hv']
          revert this
          generalize a'.tmps[t] = u
          intro this
          cases this <;> rfl
    simp only [hy]
theorem ActX.of_put {R : CR} {X : Nat → Prop} {a a' : Act} (d : Tmp) {v v' : Value} (hv : a.tmps[d]? = some v) (h : ActX R (fun t => X t ∨ t = d) a a') (hvr : VR R v v') : ActX R X a (a'.put (some d) v') := by
  refine ⟨by rw [put_size, h.size], fun t ht u u' hu hu' => ?_, h.defers⟩
  rw [put_get] at hu'
  split at hu'
  · rename_i hc
    cases hu'
    have : t = d := (Option.some.inj hc.1).symm
    subst this
    rw [hv] at hu; cases hu; exact hvr
  · rename_i hc
    by_cases htd : t = d
    · subst htd
      have : t < a'.tmps.size := (Array.getElem?_eq_some_iff.1 hu').1
      exact absurd ⟨rfl, this⟩ hc
    · exact h.slot t (fun hx => hx.elim ht htd) u u' hu hu'

section
variable {call : Rec} {ops : Array Oper} {ds : List Done} {a0 : Act} {A A1 : AW}
/-- slots of late looks that are not through -/
def Pending (ops : Array Oper) (late : List Nat) (listed : Array Bool) (t : Nat) : Prop := ∃ f ∈ late, ∃ o, listed.getD f false = false ∧ ops[f]? = some o ∧ o.dst = some t
theorem some_ready (T : Story P G call ops ds a0 A A1) : ∀ (listed : Array Bool), listed.size = ops.size → ∀ i, i < ds.length → listed.getD i false = false → Region.ready .any ops listed ≠ [] := by
  intro listed hls i
  induction i using Nat.strongRecOn with
  | _ i ih =>
    intro hi hc hrd
    obtain ⟨d, hd⟩ : ∃ d, ds[i]? = some d := ⟨_, List.getElem?_eq_getElem hi⟩
    have hop := T.op i _ hd
    have hlt : i < listed.size := by have := T.len; omega
    by_cases hall : ∀ e ∈ d.o.after, Region.binds .any e = true → listed.getD e.on false = true
    · have : i ∈ Region.ready .any ops listed := by
        rw [mem_ready]
        refine ⟨?_, _, hop, hall⟩
        simp [Array.getD, hlt] at hc ⊢; exact hc
      rw [hrd] at this; cases this
    · have : ∃ e, e ∈ d.o.after ∧ Region.binds .any e = true ∧ listed.getD e.on false = false := by
        refine Classical.byContradiction fun hno => hall fun e he hb => ?_
        cases hx : listed.getD e.on false with
        | true => rfl
        | false => exact absurd ⟨e, he, hb, hx⟩ hno
      obtain ⟨e, he, hb, hx⟩ := this
      have hdir : e.on ∈ directs d.o := List.mem_map.2 ⟨e, List.mem_filter.2 ⟨by simpa using he, hb⟩, rfl⟩
      have hlt2 := (T.step i _ hd).dir _ hdir
      exact ih e.on hlt2 (by omega) hx hrd
/-- late looks, after the first operation of the end -/
theorem pend_any (hP : PC2 P) (hc : RecOk P G call) (T : Story P G call ops ds a0 A A1) (rd : Option Nat) (m : Nat) {Z : Exit → Act → World → Prop} {late : List Nat} {a3 : Act} {A3 : AW} {Rs : CR} {As : AW} {ws : World} (hws : WR Rs As ws) (hlt : ∀ f ∈ late, f < ds.length)
    (hquiet : ∀ f ∈ late, ∃ o t v, ops[f]? = some o ∧ o.dst = some t ∧ a3.tmps[t]? = some v ∧ Region.wanted o (yielded ops a3.tmps) = true ∧ evOp P G call o a3 A3 = some (v, A3) ∧ t ∉ o.looksAt ops)
    (hkeep : ∀ f ∈ late, ∀ g ∈ late, g ≠ f → Bef ops g f ∨ ∀ o y t, ops[f]? = some o → ops[g]? = some y → y.dst = some t → t ∉ o.looksAt ops)
    (htail : ∀ k o, ds.length < k → ops[k]? = some o → ∀ f ∈ late, Bef ops f k)
    (fin : ∀ (listed : Array Bool) (R : CR) (a' : Act) (w : World), listed.size = ops.size → (∀ i, i ≤ ds.length → listed.getD i false = true) → (∀ i, ds.length < i → listed.getD i false = false) →
      (∀ i o, listed.getD i false = true → ops[i]? = some o → ∀ j ∈ directs o, listed.getD j false = true) → WR R A3 w → Gl G R → ActR R a3 a' → Ext Rs As ws R A3 w → wpAnyIn (Fr rd) m P .any ops Z (listed.toList.count false) listed a' w) :
    ∀ (fuel : Nat) (listed : Array Bool) (R : CR) (a' : Act) (w : World), listed.size = ops.size → listed.toList.count false = fuel → (∀ i, i < ds.length → listed.getD i false = true ∨ i ∈ late) → listed.getD ds.length false = true → (∀ i, ds.length < i → listed.getD i false = false) →
      (∀ i o, listed.getD i false = true → ops[i]? = some o → ∀ j ∈ directs o, listed.getD j false = true) → WR R A3 w → Gl G R → ActX R (Pending ops late listed) a3 a' → Ext Rs As ws R A3 w → wpAnyIn (Fr rd) m P .any ops Z fuel listed a' w := by
  have done : ∀ (listed : Array Bool) (R : CR) (a' : Act) (w : World), listed.size = ops.size → (∀ i, i < ds.length → listed.getD i false = true) → listed.getD ds.length false = true → (∀ i, ds.length < i → listed.getD i false = false) →
      (∀ i o, listed.getD i false = true → ops[i]? = some o → ∀ j ∈ directs o, listed.getD j false = true) → WR R A3 w → Gl G R → ActX R (Pending ops late listed) a3 a' → Ext Rs As ws R A3 w → wpAnyIn (Fr rd) m P .any ops Z (listed.toList.count false) listed a' w := by
    intro listed R a' w hls hall hW hun hcl hw hg ha hex
    refine fin listed R a' w hls (fun i hi => ?_) hun hcl hw hg (ha.all fun t ⟨f, hf, o, hx, _⟩ => by rw [hall f (hlt f hf)] at hx; cases hx) hex
    rcases Nat.lt_or_ge i ds.length with h | h
    · exact hall i h
    · obtain rfl : i = ds.length := by omega
      exact hW
  intro fuel
  induction fuel with
  | zero =>
    intro listed R a' w hls hcnt hl hW hun hcl hw hg ha hex
    have hall : ∀ i, i < ds.length → listed.getD i false = true := fun i hi => by
      cases hx : listed.getD i false with
      | true => rfl
      | false =>
        have hil : i < listed.size := by have := T.len; omega
        have hf : listed[i] = false := by simpa [Array.getD, hil] using hx
        have : false ∈ listed.toList := by rw [← hf]; simp
        have := List.count_pos_iff.2 this
        omega
    have := done listed R a' w hls hall hW hun hcl hw hg ha hex
    rw [hcnt] at this; exact this
  | succ fuel ih =>
    intro listed R a' w hls hcnt hl hW hun hcl hw hg ha hex
    by_cases hall : ∀ i, i < ds.length → listed.getD i false = true
    · have := done listed R a' w hls hall hW hun hcl hw hg ha hex
      rw [hcnt] at this; exact this
    obtain ⟨i0, hi0, hi0f⟩ : ∃ i, i < ds.length ∧ listed.getD i false = false := by
      refine Classical.byContradiction fun hno => hall fun i hi => ?_
      cases hx : listed.getD i false with
      | true => rfl
      | false => exact absurd ⟨i, hi, hx⟩ hno
    refine ⟨fun hrd => absurd hrd (some_ready T listed hls i0 hi0 hi0f), fun i hi => ?_⟩
    obtain ⟨h1, o', hop', hdeps⟩ := mem_ready.1 hi
    have hil : i < listed.size := by
      rcases Nat.lt_or_ge i listed.size with h | h
      · exact h
      · simp [Array.getD, Nat.not_lt.2 h] at h1
    have hif : listed.getD i false = false := by simpa [Array.getD, hil] using h1
    have bef : ∀ j, Bef ops j i → listed.getD j false = true := fun j hb => hb.mem (D := fun i => listed.getD i false = true) (fun i o' hi ho' j hj => hcl i o' hi ho' j hj) fun o2 ho2 j hj => by
      rw [hop'] at ho2; cases ho2
      obtain ⟨e, he, rfl⟩ := List.mem_map.1 hj
      obtain ⟨he1, he2⟩ := List.mem_filter.1 he
      exact hdeps e (by simpa using he1) he2
    have hids : i < ds.length := by
      rcases Nat.lt_trichotomy i ds.length with h | h | h
      · exact h
      · rw [h, hW] at hif; cases hif
      · rcases hl i0 hi0 with h2 | h2
        · rw [h2] at hi0f; cases hi0f
        · rw [bef i0 (htail i o' h hop' i0 h2)] at hi0f; cases hi0f
    have hlate : i ∈ late := (hl i hids).resolve_left (by rw [hif]; decide)
    obtain ⟨o, t, v, hop, hdst, hv, hwn, hev, hself⟩ := hquiet i hlate
    have ho : o = o' := by rw [hop] at hop'; exact Option.some.inj hop'
    subst ho
    have hX : ∀ t' ∈ o.looksAt ops, ¬ Pending ops late listed t' := fun t' ht' ⟨g, hg2, y, hgf, hy, hyd⟩ => by
      by_cases hgi : g = i
      · subst hgi
        rw [hop] at hy; cases hy
        rw [hdst] at hyd; cases hyd
        exact hself ht'
      · rcases hkeep i hlate g hg2 hgi with hb | hk
        · rw [bef g hb] at hgf; cases hgf
        · exact hk o y t' hop hy hyd ht'
    unfold wpOpIn
    simp only [hop]
    rw [ha.wanted hX, if_pos hwn]
    refine evOp_ok hP hc hev hw hg (fun x hx hxo => ha.eval hg hX hx hxo) rd m fun R2 v2 w2 hex2 hw2 hv2 => ?_
    rw [hdst]
    have hcnt2 : (listed.setIfInBounds i true).toList.count false = fuel := by
      rw [Array.toList_setIfInBounds, List.count_set (by simpa using hil)]
      have hpos : 0 < listed.toList.count false := by omega
      have hfl : listed.toList[i]'(by simpa using hil) = false := by simpa [Array.getD, hil] using hif
      rw [hfl]
      have e1 : (true == false) = false := rfl
      have e2 : (false == false) = true := rfl
      simp only [e1, e2, if_true, Bool.false_eq_true, if_false]
      omega
    refine ih _ R2 _ w2 (by simpa using hls) hcnt2 (fun j hj => (hl j hj).imp (fun h => getD_set_true h) id) (getD_set_true hW) (fun j hj => by rw [getD_set_ne false (by omega)]; exact hun j hj) (fun j o' hj ho' x hx => ?_) hw2 (hg.mono hex2.le) ?_ (hex.trans hws hex2)
    · have hjD : listed.getD j false = true ∨ j = i := by
        by_cases e : i = j
        · exact .inr e.symm
        · rw [getD_set_ne false e] at hj; exact .inl hj
      rcases hjD with h | rfl
      · exact getD_set_true (hcl j o' h ho' x hx)
      · rw [hop] at ho'; cases ho'
        obtain ⟨e, he, rfl⟩ := List.mem_map.1 hx
        obtain ⟨he1, he2⟩ := List.mem_filter.1 he
        exact getD_set_true (hdeps e (by simpa using he1) he2)
    · refine ActX.of_put t hv ((ha.mono hex2.le).sub fun t' ⟨g, hg2, y, hgf, hy, hyd⟩ => ?_) hv2
      by_cases hgi : g = i
      · subst hgi
        rw [hop] at hy; cases hy
        rw [hdst] at hyd; cases hyd
        exact .inr rfl
      · exact .inl ⟨g, hg2, y, by rw [getD_set_ne false (Ne.symm hgi)]; exact hgf, hy, hyd⟩
/-- the first operation of the end, while late looks are not through -/
theorem early_any (hP : PC2 P) (hc : RecOk P G call) (T : Story P G call ops ds a0 A A1) {R : CR} {w0 : World} (hw : WR R A w0) (hg : Gl G R) {a0' : Act} (hr : ActR R a0 a0') (rd : Option Nat) (m : Nat) {Z : Exit → Act → World → Prop} {late : List Nat} {oW : Oper} {a3 : Act} {A3 : AW}
    (hW0 : ops[ds.length]? = some oW) (heW : evOps P G call ops [oW] (putSeen (fun _ => true) 0 ds a0) A1 = some (a3, A3)) (hlt : ∀ f ∈ late, f < ds.length)
    (hquiet : ∀ f ∈ late, ∃ o t v, ops[f]? = some o ∧ o.dst = some t ∧ a3.tmps[t]? = some v ∧ Region.wanted o (yielded ops a3.tmps) = true ∧ evOp P G call o a3 A3 = some (v, A3) ∧ t ∉ o.looksAt ops)
    (hkeep : ∀ f ∈ late, ∀ g ∈ late, g ≠ f → Bef ops g f ∨ ∀ o y t, ops[f]? = some o → ops[g]? = some y → y.dst = some t → t ∉ o.looksAt ops)
    (htail : ∀ k o, ds.length < k → ops[k]? = some o → ∀ f ∈ late, Bef ops f k)
    (hoff : ∀ f ∈ late, ∀ o t, ops[f]? = some o → o.dst = some t → t ∉ oW.looksAt ops) (hLt : ∀ i, T.Lt i → i ∈ late)
    (fin : ∀ (listed : Array Bool) (R' : CR) (a' : Act) (w : World), listed.size = ops.size → (∀ i, i ≤ ds.length → listed.getD i false = true) → (∀ i, ds.length < i → listed.getD i false = false) →
      (∀ i o, listed.getD i false = true → ops[i]? = some o → ∀ j ∈ directs o, listed.getD j false = true) → WR R' A3 w → Gl G R' → ActR R' a3 a' → Ext R A w0 R' A3 w → wpAnyIn (Fr rd) m P .any ops Z (listed.toList.count false) listed a' w) :
    ∀ (fuel : Nat) (listed : Array Bool) (Q : CR) (a' : Act) (w : World), listed.size = ops.size → listed.toList.count false = fuel + 1 → (∀ i o, listed.getD i false = true → ops[i]? = some o → ∀ j ∈ directs o, listed.getD j false = true) →
      (∀ i, ds.length ≤ i → listed.getD i false = false) → (∀ i, i < ds.length → listed.getD i false = true ∨ T.Lt i) → (∃ i, i < ds.length ∧ listed.getD i false = false) → ds.length ∈ Region.ready .any ops listed →
      Inv T R w0 a0' (fun i => listed.getD i false = true) Q a' w → wpOpIn (Fr rd) m P ops Z ds.length (wpAnyIn (Fr rd) m P .any ops Z fuel (listed.setIfInBounds ds.length true)) a' w := by
  intro fuel listed Q a' w hls hcnt hcl hun hl _ hrdy I
  obtain ⟨h1, o', hop', hdeps⟩ := mem_ready.1 hrdy
  have hil : ds.length < listed.size := by rw [hls]; exact (Array.getElem?_eq_some_iff.1 hW0).1
  have hif : listed.getD ds.length false = false := hun _ (Nat.le_refl _)
  have hlm : ∀ i, i < ds.length → listed.getD i false = false → i ∈ late := fun i hi hx => hLt i ((hl i hi).resolve_left (by rw [hx]; decide))
  let R2 : CR := Rest ds A.size Q fun i => listed.getD i false = true
  have hwr : WR R2 A1 w := I.wr _ I.closed fun _ h => h
  have hleR : CR.le R R2 := fun b x l h => ⟨I.le _ _ _ h, .inl (hw.dom _ _ _ h).1⟩
  have hg2 : Gl G R2 := hg.mono hleR
  have hsz : A.size ≤ A1.size := by
    have h1 := T.size_le (Nat.zero_le _) (Nat.le_refl _)
    rw [T.first, T.last] at h1; exact h1
  have hro : A1.ro = A.ro := by have := T.ro (Nat.le_refl _); rw [T.last] at this; exact this
  have hex : Ext R A w0 R2 A1 w := by
    refine ⟨hleR, fun b x l h => (I.fresh _ _ _ h.1).imp id fun h => ⟨h.1, .inl h.2⟩, hsz, I.wsize, hro, fun b hb hal => ?_, fun x hx _ => I.same x hx, I.os, I.tape, I.output⟩
    have h1 := T.heap (Nat.zero_le _) (Nat.le_refl _) (b := b) (by rw [T.first]; exact hb)
    rw [T.last, T.first] at h1
    simp only [AW.alive, h1.1] at hal ⊢; exact hal
  have hact : ActX R2 (Pending ops late listed) (putSeen (fun _ => true) 0 ds a0) a' := by
    refine ⟨by rw [(putSeen_size _ ds 0 a0).1]; exact I.size, fun t ht v v' hv hv' => ?_, by rw [(putSeen_size _ ds 0 a0).2, I.defers]; exact l2_defers hleR hr.defers⟩
    let S : Nat → Bool := fun i => listed.getD i false
    have hput : (putSeen (fun _ => true) 0 ds a0).tmps[t]? = (putSeen S 0 ds a0).tmps[t]? := putSeen_agree _ _ t ds 0 _ _ rfl rfl fun i e hi het => by
      have hids := lt_of_get hi
      cases hx : listed.getD i false with
      | true => simp only [S]; rw [Nat.zero_add, hx]
      | false => exact absurd ⟨i, hlm i hids hx, e.o, hx, T.op i e hi, het⟩ ht
    rw [hput] at hv
    exact I.slot S (fun i e hi he j hj => I.closed i e hi he j hj) (fun i hi => hi) t (fun i e hi _ _ => hi) v v' hv hv'
  have hX : ∀ t ∈ oW.looksAt ops, ¬ Pending ops late listed t := fun t ht ⟨f, hf, y, _, hy, hyd⟩ => hoff f hf y t hy hyd ht
  have hcnt2 : (listed.setIfInBounds ds.length true).toList.count false = fuel := by
    rw [Array.toList_setIfInBounds, List.count_set (by simpa using hil)]
    have hfl : listed.toList[ds.length]'(by simpa using hil) = false := by simpa [Array.getD, hil] using hif
    rw [hfl]
    have e1 : (true == false) = false := rfl
    have e2 : (false == false) = true := rfl
    simp only [e1, e2, if_true, Bool.false_eq_true, if_false]
    omega
  have next : ∀ (R3 : CR) (a2' : Act) (w3 : World), WR R3 A3 w3 → Gl G R3 → ActX R3 (Pending ops late listed) a3 a2' → Ext R A w0 R3 A3 w3 → wpAnyIn (Fr rd) m P .any ops Z fuel (listed.setIfInBounds ds.length true) a2' w3 := fun R3 a2' w3 h1 h2 h3 h4 => by
    refine pend_any hP hc T rd m hw hlt hquiet hkeep htail fin fuel _ R3 a2' w3 (by simpa using hls) hcnt2 (fun i hi => ?_) ?_ (fun i hi => by rw [getD_set_ne false (by omega)]; exact hun i (by omega)) (fun j o2 hj ho2 x hx => ?_) h1 h2 (h3.sub fun t ⟨f, hf, y, hx, hy, hyd⟩ => ⟨f, hf, y, by rw [getD_set_ne false (by have := hlt f hf; omega)]; exact hx, hy, hyd⟩) h4
    · rw [getD_set_ne false (by omega)]
      cases hx : listed.getD i false with
      | true => exact .inl rfl
      | false => exact .inr (hlm i hi hx)
    · simp [Array.getD, hil]
    · by_cases e : ds.length = j
      · subst e
        rw [hop'] at ho2; cases ho2
        obtain ⟨e, he, rfl⟩ := List.mem_map.1 hx
        obtain ⟨he1, he2⟩ := List.mem_filter.1 he
        exact getD_set_true (hdeps e (by simpa using he1) he2)
      · rw [getD_set_ne false e] at hj
        exact getD_set_true (hcl j o2 hj ho2 x hx)
  unfold wpOpIn
  simp only [hW0]
  rw [hact.wanted hX]
  unfold evOps at heW
  split at heW
  · rename_i hwn
    rw [if_pos hwn]
    split at heW
    case h_2 => cases heW
    rename_i v A4 hop
    simp only [evOps, Option.some.injEq, Prod.mk.injEq] at heW
    obtain ⟨rfl, rfl⟩ := heW
    refine evOp_ok hP hc hop hwr hg2 (fun x hx hxo => hact.eval hg2 hX hx hxo) rd m fun R3 v2 w3 hex3 hw3 hv => ?_
    exact next R3 _ w3 hw3 (hg2.mono hex3.le) ((hact.mono hex3.le).put oW.dst hv) (hex.trans hw hex3)
  · rename_i hwn
    rw [if_neg hwn]
    simp only [evOps, Option.some.injEq, Prod.mk.injEq] at heW
    obtain ⟨rfl, rfl⟩ := heW
    exact ⟨fun _ _ => trivial, next R2 _ w hwr hg2 (hact.put oW.dst .undef) hex⟩
end
theorem evOps_append {call : Rec} {ops : Array Oper} : ∀ (l1 : List Oper) {l2 : List Oper} {a a3 : Act} {A A3 : AW} {r : Act × AW}, evOps P G call ops l1 a A = some (a3, A3) → evOps P G call ops l2 a3 A3 = some r → evOps P G call ops (l1 ++ l2) a A = some r
  | [], _, a, a3, A, A3, r, h, k => by
    simp only [evOps, Option.some.injEq, Prod.mk.injEq] at h
    obtain ⟨rfl, rfl⟩ := h
    exact k
  | o :: l, _, a, a3, A, A3, r, h, k => by
    rw [List.cons_append]
    unfold evOps at h ⊢
    split at h
    · rename_i hw
      rw [if_pos hw]
      split at h
      case h_2 => cases h
      exact evOps_append l h k
    · rename_i hw
      rw [if_neg hw]
      exact evOps_append l h k
theorem count_end {n k : Nat} {listed : Array Bool} (hs : listed.size = n) (hk : k ≤ n) (h1 : ∀ i, i < k → listed.getD i false = true) (h2 : ∀ i, k ≤ i → listed.getD i false = false) : listed.toList.count false = n - k := by
  have e : listed.toList = List.replicate k true ++ List.replicate (n - k) false := by
    apply List.ext_getElem?
    intro i
    rw [List.getElem?_append, List.length_replicate]
    simp only [List.getElem?_replicate, Array.getElem?_toList]
    by_cases hi : i < k
    · rw [if_pos hi, if_pos hi]
      have := h1 i hi
      have hlt : i < listed.size := by omega
      simp [Array.getD, hlt] at this ⊢; exact this
    · rw [if_neg hi]
      by_cases hi2 : i < n
      · rw [if_pos (by omega)]
        have := h2 i (by omega)
        have hlt : i < listed.size := by omega
        simp [Array.getD, hlt] at this ⊢; exact this
      · rw [if_neg (by omega)]
        exact Array.getElem?_eq_none (by omega)
  rw [e, List.count_append, List.count_replicate, List.count_replicate]
  simp
theorem runLate_any (hP : PC2 P) {call : Rec} (hc : RecOk P G call) {ops : Array Oper} {a a1 : Act} {A A1 : AW} {fl : Bool} (rd : Option Nat) (hfl : fl = true → rd = none) (hck : lateOk P fl ops = true) (he : runLate P G call fl ops a A = some (a1, A1)) {R : CR} {w : World} (hw : WR R A w) (hg : Gl G R) {a' : Act} (hr : ActR R a a') (m : Nat) :
    wpAnyIn (Fr rd) m P .any ops (Post R A w .normal a1 A1) ops.size (Array.replicate ops.size false) a' { w with drawn := w.drawn + 1 } := by
  unfold lateOk at hck
  unfold runLate at he
  dsimp only at hck he
  generalize hmm : lateM P fl ops (seesList [] ops.toList) = mm at he hck
  generalize hFF : drawFl P fl ops (seesList [] ops.toList) = F at he hck
  generalize lateOps F ops (seesList [] ops.toList) mm = late at he hck
  simp only [Bool.and_eq_true] at hck
  obtain ⟨⟨⟨⟨c0, c1⟩, c2⟩, c3⟩, c4⟩ := hck
  split at he
  case h_2 => cases he
  rename_i ds A2 hdr
  split at he
  case h_2 => cases he
  rename_i a3 A3 heW
  split at he
  case isFalse => cases he
  rename_i hsm
  obtain ⟨q1, _, W, w1, w2, w3⟩ := evDraw_spec (ops.toList.take mm) [] hdr
  simp only [List.length_nil, Nat.zero_add] at q1 w1 w3
  have hdl : ds.length ≤ ops.size := by rw [q1, List.length_take]; simp; omega
  have hst : ∀ (k : Nat) (d : Done), ds[k]? = some d → ops[k]? = some d.o ∧ StepOk P G call ops ds a k d (W k) (W (k + 1)) := fun k d hd => by
    have hk := (List.getElem?_eq_some_iff.1 hd).1
    obtain ⟨d', o, z1, z2, z3⟩ := w3 k (Nat.zero_le _) hk
    rw [hd] at z1; cases z1
    obtain ⟨e1, e2⟩ := step_of_evDraw1 hk hd z3
    refine ⟨?_, e2⟩
    rw [e1]
    simp only [Nat.sub_zero] at z2
    rw [List.getElem?_take] at z2
    split at z2
    · simpa using z2
    · cases z2
  have hspec := seesList_spec ops ops.toList [] (by simp) (by simp)
  have hmsz : mm < ops.size := of_decide_eq_true c0
  have hdm : ds.length = mm := by rw [q1, List.length_take]; simp; omega
  have tk : ∀ (k : Nat) (o : Oper), mm ≤ k → ops[k]? = some o → ∃ s, (seesList [] ops.toList)[k]? = some s ∧ endOk F ops k o = true ∧ (k = mm ∨ (seesHead F mm s = true ∧ ∀ f ∈ late, f ∈ s)) := fun k o hk ho => by
    have := List.all_eq_true.1 c1 k (by simpa using (Array.getElem?_eq_some_iff.1 ho).1)
    rw [ho, Bool.or_eq_true] at this
    rcases this with h | h
    · have := of_decide_eq_true h; omega
    · split at h
      · rename_i o' s e1 e2
        cases e1
        simp only [Bool.and_eq_true, Bool.or_eq_true] at h
        refine ⟨s, e2, h.1, h.2.imp (fun h => of_decide_eq_true h) fun h => ⟨h.1, fun f hf => ?_⟩⟩
        have := List.all_eq_true.1 h.2 f hf
        simpa using this
      · cases h
  have hend : ∀ (k : Nat) (o : Oper), mm ≤ k → ops[k]? = some o → (∀ j ∈ directs o, j < k) ∧ (F k = true ∨ ∀ i oi, k < i → ops[i]? = some oi → ∃ j ∈ directs oi, k ≤ j) := fun k o hk ho => by
    obtain ⟨s, _, q2, _⟩ := tk k o hk ho
    unfold endOk at q2
    rw [Bool.and_eq_true, Bool.or_eq_true] at q2
    refine ⟨fun j hj => by have := List.all_eq_true.1 q2.1 j hj; simpa using this, q2.2.imp id fun h i oi hi hoi => ?_⟩
    have := List.all_eq_true.1 h i (by simpa using (Array.getElem?_eq_some_iff.1 hoi).1)
    rw [hoi, Bool.or_eq_true] at this
    rcases this with h1 | h1
    · have := of_decide_eq_true h1; omega
    · obtain ⟨j, hj, hkj⟩ := List.any_eq_true.1 h1
      exact ⟨j, hj, of_decide_eq_true hkj⟩
  have hF : ∀ f, F f = true → Region.noSelect ops = true ∧ fl = true ∧ ∀ o, ops[f]? = some o → floatsOp P o = true ∧ ∀ (j : Nat) (oj : Oper), ops[j]? = some oj → j ≠ f → Bef ops j f ∨ (∃ e ∈ oj.after, Region.binds .any e = true ∧ e.on = f) ∨ o.apart ops oj = true := fun f hf => by
    subst hFF
    unfold drawFl at hf
    simp only [Bool.and_eq_true] at hf
    obtain ⟨⟨f1, f2⟩, f3⟩ := hf
    refine ⟨f2, f1, fun o ho => ?_⟩
    unfold floatB at f3
    rw [ho] at f3
    split at f3
    case h_2 => cases f3
    rename_i o' s e1 e2
    cases e1
    rw [Bool.and_eq_true] at f3
    refine ⟨f3.1, fun j oj hj hne => ?_⟩
    have := List.all_eq_true.1 f3.2 j (by simpa using (Array.getElem?_eq_some_iff.1 hj).1)
    simp only [hj, Bool.or_eq_true, beq_iff_eq, hne, false_or] at this
    rcases this with h | h | h
    · exact .inl (hspec.2 f s e2 j (by simpa using h))
    · obtain ⟨e, he, hb⟩ := Array.any_eq_true'.1 h
      simp only [Bool.and_eq_true, beq_iff_eq] at hb
      exact .inr (.inl ⟨e, he, hb.1, hb.2⟩)
    · exact .inr (.inr h)
  obtain ⟨oW, hW0⟩ : ∃ o, ops[mm]? = some o := ⟨_, Array.getElem?_eq_getElem hmsz⟩
  have hrest : ∀ (k : Nat) (o : Oper), mm ≤ k → ops[k]? = some o → ∀ j, j < mm → Bef ops j k ∨ F j = true ∨ (k = mm ∧ j ∈ late) := fun k o hk ho j hj => by
    obtain ⟨s, s1, _, s3⟩ := tk k o hk ho
    rcases s3 with rfl | ⟨s3, _⟩
    · rw [s1] at c2
      have := List.all_eq_true.1 c2 j (by simpa using hj)
      simp only [Bool.or_eq_true] at this
      rcases this with (h | h) | h
      · exact .inl (hspec.2 k s s1 j (by simpa using h))
      · exact .inr (.inl h)
      · exact .inr (.inr ⟨rfl, by simpa using h⟩)
    · have := List.all_eq_true.1 s3 j (by simpa using hj)
      rw [Bool.or_eq_true] at this
      rcases this with h | h
      · exact .inl (hspec.2 k s s1 j (by simpa using h))
      · exact .inr (.inl h)
  have hltc : ∀ (j : Nat) (o : Oper), j < ds.length → ops[j]? = some o → F j = true → (∃ i ∈ directs o, i ∈ late) → j ∈ late := fun j o hj ho hFj ⟨i, hi, hil⟩ => by
    have := List.all_eq_true.1 c3 j (by rw [← hdm]; simpa using hj)
    rw [ho] at this
    simp only [Bool.or_eq_true, Bool.not_eq_true'] at this
    rcases this with h | h
    · have h2 : (directs o).any late.contains = true := List.any_eq_true.2 ⟨i, hi, by simpa using hil⟩
      rw [hFj, h2] at h; cases h
    · simpa using h
  have hlf : ∀ f ∈ late, f < mm ∧ ∃ x s, ops[f]? = some x ∧ (seesList [] ops.toList)[f]? = some s ∧ quietKind x = true ∧ keepsOff ops x oW = true ∧ (∀ t, x.dst = some t → t ∉ x.looksAt ops) ∧ ∀ g ∈ late, g ∈ s ∨ g = f ∨ ∀ y, ops[g]? = some y → keepsOff ops y x = true := fun f hf => by
    have := List.all_eq_true.1 c4 f hf
    rw [Bool.and_eq_true] at this
    refine ⟨of_decide_eq_true this.1, ?_⟩
    have h := this.2
    split at h
    · rename_i x o s e1 e2 e3
      rw [hW0] at e2; cases e2
      simp only [Bool.and_eq_true] at h
      obtain ⟨⟨⟨⟨h1, h2⟩, _⟩, h4⟩, h5⟩ := h
      refine ⟨x, s, e1, e3, h1, h2, fun t ht => ?_, fun g hg2 => ?_⟩
      · rw [ht] at h4
        simpa using h4
      · have := List.all_eq_true.1 h5 g hg2
        simp only [Bool.or_eq_true] at this
        rcases this with (h | h) | h
        · exact .inl (by simpa using h)
        · exact .inr (.inl (of_decide_eq_true h))
        · exact .inr (.inr fun y hy => by rw [hy] at h; exact h)
    · cases h
  have off : ∀ {x y : Oper} {t : Tmp}, keepsOff ops x y = true → x.dst = some t → t ∉ y.looksAt ops := fun {x y t} h hx => by
    unfold keepsOff at h
    rw [hx] at h
    simp only [Bool.and_eq_true, Bool.not_eq_true'] at h
    simpa using h.1
  have hquiet : ∀ f ∈ late, ∃ o t v, ops[f]? = some o ∧ o.dst = some t ∧ a3.tmps[t]? = some v ∧ Region.wanted o (yielded ops a3.tmps) = true ∧ evOp P G call o a3 A3 = some (v, A3) ∧ t ∉ o.looksAt ops := fun f hf => by
    obtain ⟨_, x, s, e1, _, hq, _, hself, _⟩ := hlf f hf
    have := List.all_eq_true.1 hsm f hf
    unfold lateSame at this
    rw [e1] at this
    simp only [Bool.and_eq_true] at this
    obtain ⟨hwn, h⟩ := this
    split at h
    · rename_i t ht
      split at h
      · rename_i v A4 u ev hu
        have hvu := sameV_eq h
        subst hvu
        exact ⟨x, t, v, e1, ht, hu, hwn, quiet_same hq ev call, hself t ht⟩
      · cases h
    · cases h
  have hkeep : ∀ f ∈ late, ∀ g ∈ late, g ≠ f → Bef ops g f ∨ ∀ o y t, ops[f]? = some o → ops[g]? = some y → y.dst = some t → t ∉ o.looksAt ops := fun f hf g hg2 hne => by
    obtain ⟨_, x, s, e1, e3, _, _, _, h5⟩ := hlf f hf
    rcases h5 g hg2 with h | h | h
    · exact .inl (hspec.2 f s e3 g h)
    · exact absurd h hne
    · refine .inr fun o y t ho hy ht => ?_
      rw [e1] at ho; cases ho
      exact off (h y hy) ht
  have htail : ∀ k o, ds.length < k → ops[k]? = some o → ∀ f ∈ late, Bef ops f k := fun k o hk ho f hf => by
    obtain ⟨s, s1, _, s3⟩ := tk k o (by omega) ho
    rcases s3 with h | ⟨_, h⟩
    · omega
    · exact hspec.2 k s s1 f (h f hf)
  have hoff : ∀ f ∈ late, ∀ o t, ops[f]? = some o → o.dst = some t → t ∉ oW.looksAt ops := fun f hf o t ho ht => by
    obtain ⟨_, x, s, e1, _, _, h2, _, _⟩ := hlf f hf
    rw [e1] at ho; cases ho
    exact off h2 ht
  have hd1 : (ops.toList.drop mm).take 1 = [oW] := by
    have h1 : (ops.toList.drop mm)[0]? = some oW := by rw [List.getElem?_drop]; simpa using hW0
    cases hl : ops.toList.drop mm with
    | nil => rw [hl] at h1; simp at h1
    | cons x l => rw [hl] at h1; simp at h1; subst h1; rfl
  have hfull : evOps P G call ops (ops.toList.drop mm) (putSeen (fun _ => true) 0 ds a) A2 = some (a1, A1) := by
    have := evOps_append _ heW he
    rw [← List.drop_drop, List.take_append_drop] at this
    exact this
  rw [hd1] at heW
  let T : Story P G call ops ds a A A2 := ⟨W, w1, w2, hdl, fun f => F f = true, fun f => f ∈ late, fun k o hk ho => ⟨(hend k o (by omega) ho).1, fun j hj => (hrest k o (by omega) ho j (by omega)).imp id fun h => h.imp id fun h => ⟨h.1.trans hdm.symm, h.2⟩⟩, hltc, fun f hf => ⟨(hF f hf).1, (hF f hf).2.2⟩, fun k d hd => (hst k d hd).1, fun k d hd => (hst k d hd).2⟩
  refine draw_any hP hc T hw hg hr rd (fun f hf => hfl (hF f hf).2.1) m (fun c a w h => by cases h.1) (fun listed b wb hls h1 h2 hcnt hp => ?_)
    (early_any hP hc T hw hg hr rd m (by rw [hdm]; exact hW0) heW (fun f hf => by rw [hdm]; exact (hlf f hf).1) hquiet hkeep htail hoff (fun i h => h) (fun listed R2 b wb hls h1 h2 hcl p3 hg2 p1 p2 => ?_)) ops.size (Array.replicate ops.size false) R a' _ (by simp) (by simp) ?_ ?_ ?_
  · obtain ⟨_, R1, p1, p2, p3⟩ := hp
    have hlen : (ops.toList.drop ds.length).length = listed.toList.count false := by rw [List.length_drop]; simp only [Array.length_toList] at *; omega
    rw [← hdm] at hfull
    rw [← hlen]
    refine tail_any hP hc rd m (fun c a w h => by cases h.1) (k0 := ds.length) (Fl := fun f => F f = true) (fun f hf => hfl (hF f hf).2.1) (fun f hf => ⟨(hF f hf).1, (hF f hf).2.2⟩) (fun k o hk ho => hend k o (by omega) ho) _ ds.length (Nat.le_refl _) (fun j => by rw [List.getElem?_drop]; simp) hfull p3 (hg.mono p2.le) p1 (fun a3 w3 h3 => ?_) listed hls h1 h2 (fun i o hi ho j hj => ?_) ?_
    · obtain ⟨_, R3, r1, r2, r3⟩ := h3
      exact ⟨rfl, R3, r1, p2.trans hw r2, r3⟩
    · have hids : i < ds.length := by
        rcases Nat.lt_or_ge i ds.length with h | h
        · exact h
        · rw [h2 i h] at hi; cases hi
      obtain ⟨d, hd⟩ : ∃ d, ds[i]? = some d := ⟨_, List.getElem?_eq_getElem hids⟩
      have hop := T.op i d hd
      rw [ho] at hop; cases hop
      exact h1 j (by have := (T.step i d hd).dir j hj; omega)
    · rw [List.length_drop]; simp; omega
  · have hlen : (ops.toList.drop (ds.length + 1)).length = listed.toList.count false := by
      rw [List.length_drop, count_end hls (k := ds.length + 1) (by omega) (fun i hi => h1 i (by omega)) (fun i hi => h2 i (by omega))]
      simp
    rw [← hdm] at he
    rw [← hlen]
    refine tail_any hP hc rd m (fun c a w h => by cases h.1) (k0 := ds.length + 1) (Fl := fun f => F f = true) (fun f hf => hfl (hF f hf).2.1) (fun f hf => ⟨(hF f hf).1, (hF f hf).2.2⟩) (fun k o hk ho => hend k o (by omega) ho) _ (ds.length + 1) (Nat.le_refl _) (fun j => by rw [List.getElem?_drop]; simp) he p3 hg2 p1 (fun a4 w4 h4 => ?_) listed hls (fun i hi => h1 i (by omega)) (fun i hi => h2 i (by omega)) hcl ?_
    · obtain ⟨_, R4, r1, r2, r3⟩ := h4
      exact ⟨rfl, R4, r1, p2.trans hw r2, r3⟩
    · rw [List.length_drop]; simp; omega
  · intro i o hi
    simp only [Array.getD_eq_getD_getElem?, Array.getElem?_replicate] at hi
    split at hi <;> simp at hi
  · intro i _
    simp only [Array.getD_eq_getD_getElem?, Array.getElem?_replicate]
    split <;> rfl
  have : (fun i => (Array.replicate ops.size false).getD i false = true) = fun _ : Nat => False := by
    funext i
    apply propext
    constructor
    · intro h
      simp only [Array.getD_eq_getD_getElem?, Array.getElem?_replicate] at h
      split at h <;> simp at h
    · exact False.elim
  rw [this]
  exact Inv.start T hw hr
theorem evDraw_ok (hP : PC2 P) {call : Rec} (hc : RecOk P G call) {ops : Array Oper} {a a1 : Act} {A A1 : AW} {fl : Bool} (rd : Option Nat) (hfl : fl = true → rd = none) (he : evRegion P G call fl ops true a A = some (a1, A1)) {R : CR} {w : World} (hw : WR R A w) (hg : Gl G R) {a' : Act} (hr : ActR R a a') (id m : Nat) :
    (Code.region id ops true).wpIn (Fr rd) m P (Post R A w .normal a1 A1) a' w := by
  unfold evRegion at he
  simp only [if_true] at he
  refine wpIn_region_any hP.mixed ?_
  have perm : ∀ (p : Perm (sched P ops) ops.size), wpAnyIn (Fr rd) m P .any (permuted (sched P ops) ops) (Post R A w .normal a1 A1) ops.size (Array.replicate ops.size false) a' { w with drawn := w.drawn + 1 } → wpAnyIn (Fr rd) m P .any ops (Post R A w .normal a1 A1) ops.size (Array.replicate ops.size false) a' { w with drawn := w.drawn + 1 } := fun p h => by
    refine perm_any p (L := Array.replicate ops.size false) (L' := Array.replicate ops.size false) _ ⟨by simp, by simp, fun i hi => ?_⟩ h
    have h2 := p.lt i hi
    simp [Array.getD, hi, h2]
  unfold howOf at he
  split at he
  · split at he
    case isFalse => cases he
    rename_i hck
    exact runDraw_any hP hc rd hfl hck he hw hg hr m
  · rename_i hh
    split at he
    case isFalse => cases he
    rename_i hck
    have p : Perm (sched P ops) ops.size := permOk_spec (by
      split at hh
      · cases hh
      · split at hh
        · assumption
        · cases hh)
    have := runDraw_any hP hc rd hfl hck he hw hg hr m
    rw [p.size] at this
    exact perm p this
  · rename_i hh
    have pk : permOk (sched P ops) ops = true ∧ lateOk P fl (permuted (sched P ops) ops) = true := by
      split at hh
      · cases hh
      · split at hh
        · rename_i hp
          split at hh
          · cases hh
          · split at hh
            · rename_i hl
              exact ⟨hp, hl⟩
            · cases hh
        · cases hh
    have p := permOk_spec pk.1
    have := runLate_any hP hc rd hfl pk.2 he hw hg hr m
    rw [p.size] at this
    exact perm p this
end Go.Can
