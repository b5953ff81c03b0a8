/-
  The real run follows the canonical evaluator: regions that draw their order, at last.
-/
import Derived.Test.YtjneboajbmabbaaDoorCanU
set_option linter.unusedSimpArgs false
set_option linter.unusedVariables false
namespace Go.Can
variable {P : Program} {G : List Nat} {call : Rec} {ops : Array Oper} {ds : List Done} {a0 : Act} {A A1 : AW}

theorem putSeen_take (S : Nat → Bool) (ds : List Done) (a : Act) (k : Nat) (h : ∀ i, S i = true → i < k) : putSeen S 0 ds a = putSeen S 0 (ds.take k) a := by
  have e : ds = ds.take k ++ ds.drop k := (List.take_append_drop k ds).symm
  have h1 : putSeen S 0 (ds.take k ++ ds.drop k) a = putSeen S (0 + (ds.take k).length) (ds.drop k) (putSeen S 0 (ds.take k) a) := putSeen_append S _ _ 0 a
  rw [← e] at h1
  rw [h1]
  rcases Nat.lt_or_ge ds.length k with hk | hk
  · have : ds.drop k = [] := List.drop_eq_nil_of_le (by omega)
    rw [this]; rfl
  · refine putSeen_none _ _ _ _ fun i _ => ?_
    cases hc : S (0 + (ds.take k).length + i) with
    | false => rfl
    | true =>
      have := h _ hc
      rw [List.length_take] at this
      omega

/-- the world that an operation is evaluated in is the real one's, as far as it has seen -/
theorem Inv.seen (T : Story P G call ops ds a0 A A1) (hl0 : ∀ b s, A.tail b = some s → b < A.size) {R : CR} {w0 w : World} {a0' a' : Act} {D : Nat → Prop} {Q : CR} (I : Inv T R w0 a0' D Q a' w) {k : Nat} {d : Done} (hd : ds[k]? = some d) (hsD : ∀ j ∈ d.sees, D j) :
    (∀ b x l, Rest ds A.size Q (fun j => j ∈ d.sees) b x l → b < (T.W k).size) ∧
    WR (Rest ds A.size Q fun j => j ∈ d.sees) { w := { (T.W k).w with heap := unseen (fun i => d.sees.contains i) 0 (ds.take k) (T.W k).w.heap }, loose := (T.W k).loose, ro := (T.W k).size } w := by
  have hkl := lt_of_get hd
  have W0 := I.wr _ (T.closed k d hd) hsD
  have hA0 : A.size ≤ (T.W k).size := by
    have h1 := T.size_le (Nat.zero_le k) (Nat.le_of_lt hkl)
    rw [T.first] at h1; exact h1
  have hdom : ∀ b x l, Rest ds A.size Q (fun j => j ∈ d.sees) b x l → b < (T.W k).size := fun b x l h => by
    rcases h.2 with h1 | ⟨i, e, hi, he, h4, h5⟩
    · omega
    · have hik := T.sees_lt k d hd i hi
      have := T.size_le (i := i + 1) (j := k) hik (Nat.le_of_lt hkl)
      rw [(T.range he).2] at h5
      omega
  have hheap : ∀ b x l, Rest ds A.size Q (fun j => j ∈ d.sees) b x l → (unseen (fun i => d.sees.contains i) 0 (ds.take k) (T.W k).w.heap)[b]? = A1.w.heap[b]? := fun b x l h => by
    have h1 := T.heap (Nat.le_of_lt hkl) (Nat.le_refl _) (hdom b x l h)
    rw [T.last] at h1
    rw [h1.1]
    refine unseen_get _ _ 0 _ b fun i e hi hs hb => ?_
    rw [List.getElem?_take] at hi
    split at hi
    case isFalse => cases hi
    rename_i hik
    rcases h.2 with h2 | ⟨j, e2, hj, he2, h4, h5⟩
    · have := T.lo_ge hi; omega
    · have := T.apart hi he2 hb.1 hb.2 h4 h5
      subst this
      simp at hs
      exact hs hj
  have hal : ∀ b x l, Rest ds A.size Q (fun j => j ∈ d.sees) b x l → ({ w := { (T.W k).w with heap := unseen (fun i => d.sees.contains i) 0 (ds.take k) (T.W k).w.heap }, loose := (T.W k).loose, ro := (T.W k).size } : AW).alive b = A1.alive b := fun b x l h => by
    simp only [AW.alive, hheap b x l h]
  have hsz : ({ w := { (T.W k).w with heap := unseen (fun i => d.sees.contains i) 0 (ds.take k) (T.W k).w.heap }, loose := (T.W k).loose, ro := (T.W k).size } : AW).size = (T.W k).size := by
    simp only [AW.size]; exact unseen_size _ _ _ _
  refine ⟨hdom, fun b x l h => ⟨by rw [hsz]; exact hdom b x l h, (W0.dom _ _ _ h).2⟩, W0.fn, fun b c x l l' h h' p q => ?_, fun b x l h p => ?_, fun b x l o o' h p h1 h2 => ?_, ?_, fun b s h => ?_⟩
  · rw [hal _ _ _ h] at p; rw [hal _ _ _ h'] at q
    exact W0.inj _ _ _ _ _ h h' p q
  · rw [hal _ _ _ h] at p
    have h1 := T.heap (Nat.le_of_lt hkl) (Nat.le_refl _) (hdom b x l h)
    rw [T.last] at h1
    exact h1.2.symm.trans (W0.loose _ _ _ h p)
  · rw [hal _ _ _ h] at p
    have h1 : (unseen (fun i => d.sees.contains i) 0 (ds.take k) (T.W k).w.heap)[b]? = some o := h1
    rw [hheap b x l h] at h1
    exact W0.obj _ _ _ _ _ h p h1 h2
  · rw [hsz]; exact Nat.le_refl _
  · rw [hsz]; exact T.ls hl0 (Nat.le_of_lt hkl) b s h

/-- what an operation looks at -/
theorem Inv.look (T : Story P G call ops ds a0 A A1) {R : CR} {w0 w : World} {a0' a' : Act} {D : Nat → Prop} {Q : CR} (I : Inv T R w0 a0' D Q a' w) {k : Nat} {d : Done} (hd : ds[k]? = some d) (hkD : ¬ D k) (hsD : ∀ j ∈ d.sees, D j)
    {t : Nat} (ht : t ∈ d.o.looksAt ops) {v v' : Value} (hv : (putSeen (fun i => d.sees.contains i) 0 (ds.take k) a0).tmps[t]? = some v) (hv' : a'.tmps[t]? = some v') : VR (Rest ds A.size Q fun j => j ∈ d.sees) v v' := by
  have e := putSeen_take (fun i => d.sees.contains i) ds a0 k fun i hi => T.sees_lt k d hd i (by simpa using hi)
  rw [← e] at hv
  have := I.slot (fun i => d.sees.contains i) (fun i f hi hf j hj => by
    have := T.closed k d hd i f (by simpa using hi) hf j hj
    simpa using this) (fun i hi => hsD i (by simpa using hi)) t (fun i f hi hf hft => ?_) v v' hv hv'
  · exact this.mono (Rest.le ds A.size fun i hi => by simpa using hi)
  · rcases Nat.lt_trichotomy i k with h | h | h
    · rcases (T.step k d hd).apart i f h hf with h1 | ⟨h1, _⟩
      · simpa using h1
      · exact absurd ht (h1 t hft).1
    · subst h; exact absurd hi hkD
    · rcases (T.step i f hf).apart k d h hd with h1 | ⟨_, h1⟩
      · exact absurd (I.closed i f hi hf k h1) hkD
      · exact absurd ht (h1 t hft)

theorem run_sizeOf2 {t : TypeId} {i : TypeInfo} (h : P.info? t = some i) (w : World) : (sizeOf t).run P w = .ok i.size w := by simp [sizeOf, typeInfo, h]
theorem run_fieldAt_roomy {t : TypeId} {f : Nat} (h : roomy P t f = true) (v : Value) : (∃ u, ∀ w, (Instr.fieldAt t v f).run P w = .ok u w) ∨ ∀ w, ∃ e, (Instr.fieldAt t v f).run P w = .halt (.stuck e) w := by
  unfold roomy at h
  split at h
  case h_2 => cases h
  rename_i fs hu
  split at h
  case h_2 => cases h
  rename_i fd hf
  split at h
  case h_2 => cases h
  rename_i i hi
  have hs : ¬ i.size = 0 := by
    intro h0
    rw [h0] at h; cases h
  cases v with
  | pointer a =>
    cases a with
    | some a => exact .inl ⟨.pointer (some (a.add fd.offset)), fun w => by simp [Instr.fieldAt, run_underlying hu, hf, Instr.sureAddr, fieldPlace, run_sizeOf2 hi, hs]⟩
    | none => exact .inr fun w => ⟨_, by simp [Instr.fieldAt, run_underlying hu, hf, Instr.sureAddr]; rfl⟩
  | _ => exact .inr fun w => ⟨_, by simp [Instr.fieldAt, run_underlying hu, hf, Instr.sureAddr]; rfl⟩
/-- it comes to the same in every world -/
def Still (P : Program) {α : Type} (s : Sem α) : Prop := ∀ w v w', s.run P w = .ok v w' → ∀ w2, s.run P w2 = .ok v w2
theorem still_pure {α : Type} (a : α) : Still P (pure a : Sem α) := fun w v w' h w2 => by
  have h' : Result.ok a w = .ok v w' := h
  cases h'; rfl
theorem still_program : Still P program := fun w v w' h w2 => by
  have h' : Result.ok P w = .ok v w' := h
  cases h'; rfl
theorem still_bind {α β : Type} {s : Sem α} {f : α → Sem β} (hs : Still P s) (hf : ∀ a, Still P (f a)) : Still P (s >>= f) := fun w v w' h w2 => by
  rw [Sem.run_bind] at h ⊢
  cases hr : s.run P w with
  | ok a w1 =>
    rw [hr] at h
    rw [hs w a w1 hr w2]
    exact hf a w1 v w' h w2
  | halt x w1 => rw [hr] at h; cases h
theorem still_stuck {α : Type} (e : String) : Still P (stuck e : Sem α) := fun w v w' h => by cases h
theorem still_unsupported {α : Type} (e : Unsupported) : Still P (unsupported e : Sem α) := fun w v w' h => by cases h
theorem still_underlying (t : TypeId) : Still P (underlying t) := by
  unfold underlying
  refine still_bind still_program fun p => ?_
  cases p.underlying t with
  | none => exact still_stuck _
  | some d => exact still_pure d
theorem still_sizeOf (t : TypeId) : Still P (sizeOf t) := by
  unfold sizeOf typeInfo
  refine still_bind (still_bind still_program fun p => ?_) fun i => still_pure _
  cases p.info? t with
  | none => exact still_stuck _
  | some d => exact still_pure d
theorem still_sureAddr (v : Value) : Still P (Instr.sureAddr v) := by
  unfold Instr.sureAddr
  split
  · exact still_pure _
  · exact still_stuck _
theorem still_never {α : Type} {s : Sem α} (h : ∀ w v w', s.run P w ≠ .ok v w') : Still P s := fun w v w' k => absurd k (h w v w')
theorem bounds_never {α : Type} (k : IntKind) (x y : Int) (c : BoundsCode) (w : World) (v : α) (w' : World) : (boundsPanic k x y c : Sem α).run P w ≠ .ok v w' := by
  intro h
  unfold boundsPanic at h
  dsimp only at h
  split at h
  · rw [Sem.run_bind] at h
    generalize (Sem.run P _ w) = r at h
    cases r with
    | ok a w1 => cases h
    | halt e w1 => cases h
  · cases h
theorem still_indexAt (t : TypeId) (x i : Value) : Still P (Instr.indexAt t x i) := by
  unfold Instr.indexAt
  refine still_bind ?_ fun ki => ?_
  · unfold asIntOf
    split
    · exact still_pure _
    · exact still_unsupported _
    · exact still_stuck _
  refine still_bind (still_underlying t) fun d => ?_
  dsimp only
  have fin : ∀ (s : Option Addr × Nat × TypeId → Sem Value), (∀ b len elem, Still P (s (b, len, elem))) → ∀ y, Still P (s y) := fun s h y => by
    obtain ⟨b, len, elem⟩ := y
    exact h b len elem
  split
  · refine still_bind (still_sureAddr _) fun a => still_bind (still_pure _) (fin _ fun b len elem => ?_)
    refine still_bind (still_underlying t) fun u => ?_
    dsimp only
    cases b with
    | none => exact still_never (bounds_never _ _ _ _)
    | some a =>
      dsimp only
      split
      · exact still_bind (still_sizeOf elem) fun _ => still_pure _
      · split <;> split <;> first | exact still_unsupported _ | exact still_never (bounds_never _ _ _ _)
  · refine still_bind (still_pure _) (fin _ fun b len elem => ?_)
    refine still_bind (still_underlying t) fun u => ?_
    dsimp only
    cases b with
    | none => exact still_never (bounds_never _ _ _ _)
    | some a =>
      dsimp only
      split
      · exact still_bind (still_sizeOf elem) fun _ => still_pure _
      · split <;> split <;> first | exact still_unsupported _ | exact still_never (bounds_never _ _ _ _)
  · refine still_bind (still_stuck _) (fin _ fun b len elem => ?_)
    refine still_bind (still_underlying t) fun u => ?_
    dsimp only
    cases b with
    | none => exact still_never (bounds_never _ _ _ _)
    | some a =>
      dsimp only
      split
      · exact still_bind (still_sizeOf elem) fun _ => still_pure _
      · split <;> split <;> first | exact still_unsupported _ | exact still_never (bounds_never _ _ _ _)
/-- an operation that floats has its value wherever its step is in order -/
theorem float_yields {rd : Option Nat} (hrd : rd = none) {m : Nat} {Z : Exit → Act → World → Prop} (hZ : ∀ c a w, ¬ Z (.panic c) a w) {f : Nat} {o : Oper} (ho : ops[f]? = some o) (hf : floatsOp P o = true) {K : Act → World → Prop} {a : Act} {w : World}
    (hn : ∀ x, o.op = .nilCheck x → Region.wanted o (yielded ops a.tmps) = true → ∀ nm q c, a.eval x ≠ .func (.method nm) q c)
    (h : wpOpIn (Fr rd) m P ops Z f K a w) : ∃ v, YieldsFenced P ops o v a ∧ K (a.put o.dst v) w := by
  subst hrd
  unfold wpOpIn at h
  simp only [ho] at h
  have hab : ∀ w, o.about P w a.eval = none := fun w => by
    unfold Oper.about
    cases hx : o.op <;> first | rfl | (rw [floatsOp, hx] at hf; cases hf)
  split at h
  · rename_i hw
    unfold Oper.wpIn at h
    obtain ⟨_, h⟩ := h
    rw [show (Fr none).round = none from rfl, Oper.semAt_none] at h
    -- what comes to the same in every world
    have steady : ∀ s : Sem Value, Still P s → (∀ w, (execOp a.eval o).run P w = (do pure (Next.value (← s)) : Sem Next).run P w) → ∃ v, YieldsFenced P ops o v a ∧ K (a.put o.dst v) w := fun s hs e => by
      rw [e, Sem.run_bind] at h
      cases hr : s.run P w with
      | ok v w1 =>
        have hall := hs w v w1 hr
        have hw1 : w1 = w := by have := hall w; rw [hr] at this; cases this; rfl
        subst hw1
        rw [hr] at h
        exact ⟨v, ⟨.inl ⟨hw, fun w2 => by rw [e, Sem.run_bind, hall w2]; rfl⟩, hab⟩, h⟩
      | halt x w1 =>
        rw [hr] at h
        cases x <;> first | exact absurd h (hZ _ _ _) | exact h.elim
    cases hx : o.op with
    | move x =>
      have e : ∀ w, (execOp a.eval o).run P w = .ok (.value (a.eval x)) w := fun w => by unfold execOp; rw [hx]; rfl
      rw [e] at h
      exact ⟨_, ⟨.inl ⟨hw, e⟩, hab⟩, h⟩
    | extract t i =>
      have e : ∀ w, (execOp a.eval o).run P w = (do pure (Next.value (← Instr.extract (a.eval t) i)) : Sem Next).run P w := fun w => by unfold execOp; rw [hx]
      rw [e] at h
      unfold Instr.extract at e h
      cases ht : a.eval t with
      | tuple vs =>
        rw [ht] at e h
        simp only at e h
        cases hv : vs[i]? with
        | some v =>
          rw [hv] at e h
          exact ⟨v, ⟨.inl ⟨hw, e⟩, hab⟩, h⟩
        | none => rw [hv] at h; exact h.elim
      | _ => rw [ht] at h; exact h.elim
    | indexAddr t x i => exact steady _ (still_indexAt t (a.eval x) (a.eval i)) fun w => by unfold execOp; rw [hx]
    | fieldAddr t x i =>
      rw [floatsOp, hx] at hf
      have e : ∀ w, (execOp a.eval o).run P w = (do pure (Next.value (← Instr.fieldAt t (a.eval x) i)) : Sem Next).run P w := fun w => by unfold execOp; rw [hx]
      rcases run_fieldAt_roomy hf (a.eval x) with ⟨u, hu⟩ | hs
      · exact steady _ (fun w v w' k w2 => by rw [hu] at k ⊢; cases k; rfl) e
      · exact steady _ (fun w v w' k w2 => by obtain ⟨s, hs⟩ := hs w; rw [hs] at k; cases k) e
    | nilCheck x =>
      have hn := hn x hx hw
      have e : ∀ w, (execOp a.eval o).run P w = (match a.eval x with
        | .pointer none | .nilIface | .nilFunc => (runtimePanic .nilDeref : Sem Next)
        | v => pure (.value v)).run P w := fun w => by
        unfold execOp
        rw [hx]
        dsimp only
        cases hv : a.eval x with
        | func fn q c =>
          cases fn with
          | method nm => exact absurd hv (hn nm q c)
          | _ => rfl
        | pointer p => cases p <;> rfl
        | _ => rfl
      have e2 : ∀ w, (execOp a.eval o).run P w = .ok (.value (a.eval x)) w := fun w2 => by
        rw [e w] at h
        rw [e w2]
        split at h <;> first | exact absurd h (hZ _ _ _) | rfl
      rw [e2] at h
      exact ⟨_, ⟨.inl ⟨hw, e2⟩, hab⟩, h⟩
    | _ => rw [floatsOp, hx] at hf; cases hf
  · rename_i hw
    exact ⟨undef, ⟨.inr ⟨by simpa using hw, rfl⟩, hab⟩, h.2⟩

theorem draw_any (hP : PC2 P) (hc : RecOk P G call) (T : Story P G call ops ds a0 A A1) {R : CR} {w0 : World} (hw : WR R A w0) (hg : Gl G R) {a0' : Act} (hr : ActR R a0 a0') (rd : Option Nat) (hfl : ∀ f, T.Fl f → rd = none) (m : Nat) {Z : Exit → Act → World → Prop} (hZ : ∀ c a w, ¬ Z (.panic c) a w)
    (fin : ∀ (listed : Array Bool) (a' : Act) (w : World), listed.size = ops.size → (∀ i, i < ds.length → listed.getD i false = true) → (∀ i, ds.length ≤ i → listed.getD i false = false) → listed.toList.count false + ds.length = ops.size →
      Post R A w0 .normal (putSeen (fun _ => true) 0 ds a0) A1 .normal a' w → wpAnyIn (Fr rd) m P .any ops Z (listed.toList.count false) listed a' w)
    (early : ∀ (fuel : Nat) (listed : Array Bool) (Q : CR) (a' : Act) (w : World), listed.size = ops.size → listed.toList.count false = fuel + 1 → (∀ i o, listed.getD i false = true → ops[i]? = some o → ∀ j ∈ directs o, listed.getD j false = true) →
      (∀ i, ds.length ≤ i → listed.getD i false = false) → (∀ i, i < ds.length → listed.getD i false = true ∨ T.Lt i) → (∃ i, i < ds.length ∧ listed.getD i false = false) → ds.length ∈ Region.ready .any ops listed →
      Inv T R w0 a0' (fun i => listed.getD i false = true) Q a' w → wpOpIn (Fr rd) m P ops Z ds.length (wpAnyIn (Fr rd) m P .any ops Z fuel (listed.setIfInBounds ds.length true)) a' w) :
    ∀ (fuel : Nat) (listed : Array Bool) (Q : CR) (a' : Act) (w : World), listed.size = ops.size →
    listed.toList.count false = fuel → (∀ i o, listed.getD i false = true → ops[i]? = some o → ∀ j ∈ directs o, listed.getD j false = true) → (∀ i, ds.length ≤ i → listed.getD i false = false) → Inv T R w0 a0' (fun i => listed.getD i false = true) Q a' w →
    wpAnyIn (Fr rd) m P .any ops Z fuel listed a' w := by
  -- as long as one of these is not through, one of them is ready
  have some_ready : ∀ (listed : Array Bool), listed.size = ops.size → ∀ i, i < ds.length → listed.getD i false = false → Region.ready .any ops listed ≠ [] := by
    intro listed hls i
    induction i using Nat.strongRecOn with
    | _ i ih =>
      intro hi hc hrd
      obtain ⟨d, hd⟩ : ∃ d, ds[i]? = some d := ⟨_, List.getElem?_eq_getElem hi⟩
      have hop := T.op i _ hd
      have hlt : i < listed.size := by have := T.len; omega
      by_cases hall : ∀ e ∈ d.o.after, Region.binds .any e = true → listed.getD e.on false = true
      · have : i ∈ Region.ready .any ops listed := by
          rw [mem_ready]
          refine ⟨?_, _, hop, hall⟩
          simp [Array.getD, hlt] at hc ⊢; exact hc
        rw [hrd] at this; cases this
      · have : ∃ e, e ∈ d.o.after ∧ Region.binds .any e = true ∧ listed.getD e.on false = false := by
          refine Classical.byContradiction fun hno => hall fun e he hb => ?_
          cases hx : listed.getD e.on false with
          | true => rfl
          | false => exact absurd ⟨e, he, hb, hx⟩ hno
        obtain ⟨e, he, hb, hx⟩ := this
        have hdir : e.on ∈ directs d.o := List.mem_map.2 ⟨e, List.mem_filter.2 ⟨by simpa using he, hb⟩, rfl⟩
        have hlt2 := (T.step i _ hd).dir _ hdir
        exact ih e.on hlt2 (by omega) hx hrd
  -- the end
  have fin2 : ∀ (listed : Array Bool) (Q : CR) (a' : Act) (w : World), (∀ i, i < ds.length → listed.getD i false = true) → Inv T R w0 a0' (fun i => listed.getD i false = true) Q a' w → Post R A w0 .normal (putSeen (fun _ => true) 0 ds a0) A1 .normal a' w := by
    intro listed Q a' w hall I
    let S : Nat → Bool := fun i => decide (i < ds.length)
    have hS : Closed ds fun i => S i = true := fun i e hi he j hj => by
      have := T.sees_lt i e he j hj
      have := lt_of_get he
      simp only [S, decide_eq_true_eq]; omega
    have hSD : ∀ i, S i = true → listed.getD i false = true := fun i hi => hall i (by simpa only [S, decide_eq_true_eq] using hi)
    have hput : ∀ t, (putSeen (fun _ => true) 0 ds a0).tmps[t]? = (putSeen S 0 ds a0).tmps[t]? := fun t => putSeen_agree _ _ t ds 0 _ _ rfl rfl fun i e hi _ => by
      have := lt_of_get hi
      simp only [S]; simp; omega
    have hsz : A.size ≤ A1.size := by
      have h1 := T.size_le (Nat.zero_le _) (Nat.le_refl _)
      rw [T.first, T.last] at h1; exact h1
    have hro : A1.ro = A.ro := by have := T.ro (Nat.le_refl _); rw [T.last] at this; exact this
    have hleR : CR.le R (Rest ds A.size Q fun i => S i = true) := fun b x l h => ⟨I.le _ _ _ h, .inl (hw.dom _ _ _ h).1⟩
    refine ⟨rfl, Rest ds A.size Q fun i => S i = true, ⟨⟨?_, fun t v v' hv hv' => ?_⟩, ?_⟩, ⟨hleR, fun b x l h => ?_, hsz, I.wsize, hro, fun b hb hal => ?_, fun x hx _ => I.same x hx, I.os, I.tape, I.output⟩, I.wr _ hS hSD⟩
    · rw [(putSeen_size _ ds 0 a0).1]; exact I.size
    · rw [hput] at hv
      exact I.slot S hS hSD t (fun i e _ he _ => by simp only [S, decide_eq_true_eq]; exact lt_of_get he) v v' hv hv'
    · rw [(putSeen_size _ ds 0 a0).2, I.defers]; exact l2_defers hleR hr.defers
    · exact (I.fresh _ _ _ h.1).imp id fun h => ⟨h.1, .inl h.2⟩
    · have h1 := T.heap (Nat.zero_le _) (Nat.le_refl _) (b := b) (by rw [T.first]; exact hb)
      rw [T.last, T.first] at h1
      simp only [AW.alive, h1.1] at hal ⊢; exact hal
  have count_split : ∀ (listed : Array Bool), listed.size = ops.size → (∀ i, i < ds.length → listed.getD i false = true) → (∀ i, ds.length ≤ i → listed.getD i false = false) → listed.toList.count false + ds.length = ops.size := by
    intro listed hls h1 h2
    have e : listed.toList = List.replicate ds.length true ++ List.replicate (ops.size - ds.length) false := by
      apply List.ext_getElem?
      intro i
      have hlen := T.len
      rw [List.getElem?_append, List.length_replicate]
      simp only [List.getElem?_replicate, Array.getElem?_toList]
      by_cases hi : i < ds.length
      · rw [if_pos hi, if_pos hi]
        have := h1 i hi
        have hlt : i < listed.size := by omega
        simp [Array.getD, hlt] at this ⊢; exact this
      · rw [if_neg hi]
        by_cases hi2 : i < ops.size
        · rw [if_pos (by omega)]
          have := h2 i (by omega)
          have hlt : i < listed.size := by omega
          simp [Array.getD, hlt] at this ⊢; exact this
        · rw [if_neg (by omega)]
          exact Array.getElem?_eq_none (by omega)
    rw [e, List.count_append, List.count_replicate, List.count_replicate]
    have := T.len
    simp; omega
  intro fuel
  induction fuel with
  | zero =>
    intro listed Q a' w hls hcnt hcl hun I
    have hall : ∀ i, i < ds.length → listed.getD i false = true := fun i hi => by
      cases hc : listed.getD i false with
      | true => rfl
      | false =>
        have hlt : i < listed.size := by have := T.len; omega
        have hf : listed[i] = false := by simpa [Array.getD, hlt] using hc
        have : false ∈ listed.toList := by rw [← hf]; simp
        have := List.count_pos_iff.2 this
        omega
    have := fin listed a' w hls hall hun (count_split listed hls hall hun) (fin2 listed Q a' w hall I)
    rw [hcnt] at this; exact this
  | succ fuel ih =>
    intro listed Q a' w hls hcnt hcl hun I
    by_cases hallD : ∀ i, i < ds.length → listed.getD i false = true
    · have := fin listed a' w hls hallD hun (count_split listed hls hallD hun) (fin2 listed Q a' w hallD I)
      rw [hcnt] at this; exact this
    have hmiss : ∃ i, i < ds.length ∧ listed.getD i false = false := by
      refine Classical.byContradiction fun hno => hallD fun i hi => ?_
      cases hx : listed.getD i false with
      | true => rfl
      | false => exact absurd ⟨i, hi, hx⟩ hno
    obtain ⟨i0, hi0, hi0f⟩ := hmiss
    have lt_ready : ∀ k, k ∈ Region.ready .any ops listed → k < listed.size := fun k hk => by
      obtain ⟨h1, _⟩ := mem_ready.1 hk
      rcases Nat.lt_or_ge k listed.size with h | h
      · exact h
      · simp [Array.getD, Nat.not_lt.2 h] at h1
    -- each of these that is ready may be next
    have one : ∀ k, k ∈ Region.ready .any ops listed → k < ds.length → wpOpIn (Fr rd) m P ops Z k (wpAnyIn (Fr rd) m P .any ops Z fuel (listed.setIfInBounds k true)) a' w ∧
        ∀ o x, ops[k]? = some o → o.op = .nilCheck x → Region.wanted o (yielded ops a'.tmps) = true → ∀ nm q c, a'.eval x ≠ .func (.method nm) q c := by
      intro k hk hkds
      obtain ⟨h1, o, hop, hdeps⟩ := mem_ready.1 hk
      have hlt := lt_ready k hk
      have hf : listed[k] = false := by simpa [Array.getD, hlt] using h1
      obtain ⟨d, hd⟩ : ∃ d, ds[k]? = some d := ⟨_, List.getElem?_eq_getElem hkds⟩
      have hkl : k < ds.length := lt_of_get hd
      obtain rfl : o = d.o := by have := T.op k d hd; rw [hop] at this; exact Option.some.inj this
      have st := T.step k d hd
      have hkD : ¬ (listed.getD k false = true) := by simp [Array.getD, hlt, hf]
      have hdirD : ∀ j ∈ directs d.o, listed.getD j false = true := fun j hj => by
        obtain ⟨e, he, rfl⟩ := List.mem_map.1 hj
        obtain ⟨he1, he2⟩ := List.mem_filter.1 he
        exact hdeps e (by simpa using he1) he2
      have hsD : ∀ j ∈ d.sees, listed.getD j false = true := fun j hj => by
        rcases (mem_sees st.sees).1 hj with h | ⟨i, hi, e, _, he, hje⟩
        · exact hdirD j h
        · exact I.closed i e (hdirD i hi) he j hje
      obtain ⟨hMdom, hM⟩ := I.seen T hw.lsize hd hsD
      have hset : (fun i => (listed.setIfInBounds k true).getD i false = true) = fun i => listed.getD i false = true ∨ i = k := by
        funext i
        apply propext
        by_cases hik : k = i
        · subst hik; simp [Array.getD, hlt]
        · rw [getD_set_ne false hik]
          constructor
          · exact .inl
          · rintro (h | h)
            · exact h
            · exact absurd h.symm hik
      have hcnt2 : (listed.setIfInBounds k true).toList.count false = fuel := by
        rw [Array.toList_setIfInBounds, List.count_set (by simpa using hlt)]
        have hpos : 0 < listed.toList.count false := by omega
        have hfl : listed.toList[k]'(by simpa using hlt) = false := by simpa using hf
        rw [hfl]
        have e1 : (true == false) = false := rfl
        have e2 : (false == false) = true := rfl
        simp only [e1, e2, if_true, Bool.false_eq_true, if_false]
        omega
      have next : ∀ (M' : AW) (Q' : CR) (v' : Value) (w1 : World), M'.size = d.hi → (∀ b, d.lo ≤ b → b < d.hi → A1.w.heap[b]? = M'.w.heap[b]? ∧ A1.tail b = M'.tail b) →
          Ext (Rest ds A.size Q fun j => j ∈ d.sees) { w := { (T.W k).w with heap := unseen (fun i => d.sees.contains i) 0 (ds.take k) (T.W k).w.heap }, loose := (T.W k).loose, ro := (T.W k).size } w Q' M' w1 → WR Q' M' w1 → VR Q' d.v v' →
          wpAnyIn (Fr rd) m P .any ops Z fuel (listed.setIfInBounds k true) (a'.put d.o.dst v') w1 := by
        intro M' Q' v' w1 hM' hrange hex hwr hv
        have hs : ({ w := { (T.W k).w with heap := unseen (fun i => d.sees.contains i) 0 (ds.take k) (T.W k).w.heap }, loose := (T.W k).loose, ro := (T.W k).size } : AW).size = (T.W k).size := by simp only [AW.size]; exact unseen_size _ _ _ _
        have I2 := I.step T hw.lsize hd hkD hsD (hs.trans (T.range hd).1.symm) hs.symm hM' hrange hex hwr hv fun b x l h => by rw [hs]; exact hMdom b x l h
        refine ih _ (fun b x l => Q b x l ∨ Q' b x l) _ _ (by simpa using hls) hcnt2 (fun i o' hi ho' j hj => ?_) (fun i hi => ?_) ?_
        · have hi2 : listed.getD i false = true ∨ i = k := by have := congrFun hset i; simp only [eq_iff_iff] at this; exact this.1 hi
          have : listed.getD j false = true := by
            rcases hi2 with h | rfl
            · exact hcl i o' h ho' j hj
            · rw [hop] at ho'; cases ho'; exact hdirD j hj
          have h3 := congrFun hset j
          simp only [eq_iff_iff] at h3
          exact h3.2 (.inl this)
        · rw [getD_set_ne false (by omega)]; exact hun i hi
        rw [hset]; exact I2
      have hhere : ∀ b, d.lo ≤ b → b < d.hi → A1.w.heap[b]? = (T.W (k + 1)).w.heap[b]? ∧ A1.tail b = (T.W (k + 1)).tail b := fun b h1 h2 => by
        have := T.heap (i := k + 1) hkl (Nat.le_refl _) (b := b) (by rw [← (T.range hd).2]; exact h2)
        rw [T.last] at this; exact this
      -- the guard
      have hsizes : (putSeen (fun i => d.sees.contains i) 0 (ds.take k) a0).tmps.size = a'.tmps.size := by rw [(putSeen_size _ _ 0 a0).1, I.size]
      have hwanted : Region.wanted d.o (yielded ops a'.tmps) = Region.wanted d.o (yielded ops (putSeen (fun i => d.sees.contains i) 0 (ds.take k) a0).tmps) := by
        unfold Region.wanted
        cases hgd : d.o.guard with
        | none => rfl
        | some gw =>
          obtain ⟨g, want⟩ := gw
          have hy : yielded ops a'.tmps g = yielded ops (putSeen (fun i => d.sees.contains i) 0 (ds.take k) a0).tmps g := by
            unfold yielded
            cases ht : (ops[g]?.bind fun x => x.dst) with
            | none => rfl
            | some t =>
              have hlook : t ∈ d.o.looksAt ops := by
                unfold Oper.looksAt
                rw [hgd]
                simp only [List.mem_append]
                right
                have ht2 : (ops[g]?).bind (·.dst) = some t := ht
                simp [ht2]
              simp only [Option.bind_some]
              cases hv : (putSeen (fun i => d.sees.contains i) 0 (ds.take k) a0).tmps[t]? with
              | none =>
                have hge := Array.getElem?_eq_none_iff.1 hv
                rw [hsizes] at hge
                have : a'.tmps[t]? = none := Array.getElem?_eq_none_iff.2 (by omega)
                rw [this]
              | some v =>
                have hlt2 : t < a'.tmps.size := by have := (Array.getElem?_eq_some_iff.1 hv).1; rw [hsizes] at this; exact this
                have hv' : a'.tmps[t]? = some a'.tmps[t] := Array.getElem?_eq_getElem hlt2
                have := I.look T hd hkD hsD hlook hv hv'
                rw [hv']
                revert this
                generalize a'.tmps[t] = u
                intro this
                cases this <;> rfl
          simp only [hy]
      have hgl : ∀ g ∈ G, Rest ds A.size Q (fun j => j ∈ d.sees) g g none := fun g hg2 => ⟨I.le _ _ _ (hg g hg2), .inl (hw.dom _ _ _ (hg g hg2)).1⟩
      have hvr : ∀ x ∈ d.o.op.operands, okOperand G x = true → VR (Rest ds A.size Q fun j => j ∈ d.sees) ((putSeen (fun i => d.sees.contains i) 0 (ds.take k) a0).eval x) (a'.eval x) := fun x hx hxo => by
        cases x with
        | tmp t =>
          have hlook : t ∈ d.o.looksAt ops := by
            unfold Oper.looksAt
            exact List.mem_append_left _ (List.mem_filterMap.2 ⟨.tmp t, by simpa using hx, rfl⟩)
          show VR _ ((putSeen (fun i => d.sees.contains i) 0 (ds.take k) a0).tmps.getD t undef) (a'.tmps.getD t undef)
          rw [Array.getD_eq_getD_getElem?, Array.getD_eq_getD_getElem?]
          cases hv : (putSeen (fun i => d.sees.contains i) 0 (ds.take k) a0).tmps[t]? with
          | none =>
            have hge := Array.getElem?_eq_none_iff.1 hv
            rw [hsizes] at hge
            have : a'.tmps[t]? = none := Array.getElem?_eq_none_iff.2 (by omega)
            rw [this]; exact .undef
          | some v =>
            have hlt2 : t < a'.tmps.size := by have := (Array.getElem?_eq_some_iff.1 hv).1; rw [hsizes] at this; exact this
            have hv' : a'.tmps[t]? = some a'.tmps[t] := Array.getElem?_eq_getElem hlt2
            rw [hv']
            exact I.look T hd hkD hsD hlook hv hv'
        | const v => exact VR.of_plain 60 v hxo
        | global g =>
          have hg2 := hg g (by simpa [okOperand] using hxo)
          exact .ptr ⟨⟨_, I.le _ _ _ hg2, .inl (hw.dom _ _ _ hg2).1⟩, rfl, rfl⟩
        | func f => exact .func (.func f) rfl (by simp) rfl (by simp)
      refine ⟨?_, fun o2 x ho2 hx hwn nm q c he => ?_⟩
      · unfold wpOpIn
        simp only [hop]
        rw [hwanted]
        rcases st.act with ⟨q1, q2, q3⟩ | ⟨q1, M', q2, q3, q4⟩
        · rw [if_neg (by rw [q1]; simp)]
          refine ⟨fun _ _ => trivial, ?_⟩
          have hlh : d.lo = d.hi := by rw [(T.range hd).1, (T.range hd).2, q3]
          refine next _ _ _ _ ?_ (fun b h1 h2 => by omega) (.refl _ _ _) hM (by rw [q2]; exact .undef)
          simp only [AW.size]; rw [unseen_size]; rw [(T.range hd).2, q3]
        · rw [if_pos q1]
          refine evOp_ok hP hc q2 hM (fun g hg2 => ?_) (fun x hx hxo => ?_) rd m fun Q' v' w1 hex hwr hv => ?_
          · exact hgl g hg2
          · exact hvr x (by simpa using hx) hxo
          · refine next M' Q' v' w1 (by rw [q3, (T.range hd).2]) (fun b h1 h2 => ?_) hex hwr hv
            obtain ⟨h3, h4⟩ := hhere b h1 h2
            have hb1 : (T.W k).size ≤ b := by rw [← (T.range hd).1]; exact h1
            have hb2 : b < (T.W (k + 1)).size := by rw [← (T.range hd).2]; exact h2
            obtain ⟨h5, h6⟩ := q4 b hb1 hb2
            exact ⟨h3.trans h5, h4.trans (h6 (T.ls hw.lsize (Nat.le_of_lt hkl)))⟩
      · rw [hop] at ho2; cases ho2
        rw [hwanted] at hwn
        rcases st.act with ⟨q1, _⟩ | ⟨_, M', q2, _⟩
        · rw [q1] at hwn; cases hwn
        unfold evOp at q2
        split at q2
        case isFalse => cases q2
        rename_i hops
        have hxm : x ∈ d.o.op.operands := by rw [hx]; simp [Op.operands]
        have hv := hvr x hxm (Array.all_eq_true_iff_forall_mem.1 hops x hxm)
        rw [he] at hv
        unfold aop at q2
        rw [hx] at q2
        dsimp only at q2
        generalize (putSeen (fun i => d.sees.contains i) 0 (ds.take k) a0).eval x = u at hv q2
        cases hv with
        | func hf _ _ _ _ => cases hf; simp at q2
        | _ => simp at q2
    by_cases hex : ∃ f, T.Fl f ∧ f < ds.length ∧ f ∈ Region.ready .any ops listed
    · -- one that floats is ready: it goes first
      obtain ⟨f, hF, hfds, hfr⟩ := hex
      obtain ⟨hsel, hfo⟩ := T.floats f hF
      obtain ⟨h1, o, hop, hdeps⟩ := mem_ready.1 hfr
      obtain ⟨ho1, ho2⟩ := hfo o hop
      obtain ⟨v, hy, hK⟩ := float_yields (hfl f hF) hZ hop ho1 (fun x hx => (one f hfr hfds).2 o x hop hx) (one f hfr hfds).1
      refine wpAnyIn_first (by rw [hfl f hF]; rfl) hop (Region.noSelect_spec hsel) (fun c a w h => absurd h (hZ c _ w)) fuel listed a' w (fun j oj hj hne hun hno => ?_) hfr hy hK
      rcases ho2 j oj hj hne with hb | ⟨e, he, hb, hon⟩ | h
      · have := hb.mem (D := fun i => listed.getD i false = true) (fun i o' hi ho' j hj => hcl i o' hi ho' j hj) fun o' ho' i hi => by
          rw [hop] at ho'; cases ho'
          obtain ⟨e, he, rfl⟩ := List.mem_map.1 hi
          obtain ⟨he1, he2⟩ := List.mem_filter.1 he
          exact hdeps e (by simpa using he1) he2
        have hjl : j < listed.size := by rw [hls]; exact (Array.getElem?_eq_some_iff.1 hj).1
        simp [Array.getD, hjl] at this hun
        rw [hun] at this; cases this
      · exact absurd hon (hno e he hb)
      · exact h
    refine ⟨fun hrd => absurd hrd (some_ready listed hls i0 hi0 hi0f), fun k hk => ?_⟩
    obtain ⟨h1, o, hop, hdeps⟩ := mem_ready.1 hk
    rcases Nat.lt_or_ge k ds.length with h | h
    · exact (one k hk h).1
    · have bef : ∀ j, Bef ops j k → listed.getD j false = true := fun j hb => hb.mem (D := fun i => listed.getD i false = true) (fun i o' hi ho' j hj => hcl i o' hi ho' j hj) fun o' ho' i hi => by
        rw [hop] at ho'; cases ho'
        obtain ⟨e, he, rfl⟩ := List.mem_map.1 hi
        obtain ⟨he1, he2⟩ := List.mem_filter.1 he
        exact hdeps e (by simpa using he1) he2
      -- the first that is not through floats, and is ready; or it is late
      have none_missing : ∀ i, i < ds.length → listed.getD i false = true ∨ (k = ds.length ∧ T.Lt i) := by
        intro i
        induction i using Nat.strongRecOn with
        | _ i ihi =>
          intro hi
          rcases (T.rest k o h hop).2 i hi with hb | hF | hl
          · exact .inl (bef i hb)
          · obtain ⟨d, hd⟩ : ∃ d, ds[i]? = some d := ⟨_, List.getElem?_eq_getElem hi⟩
            have hlt : i < listed.size := by have := T.len; omega
            cases hx : listed.getD i false with
            | true => exact .inl rfl
            | false =>
              by_cases hall : ∀ j ∈ directs d.o, listed.getD j false = true
              · refine absurd ⟨i, hF, hi, mem_ready.2 ⟨?_, d.o, T.op i d hd, fun e he hb => ?_⟩⟩ hex
                · simp [Array.getD, hlt] at hx ⊢; exact hx
                · exact hall e.on (List.mem_map.2 ⟨e, List.mem_filter.2 ⟨by simpa using he, hb⟩, rfl⟩)
              · have : ∃ j, j ∈ directs d.o ∧ listed.getD j false = false := by
                  refine Classical.byContradiction fun hno => hall fun j hj => ?_
                  cases hy : listed.getD j false with
                  | true => rfl
                  | false => exact absurd ⟨j, hj, hy⟩ hno
                obtain ⟨j, hj, hy⟩ := this
                have hlt2 := (T.step i d hd).dir _ hj
                rcases ihi j hlt2 (by omega) with h2 | ⟨h2, h3⟩
                · rw [h2] at hy; cases hy
                · exact .inr ⟨h2, T.ltc i d.o hi (T.op i d hd) hF ⟨j, hj, h3⟩⟩
          · exact .inr hl
      by_cases hkl : k = ds.length
      · subst hkl
        exact early fuel listed Q a' w hls hcnt hcl hun (fun i hi => (none_missing i hi).imp id (·.2)) ⟨i0, hi0, hi0f⟩ hk I
      · exact absurd (fun i hi => (none_missing i hi).resolve_right fun h => hkl h.1) hallD

/-- the operations at the end, one after the other; what floats goes first -/
theorem tail_any (hP : PC2 P) (hc : RecOk P G call) (rd : Option Nat) (m : Nat) {Z : Exit → Act → World → Prop} (hZ : ∀ c a w, ¬ Z (.panic c) a w) {k0 : Nat} {Fl : Nat → Prop} (hfl : ∀ f, Fl f → rd = none)
    (floats : ∀ f, Fl f → Region.noSelect ops = true ∧ ∀ o, ops[f]? = some o → floatsOp P o = true ∧ ∀ (j : Nat) (oj : Oper), ops[j]? = some oj → j ≠ f → Bef ops j f ∨ (∃ e ∈ oj.after, Region.binds .any e = true ∧ e.on = f) ∨ o.apart ops oj = true)
    (hrest : ∀ (k : Nat) (o : Oper), k0 ≤ k → ops[k]? = some o → (∀ j ∈ directs o, j < k) ∧ (Fl k ∨ ∀ i oi, k < i → ops[i]? = some oi → ∃ j ∈ directs oi, k ≤ j)) :
    ∀ (l : List Oper) (k : Nat), k0 ≤ k → (∀ j, l[j]? = ops[k + j]?) → ∀ {a : Act} {A : AW} {a1 : Act} {A1 : AW}, evOps P G call ops l a A = some (a1, A1) → ∀ {R : CR} {w : World} {a' : Act}, WR R A w → Gl G R → ActR R a a' →
    (∀ a2 w2, Post R A w .normal a1 A1 .normal a2 w2 → Z .normal a2 w2) → ∀ (listed : Array Bool), listed.size = ops.size → (∀ i, i < k → listed.getD i false = true) → (∀ i, k ≤ i → listed.getD i false = false) →
    (∀ i o, listed.getD i false = true → ops[i]? = some o → ∀ j ∈ directs o, listed.getD j false = true) → k + l.length = ops.size → wpAnyIn (Fr rd) m P .any ops Z l.length listed a' w
  | [], k, hk, hl, a, A, a1, A1, he, R, w, a', hw, hg, hr, hQ, listed, hls, h1, h2, hcl, hn => by
    simp only [evOps, Option.some.injEq, Prod.mk.injEq] at he
    obtain ⟨rfl, rfl⟩ := he
    refine ⟨?_, hQ _ _ ⟨rfl, R, hr, .refl _ _ _, hw⟩⟩
    cases hx : Region.ready .any ops listed with
    | nil => rfl
    | cons i is =>
      have hi : i ∈ Region.ready .any ops listed := by rw [hx]; simp
      obtain ⟨q1, _⟩ := mem_ready.1 hi
      have hlt : i < listed.size := by
        rcases Nat.lt_or_ge i listed.size with h | h
        · exact h
        · simp [Array.getD, Nat.not_lt.2 h] at q1
      have := h1 i (by simp at hn; omega)
      simp [Array.getD, hlt] at q1 this
      rw [q1] at this; cases this
  | o :: l, k, hk, hl, a, A, a1, A1, he, R, w, a', hw, hg, hr, hQ, listed, hls, h1, h2, hcl, hn => by
    have h0 : ops[k]? = some o := by simpa using (hl 0).symm
    have hl' : ∀ j, l[j]? = ops[k + 1 + j]? := fun j => by have := hl (j + 1); simpa [Nat.add_assoc, Nat.add_comm 1 j] using this
    simp only [List.length_cons] at hn ⊢
    have hkl : k < listed.size := by omega
    obtain ⟨hdir, hend⟩ := hrest k o hk h0
    have hready : k ∈ Region.ready .any ops listed := by
      rw [mem_ready]
      refine ⟨?_, o, h0, fun e he hb => h1 e.on (hdir _ (List.mem_map.2 ⟨e, List.mem_filter.2 ⟨by simpa using he, hb⟩, rfl⟩))⟩
      have := h2 k (Nat.le_refl _)
      simp [Array.getD, hkl] at this ⊢; exact this
    have next : ∀ {a2 : Act} {A2 : AW} {R2 : CR} {w2 : World} {a2' : Act}, evOps P G call ops l a2 A2 = some (a1, A1) → WR R2 A2 w2 → Gl G R2 → ActR R2 a2 a2' → (∀ a3 w3, Post R2 A2 w2 .normal a1 A1 .normal a3 w3 → Z .normal a3 w3) →
        wpAnyIn (Fr rd) m P .any ops Z l.length (listed.setIfInBounds k true) a2' w2 := fun he2 hw2 hg2 hr2 hQ2 =>
      tail_any hP hc rd m hZ hfl floats hrest l (k + 1) (by omega) hl' he2 hw2 hg2 hr2 hQ2 _ (by simpa using hls) (fun j hj => by
        by_cases e : k = j
        · subst e; simp [Array.getD, hkl]
        · rw [getD_set_ne false e]; exact h1 j (by omega)) (fun j hj => by rw [getD_set_ne false (by omega)]; exact h2 j (by omega)) (fun j o' hj ho' x hx => by
        have hjD : listed.getD j false = true ∨ j = k := by
          by_cases e : k = j
          · exact .inr e.symm
          · rw [getD_set_ne false e] at hj; exact .inl hj
        have : listed.getD x false = true := by
          rcases hjD with h | rfl
          · exact hcl j o' h ho' x hx
          · rw [h0] at ho'; cases ho'; exact h1 x (hdir x hx)
        exact getD_set_true this) (by omega)
    have opk : wpOpIn (Fr rd) m P ops Z k (wpAnyIn (Fr rd) m P .any ops Z l.length (listed.setIfInBounds k true)) a' w := by
      unfold wpOpIn
      simp only [h0]
      rw [yielded_rel hr.tmps]
      unfold evOps at he
      split at he
      · rename_i hwn
        rw [if_pos hwn]
        split at he
        case h_2 => cases he
        rename_i v A2 hop
        refine evOp_ok hP hc hop hw hg (fun x _ hx => hr.eval hg hx) rd m fun R2 v2 w2 hex hw2 hv => ?_
        refine next he hw2 (hg.mono hex.le) ((hr.mono hex.le).put o.dst hv) fun a3 w3 h3 => hQ _ _ ?_
        obtain ⟨_, R3, q1, q2, q3⟩ := h3
        exact ⟨rfl, R3, q1, hex.trans hw q2, q3⟩
      · rename_i hwn
        rw [if_neg hwn]
        exact ⟨fun _ _ => trivial, next he hw hg (hr.put o.dst .undef) hQ⟩
    rcases hend with hF | hend
    · obtain ⟨hsel, hfo⟩ := floats k hF
      obtain ⟨ho1, ho2⟩ := hfo o h0
      obtain ⟨v, hy, hK⟩ := float_yields (hfl k hF) hZ h0 ho1 (fun x hx hwn nm q c he2 => by
        rw [yielded_rel hr.tmps] at hwn
        unfold evOps at he
        rw [if_pos hwn] at he
        split at he
        case h_2 => cases he
        rename_i v A2 hop
        unfold evOp at hop
        split at hop
        case isFalse => cases hop
        rename_i hops
        have hxm : x ∈ o.op.operands := by rw [hx]; simp [Op.operands]
        have hv := hr.eval hg (Array.all_eq_true_iff_forall_mem.1 hops x hxm)
        rw [he2] at hv
        unfold aop at hop
        rw [hx] at hop
        dsimp only at hop
        generalize a.eval x = u at hv hop
        cases hv with
        | func hf _ _ _ _ => cases hf; simp at hop
        | _ => simp at hop) opk
      refine wpAnyIn_first (by rw [hfl k hF]; rfl) h0 (Region.noSelect_spec hsel) (fun c a w h => absurd h (hZ c _ w)) l.length listed a' w (fun j oj hj hne hun hno => ?_) hready hy hK
      rcases ho2 j oj hj hne with hb | ⟨e, he3, hb, hon⟩ | h
      · have := hb.mem (D := fun i => listed.getD i false = true) (fun i o' hi ho' j hj => hcl i o' hi ho' j hj) fun o' ho' i hi => by
          rw [h0] at ho'; cases ho'
          exact h1 i (hdir i hi)
        have hjl : j < listed.size := by rw [hls]; exact (Array.getElem?_eq_some_iff.1 hj).1
        simp [Array.getD, hjl] at this hun
        rw [hun] at this; cases this
      · exact absurd hon (hno e he3 hb)
      · exact h
    · refine ⟨(fun hrd => by rw [hrd] at hready; cases hready), fun i hi => ?_⟩
      have hik : i = k := by
        obtain ⟨q1, o', ho', hdeps⟩ := mem_ready.1 hi
        have hlt : i < listed.size := by
          rcases Nat.lt_or_ge i listed.size with h | h
          · exact h
          · simp [Array.getD, Nat.not_lt.2 h] at q1
        rcases Nat.lt_trichotomy i k with h | h | h
        · have := h1 i h
          simp [Array.getD, hlt] at q1 this
          rw [q1] at this; cases this
        · exact h
        · obtain ⟨j, hj, hkj⟩ := hend i o' h ho'
          obtain ⟨e, he3, rfl⟩ := List.mem_map.1 hj
          obtain ⟨he1, he2⟩ := List.mem_filter.1 he3
          have := hdeps e (by simpa using he1) he2
          rw [h2 e.on hkj] at this; cases this
      subst hik
      exact opk

theorem seesList_spec (ops : Array Oper) : ∀ (l : List Oper) (ss : List (List Nat)), (∀ j, l[j]? = ops[ss.length + j]?) → (∀ k s, ss[k]? = some s → ∀ j ∈ s, Bef ops j k) →
    (seesList ss l).length = ss.length + l.length ∧ ∀ k s, (seesList ss l)[k]? = some s → ∀ j ∈ s, Bef ops j k
  | [], ss, _, h => ⟨by simp [seesList], h⟩
  | o :: l, ss, hl, h => by
    simp only [seesList]
    have h0 : ops[ss.length]? = some o := by simpa using (hl 0).symm
    obtain ⟨q1, q2⟩ := seesList_spec ops l (ss ++ [dedup (directs o ++ (directs o).flatMap fun j => (ss[j]?).getD [])]) (fun j => by
      have := hl (j + 1); simp only [List.length_append, List.length_cons, List.length_nil]; simpa [Nat.add_assoc, Nat.add_comm 1 j] using this) (fun k s hs j hj => by
      rw [List.getElem?_append] at hs
      split at hs
      · exact h k s hs j hj
      · rename_i hk
        have hk2 : k - ss.length = 0 := by
          rcases Nat.eq_zero_or_pos (k - ss.length) with e | e
          · exact e
          · have : ([dedup (directs o ++ (directs o).flatMap fun j => (ss[j]?).getD [])] : List (List Nat))[k - ss.length]? = none := List.getElem?_eq_none (by simp; omega)
            rw [this] at hs; cases hs
        have hke : k = ss.length := by omega
        rw [hk2] at hs
        simp only [List.getElem?_cons_zero, Option.some.injEq] at hs
        subst hs; subst hke
        rw [mem_dedup, List.mem_append, List.mem_flatMap] at hj
        rcases hj with hj | ⟨i, hi, hj⟩
        · exact .direct h0 hj
        · cases hs2 : ss[i]? with
          | none => rw [hs2] at hj; simp at hj
          | some s2 =>
            rw [hs2] at hj
            exact .step (h i s2 hs2 j (by simpa using hj)) h0 hi)
    refine ⟨?_, q2⟩
    rw [q1]; simp; omega
theorem tailCheck_spec {F : Nat → Bool} {ops : Array Oper} {ss : List (List Nat)} {m : Nat} (h : tailCheck F ops ss m = true) {k : Nat} {o : Oper} (hk : m ≤ k) (ho : ops[k]? = some o) : ∃ s, ss[k]? = some s ∧ endOk F ops k o = true ∧ seesHead F m s = true := by
  have := List.all_eq_true.1 h k (by simpa using (Array.getElem?_eq_some_iff.1 ho).1)
  rw [ho] at this
  rw [Bool.or_eq_true] at this
  rcases this with h1 | h1
  · have := of_decide_eq_true h1; omega
  · split at h1
    · rename_i o' s e1 e2
      cases e1
      rw [Bool.and_eq_true] at h1
      exact ⟨s, e2, h1.1, h1.2⟩
    · cases h1
theorem posOf_lt : ∀ {l : List Nat} {i : Nat}, posOf l i < l.length → l[posOf l i]? = some i
  | [], i, h => by simp [posOf] at h
  | j :: l, i, h => by
    unfold posOf at h ⊢
    split at h
    · rename_i hji
      rw [if_pos hji]
      simp [Nat.eq_of_beq_eq_true hji]
    · rename_i hji
      rw [if_neg hji]
      simp only [List.length_cons, Nat.add_lt_add_iff_right] at h
      simpa using posOf_lt h
theorem posOf_le : ∀ (l : List Nat) (i : Nat), posOf l i ≤ l.length
  | [], _ => Nat.le_refl _
  | j :: l, i => by
    unfold posOf
    split
    · simp
    · simpa using posOf_le l i
structure Perm (ord : List Nat) (n : Nat) : Prop where
  len : ord.length = n
  lt : ∀ i, i < n → posOf ord i < n
  back : ∀ k, k < n → ∃ i, ord[k]? = some i ∧ i < n ∧ posOf ord i = k
theorem permOk_spec {ord : List Nat} {ops : Array Oper} (h : permOk ord ops = true) : Perm ord ops.size := by
  unfold permOk at h
  simp only [Bool.and_eq_true, List.all_eq_true, List.mem_range] at h
  obtain ⟨⟨h1, h2⟩, h3⟩ := h
  refine ⟨Nat.eq_of_beq_eq_true h1, fun i hi => by have := h2 i hi; simpa using this, fun k hk => ?_⟩
  have := h3 k hk
  split at this
  · rename_i i hi
    simp only [Bool.and_eq_true] at this
    exact ⟨i, hi, by simpa using this.1, Nat.eq_of_beq_eq_true this.2⟩
  · cases this
theorem Perm.get {ord : List Nat} {n : Nat} (p : Perm ord n) {i : Nat} (h : i < n) : ord[posOf ord i]? = some i := posOf_lt (by rw [p.len]; exact p.lt i h)
theorem Perm.out {ord : List Nat} {n : Nat} (p : Perm ord n) {i : Nat} (h : n ≤ i) : posOf ord i = n := by
  have h1 := posOf_le ord i
  rw [p.len] at h1
  rcases Nat.lt_or_ge (posOf ord i) n with h2 | h2
  · have h3 := posOf_lt (l := ord) (i := i) (by rw [p.len]; exact h2)
    obtain ⟨j, hj, hjn, _⟩ := p.back _ h2
    rw [h3] at hj; cases hj; omega
  · omega
theorem filterMap_all {α β : Type} (f : α → Option β) : ∀ (l : List α), (∀ x ∈ l, ∃ y, f x = some y) → ∀ (k : Nat), (l.filterMap f)[k]? = (l[k]?).bind f
  | [], _, k => by simp
  | x :: l, h, k => by
    obtain ⟨y, hy⟩ := h x (by simp)
    rw [List.filterMap_cons, hy]
    cases k with
    | zero => simp [hy]
    | succ k => simpa using filterMap_all f l (fun x hx => h x (by simp [hx])) k
theorem Perm.getOp {ord : List Nat} {ops : Array Oper} (p : Perm ord ops.size) (i : Nat) : (permuted ord ops)[posOf ord i]? = (ops[i]?).map (relabel ord) := by
  have hall : ∀ x ∈ ord, ∃ y, (ops[x]?).map (relabel ord) = some y := fun x hx => by
    obtain ⟨k, hk⟩ := List.getElem?_of_mem hx
    have hkl : k < ops.size := by rw [← p.len]; exact (List.getElem?_eq_some_iff.1 hk).1
    obtain ⟨i, hi, hin, _⟩ := p.back k hkl
    rw [hk] at hi; cases hi
    exact ⟨_, by rw [Array.getElem?_eq_getElem hin]; rfl⟩
  unfold permuted
  rw [List.getElem?_toArray, filterMap_all _ _ hall]
  rcases Nat.lt_or_ge i ops.size with h | h
  · rw [p.get h]; rfl
  · rw [p.out h, List.getElem?_eq_none (by rw [p.len]; exact Nat.le_refl _), Array.getElem?_eq_none h]; rfl
theorem Perm.size {ord : List Nat} {ops : Array Oper} (p : Perm ord ops.size) : (permuted ord ops).size = ops.size := by
  have hall : ∀ x ∈ ord, ∃ y, (ops[x]?).map (relabel ord) = some y := fun x hx => by
    obtain ⟨k, hk⟩ := List.getElem?_of_mem hx
    have hkl : k < ops.size := by rw [← p.len]; exact (List.getElem?_eq_some_iff.1 hk).1
    obtain ⟨i, hi, hin, _⟩ := p.back k hkl
    rw [hk] at hi; cases hi
    exact ⟨_, by rw [Array.getElem?_eq_getElem hin]; rfl⟩
  have key : ∀ (l : List Nat), (∀ x ∈ l, ∃ y, (ops[x]?).map (relabel ord) = some y) → (l.filterMap fun i => (ops[i]?).map (relabel ord)).length = l.length := by
    intro l
    induction l with
    | nil => intro _; rfl
    | cons x l ih =>
      intro h
      obtain ⟨y, hy⟩ := h x (by simp)
      rw [List.filterMap_cons, hy]
      simpa using ih fun x hx => h x (by simp [hx])
  unfold permuted
  rw [List.size_toArray, key ord hall, p.len]
/-- the same operations through -/
structure SameL (ord : List Nat) (n : Nat) (L L' : Array Bool) : Prop where
  size : L.size = n
  size' : L'.size = n
  at_ : ∀ i, i < n → L.getD i false = L'.getD (posOf ord i) false
theorem getD_true_iff {L : Array Bool} {i : Nat} (h : i < L.size) : L.getD i true = L.getD i false := by simp [Array.getD, h]
theorem SameL.all {ord : List Nat} {n : Nat} (p : Perm ord n) {L L' : Array Bool} (h : SameL ord n L L') (i : Nat) : L.getD i false = L'.getD (posOf ord i) false := by
  rcases Nat.lt_or_ge i n with hi | hi
  · exact h.at_ i hi
  · rw [p.out hi]
    simp [Array.getD, h.size, h.size', Nat.not_lt.2 hi]
theorem SameL.ready {ord : List Nat} {ops : Array Oper} (p : Perm ord ops.size) {L L' : Array Bool} (h : SameL ord ops.size L L') {i : Nat} (hi : i ∈ Region.ready .any ops L) : posOf ord i ∈ Region.ready .any (permuted ord ops) L' := by
  obtain ⟨h1, o, ho, h2⟩ := mem_ready.1 hi
  have hin : i < ops.size := (Array.getElem?_eq_some_iff.1 ho).1
  refine mem_ready.2 ⟨?_, relabel ord o, by rw [p.getOp, ho]; rfl, fun e he hb => ?_⟩
  · rw [getD_true_iff (by rw [h.size]; exact hin), h.all p] at h1
    rw [getD_true_iff (by rw [h.size']; exact p.lt i hin)]
    exact h1
  · unfold relabel at he
    simp only [Array.mem_map] at he
    obtain ⟨e0, he0, rfl⟩ := he
    rw [← h.all p]
    exact h2 e0 he0 hb
theorem SameL.ready_none {ord : List Nat} {ops : Array Oper} (p : Perm ord ops.size) {L L' : Array Bool} (h : SameL ord ops.size L L') (hn : Region.ready .any ops L = []) : Region.ready .any (permuted ord ops) L' = [] := by
  refine List.eq_nil_iff_forall_not_mem.2 fun k hk => ?_
  obtain ⟨h1, o, ho, h2⟩ := mem_ready.1 hk
  have hkn : k < ops.size := by rw [← p.size]; exact (Array.getElem?_eq_some_iff.1 ho).1
  obtain ⟨i, _, hin, hik⟩ := p.back k hkn
  have hoi : ops[i]? = some ops[i] := Array.getElem?_eq_getElem hin
  have hr : o = relabel ord ops[i] := by
    have := p.getOp i
    rw [hik, ho, hoi] at this
    exact Option.some.inj this
  have : i ∈ Region.ready .any ops L := by
    refine mem_ready.2 ⟨?_, _, hoi, fun e he hb => ?_⟩
    · rw [getD_true_iff (by rw [h.size']; exact hkn)] at h1
      rw [getD_true_iff (by rw [h.size]; exact hin), h.all p, hik]
      exact h1
    · rw [h.all p]
      refine h2 { e with on := posOf ord e.on } ?_ hb
      rw [hr]
      exact Array.mem_map.2 ⟨e, he, rfl⟩
  rw [hn] at this; cases this
theorem SameL.set {ord : List Nat} {n : Nat} (p : Perm ord n) {L L' : Array Bool} (h : SameL ord n L L') {i : Nat} (hi : i < n) : SameL ord n (L.setIfInBounds i true) (L'.setIfInBounds (posOf ord i) true) := by
  refine ⟨by simpa using h.size, by simpa using h.size', fun j hj => ?_⟩
  by_cases hij : i = j
  · subst hij
    have h1 : i < L.size := by rw [h.size]; exact hi
    have h2 : posOf ord i < L'.size := by rw [h.size']; exact p.lt i hi
    simp [Array.getD, h1, h2]
  · have : posOf ord i ≠ posOf ord j := fun e => by
      have h1 := p.get hi
      have h2 := p.get hj
      rw [e, h2] at h1
      exact hij (Option.some.inj h1).symm
    rw [getD_set_ne false hij, getD_set_ne false this]
    exact h.at_ j hj
theorem perm_yielded {ord : List Nat} {ops : Array Oper} (p : Perm ord ops.size) (tmps : Array Value) (j : Nat) : yielded (permuted ord ops) tmps (posOf ord j) = yielded ops tmps j := by
  unfold yielded
  rw [p.getOp]
  cases ops[j]? <;> rfl
theorem perm_op {F : Fence} {n : Nat} {ord : List Nat} {ops : Array Oper} (p : Perm ord ops.size) {Q : Exit → Act → World → Prop} {i : Nat} {K K' : Act → World → Prop} (hK : ∀ a w, K' a w → K a w) {a : Act} {w : World}
    (h : wpOpIn F n P (permuted ord ops) Q (posOf ord i) K' a w) : wpOpIn F n P ops Q i K a w := by
  refine wpOpIn_mono hK ?_
  unfold wpOpIn at h ⊢
  rw [p.getOp] at h
  cases ho : ops[i]? with
  | none => rw [ho] at h; exact h
  | some o =>
    rw [ho] at h
    simp only [Option.map_some] at h ⊢
    have hw : Region.wanted (relabel ord o) (yielded (permuted ord ops) a.tmps) = Region.wanted o (yielded ops a.tmps) := by
      unfold Region.wanted relabel
      cases o.guard with
      | none => rfl
      | some g => simp only [Option.map_some, perm_yielded p]
    rw [hw] at h
    exact h
theorem perm_any {F : Fence} {n : Nat} {ord : List Nat} {ops : Array Oper} (p : Perm ord ops.size) {Q : Exit → Act → World → Prop} : ∀ (fuel : Nat) {L L' : Array Bool} {a : Act} {w : World}, SameL ord ops.size L L' →
    wpAnyIn F n P .any (permuted ord ops) Q fuel L' a w → wpAnyIn F n P .any ops Q fuel L a w
  | 0, L, L', a, w, hs, h => by
    refine ⟨?_, h.2⟩
    refine List.eq_nil_iff_forall_not_mem.2 fun i hi => ?_
    have := hs.ready p hi
    rw [h.1] at this; cases this
  | fuel + 1, L, L', a, w, hs, h => by
    refine ⟨fun hn => h.1 (hs.ready_none p hn), fun i hi => ?_⟩
    have hin : i < ops.size := by
      obtain ⟨_, o, ho, _⟩ := mem_ready.1 hi
      exact (Array.getElem?_eq_some_iff.1 ho).1
    exact perm_op p (fun a w => perm_any p fuel (hs.set p hin)) (h.2 _ (hs.ready p hi))
theorem runDraw_any (hP : PC2 P) {call : Rec} (hc : RecOk P G call) {ops : Array Oper} {a a1 : Act} {A A1 : AW} {fl : Bool} (rd : Option Nat) (hfl : fl = true → rd = none) (hck : drawOk P fl ops = true) (he : runDraw P G call fl ops a A = some (a1, A1)) {R : CR} {w : World} (hw : WR R A w) (hg : Gl G R) {a' : Act} (hr : ActR R a a') (m : Nat) :
    wpAnyIn (Fr rd) m P .any ops (Post R A w .normal a1 A1) ops.size (Array.replicate ops.size false) a' { w with drawn := w.drawn + 1 } := by
  unfold drawOk at hck
  unfold runDraw at he
  dsimp only at hck he
  generalize hmm : drawM P fl ops (seesList [] ops.toList) = mm at he hck
  generalize hFF : drawFl P fl ops (seesList [] ops.toList) = F at hck
  split at he
  case h_2 => cases he
  rename_i ds A2 hdr
  obtain ⟨q1, _, W, w1, w2, w3⟩ := evDraw_spec (ops.toList.take mm) [] hdr
  simp only [List.length_nil, Nat.zero_add] at q1 w1 w3
  have hdl : ds.length ≤ ops.size := by rw [q1, List.length_take]; simp; omega
  have hst : ∀ (k : Nat) (d : Done), ds[k]? = some d → ops[k]? = some d.o ∧ StepOk P G call ops ds a k d (W k) (W (k + 1)) := fun k d hd => by
    have hk := (List.getElem?_eq_some_iff.1 hd).1
    obtain ⟨d', o, z1, z2, z3⟩ := w3 k (Nat.zero_le _) hk
    rw [hd] at z1; cases z1
    obtain ⟨e1, e2⟩ := step_of_evDraw1 hk hd z3
    refine ⟨?_, e2⟩
    rw [e1]
    simp only [Nat.sub_zero] at z2
    rw [List.getElem?_take] at z2
    split at z2
    · simpa using z2
    · cases z2
  have hspec := seesList_spec ops ops.toList [] (by simp) (by simp)
  have hdrop : ∀ j, (ops.toList.drop mm)[j]? = ops[mm + j]? := fun j => by rw [List.getElem?_drop]; simp
  have hrest : ∀ (k : Nat) (o : Oper), mm ≤ k → ops[k]? = some o → ((∀ j ∈ directs o, j < k) ∧ (F k = true ∨ ∀ i oi, k < i → ops[i]? = some oi → ∃ j ∈ directs oi, k ≤ j)) ∧ ∀ j, j < mm → Bef ops j k ∨ F j = true := fun k o hk ho => by
    obtain ⟨s, q1, q2, q3⟩ := tailCheck_spec hck hk ho
    unfold endOk at q2
    rw [Bool.and_eq_true, Bool.or_eq_true] at q2
    refine ⟨⟨fun j hj => by have := List.all_eq_true.1 q2.1 j hj; simpa using this, q2.2.imp id fun h i oi hi hoi => ?_⟩, fun j hj => ?_⟩
    · have := List.all_eq_true.1 h i (by simpa using (Array.getElem?_eq_some_iff.1 hoi).1)
      rw [hoi, Bool.or_eq_true] at this
      rcases this with h1 | h1
      · have := of_decide_eq_true h1; omega
      · obtain ⟨j, hj, hkj⟩ := List.any_eq_true.1 h1
        exact ⟨j, hj, of_decide_eq_true hkj⟩
    · have := List.all_eq_true.1 q3 j (by simpa using hj)
      rw [Bool.or_eq_true] at this
      rcases this with h | h
      · exact .inl (hspec.2 k s q1 j (by simpa using h))
      · exact .inr h
  have hmds : ∀ k o, ds.length ≤ k → ops[k]? = some o → mm ≤ k := fun k o hk ho => by
    have := (Array.getElem?_eq_some_iff.1 ho).1
    rw [q1, List.length_take] at hk
    simp at hk; omega
  have hmm2 : ∀ k o, ds.length ≤ k → ops[k]? = some o → ds.length = mm := fun k o hk ho => by
    have := (Array.getElem?_eq_some_iff.1 ho).1
    have h2 := hmds k o hk ho
    rw [q1, List.length_take]
    simp; omega
  have hF : ∀ f, F f = true → Region.noSelect ops = true ∧ fl = true ∧ ∀ o, ops[f]? = some o → floatsOp P o = true ∧ ∀ (j : Nat) (oj : Oper), ops[j]? = some oj → j ≠ f → Bef ops j f ∨ (∃ e ∈ oj.after, Region.binds .any e = true ∧ e.on = f) ∨ o.apart ops oj = true := fun f hf => by
    subst hFF
    unfold drawFl at hf
    simp only [Bool.and_eq_true] at hf
    obtain ⟨⟨f1, f2⟩, f3⟩ := hf
    refine ⟨f2, f1, fun o ho => ?_⟩
    unfold floatB at f3
    rw [ho] at f3
    split at f3
    case h_2 => cases f3
    rename_i o' s e1 e2
    cases e1
    rw [Bool.and_eq_true] at f3
    refine ⟨f3.1, fun j oj hj hne => ?_⟩
    have := List.all_eq_true.1 f3.2 j (by simpa using (Array.getElem?_eq_some_iff.1 hj).1)
    simp only [hj, Bool.or_eq_true, beq_iff_eq, hne, false_or] at this
    rcases this with h | h | h
    · exact .inl (hspec.2 f s e2 j (by simpa using h))
    · obtain ⟨e, he, hb⟩ := Array.any_eq_true'.1 h
      simp only [Bool.and_eq_true, beq_iff_eq] at hb
      exact .inr (.inl ⟨e, he, hb.1, hb.2⟩)
    · exact .inr (.inr h)
  let T : Story P G call ops ds a A A2 := ⟨W, w1, w2, hdl, fun f => F f = true, fun _ => False, fun k o hk ho => ⟨(hrest k o (hmds k o hk ho) ho).1.1, fun j hj => ((hrest k o (hmds k o hk ho) ho).2 j (by rw [hmm2 k o hk ho] at hj; exact hj)).imp id .inl⟩, fun _ _ _ _ _ ⟨_, _, h⟩ => h, fun f hf => ⟨(hF f hf).1, (hF f hf).2.2⟩, fun k d hd => (hst k d hd).1, fun k d hd => (hst k d hd).2⟩
  refine draw_any hP hc T hw hg hr rd (fun f hf => hfl (hF f hf).2.1) m (fun c a w h => by cases h.1) (fun listed b wb hls h1 h2 hcnt hp => ?_) (fun fuel listed Q b wb _ _ _ _ hl hx _ _ => (by obtain ⟨i, hi, hx⟩ := hx; exact absurd ((hl i hi).resolve_right id) (by rw [hx]; decide))) ops.size (Array.replicate ops.size false) R a' _ (by simp) (by simp [List.count_replicate]) ?_ ?_ ?_
  · obtain ⟨_, R1, p1, p2, p3⟩ := hp
    have hlen : (ops.toList.drop ds.length).length = listed.toList.count false := by rw [List.length_drop]; simp only [Array.length_toList] at *; omega
    have hsame : ops.toList.drop mm = ops.toList.drop ds.length := by
      rw [q1, List.length_take]
      rcases Nat.lt_or_ge mm ops.size with h | h
      · congr 1; simp; omega
      · rw [List.drop_eq_nil_of_le (by simpa using h), List.drop_eq_nil_of_le (by simp; omega)]
    rw [hsame] at he
    rw [← hlen]
    refine tail_any hP hc rd m (fun c a w h => by cases h.1) (k0 := ds.length) (Fl := fun f => F f = true) (fun f hf => hfl (hF f hf).2.1) (fun f hf => ⟨(hF f hf).1, (hF f hf).2.2⟩) (fun k o hk ho => (hrest k o (hmds k o hk ho) ho).1) _ ds.length (Nat.le_refl _) (fun j => by rw [List.getElem?_drop]; simp) he p3 (hg.mono p2.le) p1 (fun a3 w3 h3 => ?_) listed hls h1 h2 (fun i o hi ho j hj => ?_) ?_
    · obtain ⟨_, R3, r1, r2, r3⟩ := h3
      exact ⟨rfl, R3, r1, p2.trans hw r2, r3⟩
    · have hids : i < ds.length := by
        rcases Nat.lt_or_ge i ds.length with h | h
        · exact h
        · rw [h2 i h] at hi; cases hi
      obtain ⟨d, hd⟩ : ∃ d, ds[i]? = some d := ⟨_, List.getElem?_eq_getElem hids⟩
      have hop := T.op i d hd
      rw [ho] at hop; cases hop
      exact h1 j (by have := (T.step i d hd).dir j hj; omega)
    · rw [List.length_drop]; simp; omega
  · intro i o hi
    simp only [Array.getD_eq_getD_getElem?, Array.getElem?_replicate] at hi
    split at hi <;> simp at hi
  · intro i _
    simp only [Array.getD_eq_getD_getElem?, Array.getElem?_replicate]
    split <;> rfl
  have : (fun i => (Array.replicate ops.size false).getD i false = true) = fun _ : Nat => False := by
    funext i
    apply propext
    constructor
    · intro h
      simp only [Array.getD_eq_getD_getElem?, Array.getElem?_replicate] at h
      split at h <;> simp at h
    · exact False.elim
  rw [this]
  exact Inv.start T hw hr
end Go.Can
