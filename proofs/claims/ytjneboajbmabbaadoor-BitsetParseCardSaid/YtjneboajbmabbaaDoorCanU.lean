/-
  The real run follows the canonical evaluator: regions that draw their order, whatever order comes.
-/
import Derived.Test.YtjneboajbmabbaaDoorCanS
set_option linter.unusedSimpArgs false
set_option linter.unusedVariables false
namespace Go.Can
variable {P : Program} {G : List Nat}

section
variable (ds : List Done) (s0 : Nat)
def Vis (S : Nat → Prop) (b : Nat) : Prop := b < s0 ∨ ∃ (i : Nat) (d : Done), S i ∧ ds[i]? = some d ∧ d.lo ≤ b ∧ b < d.hi
def Rest (R : CR) (S : Nat → Prop) : CR := fun b k l => R b k l ∧ Vis ds s0 S b
def Closed (S : Nat → Prop) : Prop := ∀ (i : Nat) (d : Done), S i → ds[i]? = some d → ∀ j ∈ d.sees, S j
theorem Rest.le {R : CR} {S S' : Nat → Prop} (h : ∀ i, S i → S' i) : CR.le (Rest ds s0 R S) (Rest ds s0 R S') := fun b k l ⟨h1, h2⟩ => ⟨h1, h2.imp id fun ⟨i, d, q, r⟩ => ⟨i, d, h i q, r⟩⟩
end

/-- j comes before k, by edges -/
inductive Bef (ops : Array Oper) : Nat → Nat → Prop
  | direct {j k : Nat} {o : Oper} (ho : ops[k]? = some o) (hj : j ∈ directs o) : Bef ops j k
  | step {j i k : Nat} {o : Oper} (h : Bef ops j i) (ho : ops[k]? = some o) (hi : i ∈ directs o) : Bef ops j k
theorem Bef.mem {ops : Array Oper} {D : Nat → Prop} (hD : ∀ i o, D i → ops[i]? = some o → ∀ j ∈ directs o, D j) {j k : Nat} (h : Bef ops j k) (hk : ∀ o, ops[k]? = some o → ∀ i ∈ directs o, D i) : D j := by
  induction h with
  | direct ho hj => exact hk _ ho _ hj
  | step h ho hi ih => exact ih fun o2 h2 i2 hi2 => hD _ _ (hk _ ho _ hi) h2 i2 hi2
/-- all that is known of the region: canonical worlds from step to step -/
structure Story (P : Program) (G : List Nat) (call : Rec) (ops : Array Oper) (ds : List Done) (a0 : Act) (A A1 : AW) where
  W : Nat → AW
  first : W 0 = A
  last : W ds.length = A1
  len : ds.length ≤ ops.size
  Fl : Nat → Prop
  Lt : Nat → Prop
  rest : ∀ (k : Nat) (o : Oper), ds.length ≤ k → ops[k]? = some o → (∀ j ∈ directs o, j < k) ∧ ∀ j, j < ds.length → Bef ops j k ∨ Fl j ∨ (k = ds.length ∧ Lt j)
  ltc : ∀ (j : Nat) (o : Oper), j < ds.length → ops[j]? = some o → Fl j → (∃ i ∈ directs o, Lt i) → Lt j
  floats : ∀ f, Fl f → Region.noSelect ops = true ∧ ∀ o, ops[f]? = some o → floatsOp P o = true ∧ ∀ (j : Nat) (oj : Oper), ops[j]? = some oj → j ≠ f → Bef ops j f ∨ (∃ e ∈ oj.after, Region.binds .any e = true ∧ e.on = f) ∨ o.apart ops oj = true
  op : ∀ (k : Nat) (d : Done), ds[k]? = some d → ops[k]? = some d.o
  step : ∀ (k : Nat) (d : Done), ds[k]? = some d → StepOk P G call ops ds a0 k d (W k) (W (k + 1))
section
variable {call : Rec} {ops : Array Oper} {ds : List Done} {a0 : Act} {A A1 : AW}
theorem Story.size_le (T : Story P G call ops ds a0 A A1) {i j : Nat} (h : i ≤ j) (hj : j ≤ ds.length) : (T.W i).size ≤ (T.W j).size := by
  induction j with
  | zero => obtain rfl : i = 0 := (by omega); exact Nat.le_refl _
  | succ j ih =>
    rcases Nat.lt_or_ge i (j + 1) with h1 | h1
    · have hd : ds[j]? = some ds[j] := List.getElem?_eq_getElem (by omega)
      exact Nat.le_trans (ih (by omega) (by omega)) (T.step j _ hd).le
    · obtain rfl : i = j + 1 := by omega
      exact Nat.le_refl _
theorem Story.heap (T : Story P G call ops ds a0 A A1) {i j : Nat} (h : i ≤ j) (hj : j ≤ ds.length) {b : Nat} (hb : b < (T.W i).size) : (T.W j).w.heap[b]? = (T.W i).w.heap[b]? ∧ (T.W j).tail b = (T.W i).tail b := by
  induction j with
  | zero => obtain rfl : i = 0 := (by omega); exact ⟨rfl, rfl⟩
  | succ j ih =>
    rcases Nat.lt_or_ge i (j + 1) with h1 | h1
    · have hd : ds[j]? = some ds[j] := List.getElem?_eq_getElem (by omega)
      obtain ⟨q1, q2⟩ := ih (by omega) (by omega)
      have hb2 : b < (T.W j).size := Nat.lt_of_lt_of_le hb (T.size_le (by omega) (by omega))
      exact ⟨((T.step j _ hd).heap b hb2).trans q1, ((T.step j _ hd).tail b hb2).trans q2⟩
    · obtain rfl : i = j + 1 := by omega
      exact ⟨rfl, rfl⟩
theorem Story.ls (T : Story P G call ops ds a0 A A1) (h0 : ∀ b s, A.tail b = some s → b < A.size) {j : Nat} (hj : j ≤ ds.length) : ∀ b s, (T.W j).tail b = some s → b < (T.W j).size := by
  induction j with
  | zero => rw [T.first]; exact h0
  | succ j ih =>
    have hd : ds[j]? = some ds[j] := List.getElem?_eq_getElem (by omega)
    exact (T.step j _ hd).ls (ih (by omega))
theorem Story.ro (T : Story P G call ops ds a0 A A1) {j : Nat} (hj : j ≤ ds.length) : (T.W j).ro = A.ro := by
  induction j with
  | zero => rw [T.first]
  | succ j ih =>
    have hd : ds[j]? = some ds[j] := List.getElem?_eq_getElem (by omega)
    exact (T.step j _ hd).ro.trans (ih (by omega))
theorem lt_of_get {k : Nat} {d : Done} (h : ds[k]? = some d) : k < ds.length := (List.getElem?_eq_some_iff.1 h).1
theorem Story.range (T : Story P G call ops ds a0 A A1) {i : Nat} {d : Done} (h : ds[i]? = some d) : d.lo = (T.W i).size ∧ d.hi = (T.W (i + 1)).size := ⟨(T.step i d h).lo, (T.step i d h).hi⟩
/-- the ranges lie one behind the other -/
theorem Story.apart (T : Story P G call ops ds a0 A A1) {i j : Nat} {d e : Done} (hi : ds[i]? = some d) (hj : ds[j]? = some e) {b : Nat} (h1 : d.lo ≤ b) (h2 : b < d.hi) (h3 : e.lo ≤ b) (h4 : b < e.hi) : i = j := by
  obtain ⟨a1, a2⟩ := T.range hi
  obtain ⟨b1, b2⟩ := T.range hj
  rcases Nat.lt_trichotomy i j with h | h | h
  · have := T.size_le (i := i + 1) (j := j) h (Nat.le_of_lt (lt_of_get hj)); omega
  · exact h
  · have := T.size_le (i := j + 1) (j := i) h (Nat.le_of_lt (lt_of_get hi)); omega
theorem Story.lo_ge (T : Story P G call ops ds a0 A A1) {i : Nat} {d : Done} (hi : ds[i]? = some d) : A.size ≤ d.lo := by
  have h1 := T.size_le (Nat.zero_le i) (Nat.le_of_lt (lt_of_get hi))
  rw [T.first] at h1
  rw [(T.range hi).1]; exact h1
theorem mem_sees {k : Nat} {d : Done} {j : Nat} (h : d.sees = seesOf (ds.take k) d.o) : j ∈ d.sees ↔ j ∈ directs d.o ∨ ∃ i ∈ directs d.o, ∃ e, i < k ∧ ds[i]? = some e ∧ j ∈ e.sees := by
  rw [h]
  unfold seesOf
  rw [mem_dedup, List.mem_append, List.mem_flatMap]
  constructor
  · rintro (h1 | ⟨i, hi, hj⟩)
    · exact .inl h1
    · right
      refine ⟨i, hi, ?_⟩
      cases he : (ds.take k)[i]? with
      | none => rw [he] at hj; simp at hj
      | some e =>
        rw [he] at hj
        rw [List.getElem?_take] at he
        split at he
        · rename_i hlt; exact ⟨e, hlt, he, by simpa using hj⟩
        · cases he
  · rintro (h1 | ⟨i, hi, e, hlt, he, hj⟩)
    · exact .inl h1
    · right
      refine ⟨i, hi, ?_⟩
      rw [List.getElem?_take, if_pos hlt, he]
      simpa using hj
theorem Story.sees_lt (T : Story P G call ops ds a0 A A1) : ∀ (k : Nat) (d : Done), ds[k]? = some d → ∀ j ∈ d.sees, j < k := by
  intro k
  induction k using Nat.strongRecOn with
  | _ k ih =>
    intro d hd j hj
    have st := T.step k d hd
    rcases (mem_sees st.sees).1 hj with h | ⟨i, hi, e, hlt, he, hje⟩
    · exact st.dir j h
    · have := ih i hlt e he j hje; omega
/-- what an operation has seen is closed -/
theorem Story.closed (T : Story P G call ops ds a0 A A1) : ∀ (k : Nat) (d : Done), ds[k]? = some d → Closed ds fun j => j ∈ d.sees := by
  intro k
  induction k using Nat.strongRecOn with
  | _ k ih =>
    intro d hd i e hi he j hj
    have st := T.step k d hd
    refine (mem_sees st.sees).2 ?_
    rcases (mem_sees st.sees).1 hi with h | ⟨i', hi', e', hlt, he', hje⟩
    · exact .inr ⟨i, h, e, st.dir i h, he, hj⟩
    · exact .inr ⟨i', hi', e', hlt, he', ih i' hlt e' he' i e hje he j hj⟩

/-- what holds while the region runs, the operations of D being through -/
structure Inv (T : Story P G call ops ds a0 A A1) (R : CR) (w0 : World) (a0' : Act) (D : Nat → Prop) (Q : CR) (a' : Act) (w : World) : Prop where
  le : CR.le R Q
  dom : ∀ b k l, Q b k l → Vis ds A.size D b
  closed : Closed ds D
  lt : ∀ i, D i → i < ds.length
  wr : ∀ S, Closed ds S → (∀ i, S i → D i) → WR (Rest ds A.size Q S) A1 w
  fresh : ∀ b k l, Q b k l → R b k l ∨ (A.size ≤ b ∧ w0.heap.size ≤ k)
  wsize : w0.heap.size ≤ w.heap.size
  same : ∀ k, k < w0.heap.size → w.heap[k]? = w0.heap[k]?
  os : w.os = w0.os
  tape : w.tape = w0.tape
  output : w.output = w0.output
  size : a'.tmps.size = a0.tmps.size
  defers : a'.defers = a0'.defers
  slot : ∀ (S : Nat → Bool), Closed ds (fun i => S i = true) → (∀ i, S i = true → D i) → ∀ t, (∀ (i : Nat) (d : Done), D i → ds[i]? = some d → d.o.dst = some t → S i = true) →
    ∀ v v', (putSeen S 0 ds a0).tmps[t]? = some v → a'.tmps[t]? = some v' → VR (Rest ds A.size Q fun i => S i = true) v v'
theorem Inv.start (T : Story P G call ops ds a0 A A1) {R : CR} {w : World} (hw : WR R A w) {a' : Act} (hr : ActR R a0 a') : Inv T R w a' (fun _ => False) R a' w.drew := by
  have hz : ∀ b k l, R b k l → b < A.size := fun b k l h => (hw.dom _ _ _ h).1
  have hsz : A.size ≤ A1.size := by
    have h1 := T.size_le (Nat.zero_le _) (Nat.le_refl _)
    rw [T.first, T.last] at h1; exact h1
  have hheap : ∀ b, b < A.size → A1.w.heap[b]? = A.w.heap[b]? ∧ A1.tail b = A.tail b := fun b hb => by
    have := T.heap (Nat.zero_le _) (Nat.le_refl _) (b := b) (by rw [T.first]; exact hb)
    rw [T.last, T.first] at this; exact this
  have hal : ∀ b, b < A.size → A1.alive b = A.alive b := fun b hb => by simp only [AW.alive, (hheap b hb).1]
  refine ⟨CR.le_refl R, fun b k l h => .inl (hz _ _ _ h), fun i d h => h.elim, fun _ h => h.elim, fun S hS hD => ?_, fun _ _ _ h => .inl h, Nat.le_refl _, fun _ _ => rfl, rfl, rfl, rfl, hr.tmps.size, rfl, fun S hS hD t ht v v' hv hv' => ?_⟩
  · refine ⟨fun b k l h => ⟨Nat.lt_of_lt_of_le (hz _ _ _ h.1) hsz, (hw.dom _ _ _ h.1).2⟩, fun b k l k' l' h h' => hw.fn _ _ _ _ _ h.1 h'.1, fun b c k l l' h h' p q => ?_, fun b k l h p => ?_, fun b k l o o' h p h1 h2 => ?_, ?_, ?_⟩
    · rw [hal _ (hz _ _ _ h.1)] at p; rw [hal _ (hz _ _ _ h'.1)] at q
      exact hw.inj _ _ _ _ _ h.1 h'.1 p q
    · have hb := hz _ _ _ h.1
      rw [hal _ hb] at p
      rw [(hheap b hb).2]; exact hw.loose _ _ _ h.1 p
    · have hb := hz _ _ _ h.1
      rw [hal _ hb] at p
      rw [(hheap b hb).1] at h1
      exact (hw.obj _ _ _ _ _ h.1 p h1 h2).mono fun b k l x => ⟨x, .inl (hz _ _ _ x)⟩
    · have := T.ro (Nat.le_refl _); rw [T.last] at this; rw [this]; have := hw.ro; omega
    · have := T.ls hw.lsize (Nat.le_refl _); rw [T.last] at this; exact this
  · have : putSeen S 0 ds a0 = a0 := putSeen_none _ _ _ _ fun i hi => by
      cases h : S (0 + i) with
      | false => rfl
      | true => exact (hD _ h).elim
    rw [this] at hv
    exact (hr.tmps.at_ _ _ _ hv hv').mono fun b k l x => ⟨x, .inl (hz _ _ _ x)⟩

theorem Inv.step (T : Story P G call ops ds a0 A A1) (hl0 : ∀ b s, A.tail b = some s → b < A.size) {R : CR} {w0 w w1 : World} {a0' a' : Act} {D : Nat → Prop} {Q : CR} (I : Inv T R w0 a0' D Q a' w) {k : Nat} {d : Done} (hd : ds[k]? = some d) (hkD : ¬ D k)
    (hsD : ∀ j ∈ d.sees, D j) {M M' : AW} {Q' : CR} {v' : Value} (hM : M.size = d.lo) (hMro : M.ro = M.size) (hM' : M'.size = d.hi) (hrange : ∀ b, d.lo ≤ b → b < d.hi → A1.w.heap[b]? = M'.w.heap[b]? ∧ A1.tail b = M'.tail b)
    (hex : Ext (Rest ds A.size Q fun j => j ∈ d.sees) M w Q' M' w1) (hwr : WR Q' M' w1) (hv : VR Q' d.v v') (hMdom : ∀ b x l, Rest ds A.size Q (fun j => j ∈ d.sees) b x l → b < M.size) :
    Inv T R w0 a0' (fun i => D i ∨ i = k) (fun b x l => Q b x l ∨ Q' b x l) (a'.put d.o.dst v') w1 := by
  have st := T.step k d hd
  have hkl := lt_of_get hd
  -- the new pairs
  have hnew : ∀ b x l, Q' b x l → (Rest ds A.size Q (fun j => j ∈ d.sees) b x l) ∨ (d.lo ≤ b ∧ b < d.hi ∧ w.heap.size ≤ x) := fun b x l h => by
    rcases hex.fresh b x l h with h1 | ⟨h1, h2⟩
    · exact .inl h1
    · refine .inr ⟨hM ▸ h1, hM' ▸ (hwr.dom _ _ _ h).1, ?_⟩
      rcases h2 with h2 | ⟨b0, l0, h3, _, h4⟩
      · exact h2
      · have := hMdom _ _ _ h3; omega
  have hsame : ∀ x, x < w.heap.size → w1.heap[x]? = w.heap[x]? := fun x hx => hex.same x hx fun ⟨b, l, h1, _, h2⟩ => by have := hMdom _ _ _ h1; omega
  have hloge := T.lo_ge hd
  have hnotold : ∀ b x l, Q b x l → ¬ (d.lo ≤ b ∧ b < d.hi) := fun b x l h ⟨h1, h2⟩ => by
    rcases I.dom _ _ _ h with h3 | ⟨i, e, hi, he, h4, h5⟩
    · omega
    · exact hkD (T.apart hd he h1 h2 h4 h5 ▸ hi)
  have hseesNot : ∀ j e, D j → ds[j]? = some e → k ∉ e.sees := fun j e hj he hk => hkD (I.closed j e hj he k hk)
  -- the part of a set that was there before
  have before : ∀ S : Nat → Prop, Closed ds S → (∀ i, S i → D i ∨ i = k) → Closed ds (fun i => S i ∧ i ≠ k) ∧ ∀ i, (S i ∧ i ≠ k) → D i := fun S hS hSD => by
    refine ⟨fun i e hi he j hj => ⟨hS i e hi.1 he j hj, fun hjk => ?_⟩, fun i hi => (hSD i hi.1).resolve_right hi.2⟩
    subst hjk
    exact hseesNot i e ((hSD i hi.1).resolve_right hi.2) he hj
  have visOld : ∀ (S : Nat → Prop) b x l, (∀ i, S i → D i ∨ i = k) → Q b x l → Vis ds A.size S b → Vis ds A.size (fun i => S i ∧ i ≠ k) b := fun S b x l hSD h hv => by
    rcases hv with h1 | ⟨i, e, hi, he, h4, h5⟩
    · exact .inl h1
    · refine .inr ⟨i, e, ⟨hi, fun hik => ?_⟩, he, h4, h5⟩
      subst hik
      rw [hd] at he; cases he
      exact hnotold _ _ _ h ⟨h4, h5⟩
  have kindOf : ∀ (S : Nat → Prop) b x l, Closed ds S → (∀ i, S i → D i ∨ i = k) → Rest ds A.size (fun b x l => Q b x l ∨ Q' b x l) S b x l →
      Rest ds A.size Q (fun i => S i ∧ i ≠ k) b x l ∨ (Q' b x l ∧ d.lo ≤ b ∧ b < d.hi ∧ w.heap.size ≤ x ∧ S k) := fun S b x l hS hSD h => by
    obtain ⟨h | h, hvis⟩ := h
    · exact .inl ⟨h, visOld S b x l hSD h hvis⟩
    · rcases hnew b x l h with ⟨h1, h2⟩ | ⟨h1, h2, h3⟩
      · exact .inl ⟨h1, visOld S b x l hSD h1 hvis⟩
      · refine .inr ⟨h, h1, h2, h3, ?_⟩
        rcases hvis with h4 | ⟨i, e, hi, he, h4, h5⟩
        · omega
        · exact T.apart hd he h1 h2 h4 h5 ▸ hi
  have up : ∀ (S : Nat → Prop), Closed ds S → S k → CR.le Q' (Rest ds A.size (fun b x l => Q b x l ∨ Q' b x l) S) := fun S hS hk b x l h => by
    refine ⟨.inr h, ?_⟩
    rcases hnew b x l h with ⟨_, h2⟩ | ⟨h1, h2, _⟩
    · exact h2.imp id fun ⟨i, e, hi, r⟩ => ⟨i, e, hS k d hk hd i hi, r⟩
    · exact .inr ⟨k, d, hk, hd, h1, h2⟩
  have upOld : ∀ (S : Nat → Prop), CR.le (Rest ds A.size Q fun i => S i ∧ i ≠ k) (Rest ds A.size (fun b x l => Q b x l ∨ Q' b x l) S) := fun S b x l h =>
    ⟨.inl h.1, h.2.imp id fun ⟨i, e, hi, r⟩ => ⟨i, e, hi.1, r⟩⟩
  have hA1sz : d.hi ≤ A1.size := by
    have h1 := T.size_le hkl (Nat.le_refl _)
    rw [T.last] at h1
    rw [(T.range hd).2]; exact h1
  refine ⟨CR.le_trans I.le fun _ _ _ h => .inl h, fun b x l h => ?_, fun i e hi he j hj => ?_, fun i hi => ?_, fun S hS hSD => ?_, fun b x l h => ?_, Nat.le_trans I.wsize hex.wsize, fun x hx => (hsame x (Nat.lt_of_lt_of_le hx I.wsize)).trans (I.same x hx),
    hex.os.trans I.os, hex.tape.trans I.tape, hex.output.trans I.output, (put_size _ _ _).trans I.size, ?_, fun S hS hSD t ht u u' hu hu' => ?_⟩
  · rcases h with h | h
    · exact (I.dom _ _ _ h).imp id fun ⟨i, e, hi, r⟩ => ⟨i, e, .inl hi, r⟩
    · rcases hnew b x l h with ⟨h1, _⟩ | ⟨h1, h2, _⟩
      · exact (I.dom _ _ _ h1).imp id fun ⟨i, e, hi, r⟩ => ⟨i, e, .inl hi, r⟩
      · exact .inr ⟨k, d, .inr rfl, hd, h1, h2⟩
  · rcases hi with hi | rfl
    · exact .inl (I.closed i e hi he j hj)
    · rw [hd] at he; cases he; exact .inl (hsD j hj)
  · rcases hi with hi | rfl
    · exact I.lt i hi
    · exact hkl
  · obtain ⟨hS0, hS0D⟩ := before S hS hSD
    have W0 := I.wr _ hS0 hS0D
    have kd := fun b x l h => kindOf S b x l hS hSD h
    have aliveEq : ∀ b, d.lo ≤ b → b < d.hi → A1.alive b = M'.alive b := fun b h1 h2 => by simp only [AW.alive, (hrange b h1 h2).1]
    refine ⟨fun b x l h => ?_, fun b x l x' l' h h' => ?_, fun b c x l l' h h' p q => ?_, fun b x l h p => ?_, fun b x l o o' h p h1 h2 => ?_, W0.ro, W0.lsize⟩
    · rcases kd b x l h with h1 | ⟨h1, h2, h3, h4, _⟩
      · have := W0.dom _ _ _ h1; exact ⟨this.1, Nat.lt_of_lt_of_le this.2 hex.wsize⟩
      · exact ⟨by omega, (hwr.dom _ _ _ h1).2⟩
    · rcases kd b x l h with h1 | ⟨h1, h2, h3, _⟩ <;> rcases kd b x' l' h' with g1 | ⟨g1, g2, g3, _⟩
      · exact W0.fn _ _ _ _ _ h1 g1
      · exact absurd ⟨g2, g3⟩ (hnotold _ _ _ h1.1)
      · exact absurd ⟨h2, h3⟩ (hnotold _ _ _ g1.1)
      · exact hwr.fn _ _ _ _ _ h1 g1
    · rcases kd b x l h with h1 | ⟨h1, h2, h3, h4, _⟩ <;> rcases kd c x l' h' with g1 | ⟨g1, g2, g3, g4, _⟩
      · exact W0.inj _ _ _ _ _ h1 g1 p q
      · have := (W0.dom _ _ _ h1).2; omega
      · have := (W0.dom _ _ _ g1).2; omega
      · rw [aliveEq _ h2 h3] at p; rw [aliveEq _ g2 g3] at q
        exact hwr.inj _ _ _ _ _ h1 g1 p q
    · rcases kd b x l h with h1 | ⟨h1, h2, h3, _⟩
      · exact W0.loose _ _ _ h1 p
      · rw [aliveEq _ h2 h3] at p
        rw [(hrange b h2 h3).2]; exact hwr.loose _ _ _ h1 p
    · rcases kd b x l h with g1 | ⟨g1, g2, g3, _, g5⟩
      · rw [hsame x (W0.dom _ _ _ g1).2] at h2
        exact (W0.obj _ _ _ _ _ g1 p h1 h2).mono (upOld S)
      · rw [aliveEq _ g2 g3] at p
        rw [(hrange b g2 g3).1] at h1
        exact (hwr.obj _ _ _ _ _ g1 p h1 h2).mono (up S hS g5)
  · rcases h with h | h
    · exact I.fresh _ _ _ h
    · rcases hnew b x l h with ⟨h1, _⟩ | ⟨h1, _, h3⟩
      · exact I.fresh _ _ _ h1
      · exact .inr ⟨by omega, Nat.le_trans I.wsize h3⟩
  · rw [← I.defers]; cases d.o.dst <;> rfl
  · have hS' : Closed ds fun i => S i = true := hS
    obtain ⟨hS0, hS0D⟩ := before (fun i => S i = true) hS' hSD
    rw [put_get] at hu'
    by_cases hw : d.o.dst = some t ∧ t < a'.tmps.size
    · rw [if_pos hw] at hu'
      cases hu'
      have hSk : S k = true := ht k d (.inr rfl) hd hw.1
      have := putSeen_last S t ds 0 k d a0 hd hw.1 (by simpa using hSk) (fun j e hj he het => by
        cases hc : S (0 + j) with
        | false => rfl
        | true =>
          have hjS : S j = true := by simpa using hc
          have hjD : D j := (hSD j hjS).resolve_right (by omega)
          rcases (T.step j e he).apart k d hj hd with h | ⟨h1, _⟩
          · exact absurd h (hseesNot j e hjD he)
          · exact absurd het (h1 t hw.1).2) (by rw [← I.size]; exact hw.2)
      rw [this] at hu
      cases hu
      exact hv.mono (up _ hS' hSk)
    · rw [if_neg hw] at hu'
      have hlt : t < a'.tmps.size := (Array.getElem?_eq_some_iff.1 hu').1
      have hne : d.o.dst ≠ some t := fun h => hw ⟨h, hlt⟩
      have hp : (putSeen S 0 ds a0).tmps[t]? = (putSeen (fun i => S i && i != k) 0 ds a0).tmps[t]? := putSeen_agree _ _ t ds 0 _ _ rfl rfl fun i e hi het => by
        by_cases hik : i = k
        · subst hik; rw [hd] at hi; cases hi; exact absurd het hne
        · have : (0 + i != k) = true := by simpa using hik
          rw [this, Bool.and_true]
      rw [hp] at hu
      have := I.slot (fun i => S i && i != k) (fun i e hi he j hj => by
          simp only [Bool.and_eq_true, bne_iff_ne] at hi ⊢
          exact hS0 i e hi he j hj) (fun i hi => hS0D i (by simpa using hi)) t (fun i e hi he het => by
          have hik : i ≠ k := fun h => hkD (h ▸ hi)
          simp only [Bool.and_eq_true, bne_iff_ne]
          exact ⟨ht i e (.inl hi) he het, hik⟩) u u' hu hu'
      refine this.mono fun b x l h => upOld (fun i => S i = true) b x l ⟨h.1, h.2.imp id fun ⟨i, e, hi, r⟩ => ⟨i, e, by simpa using hi, r⟩⟩
end
end Go.Can
