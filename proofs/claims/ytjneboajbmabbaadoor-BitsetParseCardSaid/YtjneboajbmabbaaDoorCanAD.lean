/-
  The canonical evaluator, told what some values are: it asks an oracle about the values of some operations, takes them to be what the oracle says, and hands out what must hold for that; where all of that holds, it says what the evaluator says.
-/
import Derived.Test.YtjneboajbmabbaaDoorCanAC
import Derived.ChangeKeysEq
set_option linter.unusedSimpArgs false
set_option linter.unusedVariables false
namespace Go.Can
variable {P : Program} {G : List Nat}

/-- what must hold: a mark, a truth value, and what it is taken to be -/
abbrev Obl := List (Nat × Bool × Bool)
def Obl.Ok (o : Obl) : Prop := ∀ p ∈ o, p.2.1 = p.2.2
theorem Obl.ok_append {o o' : Obl} (h : Obl.Ok (o ++ o')) : o.Ok ∧ o'.Ok := ⟨fun p hp => h p (List.mem_append.2 (.inl hp)), fun p hp => h p (List.mem_append.2 (.inr hp))⟩
theorem Obl.ok_cons {p : Nat × Bool × Bool} {o : Obl} (h : Obl.Ok (p :: o)) : p.2.1 = p.2.2 ∧ o.Ok := ⟨h p (List.mem_cons.2 (.inl rfl)), fun q hq => h q (List.mem_cons.2 (.inr hq))⟩
abbrev RecD := Job → AW → Option (Obl × (Value × AW))
abbrev Orc := Nat → Act → Option (Nat × Value)
/-- where a call stands: the slot of its value, and the caller's slots -/
abbrev Site := Nat × Act
abbrev RecC := Site → RecD

noncomputable def bindO {α β : Type} (x : Option (Obl × α)) (f : α → Option (Obl × β)) : Option (Obl × β) := match x with
  | some (o, a) => match f a with
    | some (o', b) => some (o ++ o', b)
    | none => none
  | none => none
theorem bindO_some {α β : Type} {x : Option (Obl × α)} {f : α → Option (Obl × β)} {o : Obl} {r : β} (h : bindO x f = some (o, r)) (ho : o.Ok) :
    ∃ o1 a, x = some (o1, a) ∧ o1.Ok ∧ ∃ o2, f a = some (o2, r) ∧ o2.Ok := by
  unfold bindO at h
  split at h
  case h_2 => cases h
  rename_i o1 a
  split at h
  case h_2 => cases h
  rename_i o2 b h2
  cases h
  obtain ⟨q1, q2⟩ := Obl.ok_append ho
  exact ⟨o1, a, rfl, q1, o2, h2, q2⟩
/-- a value is taken to be this one -/
noncomputable def taken : Value → Value → Option (Bool × Bool)
  | .bool b, .bool v => some (b, v)
  | .int k n, .int k' m => if k = k' then some (decide (n = m), true) else none
  | .string a, .string b => some (decide (a = b), true)
  | _, _ => none
theorem taken_ok {x v : Value} {p : Bool × Bool} (h : taken x v = some p) (hp : p.1 = p.2) : x = v := by
  unfold taken at h
  split at h
  · cases h; simp only at hp; rw [hp]
  · split at h
    · rename_i hk
      cases h
      simp only [decide_eq_true_eq] at hp
      rw [hk, hp]
    · cases h
  · cases h
    simp only [decide_eq_true_eq] at hp
    rw [hp]
  · cases h
noncomputable def refineO {β : Type} (d : Option (Nat × Value)) (v : Value) (k : Value → Option (Obl × β)) : Option (Obl × β) := match d with
  | none => k v
  | some (i, v') => match taken v v' with
    | some p => match k v' with
      | some (o, r) => some ((i, p) :: o, r)
      | none => none
    | none => none
theorem refineO_some {β : Type} {d : Option (Nat × Value)} {v : Value} {k : Value → Option (Obl × β)} {o : Obl} {r : β} (h : refineO d v k = some (o, r)) (ho : o.Ok) : ∃ o2, k v = some (o2, r) ∧ o2.Ok := by
  unfold refineO at h
  split at h
  · exact ⟨o, h, ho⟩
  · split at h
    case h_2 => cases h
    rename_i i v' p hp
    split at h
    case h_2 => cases h
    rename_i o2 r2 hk
    cases h
    obtain ⟨q1, q2⟩ := Obl.ok_cons ho
    exact ⟨o2, by rw [taken_ok hp q1]; exact hk, q2⟩
noncomputable def ask (d : Orc) (o : Oper) (a : Act) : Option (Nat × Value) := match o.dst with
  | some t => d t a
  | none => match o.op with
    | .mapUpdate .. => d 9999 a
    | _ => none
/-- the one follows the other -/
def Fol (callD : RecD) (call : Rec) : Prop := ∀ j A o r, callD j A = some (o, r) → o.Ok → call j A = some r
def FolC (callD : RecC) (call : Rec) : Prop := ∀ k, Fol (callD k) call
noncomputable def siteOf (o : Oper) (a : Act) : Site := match o.dst with
  | some t => (t, a)
  | none => (0, a)
noncomputable def noObl (callD : RecD) : Rec := fun j A => match callD j A with
  | some ([], r) => some r
  | _ => none
theorem noObl_fol {callD : RecD} {call : Rec} (h : Fol callD call) {j : Job} {A : AW} {r : Value × AW} (hr : noObl callD j A = some r) : call j A = some r := by
  unfold noObl at hr
  split at hr
  · rename_i r' h1
    cases hr
    exact h _ _ _ _ h1 (fun p hp => by cases hp)
  · cases hr

noncomputable def evOpRD (P : Program) (G : List Nat) (callD : RecD) (o : Oper) (ρ : Operand → Value) (A : AW) : Option (Obl × (Value × AW)) :=
  if o.op.operands.all (okOperand G) then
    match aop P ρ o A with
    | some (.value v, A') => some ([], (v, A'))
    | some (.skip, A') => some ([], (undef, A'))
    | some (.enter f args, A') => callD (.call f args) A'
    | some (.round l _ tmps as bd, A') => callD (.round l tmps as bd) A'
    | _ => none
  else none
theorem evOpRD_fol {callD : RecD} {call : Rec} (hc : Fol callD call) {o : Oper} {ρ : Operand → Value} {A : AW} {ob : Obl} {r : Value × AW} (h : evOpRD P G callD o ρ A = some (ob, r)) (ho : ob.Ok) : evOpR P G call o ρ A = some r := by
  unfold evOpRD at h
  unfold evOpR
  split at h
  case isFalse => cases h
  rename_i hops
  rw [if_pos hops]
  split at h
  · rename_i e; rw [e]; cases h; rfl
  · rename_i e; rw [e]; cases h; rfl
  · rename_i e; rw [e]; exact hc _ _ _ _ h ho
  · rename_i e; rw [e]; exact hc _ _ _ _ h ho
  · cases h
theorem evOpRD_folF {callD : RecD} {call : Rec} (hc : Fol callD call) {o : Oper} {a : Act} {A : AW} {ob : Obl} {r : Value × AW} (h : evOpRD P G callD o (feval a) A = some (ob, r)) (ho : ob.Ok) : evOpF P G call o a A = some r := evOpRD_fol hc h ho

/-- a division's value, where the divisor is not nothing; a sum of strings, where it isn't too long -/
noncomputable def divD (o : Oper) (ρ : Operand → Value) : Option (Bool × Value) := match o.op with
  | .binOp op _ x y _ => match op, ρ x, ρ y with
    | .rem, .int k a, .int k' b => if k = k' then some (decide (b = 0), .int k (a.tmod b)) else none
    | .quo, .int k a, .int k' b => if k = k' then some (decide (b = 0), .int k (k.wrap (a.tdiv b))) else none
    | .add, .string a, .string b => some (decide (((a.size + b.size : Nat) : Int) > IntKind.i64.max), .string (a ++ b))
    | _, _, _ => none
  | _ => none
theorem divD_ok {o : Oper} {ρ : Operand → Value} {v : Value} (h : divD o ρ = some (false, v)) (call : Rec) (hops : o.op.operands.all (okOperand G) = true) (A : AW) : evOpR P G call o ρ A = some (v, A) := by
  unfold divD at h
  split at h
  case h_2 => cases h
  rename_i op t x y rt ho
  unfold evOpR
  rw [if_pos hops]
  have keyS : ∀ (a b : ByteArray) (v : Value), ρ x = .string a → ρ y = .string b → o.op = .binOp .add t x y rt → (∀ A, arun P (dryV (binOp .add t (.string a) (.string b))) A = some (v, A)) → aop P ρ o A = some (.value v, A) := by
    intro a b v hx hy ho hr
    unfold aop
    rw [ho]
    dsimp only
    rw [hx, hy, if_pos (by simp [plainV])]
    show (arun P (dryV (binOp .add t (.string a) (.string b))) A).map _ = _
    rw [hr]; rfl
  have key : ∀ (op : BinOp) (k : IntKind) (a b : Int) (v : Value), ρ x = .int k a → ρ y = .int k b → op ≠ .eql → op ≠ .neq → op ≠ .shl → op ≠ .shr → o.op = .binOp op t x y rt → (∀ A, arun P (dryV (binOp op t (.int k a) (.int k b))) A = some (v, A)) → aop P ρ o A = some (.value v, A) := by
    intro op k a b v hx hy h1 h2 _ _ ho hr
    unfold aop
    rw [ho]
    dsimp only
    rw [hx, hy, if_pos (by simp [plainV])]
    have hg : eqGuard op t x y (.int k a) (.int k b) = Pure.pure () := by
      unfold eqGuard
      cases op <;> first | rfl | exact absurd rfl h1 | exact absurd rfl h2
    rw [hg]
    show (arun P (dryV (binOp op t (.int k a) (.int k b))) A).map _ = _
    rw [hr]; rfl
  split at h
  · rename_i k a k' b hx hy
    split at h
    case isFalse => cases h
    rename_i hk
    subst hk
    simp only [Option.some.injEq, Prod.mk.injEq, decide_eq_false_iff_not] at h
    obtain ⟨hb, rfl⟩ := h
    rw [key .rem k a b (.int k (a.tmod b)) hx hy (by decide) (by decide) (by decide) (by decide) ho (fun A => by
      simp only [binOp, ne_eq, not_true, if_false, Op.intDiv, hb]; rfl)]
  · rename_i k a k' b hx hy
    split at h
    case isFalse => cases h
    rename_i hk
    subst hk
    simp only [Option.some.injEq, Prod.mk.injEq, decide_eq_false_iff_not] at h
    obtain ⟨hb, rfl⟩ := h
    rw [key .quo k a b (.int k (k.wrap (a.tdiv b))) hx hy (by decide) (by decide) (by decide) (by decide) ho (fun A => by
      simp only [binOp, ne_eq, not_true, if_false, Op.intDiv, hb]; rfl)]
  · rename_i a b hx hy
    simp only [Option.some.injEq, Prod.mk.injEq, decide_eq_false_iff_not] at h
    obtain ⟨hb, rfl⟩ := h
    rw [keyS a b (.string (a ++ b)) hx hy ho (fun A => by
      simp only [binOp, Op.stringOp, if_neg hb]; rfl)]
  · cases h
/-! Two rows of integers compared, cell by cell -/
def rowB : List Int → List Int → Bool
  | a :: l, b :: m => decide (a = b) && rowB l m
  | _, _ => true
def intsOf (q : IntKind) : List Value → Option (List Int)
  | [] => some []
  | v :: l => match v with
    | .int k n => if k = q then (match intsOf q l with | some r => some (n :: r) | none => none) else none
    | _ => none
theorem intsOf_some {q : IntKind} : ∀ {l : List Value} {r : List Int}, intsOf q l = some r → l = r.map (Value.int q)
  | [], r, h => by cases h; rfl
  | v :: l, r, h => by
    unfold intsOf at h
    split at h
    case h_2 => cases h
    split at h
    case isFalse => cases h
    rename_i hk
    subst hk
    split at h
    case h_2 => cases h
    rename_i r' hr
    cases h
    rw [intsOf_some hr]; rfl
theorem dry_underlying (t : TypeId) : dry P (underlying t) = P.underlying t := by
  show dry P (match P.underlying t with | some d => pure d | none => stuck "no such type") = _
  cases h : P.underlying t <;> rfl
theorem dry_sizeOf {t : TypeId} {i : TypeInfo} (h : P.info? t = some i) : dry P (sizeOf t) = some i.size := by
  unfold sizeOf
  rw [dry_bind]
  show ((dry P (match P.info? t with | some i => pure i | none => stuck "no such type")).bind _) = _
  rw [h]
  rfl
theorem dry_part {e : TypeId} {q : IntKind} (he : P.underlying e = some (.int q)) {xs : Array Value} {i : Nat} {v : Value} (h : xs[i]? = some v) : dry P (part e xs i) = some v := by
  unfold part isAgg
  simp only [dry_bind, dry_underlying, he, Option.bind_some, dry_pure, Bool.false_eq_true, if_false]
  rw [h]; rfl
theorem dry_eqItems {d : Nat} {e : TypeId} {q : IntKind} (he : P.underlying e = some (.int q)) (xs ys : Array Value) : ∀ (as bs : List Int) (k : Nat), as.length = bs.length →
    (∀ j, (h : j < as.length) → xs[k + j]? = some (.int q as[j])) → (∀ j, (h : j < bs.length) → ys[k + j]? = some (.int q bs[j])) →
    dry P (Op.eqItems (d + 1) e 1 xs ys (List.range' k as.length)) = some (rowB as bs)
  | [], [], _, _, _, _ => rfl
  | [], _ :: _, _, h, _, _ => by cases h
  | _ :: _, [], _, h, _, _ => by cases h
  | a :: as, b :: bs, k, hl, hx, hy => by
    have x0 := hx 0 (by simp)
    have y0 := hy 0 (by simp)
    simp only [Nat.add_zero, List.getElem_cons_zero] at x0 y0
    have ih := dry_eqItems (d := d) he xs ys as bs (k + 1) (by simpa using hl)
      (fun j h => by have := hx (j + 1) (by simpa using h); simpa [Nat.add_assoc, Nat.add_comm 1] using this)
      (fun j h => by have := hy (j + 1) (by simpa using h); simpa [Nat.add_assoc, Nat.add_comm 1] using this)
    have e0 : dry P (Op.equalIn (d + 1) e (.int q a) (.int q b)) = some (a == b) := by
      unfold Op.equalIn
      simp only [dry_bind, dry_underlying, he, Option.bind_some, if_true, dry_pure]
    simp only [List.length_cons, List.range'_succ, Op.eqItems, dry_bind, Nat.mul_one, dry_part he x0, dry_part he y0, Option.bind_some, e0, rowB]
    by_cases hab : a = b
    · subst hab
      simp [ih]
    · have : (a == b) = false := by simpa using hab
      simp [this, hab, dry_pure]
theorem dry_equalIn_array {d : Nat} {t e : TypeId} {n : Nat} {i : TypeInfo} {q : IntKind} (hu : P.underlying t = some (.array n e)) (hi : P.info? e = some i) (hs : i.size = 1) (he : P.underlying e = some (.int q)) (xs ys : Array Value)
    (as bs : List Int) (ha : as.length = n) (hb : bs.length = n) (hx : xs.toList = as.map (Value.int q)) (hy : ys.toList = bs.map (Value.int q)) :
    dry P (Op.equalIn (d + 2) t (.agg xs) (.agg ys)) = some (rowB as bs) := by
  have hx' : ∀ j, (h : j < as.length) → xs[0 + j]? = some (.int q as[j]) := fun j h => by
    rw [Nat.zero_add, ← Array.getElem?_toList, hx]; simp [h]
  have hy' : ∀ j, (h : j < bs.length) → ys[0 + j]? = some (.int q bs[j]) := fun j h => by
    rw [Nat.zero_add, ← Array.getElem?_toList, hy]; simp [h]
  have key := dry_eqItems (P := P) (d := d) he xs ys as bs 0 (ha.trans hb.symm) hx' hy'
  rw [ha] at key
  rw [← key]
  conv => lhs; unfold Op.equalIn
  simp only [dry_bind, dry_underlying, hu, Option.bind_some, dry_sizeOf hi, hs]
  simp only [Std.Legacy.Range.forIn_eq_forIn_range', Std.Legacy.Range.size, Nat.sub_zero, Nat.add_one_sub_one, Nat.div_one]
  clear key hx' hy' hx hy
  generalize List.range' 0 n = is
  induction is with
  | nil => rfl
  | cons j is ih =>
    simp only [List.forIn_cons, Op.eqItems, dry_bind]
    cases dry P (part e xs (j * 1)) with
    | none => rfl
    | some a =>
      simp only [Option.bind_some]
      cases dry P (part e ys (j * 1)) with
      | none => rfl
      | some b =>
        simp only [Option.bind_some]
        cases dry P (Op.equalIn (d + 1) e a b) with
        | none => rfl
        | some r =>
          simp only [Option.bind_some]
          cases r with
          | true => simpa [dry_bind, dry_pure] using ih
          | false => simp [dry_pure]
theorem arun_dryV {s : Sem Value} {v : Value} (h : dry P s = some v) (hp : plainV 60 v = true) {A : AW} : arun P (dryV s) A = some (v, A) := by
  have e : arun P (dryS s) A = some (v, A) := by
    unfold dryS
    rw [arun_bind', show arun P program A = some (P, A) from rfl]
    simp only [Option.bind_some, h]
    rfl
  unfold dryV
  rw [arun_bind', e]
  show arun P (do okIf (plainV 60 v); pure v) A = _
  rw [hp]; rfl
theorem plain_ints {q : IntKind} {as : List Int} {xs : Array Value} (h : xs.toList = as.map (Value.int q)) : plainV 60 (.agg xs) = true := by
  obtain ⟨l⟩ := xs
  simp only at h
  subst h
  simp [plainV]
noncomputable def rowD (P : Program) (o : Oper) (ρ : Operand → Value) : Option Bool := match o.op with
  | .binOp op t x y _ => match ρ x, ρ y with
    | .agg xs, .agg ys => match P.underlying t with
      | some (.array n e) => match P.underlying e, P.info? e with
        | some (.int q), some i => match intsOf q xs.toList, intsOf q ys.toList with
          | some as, some bs => if Nat.beq i.size 1 && Nat.beq as.length n && Nat.beq bs.length n && !P.eqGuardType P.depth t then (match op with
              | .eql => some (rowB as bs)
              | .neq => some (!rowB as bs)
              | _ => none) else none
          | _, _ => none
        | _, _ => none
      | _ => none
    | _, _ => none
  | _ => none
theorem rowD_ok {o : Oper} {ρ : Operand → Value} {b : Bool} (h : rowD P o ρ = some b) (call : Rec) (hops : o.op.operands.all (okOperand G) = true) (A : AW) : evOpR P G call o ρ A = some (.bool b, A) := by
  unfold rowD at h
  split at h
  case h_2 => cases h
  rename_i op t x y rt ho
  split at h
  case h_2 => cases h
  rename_i xs ys hx hy
  split at h
  case h_2 => cases h
  rename_i n e hu
  split at h
  case h_2 => cases h
  rename_i q i he hi
  split at h
  case h_2 => cases h
  rename_i as bs has hbs
  split at h
  case isFalse => cases h
  rename_i hc
  simp only [Bool.and_eq_true, Bool.not_eq_true'] at hc
  obtain ⟨⟨⟨c1, c2⟩, c3⟩, c4⟩ := hc
  have hxs := intsOf_some has
  have hys := intsOf_some hbs
  have key : dry P (Op.equal t (.agg xs) (.agg ys)) = some (rowB as bs) :=
    dry_equalIn_array (d := 9998) hu hi (Nat.eq_of_beq_eq_true c1) he xs ys as bs (Nat.eq_of_beq_eq_true c2) (Nat.eq_of_beq_eq_true c3) hxs hys
  have hg : ∀ op, dry P (eqGuard op t x y (.agg xs) (.agg ys)) = some () := by
    intro op
    unfold eqGuard
    cases op <;> first | rfl | (show dry P (if !(P.eqGuardType P.depth t) then pure () else _) = _; rw [c4]; rfl)
  unfold evOpR
  rw [if_pos hops]
  have fin : ∀ (r : Bool), dry P (binOp op t (.agg xs) (.agg ys)) = some (.bool r) → aop P ρ o A = some (.value (.bool r), A) := by
    intro r hr
    unfold aop
    rw [ho]
    dsimp only
    rw [hx, hy, if_pos (by rw [plain_ints hxs, plain_ints hys]; rfl)]
    have hd : dry P (do eqGuard op t x y (.agg xs) (.agg ys); binOp op t (.agg xs) (.agg ys)) = some (.bool r) := by
      rw [dry_bind, hg op]; exact hr
    show (arun P (dryV _) A).map _ = _
    rw [arun_dryV hd rfl]
    rfl
  cases op <;> first | (cases h; done) | skip
  · cases h
    rw [fin (rowB as bs) (by show dry P (do pure (Value.bool (← Op.equal t (.agg xs) (.agg ys)))) = _; rw [dry_bind, key]; rfl)]
  · cases h
    rw [fin (!rowB as bs) (by show dry P (do pure (Value.bool (!(← Op.equal t (.agg xs) (.agg ys))))) = _; rw [dry_bind, key]; rfl)]
def markB : Value → Option Bool
  | .tuple x => match x.toList with
    | [.bool v] => some v
    | _ => none
  | _ => none
def isMark : Value → Bool
  | .tuple _ => true
  | _ => false
/-! Maps whose keys are rows of integers -/
theorem dry_checkRow {t e : TypeId} {n d : Nat} {i : TypeInfo} {q : IntKind} (b : Bool) (hu : P.underlying t = some (.array n e)) (hi : P.info? e = some i) (hs : i.size = 1) (he : P.underlying e = some (.int q)) (xs : Array Value) (l : List Int) (hl : l.length = n) (hx : xs.toList = l.map (Value.int q)) :
    dry P (Instr.checkKey b (d + 2) t (.agg xs)) = some () := by
  have hx' : ∀ j, (h : j < l.length) → xs[j]? = some (.int q l[j]) := fun j h => by
    rw [← Array.getElem?_toList, hx]; simp [h]
  unfold Instr.checkKey
  simp only [dry_bind, dry_underlying, hu, Option.bind_some]
  simp only [Std.Legacy.Range.forIn_eq_forIn_range', Std.Legacy.Range.size, Nat.sub_zero, Nat.add_one_sub_one, Nat.div_one]
  have key : ∀ (is : List Nat), (∀ j ∈ is, j < l.length) → dry P (forIn is PUnit.unit fun j (_ : PUnit) => do
      Instr.checkKey b (d + 1) e (← part e xs (j * (← sizeOf e)))
      pure (ForInStep.yield PUnit.unit)) = some PUnit.unit := by
    intro is
    induction is with
    | nil => intro _; rfl
    | cons j is ih =>
      intro hj
      have h0 := hj j (List.mem_cons.2 (.inl rfl))
      have hc : dry P (Instr.checkKey b (d + 1) e (.int q l[j])) = some () := by
        unfold Instr.checkKey
        rw [dry_bind, dry_underlying, he]
        rfl
      simp only [List.forIn_cons, dry_bind, dry_sizeOf hi, hs, Option.bind_some, Nat.mul_one, dry_part he (hx' j h0), hc, dry_pure]
      simpa [dry_bind, dry_sizeOf hi, hs] using ih fun k hk => hj k (List.mem_cons_of_mem _ hk)
  have := key (List.range' 0 n) (fun j hj => by rw [hl]; have := List.mem_range'.1 hj; omega)
  simp only [bind_pure_comp] at this ⊢
  first | (rw [this]; rfl) | (simp only [this]; rfl) | (simp [this, dry_pure])
structure RowKey (P : Program) (kt e : TypeId) (n : Nat) (q : IntKind) (i : TypeInfo) : Prop where
  hu : P.underlying kt = some (.array n e)
  he : P.underlying e = some (.int q)
  hi : P.info? e = some i
  hs : i.size = 1
/-- where the key stands, if it is told whether it is the first entry's -/
noncomputable def findRow (n : Nat) (q : IntKind) (kl : List Int) (v : Bool) : List MapEntry → Option (Bool × Option (Nat × Value))
  | [] => none
  | e :: l => match e.key with
    | .agg xs => match intsOf q xs.toList with
      | some xl => if Nat.beq xl.length n then (if v then some (rowB kl xl, some (0, e.val)) else (match l with
        | [] => some (rowB kl xl, none)
        | _ => none)) else none
      | none => none
    | _ => none
theorem findRow_ok {kt e : TypeId} {n : Nat} {q : IntKind} {i : TypeInfo} (K : RowKey P kt e n q i) {ks : Array Value} {kl : List Int} (hk : ks.toList = kl.map (Value.int q)) (hn : kl.length = n) {v : Bool} {es : List MapEntry} {b : Bool} {r : Option (Nat × Value)}
    (h : findRow n q kl v es = some (b, r)) (hb : b = v) : dry P (Instr.findKey kt (.agg ks) es) = some r ∧ (v = true → (es[0]?).map (·.key) = some (.agg ks)) ∧ (v = true → ∃ x, r = some (0, x)) ∧ (v = false → r = none) := by
  unfold findRow at h
  split at h
  case h_1 => cases h
  rename_i e0 l
  split at h
  case h_2 => cases h
  rename_i xs hkey
  split at h
  case h_2 => cases h
  rename_i xl hxl
  split at h
  case isFalse => cases h
  rename_i hlen
  have hx := intsOf_some hxl
  have eq : dry P (Op.equal kt (.agg ks) (.agg xs)) = some (rowB kl xl) := dry_equalIn_array (d := 9998) K.hu K.hi K.hs K.he ks xs kl xl hn (Nat.eq_of_beq_eq_true hlen) hk hx
  have same : rowB kl xl = true → Value.agg xs = .agg ks := fun hr => by
    have : ∀ (a b : List Int), a.length = b.length → rowB a b = true → a = b := by
      intro a
      induction a with
      | nil => intro b hl _; cases b with | nil => rfl | cons => cases hl
      | cons x a ih =>
        intro b hl hr
        cases b with
        | nil => cases hl
        | cons y b =>
          simp only [rowB, Bool.and_eq_true, decide_eq_true_eq] at hr
          rw [hr.1, ih b (by simpa using hl) hr.2]
    have hkx := this kl xl (by rw [hn, Nat.eq_of_beq_eq_true hlen]) hr
    subst hkx
    cases xs; cases ks
    simp only at hk hx
    rw [hk, hx]
  have now : Instr.findNow (.array n e) (.agg ks) (e0 :: l) 0 = none := by
    simp only [Instr.findNow, Instr.sameNow]
  have fk : dry P (Instr.findKey kt (.agg ks) (e0 :: l)) = dry P (Instr.findAsking kt (.agg ks) (e0 :: l) 0) := by
    unfold Instr.findKey
    rw [dry_bind, dry_underlying, K.hu]
    simp only [Option.bind_some, now]
  rw [fk]
  unfold Instr.findAsking
  rw [dry_bind, hkey, eq]
  split at h
  · rename_i hv
    cases h
    subst hv
    rw [hb]
    refine ⟨rfl, fun _ => ?_, fun _ => ⟨_, rfl⟩, (fun h => by cases h)⟩
    simp only [List.getElem?_cons_zero, Option.map_some, hkey, same hb]
  · rename_i hv
    split at h
    case h_2 => cases h
    cases h
    have hv' : v = false := by cases v <;> simp_all
    subst hv'
    rw [hb]
    exact ⟨rfl, (fun h => by cases h), (fun h => by cases h), fun _ => rfl⟩
theorem sameBits_row {q : IntKind} : ∀ (l : List Int), ((l.map (Value.int q)).zip (l.map (Value.int q))).all (fun x => Instr.sameBits 9999 x.1 x.2) = true
  | [] => rfl
  | a :: l => by
    simp only [List.map_cons, List.zip_cons_cons, List.all_cons, sameBits_row l, Bool.and_true]
    simp [Instr.sameBits]
theorem dry_keyStays {q : IntKind} {ks : Array Value} {kl : List Int} (hk : ks.toList = kl.map (Value.int q)) : dry P (Instr.keyThatStays (.agg ks) (.agg ks)) = some (.agg ks) := by
  unfold Instr.keyThatStays
  have : Instr.sameBits 10000 (.agg ks) (.agg ks) = true := by
    unfold Instr.sameBits
    rw [hk]
    simp only [beq_self_eq_true, Bool.true_and]
    exact sameBits_row kl
  rw [this]; rfl
/-- a map's key type: rows of integers -/
noncomputable def rowKey (P : Program) (kt : TypeId) : Option (Nat × IntKind) := match P.underlying kt with
  | some (.array n e) => match P.underlying e, P.info? e with
    | some (.int q), some i => if Nat.beq i.size 1 then some (n, q) else none
    | _, _ => none
  | _ => none
theorem rowKey_ok {kt : TypeId} {n : Nat} {q : IntKind} (h : rowKey P kt = some (n, q)) : ∃ e i, RowKey P kt e n q i := by
  unfold rowKey at h
  split at h
  case h_2 => cases h
  rename_i n' e hu
  split at h
  case h_2 => cases h
  rename_i q' i he hi
  split at h
  case isFalse => cases h
  rename_i hs
  cases h
  exact ⟨e, i, hu, he, hi, Nat.eq_of_beq_eq_true hs⟩
theorem arun_dryS {α : Type} {s : Sem α} {v : α} (h : dry P s = some v) {A : AW} : arun P (dryS s) A = some (v, A) := by
  unfold dryS
  rw [arun_bind', show arun P program A = some (P, A) from rfl]
  simp only [Option.bind_some, h]
  rfl
noncomputable def mapRowD (P : Program) (v : Bool) (o : Oper) (ρ : Operand → Value) (A : AW) : Option (Bool × (Value × AW)) := match o.op with
  | .mapUpdate t m k x => match P.underlying t with
    | some (.map kt _) => match rowKey P kt, ρ m, ρ k with
      | some (n, q), .map (some r), .agg ks => match intsOf q ks.toList, A.w.heap[r]? with
        | some kl, some (.map es clock) => if Nat.beq kl.length n && keysPlain es && !(decide (r < A.ro)) && !(A.tail r).isSome then (match findRow n q kl v es.toList with
            | some (b, some (i, _)) => some (b, (undef, { A with w := { A.w with heap := A.w.heap.setIfInBounds r (.map (es.modify i fun e => { e with key := .agg ks, val := ρ x }) clock) } }))
            | some (b, none) => some (b, (undef, { A with w := { A.w with heap := A.w.heap.setIfInBounds r (.map (es.push { key := .agg ks, val := ρ x, born := clock }) (clock + 1)) } }))
            | none => none) else none
        | _, _ => none
      | _, _, _ => none
    | _ => none
  | .lookup t m k false => match P.underlying t with
    | some (.map kt _) => match rowKey P kt, ρ m, ρ k with
      | some (n, q), .map (some r), .agg ks => match intsOf q ks.toList, A.w.heap[r]? with
        | some kl, some (.map es _) => if Nat.beq kl.length n && keysPlain es && !(A.tail r).isSome && elemKnown P t then (match findRow n q kl v es.toList with
            | some (b, some (_, u)) => some (b, (u, A))
            | _ => none) else none
        | _, _ => none
      | _, _, _ => none
    | _ => none
  | _ => none
theorem mapRowD_ok {v : Bool} {o : Oper} {ρ : Operand → Value} {A : AW} {b : Bool} {r : Value × AW} (h : mapRowD P v o ρ A = some (b, r)) (hb : b = v) (call : Rec) (hops : o.op.operands.all (okOperand G) = true) : evOpR P G call o ρ A = some r := by
  unfold mapRowD at h
  unfold evOpR
  rw [if_pos hops]
  split at h
  case h_3 => cases h
  · rename_i t m k x ho
    split at h
    case h_2 => cases h
    rename_i kt el hu
    split at h
    case h_2 => cases h
    rename_i n q rr ks hrk hm hk
    split at h
    case h_2 => cases h
    rename_i kl es clock hkl hobj
    split at h
    case isFalse => cases h
    rename_i hc
    simp only [Bool.and_eq_true, Bool.not_eq_true', decide_eq_false_iff_not] at hc
    obtain ⟨⟨⟨c1, c2⟩, c3⟩, c4⟩ := hc
    obtain ⟨e, i, K⟩ := rowKey_ok hrk
    have hks := intsOf_some hkl
    have hn := Nat.eq_of_beq_eq_true c1
    have chk : dry P (Instr.checkKey false 10000 kt (.agg ks)) = some () := dry_checkRow (d := 9998) false K.hu K.hi K.hs K.he ks kl hn hks
    have pl := plain_ints hks
    have hget : arun P (getObj rr) A = some (.map es clock, A) := by
      unfold getObj
      simp only [arun, c4, hobj, Bool.false_eq_true, if_false]
    unfold aop
    rw [ho]
    dsimp only
    rw [hm, hk]
    have step : ∀ (res : Option (Nat × Value)) (A' : AW), dry P (Instr.findKey kt (.agg ks) es.toList) = some res →
        (arun P (match res with
          | some (i, _) => do
            let key ← dryS (Instr.keyThatStays (((es[i]?).map (·.key)).getD (.agg ks)) (.agg ks))
            okIf (plainV 60 key)
            setObj rr (.map (es.modify i fun e => { e with key, val := ρ x }) clock)
          | none => setObj rr (.map (es.push { key := .agg ks, val := ρ x, born := clock }) (clock + 1))) A) = some ((), A') →
        arun P (mapUpdateC t (.map (some rr)) (.agg ks) (ρ x)) A = some ((), A') := by
      intro res A' hf hrun
      unfold mapUpdateC
      rw [arun_bind', arun_underlying, hu]
      simp only [Option.map_some, Option.bind_some]
      rw [arun_bind', show okIf (plainV 60 (.agg ks)) = pure () by rw [pl]; rfl]
      simp only [show arun P (pure () : Sem Unit) A = some ((), A) from rfl, Option.bind_some]
      rw [arun_bind', hget]
      simp only [Option.bind_some]
      rw [arun_bind', show okIf (keysPlain es) = pure () by rw [c2]; rfl]
      simp only [show arun P (pure () : Sem Unit) A = some ((), A) from rfl, Option.bind_some]
      rw [arun_bind', arun_dryS chk]
      simp only [Option.bind_some]
      rw [arun_bind', arun_dryS hf]
      simp only [Option.bind_some]
      exact hrun
    have hset : ∀ ob : Obj, okObj ob = true → arun P (setObj rr ob) A = some ((), { A with w := { A.w with heap := A.w.heap.setIfInBounds rr ob } }) := by
      intro ob hob
      unfold setObj
      simp only [arun, c4, c3, hob, hobj, decide_false, Bool.or_self, Bool.not_true, Bool.false_eq_true, if_false]
    have au_ : ∀ A', arun P (mapUpdateC t (.map (some rr)) (.agg ks) (ρ x)) A = some ((), A') → au P (mapUpdateC t (.map (some rr)) (.agg ks) (ρ x)) A = some (.skip, A') := by
      intro A' h1
      unfold au
      rw [h1]; rfl
    split at h
    · rename_i b' i0 u hfr
      cases h
      obtain ⟨f1, f2, f3, f4⟩ := findRow_ok K hks hn hfr hb
      have hv : v = true := by
        cases v with
        | true => rfl
        | false => have := f4 rfl; cases this
      obtain ⟨x0, hx0⟩ := f3 hv
      cases hx0
      have hkey := f2 hv
      have hkey' : ((es[0]?).map (·.key)).getD (.agg ks) = .agg ks := by
        rw [← Array.getElem?_toList, hkey]; rfl
      rw [au_ _ (step _ _ f1 (by
        dsimp only
        rw [arun_bind', hkey', arun_dryS (dry_keyStays hks)]
        simp only [Option.bind_some]
        rw [arun_bind', show okIf (plainV 60 (.agg ks)) = pure () by rw [pl]; rfl]
        simp only [show arun P (pure () : Sem Unit) A = some ((), A) from rfl, Option.bind_some]
        exact hset _ rfl))]
    · rename_i b' hfr
      cases h
      obtain ⟨f1, _, _, _⟩ := findRow_ok K hks hn hfr hb
      rw [au_ _ (step _ _ f1 (hset _ rfl))]
    · cases h
  · rename_i t m k ho
    split at h
    case h_2 => cases h
    rename_i kt el hu
    split at h
    case h_2 => cases h
    rename_i n q rr ks hrk hm hk
    split at h
    case h_2 => cases h
    rename_i kl es clock hkl hobj
    split at h
    case isFalse => cases h
    rename_i hc
    simp only [Bool.and_eq_true, Bool.not_eq_true'] at hc
    obtain ⟨⟨⟨c1, c2⟩, c4⟩, c5⟩ := hc
    split at h
    case h_2 => cases h
    rename_i b' i0 u hfr
    cases h
    obtain ⟨e, i, K⟩ := rowKey_ok hrk
    have hks := intsOf_some hkl
    have hn := Nat.eq_of_beq_eq_true c1
    have chk : ∀ b, dry P (Instr.checkKey b 10000 kt (.agg ks)) = some () := fun b => dry_checkRow (d := 9998) b K.hu K.hi K.hs K.he ks kl hn hks
    have pl := plain_ints hks
    have hget : arun P (getObj rr) A = some (.map es clock, A) := by
      unfold getObj
      simp only [arun, c4, hobj, Bool.false_eq_true, if_false]
    obtain ⟨f1, _, _, _⟩ := findRow_ok K hks hn hfr hb
    unfold aop
    rw [ho]
    dsimp only
    rw [hm, hk, if_pos c5]
    have : arun P (lookupC t (.map (some rr)) (.agg ks) false) A = some (u, A) := by
      unfold lookupC
      rw [arun_bind', arun_underlying, hu]
      simp only [Option.map_some, Option.bind_some]
      rw [arun_bind', show okIf (plainV 60 (.agg ks)) = pure () by rw [pl]; rfl]
      simp only [show arun P (pure () : Sem Unit) A = some ((), A) from rfl, Option.bind_some]
      rw [arun_bind', hget]
      simp only [Option.bind_some]
      rw [arun_bind', show arun P (pure es : Sem (Array MapEntry)) A = some (es, A) from rfl]
      simp only [Option.bind_some]
      rw [arun_bind', show okIf (keysPlain es) = pure () by rw [c2]; rfl]
      simp only [show arun P (pure () : Sem Unit) A = some ((), A) from rfl, Option.bind_some]
      rw [arun_bind', arun_dryS (chk _)]
      simp only [Option.bind_some]
      rw [arun_bind', arun_dryS f1]
      rfl
    unfold av
    rw [this]; rfl
/-- an operation, as the oracle tells: nothing; 'a division by what is not nothing' (a tuple); or what its value is -/
noncomputable def evOpA (P : Program) (G : List Nat) (callD : RecD) (q : Option (Nat × Value)) (o : Oper) (ρ : Operand → Value) (A : AW) : Option (Obl × (Value × AW)) := match q with
  | none => evOpRD P G callD o ρ A
  | some (i, v') => if isMark v' then (if o.op.operands.all (okOperand G) then (match markB v' with
        | some v => (match rowD P o ρ with
          | some b => some ([(i, b, v)], (.bool v, A))
          | none => (match mapRowD P v o ρ A with
            | some (b, r) => some ([(i, b, v)], r)
            | none => none))
        | none => (match divD o ρ with
          | some (c, v) => some ([(i, c, false)], (v, A))
          | none => none)) else none)
      else match evOpRD P G callD o ρ A with
        | some (ob, (v, A1)) => match taken v v' with
          | some p => some (ob ++ [(i, p)], (v', A1))
          | none => none
        | none => none
theorem evOpA_fol {callD : RecD} {call : Rec} (hc : Fol callD call) {q : Option (Nat × Value)} {o : Oper} {ρ : Operand → Value} {A : AW} {ob : Obl} {r : Value × AW} (h : evOpA P G callD q o ρ A = some (ob, r)) (ho : ob.Ok) : evOpR P G call o ρ A = some r := by
  unfold evOpA at h
  split at h
  · exact evOpRD_fol hc h ho
  · rename_i i v'
    split at h
    · split at h
      case isFalse => cases h
      rename_i hops
      split at h
      · rename_i v hm
        split at h
        · rename_i b hb
          cases h
          have hbv : b = v := ho _ (List.mem_singleton.2 rfl)
          subst hbv
          exact rowD_ok hb call hops A
        · split at h
          case h_2 => cases h
          rename_i b r2 hb
          cases h
          exact mapRowD_ok hb (ho _ (List.mem_singleton.2 rfl)) call hops
      split at h
      case h_2 => cases h
      rename_i c v hd
      cases h
      have hcf : c = false := ho _ (List.mem_singleton.2 rfl)
      subst hcf
      exact divD_ok hd call hops A
    · split at h
      case h_2 => cases h
      rename_i ob2 v A1 hv
      split at h
      case h_2 => cases h
      rename_i p hp
      cases h
      obtain ⟨q1, q2⟩ := Obl.ok_append ho
      rw [evOpRD_fol hc hv q1]
      have := taken_ok hp (q2 _ (List.mem_singleton.2 rfl))
      rw [this]
theorem evOpA_folF {callD : RecD} {call : Rec} (hc : Fol callD call) {q : Option (Nat × Value)} {o : Oper} {a : Act} {A : AW} {ob : Obl} {r : Value × AW} (h : evOpA P G callD q o (feval a) A = some (ob, r)) (ho : ob.Ok) : evOpF P G call o a A = some r := evOpA_fol hc h ho

/-- what must hold is handed on from operation to operation -/
noncomputable def evOpsD (P : Program) (G : List Nat) (callD : RecC) (d : Orc) (ops : Array Oper) : List Oper → Obl → Act → AW → Option (Obl × (Act × AW))
  | [], acc, a, A => some (acc, (a, A))
  | o :: rest, acc, a, A =>
    if wantedF ops o a then
      match evOpA P G (callD (siteOf o a)) (ask d o a) o (feval a) A with
      | some (ob, (v, A1)) => putK a o.dst v fun a1 => evOpsD P G callD d ops rest (ob ++ acc) a1 A1
      | none => none
    else putK a o.dst undef fun a1 => evOpsD P G callD d ops rest acc a1 A
theorem evOpsD_fol {callD : RecC} {call : Rec} (hc : FolC callD call) (d : Orc) (ops : Array Oper) : ∀ (l : List Oper) {acc : Obl} {a : Act} {A : AW} {ob : Obl} {r : Act × AW}, evOpsD P G callD d ops l acc a A = some (ob, r) → ob.Ok → evOpsF P G call ops l a A = some r ∧ acc.Ok
  | [], acc, a, A, ob, r, h, ho => by
    simp only [evOpsD, Option.some.injEq, Prod.mk.injEq] at h
    simp only [evOpsF, h.2]
    exact ⟨trivial, h.1 ▸ ho⟩
  | o :: l, acc, a, A, ob, r, h, ho => by
    unfold evOpsD at h
    unfold evOpsF
    split at h
    · rename_i hw
      rw [if_pos hw]
      split at h
      case h_2 => cases h
      rename_i ob1 v A1 h1
      simp only [putK_eq] at h
      obtain ⟨k1, k2⟩ := evOpsD_fol hc d ops l h ho
      obtain ⟨q1, q2⟩ := Obl.ok_append k2
      rw [evOpA_folF (hc _) h1 q1]
      simp only [putK_eq]
      exact ⟨k1, q2⟩
    · rename_i hw
      rw [if_neg hw]
      simp only [putK_eq] at h ⊢
      exact evOpsD_fol hc d ops l h ho

noncomputable def evDraw1D (P : Program) (G : List Nat) (callD : RecC) (d : Orc) (ops : Array Oper) (ds : List Done) (o : Oper) (a0 : Act) (A : AW) : Option (Obl × (Done × AW)) :=
  if !(directs o).all (fun j => decide (j < ds.length)) then none else
  if !apartAll ops (seesOf ds o) o 0 ds then none else
  match o.guard with
  | none =>
    fNat A.size fun sz => normA { A.w with heap := unseen (fun k => (seesOf ds o).contains k) 0 ds A.w.heap } A.loose sz fun A0 =>
    bindO (evOpA P G (callD (siteOf o a0)) (ask d o a0) o (feD (fun k => (seesOf ds o).contains k) ds a0) A0) fun y =>
      if y.2.loose.all (fun p => decide (p.1 < y.2.size)) && decide (sz ≤ y.2.size) then
        fNat y.2.size fun sz1 => normA { A.w with heap := A.w.heap ++ y.2.w.heap.extract sz sz1 } ((y.2.loose.filter fun p => decide (sz ≤ p.1)) ++ A.loose) A.ro fun A2 =>
        some ([], (⟨o, y.1, seesOf ds o, sz, sz1⟩, A2))
      else none
  | some _ =>
    putSeenK (fun k => (seesOf ds o).contains k) 0 ds a0 fun a1 =>
    if wantedF ops o a1 then
      bindO (evOpA P G (callD (siteOf o a0)) (ask d o a0) o (feval a1) { w := { A.w with heap := unseen (fun k => (seesOf ds o).contains k) 0 ds A.w.heap }, loose := A.loose, ro := A.size }) fun y =>
        if y.2.loose.all (fun p => decide (p.1 < y.2.size)) && decide (A.size ≤ y.2.size) then
          some ([], (⟨o, y.1, seesOf ds o, A.size, y.2.size⟩, { w := { A.w with heap := A.w.heap ++ y.2.w.heap.extract A.size y.2.size }, loose := (y.2.loose.filter fun p => decide (A.size ≤ p.1)) ++ A.loose, ro := A.ro }))
        else none
    else some ([], (⟨o, undef, seesOf ds o, A.size, A.size⟩, A))
theorem evDraw1D_fol {callD : RecC} {call : Rec} (hc : FolC callD call) (d : Orc) {ops : Array Oper} {ds : List Done} {o : Oper} {a0 : Act} {A : AW} {ob : Obl} {r : Done × AW} (h : evDraw1D P G callD d ops ds o a0 A = some (ob, r)) (ho : ob.Ok) : evDraw1F P G call ops ds o a0 A = some r := by
  unfold evDraw1D at h
  unfold evDraw1F
  split at h
  · cases h
  rename_i h1
  rw [if_neg h1]
  split at h
  · cases h
  rename_i h2
  rw [if_neg h2]
  split at h
  · rename_i hg
    rw [hg]
    simp only [fNat_eq, normA_eq] at h ⊢
    obtain ⟨o1, ⟨v, A1⟩, k1, q1, o2, k2, q2⟩ := bindO_some h ho
    rw [evOpA_fol (hc _) k1 q1]
    simp only at k2 ⊢
    split at k2
    · rename_i hif
      rw [if_pos hif]
      simp only [Option.some.injEq, Prod.mk.injEq] at k2
      rw [← k2.2]
    · cases k2
  · rename_i g hg
    rw [hg]
    simp only [putSeenK_eq] at h ⊢
    split at h
    · rename_i hw
      rw [if_pos hw]
      obtain ⟨o1, ⟨v, A1⟩, k1, q1, o2, k2, q2⟩ := bindO_some h ho
      rw [evOpA_folF (hc _) k1 q1]
      simp only at k2 ⊢
      split at k2
      · rename_i hif
        rw [if_pos hif]
        simp only [Option.some.injEq, Prod.mk.injEq] at k2
        rw [← k2.2]
      · cases k2
    · rename_i hw
      rw [if_neg hw]
      simp only [Option.some.injEq, Prod.mk.injEq] at h
      rw [← h.2]
noncomputable def evDrawD (P : Program) (G : List Nat) (callD : RecC) (d : Orc) (ops : Array Oper) : List Oper → Obl → List Done → Act → AW → Option (Obl × (List Done × AW))
  | [], acc, ds, _, A => some (acc, (ds, A))
  | o :: rest, acc, ds, a0, A => match evDraw1D P G callD d ops ds o a0 A with
    | some (ob, (x, A1)) => evDrawD P G callD d ops rest (ob ++ acc) (ds ++ [x]) a0 A1
    | none => none
theorem evDrawD_fol {callD : RecC} {call : Rec} (hc : FolC callD call) (d : Orc) (ops : Array Oper) : ∀ (l : List Oper) {acc : Obl} {ds : List Done} {a0 : Act} {A : AW} {ob : Obl} {r : List Done × AW}, evDrawD P G callD d ops l acc ds a0 A = some (ob, r) → ob.Ok → evDrawF P G call ops l ds a0 A = some r ∧ acc.Ok
  | [], acc, ds, a0, A, ob, r, h, ho => by
    simp only [evDrawD, Option.some.injEq, Prod.mk.injEq] at h
    simp only [evDrawF, ← h.2]
    exact ⟨trivial, h.1 ▸ ho⟩
  | o :: l, acc, ds, a0, A, ob, r, h, ho => by
    unfold evDrawD at h
    unfold evDrawF
    split at h
    case h_2 => cases h
    rename_i ob1 x A1 h1
    obtain ⟨k1, k2⟩ := evDrawD_fol hc d ops l h ho
    obtain ⟨q1, q2⟩ := Obl.ok_append k2
    rw [evDraw1D_fol hc d h1 q1]
    exact ⟨k1, q2⟩
noncomputable def runDrawD (P : Program) (G : List Nat) (callD : RecC) (d : Orc) (fl : Bool) (ops : Array Oper) (a : Act) (A : AW) : Option (Obl × (Act × AW)) :=
  let m := drawM P fl ops (seesList [] ops.toList)
  match evDrawD P G callD d ops (ops.toList.take m) [] [] a A with
  | some (ob, (ds, A1)) => putSeenK (fun _ => true) 0 ds a fun a1 => evOpsD P G callD d ops (ops.toList.drop m) ob a1 A1
  | none => none
theorem runDrawD_fol {callD : RecC} {call : Rec} (hc : FolC callD call) (d : Orc) {fl : Bool} {ops : Array Oper} {a : Act} {A : AW} {ob : Obl} {r : Act × AW} (h : runDrawD P G callD d fl ops a A = some (ob, r)) (ho : ob.Ok) : runDrawF P G call fl ops a A = some r := by
  unfold runDrawD at h
  unfold runDrawF
  dsimp only at h ⊢
  split at h
  case h_2 => cases h
  rename_i ob1 ds A1 h1
  simp only [putSeenK_eq] at h
  obtain ⟨k1, k2⟩ := evOpsD_fol hc d ops _ h ho
  rw [(evDrawD_fol hc d ops _ h1 k2).1]
  simp only [putSeenK_eq]
  exact k1
noncomputable def runLateD (P : Program) (G : List Nat) (callD : RecC) (d : Orc) (fl : Bool) (ops : Array Oper) (a : Act) (A : AW) : Option (Obl × (Act × AW)) :=
  let ss := seesList [] ops.toList
  let m := lateM P fl ops ss
  match evDrawD P G callD d ops (ops.toList.take m) [] [] a A with
  | some (ob, (ds, A1)) => putSeenK (fun _ => true) 0 ds a fun a1 => match evOpsD P G callD d ops ((ops.toList.drop m).take 1) ob a1 A1 with
    | some (ob2, (a3, A3)) => evOpsD P G callD d ops (ops.toList.drop (m + 1)) ((9998, (lateOps (drawFl P fl ops ss) ops ss m).all (lateSame P G ops a3 A3), true) :: ob2) a3 A3
    | none => none
  | none => none
theorem runLateD_fol {callD : RecC} {call : Rec} (hc : FolC callD call) (d : Orc) {fl : Bool} {ops : Array Oper} {a : Act} {A : AW} {ob : Obl} {r : Act × AW} (h : runLateD P G callD d fl ops a A = some (ob, r)) (ho : ob.Ok) : runLateF P G call fl ops a A = some r := by
  unfold runLateD at h
  unfold runLateF
  dsimp only at h ⊢
  split at h
  case h_2 => cases h
  rename_i ob1 ds A1 h1
  simp only [putSeenK_eq] at h
  split at h
  case h_2 => cases h
  rename_i ob2 a3 A3 h2
  obtain ⟨k1, k2⟩ := evOpsD_fol hc d ops _ h ho
  obtain ⟨hs, k3⟩ := Obl.ok_cons k2
  obtain ⟨j1, j2⟩ := evOpsD_fol hc d ops _ h2 k3
  rw [(evDrawD_fol hc d ops _ h1 j2).1]
  simp only [putSeenK_eq]
  rw [j1]
  simp only
  rw [if_pos hs]
  exact k1
noncomputable def evRegionD (P : Program) (G : List Nat) (callD : RecC) (d : Orc) (fl : Bool) (ops : Array Oper) (draw : Bool) (a : Act) (A : AW) : Option (Obl × (Act × AW)) :=
  if draw then
    match howOf P fl ops with
    | .plain => if drawOk P fl ops then runDrawD P G callD d fl ops a A else none
    | .other => opsK (permuted (sched P ops) ops).toList fun l => if drawOk P fl l.toArray then runDrawD P G callD d fl l.toArray a A else none
    | .late => opsK (permuted (sched P ops) ops).toList fun l => runLateD P G callD d fl l.toArray a A
  else evOpsD P G callD d ops ops.toList [] a A
theorem evRegionD_fol {callD : RecC} {call : Rec} (hc : FolC callD call) (d : Orc) {fl : Bool} {ops : Array Oper} {draw : Bool} {a : Act} {A : AW} {ob : Obl} {r : Act × AW} (h : evRegionD P G callD d fl ops draw a A = some (ob, r)) (ho : ob.Ok) : evRegionF P G call fl ops draw a A = some r := by
  unfold evRegionD at h
  unfold evRegionF
  simp only [opsK_eq] at h ⊢
  split at h
  · rename_i hd
    rw [if_pos hd]
    cases hh : howOf P fl ops with
    | plain =>
      rw [hh] at h
      dsimp only at h ⊢
      split at h
      case isFalse => cases h
      rename_i hck
      rw [if_pos hck]
      exact runDrawD_fol hc d h ho
    | other =>
      rw [hh] at h
      dsimp only at h ⊢
      split at h
      case isFalse => cases h
      rename_i hck
      rw [if_pos hck]
      exact runDrawD_fol hc d h ho
    | late =>
      rw [hh] at h
      exact runLateD_fol hc d h ho
  · rename_i hd
    rw [if_neg hd]
    exact (evOpsD_fol hc d ops _ h ho).1

noncomputable def joinD {α β : Type} : List α → (α → Option (Obl × List β)) → Option (Obl × List β)
  | [], _ => some ([], [])
  | x :: l, f => bindO (f x) fun u => bindO (joinD l f) fun v => some ([], u ++ v)
theorem joinD_fol {α β : Type} {f : α → Option (Obl × List β)} {g : α → Option (List β)} : ∀ (l : List α) {ob : Obl} {L : List β}, (∀ x ∈ l, ∀ o r, f x = some (o, r) → o.Ok → g x = some r) → joinD l f = some (ob, L) → ob.Ok → joinL l g = some L
  | [], ob, L, _, h, _ => by
    simp only [joinD, Option.some.injEq, Prod.mk.injEq] at h
    simp only [joinL, ← h.2]
  | x :: l, ob, L, hf, h, ho => by
    unfold joinD at h
    unfold joinL
    obtain ⟨o1, u, h1, q1, o2, h2, q2⟩ := bindO_some h ho
    obtain ⟨o3, v, h3, q3, o4, h4, q4⟩ := bindO_some h2 q2
    rw [hf x (by simp) _ _ h1 q1]
    simp only
    rw [joinD_fol l (fun y hy => hf y (by simp [hy])) h3 q3]
    simp only [Option.some.injEq, Prod.mk.injEq] at h4 ⊢
    exact h4.2
noncomputable def evOpsLD (P : Program) (G : List Nat) (callD : RecC) (d : Orc) (ops : Array Oper) : List Oper → Act → AW → Option (Obl × List (Act × AW))
  | [], a, A => some ([], [(a, A)])
  | o :: rest, a, A =>
    if wantedF ops o a then
      match nextOf o with
      | some it => if okOperand G it then match nextL P (feval a it) A with
          | some L => joinD L fun y => putK a o.dst y.1 fun a1 => evOpsLD P G callD d ops rest a1 y.2
          | none => none
        else none
      | none => bindO (evOpA P G (callD (siteOf o a)) (ask d o a) o (feval a) A) fun y => putK a o.dst y.1 fun a1 => evOpsLD P G callD d ops rest a1 y.2
    else putK a o.dst undef fun a1 => evOpsLD P G callD d ops rest a1 A
theorem evOpsLD_fol {callD : RecC} {call : Rec} (hc : FolC callD call) (d : Orc) (ops : Array Oper) : ∀ (l : List Oper) {a : Act} {A : AW} {ob : Obl} {r : List (Act × AW)}, evOpsLD P G callD d ops l a A = some (ob, r) → ob.Ok → evOpsL P G call ops l a A = some r
  | [], a, A, ob, r, h, _ => by
    simp only [evOpsLD, Option.some.injEq, Prod.mk.injEq] at h
    simp only [evOpsL, h.2]
  | o :: l, a, A, ob, r, h, ho => by
    unfold evOpsLD at h
    unfold evOpsL
    split at h
    · rename_i hw
      rw [if_pos hw]
      split at h
      · rename_i it hn
        rw [hn]
        simp only
        split at h
        case isFalse => cases h
        rename_i hok
        rw [if_pos hok]
        split at h
        case h_2 => cases h
        rename_i L hL
        rw [hL]
        simp only [putK_eq] at h ⊢
        exact joinD_fol L (fun y _ o r h1 h2 => evOpsLD_fol hc d ops l h1 h2) h ho
      · rename_i hn
        rw [hn]
        simp only
        obtain ⟨o1, ⟨v, A1⟩, h1, q1, o2, h2, q2⟩ := bindO_some h ho
        rw [evOpA_folF (hc _) h1 q1]
        simp only [putK_eq] at h2 ⊢
        exact evOpsLD_fol hc d ops l h2 q2
    · rename_i hw
      rw [if_neg hw]
      simp only [putK_eq] at h ⊢
      exact evOpsLD_fol hc d ops l h ho
noncomputable def evLoopD (body : Act → AW → Option (Obl × List (Exit × Act × AW))) : Nat → Act → AW → Option (Obl × List (Exit × Act × AW))
  | 0, _, _ => none
  | n + 1, a, A => bindO (body a A) fun L => joinD L fun x => match x with
      | (.normal, a1, A1) => evLoopD body n a1 A1
      | x => some ([], [x])
theorem evLoopD_fol {b : Act → AW → Option (Obl × List (Exit × Act × AW))} {b' : Act → AW → Option (List (Exit × Act × AW))} (hb : ∀ a A o r, b a A = some (o, r) → o.Ok → b' a A = some r) : ∀ (n : Nat) (a : Act) (A : AW) {ob : Obl} {r : List (Exit × Act × AW)}, evLoopD b n a A = some (ob, r) → ob.Ok → evLoopL b' n a A = some r
  | 0, a, A, ob, r, h, _ => by cases h
  | n + 1, a, A, ob, r, h, ho => by
    unfold evLoopD at h
    unfold evLoopL
    obtain ⟨o1, L, h1, q1, o2, h2, q2⟩ := bindO_some h ho
    rw [hb _ _ _ _ h1 q1]
    simp only
    refine joinD_fol L (fun x _ o r k1 k2 => ?_) h2 q2
    obtain ⟨e, a1, A1⟩ := x
    cases e with
    | normal => exact evLoopD_fol hb n a1 A1 k1 k2
    | _ =>
      simp only [Option.some.injEq, Prod.mk.injEq] at k1 ⊢
      exact k1.2
noncomputable def oneD {α : Type} : Option α → Option (Obl × List α)
  | some x => some ([], [x])
  | none => none
theorem evRange_fol {callD : RecC} {call : Rec} (hc : FolC callD call) {rd : Option Nat} {g : Operand} {ps : Array Tmp} {assign body : Code} {a : Act} {A : AW} {r : Exit × Act × AW} (h : evRange P G (noObl (callD (0, a))) rd g ps assign body a A = some r) : evRange P G call rd g ps assign body a A = some r := by
  unfold evRange at h ⊢
  split at h
  case isFalse => cases h
  rename_i hok
  rw [if_pos hok]
  split at h
  case h_2 => cases h
  rename_i l mark A1 h1
  split at h
  · rename_i f first captured hev
    split at h
    case isFalse => cases h
    rename_i hbody
    rw [if_pos hbody]
    split at h
    case h_2 => cases h
    rename_i v A2 h2
    rw [noObl_fol (hc _) h2]
    exact h
  · cases h
noncomputable def evCodeD (P : Program) (G : List Nat) (callD : RecC) (d : Orc) (n : Nat) (rd : Option Nat) : Code → Act → AW → Option (Obl × List (Exit × Act × AW))
  | .region _ ops draw, a, A => if !draw && ops.any (fun o => (nextOf o).isSome) then
      match evOpsLD P G callD d ops ops.toList a A with
      | some (ob, L) => some (ob, L.map fun y => (.normal, y.1, y.2))
      | none => none
    else match evRegionD P G callD d rd.isNone ops draw a A with
      | some (ob, (a1, A1)) => some (ob, [(.normal, a1, A1)])
      | none => none
  | .seq x y, a, A => bindO (evCodeD P G callD d n rd x a A) fun L => joinD L fun z => match z with
      | (.normal, a1, A1) => evCodeD P G callD d n rd y a1 A1
      | z => some ([], [z])
  | .cond c x y, a, A => if okOperand G c then (match feval a c with
    | .bool true => evCodeD P G callD d n rd x a A
    | .bool false => evCodeD P G callD d n rd y a A
    | _ => none) else none
  | .block id c, a, A => match evCodeD P G callD d n rd c a A with
    | some (ob, L) => some (ob, L.map (outOf id))
    | none => none
  | .loop c, a, A => evLoopD (evCodeD P G callD d n rd c) n a A
  | .rangeFunc g ps assign body, a, A => oneD (evRange P G (noObl (callD (0, a))) rd g ps assign body a A)
  | .skip, a, A => some ([], [(.normal, a, A)])
  | .label _, a, A => some ([], [(.normal, a, A)])
  | .exit id, a, A => some ([], [(.exit id, a, A)])
  | .goto l, a, A => some ([], [(.goto l, a, A)])
  | .ret, a, A => some ([], [(.ret, a, A)])
  | .scope c, a, A => match evCodeD P G callD d n rd c a A with
    | some (ob, L) => if L.all (fun z => notGoto z.1) then some (ob, L) else none
    | none => none
  | .refuse _, _, _ => none
theorem evCodeD_fol {callD : RecC} {call : Rec} (hc : FolC callD call) (d : Orc) (n : Nat) (rd : Option Nat) : ∀ (c : Code) (a : Act) (A : AW) (ob : Obl) (r : List (Exit × Act × AW)), evCodeD P G callD d n rd c a A = some (ob, r) → ob.Ok → evCodeL P G call n rd c a A = some r
  | .skip, a, A, ob, r, h, _ => by simp only [evCodeD, Option.some.injEq, Prod.mk.injEq] at h; rw [← h.2]; rfl
  | .label _, a, A, ob, r, h, _ => by simp only [evCodeD, Option.some.injEq, Prod.mk.injEq] at h; rw [← h.2]; rfl
  | .exit _, a, A, ob, r, h, _ => by simp only [evCodeD, Option.some.injEq, Prod.mk.injEq] at h; rw [← h.2]; rfl
  | .goto _, a, A, ob, r, h, _ => by simp only [evCodeD, Option.some.injEq, Prod.mk.injEq] at h; rw [← h.2]; rfl
  | .ret, a, A, ob, r, h, _ => by simp only [evCodeD, Option.some.injEq, Prod.mk.injEq] at h; rw [← h.2]; rfl
  | .scope c, a, A, ob, r, h, ho => by
    unfold evCodeD at h
    unfold evCodeL
    split at h
    case h_2 => cases h
    rename_i ob2 L hL
    split at h
    case isFalse => cases h
    rename_i hn
    cases h
    rw [evCodeD_fol hc d n rd c a A _ _ hL ho]
    dsimp only
    rw [if_pos hn]
  | .refuse _, a, A, ob, r, h, _ => by simp only [evCodeD] at h; cases h
  | .rangeFunc g ps assign body, a, A, ob, r, h, _ => by
    simp only [evCodeD] at h
    cases hx : evRange P G (noObl (callD (0, a))) rd g ps assign body a A with
    | none => rw [hx] at h; cases h
    | some x =>
      rw [hx] at h
      simp only [oneD, Option.some.injEq, Prod.mk.injEq] at h
      have := evRange_fol hc hx
      show oneL (evRange P G call rd g ps assign body a A) = _
      rw [this, ← h.2]; rfl
  | .region _ ops draw, a, A, ob, r, h, ho => by
    unfold evCodeD at h
    unfold evCodeL
    split at h
    · rename_i hd
      rw [if_pos hd]
      split at h
      case h_2 => cases h
      rename_i ob2 L hL
      cases h
      rw [evOpsLD_fol hc d ops _ hL ho]
    · rename_i hd
      rw [if_neg hd]
      split at h
      case h_2 => cases h
      rename_i ob2 a1 A1 hL
      cases h
      rw [evRegionD_fol hc d hL ho]
      rfl
  | .seq x y, a, A, ob, r, h, ho => by
    unfold evCodeD at h
    unfold evCodeL
    obtain ⟨o1, L, h1, q1, o2, h2, q2⟩ := bindO_some h ho
    rw [evCodeD_fol hc d n rd x a A o1 L h1 q1]
    simp only
    refine joinD_fol L (fun z _ o r k1 k2 => ?_) h2 q2
    obtain ⟨e, a1, A1⟩ := z
    cases e with
    | normal => exact evCodeD_fol hc d n rd y a1 A1 o r k1 k2
    | _ =>
      simp only [Option.some.injEq, Prod.mk.injEq] at k1 ⊢
      exact k1.2
  | .cond c x y, a, A, ob, r, h, ho => by
    unfold evCodeD at h
    unfold evCodeL
    split at h
    case isFalse => cases h
    rename_i hok
    rw [if_pos hok]
    split at h
    · rename_i e; rw [e]; exact evCodeD_fol hc d n rd x a A ob r h ho
    · rename_i e; rw [e]; exact evCodeD_fol hc d n rd y a A ob r h ho
    · cases h
  | .block id c, a, A, ob, r, h, ho => by
    unfold evCodeD at h
    unfold evCodeL
    split at h
    case h_2 => cases h
    rename_i ob2 L hL
    cases h
    rw [evCodeD_fol hc d n rd c a A _ _ hL ho]
  | .loop c, a, A, ob, r, h, ho => by
    unfold evCodeD at h
    unfold evCodeL
    exact evLoopD_fol (fun a A o r h1 h2 => evCodeD_fol hc d n rd c a A o r h1 h2) n a A h ho


/-- what a round assigns -/
noncomputable def evAssignD (P : Program) (G : List Nat) (callD : RecC) (rd : Option Nat) : Code → Act → AW → Option (Obl × (Act × AW))
  | .skip, a, A => some ([], (a, A))
  | .region _ ops draw, a, A => evRegionD P G callD (fun _ _ => none) rd.isNone ops draw a A
  | .seq x y, a, A => bindO (evAssignD P G callD rd x a A) fun z => evAssignD P G callD rd y z.1 z.2
  | _, _, _ => none
theorem evAssignD_fol {callD : RecC} {call : Rec} (hc : FolC callD call) (n : Nat) (rd : Option Nat) : ∀ (c : Code) (a : Act) (A : AW) (ob : Obl) (r : Act × AW), evAssignD P G callD rd c a A = some (ob, r) → ob.Ok → evCodeF P G call n rd c a A = some (.normal, r.1, r.2)
  | .skip, a, A, ob, r, h, _ => by
    simp only [evAssignD, Option.some.injEq, Prod.mk.injEq] at h
    rw [← h.2]; rfl
  | .region _ ops draw, a, A, ob, r, h, ho => by
    unfold evAssignD at h
    unfold evCodeF
    rw [evRegionD_fol hc _ h ho]
  | .seq x y, a, A, ob, r, h, ho => by
    unfold evAssignD at h
    unfold evCodeF
    obtain ⟨o1, z, h1, q1, o2, h2, q2⟩ := bindO_some h ho
    rw [evAssignD_fol hc n rd x a A o1 z h1 q1]
    exact evAssignD_fol hc n rd y z.1 z.2 o2 r h2 q2
  | .label _, a, A, ob, r, h, _ => by simp only [evAssignD] at h; cases h
  | .exit _, a, A, ob, r, h, _ => by simp only [evAssignD] at h; cases h
  | .goto _, a, A, ob, r, h, _ => by simp only [evAssignD] at h; cases h
  | .ret, a, A, ob, r, h, _ => by simp only [evAssignD] at h; cases h
  | .scope _, a, A, ob, r, h, _ => by simp only [evAssignD] at h; cases h
  | .refuse _, a, A, ob, r, h, _ => by simp only [evAssignD] at h; cases h
  | .rangeFunc .., a, A, ob, r, h, _ => by simp only [evAssignD] at h; cases h
  | .cond .., a, A, ob, r, h, _ => by simp only [evAssignD] at h; cases h
  | .block .., a, A, ob, r, h, _ => by simp only [evAssignD] at h; cases h
  | .loop _, a, A, ob, r, h, _ => by simp only [evAssignD] at h; cases h

noncomputable def stepD (P : Program) (G : List Nat) (callD : RecC) (n : Nat) (orc : FuncId → Orc) (j : Job) (A : AW) : Option (Obl × (Value × AW)) :=
  match j with
  | .call f args => match P.funcs[f]? with
    | some fn => match fn.body with
      | some c => match evCodeD P G callD (orc f) n none c { tmps := args ++ Array.replicate (fn.ntmps - args.size) undef, defers := [] } A with
        | some (ob, L) => match allSome (L.map (outB P fn)) with
          | some L2 => match mergeL L2 with
            | some z => some (ob, z)
            | none => none
          | none => none
        | none => none
      | none => none
    | none => none
  | .round l tmps assign body =>
    bindO (evAssignD P G callD (some l) assign { tmps, defers := [] } A) fun y =>
      match arun P (Instr.beginRound l) y.2 with
      | some (_, A2) =>
        match evCodeD P G callD (fun _ _ => none) n (some l) body y.1 A2 with
        | some (ob, L) => match allSome (L.map (outR P l)) with
          | some L2 => match mergeL L2 with
            | some z => some (ob, z)
            | none => none
          | none => none
        | none => none
      | none => none
theorem stepD_fol {callD : RecC} {call : Rec} (hc : FolC callD call) (n : Nat) (orc : FuncId → Orc) {j : Job} {A : AW} {ob : Obl} {r : Value × AW} (h : stepD P G callD n orc j A = some (ob, r)) (ho : ob.Ok) : stepL P G call n j A = some r := by
  unfold stepD at h
  unfold stepL
  cases j with
  | call f args =>
    dsimp only at h ⊢
    split at h
    case h_2 => cases h
    rename_i fn hf
    rw [hf]
    dsimp only
    split at h
    case h_2 => cases h
    rename_i c hb
    rw [hb]
    dsimp only
    split at h
    case h_2 => cases h
    rename_i ob2 L hL
    split at h
    case h_2 => cases h
    rename_i L2 hL2
    split at h
    case h_2 => cases h
    rename_i z hz
    cases h
    rw [evCodeD_fol hc _ n none c _ A _ L hL ho]
    dsimp only
    rw [hL2]
    exact hz
  | round l tmps assign body =>
    dsimp only at h ⊢
    obtain ⟨o1, ⟨a1, A1⟩, h1, q1, o2, h2, q2⟩ := bindO_some h ho
    rw [evAssignD_fol hc n (some l) assign _ A o1 _ h1 q1]
    dsimp only at h2 ⊢
    split at h2
    case h_2 => cases h2
    rename_i u A2 hA2
    rw [hA2]
    dsimp only
    split at h2
    case h_2 => cases h2
    rename_i ob2 L hL
    split at h2
    case h_2 => cases h2
    rename_i L2 hL2
    split at h2
    case h_2 => cases h2
    rename_i z hz
    cases h2
    rw [evCodeD_fol hc _ n (some l) body _ A2 _ L hL q2]
    dsimp only
    rw [hL2]
    exact hz
/-- contracts that are looked up, under what must hold for them; and what they are where that holds -/
def RecOkD (P : Program) (G : List Nat) (s : RecD) : Prop := ∀ j A o v A', s j A = some (o, (v, A')) → o.Ok → ∀ R w, WR R A w → Gl G R → JobOk P R A w v A' j
open Classical in
noncomputable def clSm (s : RecD) : Rec := fun j A => match s j A with
  | some (o, r) => if o.Ok then some r else none
  | none => none
theorem clSm_ok {s : RecD} (h : RecOkD P G s) : RecOk P G (clSm s) := by
  intro j A v A' hj
  unfold clSm at hj
  split at hj
  · rename_i o r hr
    split at hj
    · rename_i ho
      cases hj
      exact h j A o v A' hr ho
    · cases hj
  · cases hj
noncomputable def liftSm (s : Rec) : RecD := fun j A => match s j A with
  | some r => some ([], r)
  | none => none
theorem liftSm_ok {s : Rec} (h : RecOk P G s) : RecOkD P G (liftSm s) := by
  intro j A o v A' hj _
  unfold liftSm at hj
  split at hj
  · rename_i r hr; cases hj; exact h j A v A' hr
  · cases hj
noncomputable def orSmD (s t : RecD) : RecD := fun j A => match s j A with
  | some r => some r
  | none => t j A
theorem orSmD_ok {s t : RecD} (hs : RecOkD P G s) (ht : RecOkD P G t) : RecOkD P G (orSmD s t) := by
  intro j A o v A' h
  unfold orSmD at h
  split at h
  · rename_i r hr; cases h; exact hs j A o _ _ hr
  · exact ht j A o v A' h
/-- a contract's marks, by where it is asked: 1000 times the last site's slot, 1000000 times the one before -/
noncomputable def tagOf : List Site → Nat → Nat
  | (t, _) :: (u, _) :: _, i => i + 1000 * t + 1000000 * u
  | [(t, _)], i => i + 1000 * t
  | [], i => i
noncomputable def retag (w : List Site) : Obl → Obl
  | [] => []
  | p :: o => fNat (tagOf w p.1) fun t => (t, p.2) :: retag w o
theorem retag_ok (w : List Site) : ∀ {o : Obl}, (retag w o).Ok → o.Ok
  | [], _ => fun p hp => by cases hp
  | p :: o, h => fun q hq => by
    unfold retag at h
    rw [fNat_eq] at h
    obtain ⟨h1, h2⟩ := Obl.ok_cons h
    rcases List.mem_cons.1 hq with rfl | hq
    · exact h1
    · exact retag_ok w h2 q hq
noncomputable def evD (P : Program) (G : List Nat) (sm : RecD) (orc : List Site → FuncId → Orc) : Nat → List Site → RecD
  | 0, _ => fun _ _ => none
  | n + 1, way => fun j A => match sm j A with
    | some (o, r) => some (retag way o, r)
    | none => stepD P G (fun k => evD P G sm orc n (k :: way)) n (orc way) j A
theorem evD_fol (sm : RecD) (orc : List Site → FuncId → Orc) : ∀ n way, Fol (evD P G sm orc n way) (evS P G (clSm sm) n)
  | 0, _ => fun j A o r h _ => by cases h
  | n + 1, way => fun j A o r h ho => by
    unfold evD at h
    unfold evS
    split at h
    · rename_i o2 r2 hr
      cases h
      have : clSm sm j A = some r := by unfold clSm; rw [hr]; simp only; rw [if_pos (retag_ok way ho)]
      rw [this]
    · rename_i hr
      have : clSm sm j A = none := by unfold clSm; rw [hr]
      rw [this]
      exact stepD_fol (fun k => evD_fol sm orc n (k :: way)) n (orc way) h ho
/-- a call that returns a truth value: what must hold for it to be true -/
noncomputable def evDTrue : Option (Obl × (Value × AW)) → Option Obl
  | some (ob, (.bool b, _)) => some (ob ++ [(0, b, true)])
  | _ => none
/-- marks, with what each of them stands for -/
def Obl.of (E V : Nat → Bool) (tags : List Nat) : Obl := tags.map fun i => (i, E i, V i)
theorem Obl.of_ok {E V : Nat → Bool} {tags : List Nat} (h : ∀ i ∈ tags, E i = V i) : (Obl.of E V tags).Ok := fun p hp => by
  obtain ⟨i, hi, rfl⟩ := List.mem_map.1 hp
  exact h i hi
/-- an oracle by a table: the sites on the way (the last first; as many as are told), function, slot, slots that hold these numbers, mark, value -/
noncomputable def onWay : List Nat → List Site → Bool
  | [], _ => true
  | t :: l, (u, _) :: w => Nat.beq t u && onWay l w
  | _ :: _, [] => false
noncomputable def holdsNums (a : Act) : List (Nat × Int) → Bool
  | [] => true
  | (t, m) :: l => (match feval a (.tmp t) with | .int _ n => decide (n = m) | _ => false) && holdsNums a l
noncomputable def orcOf : List (List Nat × Nat × Nat × List (Nat × Int) × Nat × Value) → List Site → FuncId → Orc
  | [], _, _, _, _ => none
  | (p, f, t, c, i, v) :: l, w, g, u, a => if Nat.beq f g && Nat.beq t u && onWay p w && holdsNums a c then some (i, v) else orcOf l w g u a
theorem true_callsD (hP : PC2 P) {sm : RecD} (hs : RecOkD P G sm) {orc : List Site → FuncId → Orc} {n : Nat} {f : FuncId} {args args' : Array Value} {h : Array Obj} {o : Obl} (he : evDTrue (evD P G sm orc n [] (.call f args) (AW.start h)) = some o) (ho : o.Ok) {R : CR} {w : World} (hk : Known h R w) (hg : Gl G R) (ha : ArrR R args args') :
    Calls P f args' w fun e w' => e = .returned (.bool true) ∧ ∃ x, w' = Own.beyond w x := by
  unfold evDTrue at he
  split at he
  case h_2 => cases he
  rename_i ob b A1 hx
  cases he
  obtain ⟨q1, q2⟩ := Obl.ok_append ho
  have hb : b = true := q2 _ (List.mem_singleton.2 rfl)
  subst hb
  refine true_callsS hP (clSm_ok hs) (n := n) ?_ hk hg ha
  rw [evD_fol sm orc n [] _ _ _ _ hx q1]
  rfl
end Go.Can
