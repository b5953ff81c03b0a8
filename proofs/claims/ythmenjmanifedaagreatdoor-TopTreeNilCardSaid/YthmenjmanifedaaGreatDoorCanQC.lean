/-
  The canonical evaluator in fewer steps: temporaries in a tree, numbers.
-/
import Derived.Test.YthmenjmanifedaaGreatDoorCanQB
set_option linter.unusedSimpArgs false
set_option linter.unusedVariables false
namespace Go.Can
variable {P : Program} {G : List Nat}

/-! one operation -/
noncomputable def slowOp (P : Program) (call : Rec) (o : Oper) (a : Act) (A : AW) : Option (Value × AW) := match aop P (feval a) o A with
  | some (.value v, A') => some (v, A')
  | some (.skip, A') => some (undef, A')
  | some (.enter f args, A') => call (.call f args) A'
  | some (.round l _ tmps as bd, A') => call (.round l tmps as bd) A'
  | _ => none
noncomputable def orElse' (r : Option (Value × AW)) (s : Option (Value × AW)) : Option (Value × AW) := match r with
  | some x => some x
  | none => s
theorem evOpQ_form (call : Rec) (o : Oper) (a : Act) (A : AW) : evOpQ P G call o a A = if o.op.operands.all (okOperand G) then orElse' (quick P (feval a) o.op A) (slowOp P call o a A) else none := by
  unfold evOpQ orElse' slowOp
  rfl
/-- a function that is called by its name -/
noncomputable def calleeOf (P : Program) (c : Call) : Option FuncId := match c.callee with
  | .value (.func f) => if hasBody P f then some f else none
  | _ => none
theorem pure_none {ρ : Operand → Value} {op : Op} {h : Array Obj} (hp : pureKind op = false) : pureH P ρ op h = none := by
  cases op <;> first | rfl | (cases hp; done)

/-! outcomes -/
structure FClo where
  run : Array Value → AW → Option (List (Value × AW))
/-- the same plain value, whatever the outcome -/
noncomputable def agreeL : List (Value × AW) → Option Value
  | [] => none
  | (v, _) :: rest => if plainV 60 v && rest.all (fun y => eqV 60 v y.1) then some v else none
theorem agreeL_ok {L : List (Value × AW)} {v : Value} (h : agreeL L = some v) : plainV 60 v = true ∧ ∀ z ∈ L, z.1 = v := by
  cases L with
  | nil => cases h
  | cons x rest =>
    obtain ⟨u, B⟩ := x
    simp only [agreeL] at h
    split at h
    case isFalse => cases h
    rename_i hc
    cases h
    simp only [Bool.and_eq_true, List.all_eq_true] at hc
    refine ⟨hc.1, fun z hz => ?_⟩
    rcases List.mem_cons.1 hz with rfl | hz
    · rfl
    · exact (eqV_eq _ _ _ (hc.2 z hz)).symm

/-! The canonical evaluator in fewer steps: temporaries in a tree. -/
inductive Tr where
  | leaf (v : Value)
  | node (l r : Tr)
def leavesT : Tr → List Value
  | .leaf v => [v]
  | .node l r => leavesT l ++ leavesT r
def perf : Nat → Tr → Prop
  | 0, .leaf _ => True
  | d + 1, .node l r => perf d l ∧ perf d r
  | _, _ => False
theorem leaves_len : ∀ (d : Nat) (t : Tr), perf d t → (leavesT t).length = 2 ^ d
  | 0, .leaf _, _ => rfl
  | 0, .node _ _, h => h.elim
  | d + 1, .leaf _, h => h.elim
  | d + 1, .node l r, h => by
    simp only [leavesT, List.length_append, leaves_len d l h.1, leaves_len d r h.2, Nat.pow_succ]
    omega
def pathT : Nat → Nat → List Bool
  | 0, _ => []
  | d + 1, i => if i < 2 ^ d then false :: pathT d i else true :: pathT d (i - 2 ^ d)
noncomputable def getT (p : List Bool) : Tr → Value := List.rec (motive := fun _ => Tr → Value) (fun t => Tr.rec (motive := fun _ => Value) (fun v => v) (fun _ _ _ _ => undef) t) (fun b _ ih t => Tr.rec (motive := fun _ => Value) (fun _ => undef) (fun l r _ _ => Bool.rec (motive := fun _ => Value) (ih l) (ih r) b) t) p
noncomputable def setT {β : Type} (v : Value) (p : List Bool) : Tr → (Tr → β) → β := List.rec (motive := fun _ => Tr → (Tr → β) → β) (fun _ k => k (.leaf v)) (fun b _ ih t k => Tr.rec (motive := fun _ => β) (fun u => k (.leaf u)) (fun l r _ _ => Bool.rec (motive := fun _ => β) (ih l fun l' => k (.node l' r)) (ih r fun r' => k (.node l r')) b) t) p
theorem getT_eq : ∀ (d : Nat) (t : Tr) (i : Nat), perf d t → i < 2 ^ d → getT (pathT d i) t = (leavesT t).getD i undef
  | 0, .leaf v, i, _, hi => by
    obtain rfl : i = 0 := by simpa using hi
    rfl
  | 0, .node _ _, _, h, _ => h.elim
  | d + 1, .leaf _, _, h, _ => h.elim
  | d + 1, .node l r, i, h, hi => by
    have hl := leaves_len d l h.1
    unfold pathT
    split
    · rename_i hlt
      show getT (pathT d i) l = _
      rw [getT_eq d l i h.1 hlt]
      simp only [leavesT, List.getD_eq_getElem?_getD]
      rw [List.getElem?_append_left (by omega)]
    · rename_i hlt
      show getT (pathT d (i - 2 ^ d)) r = _
      rw [getT_eq d r _ h.2 (by rw [Nat.pow_succ] at hi; omega)]
      simp only [leavesT, List.getD_eq_getElem?_getD]
      rw [List.getElem?_append_right (by omega), hl]
theorem setT_eq (v : Value) : ∀ (d : Nat) (t : Tr) (i : Nat), perf d t → i < 2 ^ d → ∃ t', perf d t' ∧ leavesT t' = (leavesT t).set i v ∧ ∀ {β : Type} (k : Tr → β), setT v (pathT d i) t k = k t'
  | 0, .leaf u, i, _, hi => by
    obtain rfl : i = 0 := by simpa using hi
    exact ⟨.leaf v, trivial, rfl, fun k => rfl⟩
  | 0, .node _ _, _, h, _ => h.elim
  | d + 1, .leaf _, _, h, _ => h.elim
  | d + 1, .node l r, i, h, hi => by
    have hl := leaves_len d l h.1
    by_cases hlt : i < 2 ^ d
    · obtain ⟨l', h1, h2, h3⟩ := setT_eq v d l i h.1 hlt
      refine ⟨.node l' r, ⟨h1, h.2⟩, ?_, fun k => ?_⟩
      · simp only [leavesT, h2]
        rw [List.set_append_left _ _ (by omega)]
      · unfold pathT
        rw [if_pos hlt]
        exact h3 fun l' => k (.node l' r)
    · obtain ⟨r', h1, h2, h3⟩ := setT_eq v d r (i - 2 ^ d) h.2 (by rw [Nat.pow_succ] at hi; omega)
      refine ⟨.node l r', ⟨h.1, h1⟩, ?_, fun k => ?_⟩
      · simp only [leavesT, h2]
        rw [List.set_append_right _ _ (by omega), hl]
      · unfold pathT
        rw [if_neg hlt]
        exact h3 fun r' => k (.node l r')
noncomputable def buildT {β : Type} : Nat → List Value → (Tr → List Value → β) → β
  | 0, [], k => k (.leaf undef) []
  | 0, x :: r, k => k (.leaf x) r
  | d + 1, l, k => buildT d l fun t r => buildT d r fun t' r' => k (.node t t') r'
theorem buildT_eq : ∀ (d : Nat) (l : List Value), ∃ t, perf d t ∧ leavesT t = (l ++ List.replicate (2 ^ d) undef).take (2 ^ d) ∧ ∀ {β : Type} (k : Tr → List Value → β), buildT d l k = k t (l.drop (2 ^ d))
  | 0, [] => ⟨.leaf undef, trivial, rfl, fun k => rfl⟩
  | 0, x :: r => ⟨.leaf x, trivial, rfl, fun k => rfl⟩
  | d + 1, l => by
    obtain ⟨t, h1, h2, h3⟩ := buildT_eq d l
    obtain ⟨t', h1', h2', h3'⟩ := buildT_eq d (l.drop (2 ^ d))
    refine ⟨.node t t', ⟨h1, h1'⟩, ?_, fun k => ?_⟩
    · simp only [leavesT, h2, h2']
      apply List.ext_getElem?
      intro i
      have hp : 2 ^ (d + 1) = 2 ^ d + 2 ^ d := by rw [Nat.pow_succ]; omega
      by_cases hi : i < 2 ^ d
      · rw [List.getElem?_append_left (by simp; omega)]
        simp only [List.getElem?_take]
        rw [if_pos hi, if_pos (by omega)]
        by_cases hl : i < l.length
        · rw [List.getElem?_append_left hl, List.getElem?_append_left hl]
        · rw [List.getElem?_append_right (by omega), List.getElem?_append_right (by omega)]
          rw [List.getElem?_replicate, List.getElem?_replicate, if_pos (by omega), if_pos (by omega)]
      · rw [List.getElem?_append_right (by simp; omega)]
        have e0 : (List.take (2 ^ d) (l ++ List.replicate (2 ^ d) undef)).length = 2 ^ d := by simp
        rw [e0]
        simp only [List.getElem?_take]
        by_cases hi2 : i < 2 ^ (d + 1)
        · rw [if_pos (by omega), if_pos hi2]
          by_cases hl : i < l.length
          · rw [List.getElem?_append_left (by simp; omega), List.getElem?_append_left hl, List.getElem?_drop]
            congr 1; omega
          · rw [List.getElem?_append_right (by simp; omega), List.getElem?_append_right (by omega), List.getElem?_replicate, List.getElem?_replicate, if_pos (by simp; omega), if_pos (by omega)]
        · rw [if_neg (by omega), if_neg hi2]
    · show buildT d l (fun t r => buildT d r fun t' r' => k (.node t t') r') = _
      rw [h3, h3']
      congr 1
      rw [List.drop_drop, Nat.pow_succ]
      congr 1; omega

/-- a tree of nothing, and values written into its first places -/
noncomputable def emptyT (d : Nat) : Tr := Nat.rec (motive := fun _ => Tr) (.leaf undef) (fun _ t => .node t t) d
theorem emptyT_ok : ∀ d, perf d (emptyT d) ∧ leavesT (emptyT d) = List.replicate (2 ^ d) undef
  | 0 => ⟨trivial, rfl⟩
  | d + 1 => by
    obtain ⟨h1, h2⟩ := emptyT_ok d
    refine ⟨⟨h1, h1⟩, ?_⟩
    show leavesT (emptyT d) ++ leavesT (emptyT d) = _
    rw [h2, List.replicate_append_replicate, Nat.pow_succ]
    congr 1; omega
noncomputable def putAllK {β : Type} (fail : β) (d n : Nat) (l : List Value) : Nat → Tr → (Tr → β) → β := List.rec (motive := fun _ => Nat → Tr → (Tr → β) → β) (fun _ t k => k t) (fun x _ ih i t k => Bool.rec (motive := fun _ => β) fail (setT x (pathT d i) t fun t' => ih (Nat.succ i) t' k) (Nat.blt i n)) l
theorem putAllK_ok (d n : Nat) (hn : n ≤ 2 ^ d) : ∀ (l : List Value) (i : Nat) (t : Tr), perf d t → (i + l.length ≤ n ∧ ∃ t', perf d t' ∧ (leavesT t') = (leavesT t).take i ++ l ++ (leavesT t).drop (i + l.length) ∧ ∀ {β : Type} (fail : β) (k : Tr → β), putAllK fail d n l i t k = k t') ∨ (l ≠ [] ∧ ∀ {β : Type} (fail : β) (k : Tr → β), putAllK fail d n l i t k = fail) ∨ (l = [] ∧ n < i)
  | [], i, t, ht => by
    by_cases h : i ≤ n
    · exact .inl ⟨by simpa using h, t, ht, by simp, fun fail k => rfl⟩
    · exact .inr (.inr ⟨rfl, by omega⟩)
  | x :: l, i, t, ht => by
    by_cases h : i < n
    · obtain ⟨t1, h1, h2, h3⟩ := setT_eq x d t i ht (Nat.lt_of_lt_of_le h hn)
      have hb : Nat.blt i n = true := Nat.ble_eq_true_of_le h
      have hlen : i < (leavesT t).length := by rw [leaves_len d t ht]; omega
      have e1 : ∀ {β : Type} (fail : β) (k : Tr → β), putAllK fail d n (x :: l) i t k = putAllK fail d n l (i + 1) t1 k := by
        intro β fail k
        show Bool.rec (motive := fun _ => β) fail (setT x (pathT d i) t fun t' => putAllK fail d n l (Nat.succ i) t' k) (Nat.blt i n) = _
        rw [hb]
        exact h3 fun t' => putAllK fail d n l (Nat.succ i) t' k
      rcases putAllK_ok d n hn l (i + 1) t1 h1 with ⟨p1, t', p2, p3, p4⟩ | ⟨_, p4⟩ | ⟨p1, p2⟩
      · refine .inl ⟨by simp; omega, t', p2, ?_, fun fail k => by rw [e1, p4]⟩
        rw [p3, h2]
        apply List.ext_getElem?
        intro j
        simp only [List.append_assoc, List.length_cons]
        by_cases hj : j < i
        · rw [List.getElem?_append_left (by simp; omega), List.getElem?_append_left (by simp; omega)]
          simp only [List.getElem?_take, List.getElem?_set]
          rw [if_pos (by omega), if_neg (by omega), if_pos hj]
        · rw [List.getElem?_append_right (l₁ := List.take i (leavesT t)) (by simp; omega)]
          have e2 : (List.take i (leavesT t)).length = i := by simp; omega
          have e3 : (List.take (i + 1) ((leavesT t).set i x)).length = i + 1 := by simp; omega
          rw [e2]
          by_cases hj2 : j = i
          · subst hj2
            rw [List.getElem?_append_left (by omega), Nat.sub_self]
            simp [hlen]
          · rw [List.getElem?_append_right (by omega), e3]
            have e4 : j - i = (j - (i + 1)) + 1 := by omega
            rw [e4]
            simp only [List.cons_append, List.getElem?_cons_succ]
            congr 2
            rw [List.drop_set_of_lt (by omega)]
            congr 1; omega
      · exact .inr (.inl ⟨by simp, fun fail k => by rw [e1, p4]⟩)
      · exact absurd p2 (by omega)
    · refine .inr (.inl ⟨by simp, fun fail k => ?_⟩)
      have hb : Nat.blt i n = false := by rw [blt_dec]; exact decide_eq_false h
      show Bool.rec (motive := fun _ => _) fail _ (Nat.blt i n) = _
      rw [hb]

/-- the record of temporaries that a tree stands for -/
def actT (n : Nat) (D : List Deferred) (t : Tr) : Act := { tmps := ⟨(leavesT t).take n⟩, defers := D }
structure VT where
  run : Tr → Value
noncomputable def opdT (d n : Nat) : Operand → VT
  | .tmp t => if decide (t < n) then fList (pathT d t) fun p => ⟨fun tr => getT p tr⟩ else ⟨fun _ => undef⟩
  | .const v => ⟨fun _ => v⟩
  | .global g => ⟨fun _ => .pointer (some ⟨g, 0, none⟩)⟩
  | .func f => ⟨fun _ => .func (.func f) #[] #[]⟩
noncomputable def evalT (d n : Nat) (tr : Tr) : Operand → Value := fun x => (opdT d n x).run tr
theorem evalT_eq {d n : Nat} (hn : n ≤ 2 ^ d) {tr : Tr} (ht : perf d tr) (D : List Deferred) : evalT d n tr = feval (actT n D tr) := by
  funext x
  rw [feval_eq]
  cases x with
  | tmp t =>
    unfold evalT opdT Act.eval actT
    simp only [Array.getD_eq_getD_getElem?, List.getElem?_toArray, List.getElem?_take]
    split
    · rename_i h
      have h := of_decide_eq_true h
      rw [fList_eq]
      show getT (pathT d t) tr = _
      rw [getT_eq d tr t ht (Nat.lt_of_lt_of_le h hn), if_pos h, List.getD_eq_getElem?_getD]
    · rename_i h
      have h : ¬ t < n := fun e => h (decide_eq_true e)
      rw [if_neg h]; rfl
  | _ => rfl
/-- a temporary, written -/
structure WT where
  run : Tr → Value → Option Tr
noncomputable def dstT {β : Type} (d n : Nat) (dst : Option Tmp) (tr : Tr) (v : Value) (k : Tr → β) : β := match dst with
  | none => k tr
  | some t => if decide (t < n) then setT v (pathT d t) tr k else k tr
theorem dstT_eq {d n : Nat} (hn : n ≤ 2 ^ d) {tr : Tr} (ht : perf d tr) (dst : Option Tmp) (v : Value) : ∃ tr', perf d tr' ∧ (∀ D, actT n D tr' = (actT n D tr).put dst v) ∧ ∀ {β : Type} (k : Tr → β), dstT d n dst tr v k = k tr' := by
  cases dst with
  | none => exact ⟨tr, ht, fun D => rfl, fun k => rfl⟩
  | some t =>
    by_cases h : t < n
    · obtain ⟨tr', h1, h2, h3⟩ := setT_eq v d tr t ht (Nat.lt_of_lt_of_le h hn)
      refine ⟨tr', h1, fun D => ?_, fun k => ?_⟩
      · unfold actT Act.put
        simp only [h2, List.setIfInBounds_toArray]
        rw [List.take_set]
      · unfold dstT
        simp only [decide_eq_true h, if_true]
        exact h3 k
    · refine ⟨tr, ht, fun D => ?_, fun k => ?_⟩
      · unfold actT Act.put
        simp only [List.setIfInBounds_toArray]
        congr 2
        rw [List.set_eq_of_length_le (by rw [List.length_take]; exact Nat.le_trans (Nat.min_le_left _ _) (Nat.le_of_not_lt h))]
      · unfold dstT
        simp only [decide_eq_false h, Bool.false_eq_true, if_false]

/-! The canonical evaluator in fewer steps: numbers, taken apart without a match. -/
noncomputable def intE : Value → (IntKind → Int → Option Value) → Option Value :=
  @Value.rec (fun _ => (IntKind → Int → Option Value) → Option Value) (fun _ => Unit) (fun _ => Unit) (fun _ _ => none) (fun k n f => f k n) (fun _ _ _ => none) (fun _ _ _ _ => none) (fun _ _ => none) (fun _ _ => none) (fun _ _ _ _ => none) (fun _ _ => none) (fun _ _ => none)
    (fun _ _ _ _ _ _ => none) (fun _ => none) (fun _ _ _ _ => none) (fun _ => none) (fun _ _ _ => none) (fun _ _ _ => none) (fun _ _ => ()) () (fun _ _ _ _ => ())
noncomputable def kindN : IntKind → Nat := IntKind.rec 0 1 2 3 4 5 6 7
noncomputable def limUpE : IntKind → Nat := IntKind.rec 128 32768 2147483648 9223372036854775808 256 65536 4294967296 18446744073709551616
noncomputable def limDownE : IntKind → Nat := IntKind.rec 128 32768 2147483648 9223372036854775808 0 0 0 0
noncomputable def powE : IntKind → Nat := IntKind.rec 256 65536 4294967296 18446744073709551616 256 65536 4294967296 18446744073709551616
theorem limUpE_eq (k : IntKind) : limUpE k = limUp k := by cases k <;> rfl
theorem limDownE_eq (k : IntKind) : limDownE k = limDown k := by cases k <;> rfl
theorem powE_eq (k : IntKind) : powE k = 2 ^ k.bits := by cases k <;> rfl
noncomputable def kindE (k k' : IntKind) (r : Option Value) : Option Value := Bool.rec (motive := fun _ => Option Value) none r (Nat.beq (kindN k) (kindN k'))
theorem kindE_eq (k k' : IntKind) (r : Option Value) : kindE k k' r = if decide (k = k') then r else none := by cases k <;> cases k' <;> rfl
noncomputable def natV (k : IntKind) (m : Nat) : Option Value := Nat.rec (motive := fun _ => Option Value) (some (.int k (.ofNat 0))) (fun j _ => some (.int k (.ofNat (Nat.succ j)))) m
noncomputable def negV (k : IntKind) (m : Nat) : Option Value := Nat.rec (motive := fun _ => Option Value) (some (.int k (.negSucc 0))) (fun j _ => some (.int k (.negSucc (Nat.succ j)))) m
theorem natV_eq (k : IntKind) (m : Nat) : natV k m = some (.int k (.ofNat m)) := by cases m <;> rfl
theorem negV_eq (k : IntKind) (m : Nat) : negV k m = some (.int k (.negSucc m)) := by cases m <;> rfl
noncomputable def wrapN (m : Nat) (k : IntKind) : Option Value := Bool.rec (motive := fun _ => Option Value) (valI k (k.wrap (.ofNat m))) (natV k m) (Nat.blt m (limUpE k))
noncomputable def wrapM (m : Nat) (k : IntKind) : Option Value := Bool.rec (motive := fun _ => Option Value) (valI k (k.wrap (.negSucc m))) (negV k m) (Nat.blt m (limDownE k))
noncomputable def wrapE : Int → IntKind → Option Value := Int.rec wrapN wrapM
theorem wrapE_eq (n : Int) (k : IntKind) : wrapE n k = some (.int k (k.wrap n)) := by
  rw [← wrapQ_eq]
  cases n with
  | ofNat m =>
    show wrapN m k = _
    unfold wrapN wrapQ
    rw [limUpE_eq]
    cases hb : Nat.blt m (limUp k) with
    | true => simp only [hb]; exact natV_eq k m
    | false => simp only [hb]; exact valI_eq _ _
  | negSucc m =>
    show wrapM m k = _
    unfold wrapM wrapQ
    rw [limDownE_eq]
    cases hb : Nat.blt m (limDown k) with
    | true => simp only [hb]; exact negV_eq k m
    | false => simp only [hb]; exact valI_eq _ _
noncomputable def addN (a : Nat) : Int → IntKind → Option Value := Int.rec (motive := fun _ => IntKind → Option Value) (fun b k => wrapN (Nat.add a b) k) (fun b k => wrapE (Int.add (.ofNat a) (.negSucc b)) k)
noncomputable def addI : Int → Int → IntKind → Option Value := Int.rec (motive := fun _ => Int → IntKind → Option Value) addN (fun a b k => wrapE (Int.add (.negSucc a) b) k)
theorem addI_eq (a b : Int) (k : IntKind) : addI a b k = some (.int k (k.wrap (a + b))) := by
  cases a with
  | ofNat a =>
    cases b with
    | ofNat b => exact wrapE_eq (Int.ofNat (Nat.add a b)) k
    | negSucc b => exact wrapE_eq _ k
  | negSucc a => exact wrapE_eq _ k
noncomputable def subN (a : Nat) : Int → IntKind → Option Value := Int.rec (motive := fun _ => IntKind → Option Value) (fun b k => Bool.rec (motive := fun _ => Option Value) (wrapE (Int.sub (.ofNat a) (.ofNat b)) k) (wrapN (Nat.sub a b) k) (Nat.ble b a)) (fun b k => wrapE (Int.sub (.ofNat a) (.negSucc b)) k)
noncomputable def subI : Int → Int → IntKind → Option Value := Int.rec (motive := fun _ => Int → IntKind → Option Value) subN (fun a b k => wrapE (Int.sub (.negSucc a) b) k)
theorem subI_eq (a b : Int) (k : IntKind) : subI a b k = some (.int k (k.wrap (a - b))) := by
  cases a with
  | ofNat a =>
    cases b with
    | ofNat b =>
      show Bool.rec (motive := fun _ => Option Value) (wrapE (Int.sub (.ofNat a) (.ofNat b)) k) (wrapN (Nat.sub a b) k) (Nat.ble b a) = _
      cases hb : Nat.ble b a with
      | false => exact wrapE_eq _ k
      | true =>
        have := Nat.le_of_ble_eq_true hb
        have e : Int.ofNat a - Int.ofNat b = Int.ofNat (Nat.sub a b) := by
          show (a : Int) - (b : Int) = ((a - b : Nat) : Int)
          omega
        rw [e]
        exact wrapE_eq (Int.ofNat (Nat.sub a b)) k
    | negSucc b => exact wrapE_eq (Int.sub (.ofNat a) (.negSucc b)) k
  | negSucc a => exact wrapE_eq (Int.sub (.negSucc a) b) k
/-- two numbers that are not below nothing -/
noncomputable def natE2 (f : Nat → Nat → IntKind → Option Value) (a b : Int) (k : IntKind) : Option Value := Int.rec (motive := fun _ => Option Value) (fun m => Int.rec (motive := fun _ => Option Value) (fun n => f m n k) (fun _ => none) b) (fun _ => none) a
noncomputable def ltN (a : Nat) : Int → Bool := Int.rec (motive := fun _ => Bool) (fun b => Nat.blt a b) (fun _ => false)
noncomputable def ltM (a : Nat) : Int → Bool := Int.rec (motive := fun _ => Bool) (fun _ => true) (fun b => Nat.blt b a)
noncomputable def ltE : Int → Int → Bool := Int.rec (motive := fun _ => Int → Bool) ltN ltM
theorem ltE_eq (a b : Int) : ltE a b = ltI a b := by cases a <;> cases b <;> rfl
noncomputable def eqN (a : Nat) : Int → Bool := Int.rec (motive := fun _ => Bool) (fun b => Nat.beq a b) (fun _ => false)
noncomputable def eqM (a : Nat) : Int → Bool := Int.rec (motive := fun _ => Bool) (fun _ => false) (fun b => Nat.beq a b)
noncomputable def eqE : Int → Int → Bool := Int.rec (motive := fun _ => Int → Bool) eqN eqM
theorem eqE_eq (a b : Int) : eqE a b = eqI a b := by cases a <;> cases b <;> rfl
noncomputable def boolV (b : Bool) : Option Value := Bool.rec (motive := fun _ => Option Value) (some (.bool false)) (some (.bool true)) b
theorem boolV_eq (b : Bool) : boolV b = some (.bool b) := by cases b <;> rfl
noncomputable def notB (b : Bool) : Bool := Bool.rec (motive := fun _ => Bool) true false b
theorem notB_eq (b : Bool) : notB b = !b := by cases b <;> rfl
/-- an operator on numbers of one kind -/
noncomputable def numE2 (f : Int → Int → IntKind → Option Value) (k : IntKind) (a : Int) (k' : IntKind) (b : Int) : Option Value := kindE k k' (f a b k)
noncomputable def numE (f : Int → Int → IntKind → Option Value) (x y : Value) : Option Value := intE x fun k a => intE y (numE2 f k a)
theorem numE_eq {op : BinOp} {f : Int → Int → IntKind → Option Value} (hop : op ≠ .shl ∧ op ≠ .shr) (h : ∀ a b k, f a b k = intBin op k a b) (x y : Value) : numE f x y = binH op x y := by
  unfold numE
  cases x <;> try rfl
  cases y <;> try rfl
  rename_i k a k' b
  show kindE k k' (f a b k) = _
  rw [kindE_eq, h]
  unfold binH
  cases op <;> first | rfl | exact absurd rfl hop.1 | exact absurd rfl hop.2
noncomputable def andV (m n : Nat) (k : IntKind) : Option Value := wrapN (Nat.land (Nat.mod m (powE k)) (Nat.mod n (powE k))) k
noncomputable def orV (m n : Nat) (k : IntKind) : Option Value := wrapN (Nat.lor (Nat.mod m (powE k)) (Nat.mod n (powE k))) k
noncomputable def quoV (m n : Nat) (k : IntKind) : Option Value := Nat.rec (motive := fun _ => Option Value) none (fun j _ => wrapN (Nat.div m (Nat.succ j)) k) n
noncomputable def remV (m n : Nat) (k : IntKind) : Option Value := Nat.rec (motive := fun _ => Option Value) none (fun j _ => natV k (Nat.mod m (Nat.succ j))) n
noncomputable def shrV (m n : Nat) (k : IntKind) : Option Value := natV k (Nat.div m (Nat.pow 2 (Nat.min n k.bits)))
noncomputable def shlV (m n : Nat) (k : IntKind) : Option Value := wrapN (Nat.mul m (Nat.pow 2 (Nat.min n k.bits))) k
theorem wrapN_eq (m : Nat) (k : IntKind) : wrapN m k = some (.int k (k.wrap (.ofNat m))) := wrapE_eq (.ofNat m) k
noncomputable def shE (f : Nat → Nat → IntKind → Option Value) (x y : Value) : Option Value := intE x fun k a => intE y fun _ b => natE2 f a b k
theorem shr_eq (x y : Value) : shE shrV x y = binH .shr x y := by
  unfold shE
  cases x <;> try rfl
  cases y <;> try rfl
  rename_i k a k' b
  show natE2 shrV a b k = shiftQ false k a b
  cases a <;> try rfl
  cases b <;> rfl
theorem shl_eq (x y : Value) : shE shlV x y = binH .shl x y := by
  unfold shE
  cases x <;> try rfl
  cases y <;> try rfl
  rename_i k a k' b
  show natE2 shlV a b k = shiftQ true k a b
  cases a <;> try rfl
  cases b <;> try rfl
  show wrapN _ k = valI k _
  rw [wrapN_eq, valI_eq, wrapQ_eq]; rfl
/-- an operator, taken apart -/
structure BT where
  run : Value → Value → Option Value
noncomputable def binE (op : BinOp) : BT := match op with
  | .add => ⟨numE addI⟩
  | .sub => ⟨numE subI⟩
  | .lss => ⟨numE fun a b _ => boolV (ltE a b)⟩
  | .geq => ⟨numE fun a b _ => boolV (notB (ltE a b))⟩
  | .gtr => ⟨numE fun a b _ => boolV (ltE b a)⟩
  | .leq => ⟨numE fun a b _ => boolV (notB (ltE b a))⟩
  | .eql => ⟨numE fun a b _ => boolV (eqE a b)⟩
  | .neq => ⟨numE fun a b _ => boolV (notB (eqE a b))⟩
  | .and => ⟨numE (natE2 andV)⟩
  | .or => ⟨numE (natE2 orV)⟩
  | .quo => ⟨numE (natE2 quoV)⟩
  | .rem => ⟨numE (natE2 remV)⟩
  | .shr => ⟨shE shrV⟩
  | .shl => ⟨shE shlV⟩
  | op => ⟨binH op⟩
theorem binE_eq (op : BinOp) (x y : Value) : (binE op).run x y = binH op x y := by
  have two : ∀ {f : Nat → Nat → IntKind → Option Value} {op : BinOp}, (∀ m n k, f m n k = intBin op k (.ofNat m) (.ofNat n)) → (∀ m n k, intBin op k (.negSucc m) n = none) → (∀ m n k, intBin op k (.ofNat m) (.negSucc n) = none) → ∀ a b k, natE2 f a b k = intBin op k a b := by
    intro f op h1 h2 h3 a b k
    cases a with
    | ofNat m => cases b with
      | ofNat n => exact h1 m n k
      | negSucc n => exact (h3 m n k).symm
    | negSucc m => exact (h2 m b k).symm
  cases op <;> try rfl
  case add => exact numE_eq (by simp) (fun a b k => by rw [addI_eq]; show _ = valI k (wrapQ k (a + b)); rw [valI_eq, wrapQ_eq]) x y
  case sub => exact numE_eq (by simp) (fun a b k => by rw [subI_eq]; show _ = valI k (wrapQ k (a - b)); rw [valI_eq, wrapQ_eq]) x y
  case lss => exact numE_eq (by simp) (fun a b k => by rw [boolV_eq, ltE_eq]; rfl) x y
  case geq => exact numE_eq (by simp) (fun a b k => by rw [boolV_eq, notB_eq, ltE_eq]; rfl) x y
  case gtr => exact numE_eq (by simp) (fun a b k => by rw [boolV_eq, ltE_eq]; rfl) x y
  case leq => exact numE_eq (by simp) (fun a b k => by rw [boolV_eq, notB_eq, ltE_eq]; rfl) x y
  case eql => exact numE_eq (by simp) (fun a b k => by rw [boolV_eq, eqE_eq]; rfl) x y
  case neq => exact numE_eq (by simp) (fun a b k => by rw [boolV_eq, notB_eq, eqE_eq]; rfl) x y
  case and => exact numE_eq (by simp) (two (fun m n k => by unfold andV; rw [wrapN_eq, powE_eq, ← wrapQ_eq, ← valI_eq]; rfl) (fun _ _ _ => rfl) (fun _ _ _ => rfl)) x y
  case or => exact numE_eq (by simp) (two (fun m n k => by unfold orV; rw [wrapN_eq, powE_eq, ← wrapQ_eq, ← valI_eq]; rfl) (fun _ _ _ => rfl) (fun _ _ _ => rfl)) x y
  case quo => exact numE_eq (by simp) (two (fun m n k => by
    cases n with
    | zero => rfl
    | succ n => show wrapN _ k = valI k _; rw [wrapN_eq, valI_eq, wrapQ_eq]; rfl) (fun _ _ _ => rfl) (fun _ _ _ => rfl)) x y
  case rem => exact numE_eq (by simp) (two (fun m n k => by
    cases n with
    | zero => rfl
    | succ n => show natV k _ = valI k _; rw [natV_eq, valI_eq]; rfl) (fun _ _ _ => rfl) (fun _ _ _ => rfl)) x y
  case shr => exact shr_eq x y
  case shl => exact shl_eq x y

/-! values, cells and addresses, taken apart without a match -/
noncomputable def ptrO : Option Addr → (Addr → Option Value) → Option Value := Option.rec (motive := fun _ => (Addr → Option Value) → Option Value) (fun _ => none) (fun a f => f a)
noncomputable def ptrE : Value → (Addr → Option Value) → Option Value := @Value.rec (fun _ => (Addr → Option Value) → Option Value) (fun _ => Unit) (fun _ => Unit) (fun _ _ => none) (fun _ _ _ => none) (fun _ _ _ => none) (fun _ _ _ _ => none) (fun _ _ => none) (fun a f => ptrO a f) (fun _ _ _ _ => none) (fun _ _ => none) (fun _ _ => none) (fun _ _ _ _ _ _ => none) (fun _ => none) (fun _ _ _ _ => none) (fun _ => none) (fun _ _ _ => none) (fun _ _ _ => none) (fun _ _ => ()) () (fun _ _ _ _ => ())
theorem ptrE_eq (v : Value) (f : Addr → Option Value) : ptrE v f = ptrK none v f := by
  cases v <;> try rfl
  rename_i a
  cases a <;> rfl
noncomputable def natO : Int → (Nat → Option Value) → Option Value := Int.rec (motive := fun _ => (Nat → Option Value) → Option Value) (fun m f => f m) (fun _ _ => none)
noncomputable def natE : Value → (Nat → Option Value) → Option Value := @Value.rec (fun _ => (Nat → Option Value) → Option Value) (fun _ => Unit) (fun _ => Unit) (fun _ _ => none) (fun _ n f => natO n f) (fun _ _ _ => none) (fun _ _ _ _ => none) (fun _ _ => none) (fun _ _ => none) (fun _ _ _ _ => none) (fun _ _ => none) (fun _ _ => none) (fun _ _ _ _ _ _ => none) (fun _ => none) (fun _ _ _ _ => none) (fun _ => none) (fun _ _ _ => none) (fun _ _ _ => none) (fun _ _ => ()) () (fun _ _ _ _ => ())
theorem natE_eq (v : Value) (f : Nat → Option Value) : natE v f = natK none v f := by
  cases v <;> try rfl
  rename_i k n
  cases n <;> rfl
noncomputable def sliceO : Option Addr → Nat → (Addr → Nat → Option Value) → Option Value := Option.rec (motive := fun _ => Nat → (Addr → Nat → Option Value) → Option Value) (fun _ _ => none) (fun a n f => f a n)
noncomputable def sliceE : Value → (Addr → Nat → Option Value) → Option Value := @Value.rec (fun _ => (Addr → Nat → Option Value) → Option Value) (fun _ => Unit) (fun _ => Unit) (fun _ _ => none) (fun _ _ _ => none) (fun _ _ _ => none) (fun _ _ _ _ => none) (fun _ _ => none) (fun _ _ => none) (fun a n _ f => sliceO a n f) (fun _ _ => none) (fun _ _ => none) (fun _ _ _ _ _ _ => none) (fun _ => none) (fun _ _ _ _ => none) (fun _ => none) (fun _ _ _ => none) (fun _ _ _ => none) (fun _ _ => ()) () (fun _ _ _ _ => ())
theorem sliceE_eq (v : Value) (f : Addr → Nat → Option Value) : sliceE v f = sliceK none v f := by
  cases v <;> try rfl
  rename_i a n c
  cases a <;> rfl
noncomputable def aggE : Value → (Array Value → Option Value) → Option Value := @Value.rec (fun _ => (Array Value → Option Value) → Option Value) (fun _ => Unit) (fun _ => Unit) (fun _ _ => none) (fun _ _ _ => none) (fun _ _ _ => none) (fun _ _ _ _ => none) (fun _ _ => none) (fun _ _ => none) (fun _ _ _ _ => none) (fun _ _ => none) (fun _ _ => none) (fun _ _ _ _ _ _ => none) (fun _ => none) (fun _ _ _ _ => none) (fun _ => none) (fun c _ f => f c) (fun _ _ _ => none) (fun _ _ => ()) () (fun _ _ _ _ => ())
theorem aggE_eq (v : Value) (f : Array Value → Option Value) : aggE v f = aggK none v f := by cases v <;> rfl
noncomputable def lgetO : List Obj → Nat → Option Obj := List.rec (motive := fun _ => Nat → Option Obj) (fun _ => none) (fun x _ ih i => Nat.rec (motive := fun _ => Option Obj) (some x) (fun j _ => ih j) i)
noncomputable def lgetV : List Value → Nat → Option Value := List.rec (motive := fun _ => Nat → Option Value) (fun _ => none) (fun x _ ih i => Nat.rec (motive := fun _ => Option Value) (some x) (fun j _ => ih j) i)
noncomputable def agetO : Array Obj → Nat → Option Obj := Array.rec (motive := fun _ => Nat → Option Obj) lgetO
noncomputable def agetV : Array Value → Nat → Option Value := Array.rec (motive := fun _ => Nat → Option Value) lgetV
theorem agetO_eq (a : Array Obj) (i : Nat) : agetO a i = aget a i := by cases a; rfl
theorem agetV_eq (a : Array Value) (i : Nat) : agetV a i = aget a i := by cases a; rfl
noncomputable def spotE : Option Nat → Option Value → Option Value := Option.rec (motive := fun _ => Option Value → Option Value) (fun r => r) (fun _ _ => none)
noncomputable def cellsO : Obj → (Array Value → Option Value) → Option Value := Obj.rec (motive := fun _ => (Array Value → Option Value) → Option Value) (fun c _ _ f => f c) (fun _ _ _ => none) (fun _ _ _ => none) (fun _ _ _ => none) (fun _ _ _ => none) (fun _ _ _ _ _ _ _ => none) (fun _ _ _ => none) (fun _ _ _ _ _ => none) (fun _ _ => none) (fun _ _ => none) (fun _ _ => none) (fun _ _ _ => none)
noncomputable def objE : Option Obj → (Array Value → Option Value) → Option Value := Option.rec (motive := fun _ => (Array Value → Option Value) → Option Value) (fun _ => none) cellsO
theorem objE_eq (o : Option Obj) (f : Array Value → Option Value) : objE o f = match o with | some (.cells c _ _) => f c | _ => none := by
  cases o with
  | none => rfl
  | some o => cases o <;> rfl
noncomputable def cellE : Addr → Array Obj → Option Value := Addr.rec (motive := fun _ => Array Obj → Option Value) (fun b o s h => objE (agetO h b) fun c => spotE s (agetV c o))
theorem cellE_eq (a : Addr) (h : Array Obj) : cellE a h = cellH h a := by
  obtain ⟨b, o, s⟩ := a
  show objE (agetO h b) (fun c => spotE s (agetV c o)) = _
  rw [objE_eq, agetO_eq]
  unfold cellH
  simp only [agetV_eq]
  split
  · rename_i c t f e
    rw [e]
    cases s <;> rfl
  · rename_i e
    split
    · rename_i c t f e2; exact (e c t f e2).elim
    · rfl
noncomputable def ptrV (b o : Nat) : Option Value := Nat.rec (motive := fun _ => Option Value) (some (.pointer (some ⟨b, 0, none⟩))) (fun j _ => some (.pointer (some ⟨b, Nat.succ j, none⟩))) o
theorem ptrV_eq (b o : Nat) : ptrV b o = some (.pointer (some ⟨b, o, none⟩)) := by cases o <;> rfl
noncomputable def addE : Addr → Nat → Option Value := Addr.rec (motive := fun _ => Nat → Option Value) (fun b o s n => spotE s (ptrV b (Nat.add o n)))
theorem addE_eq (a : Addr) (n : Nat) : addE a n = addH a n := by
  obtain ⟨b, o, s⟩ := a
  show spotE s (ptrV b (Nat.add o n)) = _
  unfold addH
  cases s with
  | none => simp only [gNat_eq]; exact ptrV_eq _ _
  | some _ => rfl
noncomputable def addrIfE (b : Bool) (a : Addr) (n : Nat) : Option Value := Bool.rec (motive := fun _ => Option Value) none (addE a n) b
theorem addrIfE_eq (b : Bool) (a : Addr) (n : Nat) : addrIfE b a n = addrIf b a n := by
  cases b
  · rfl
  · exact addE_eq a n
/-- whole rows -/
noncomputable def rowE (a : Addr) (n : Nat) (h : Array Obj) : Option Value := match rowH h a n with
  | some r => some (.agg r)
  | none => none
/-! outcomes -/
abbrev R2 := Option (Tr × AW)
noncomputable def optR : Option Value → (Value → R2) → R2 → R2 := Option.rec (motive := fun _ => (Value → R2) → R2 → R2) (fun _ g => g) (fun v f _ => f v)
noncomputable def pairR : Value × AW → (Value → AW → R2) → R2 := Prod.rec (motive := fun _ => (Value → AW → R2) → R2) (fun v A f => f v A)
noncomputable def opR : Option (Value × AW) → (Value → AW → R2) → R2 := Option.rec (motive := fun _ => (Value → AW → R2) → R2) (fun _ => none) pairR
theorem opR_eq (r : Option (Value × AW)) (f : Value → AW → R2) : opR r f = match r with | some (v, A) => f v A | none => none := by
  cases r with
  | none => rfl
  | some x => rfl
noncomputable def optA : Option Value → AW → Option (Value × AW) → Option (Value × AW) := Option.rec (motive := fun _ => AW → Option (Value × AW) → Option (Value × AW)) (fun _ g => g) (fun v A _ => some (v, A))
theorem optA_eq (r : Option Value) (A : AW) (g : Option (Value × AW)) : optA r A g = match r with | some v => some (v, A) | none => g := by cases r <;> rfl
noncomputable def valR : Value → (Value → R2) → R2 :=
  @Value.rec (fun _ => (Value → R2) → R2) (fun _ => Unit) (fun _ => Unit) (fun b f => f (.bool b)) (fun k n f => f (.int k n)) (fun k n f => f (.float k n)) (fun k a b f => f (.complex k a b)) (fun s f => f (.string s)) (fun a f => f (.pointer a)) (fun a n c f => f (.slice a n c)) (fun m f => f (.map m)) (fun c f => f (.chan c))
    (fun fn x y _ _ f => f (.func fn x y)) (fun f => f .nilFunc) (fun t v _ f => f (.iface t v)) (fun f => f .nilIface) (fun c _ f => f (.agg c)) (fun c _ f => f (.tuple c)) (fun _ _ => ()) () (fun _ _ _ _ => ())
theorem valR_eq (v : Value) (f : Value → R2) : valR v f = f v := by cases v <;> rfl
end Go.Can
