/-
  A region that draws its order, walked by a plan: in turn some operations that only compute or read (each may be taken first: nobody who may come up before touches its temporaries, and in every world of the class it yields the same), then one operation that alone may come up.
-/
import Derived.Test.YtogjobmekjighaaDoorBase
import Derived.OrdersHeld
set_option linter.unusedSimpArgs false
set_option linter.unusedVariables false
namespace Go.Own
open Go.RowKit

/-- the operation ends in a value, by its kind -/
def valueOp (o : Oper) : Bool :=
  match o.op with
  | .build .. | .move _ | .assign _ | .pick .. | .load .. | .binOp .. | .unOp .. | .convert .. | .fieldAddr .. | .field .. | .indexAddr .. | .index .. | .extract .. | .slice .. | .nilCheck .. => true
  | .call { callee := .builtin .len, .. } | .call { callee := .builtin .min, .. } | .call { callee := .builtin .max, .. } | .call { callee := .builtin .cap, .. } => true
  | _ => false

theorem value_of_pure {P : Program} {s : Sem Value} {w w' : World} {n : Next} (h : (do pure (.value (← s)) : Sem Next).run P w = .ok n w') : ∃ u, n = .value u := by
  rw [Sem.run_bind] at h
  cases hs : s.run P w with
  | ok v w1 => rw [hs] at h; simp at h; exact ⟨v, h.1.symm⟩
  | halt x w1 => rw [hs] at h; simp at h

theorem valueOp_spec {P : Program} {ρ : Operand → Value} {o : Oper} (h : valueOp o = true) {w w' : World} {n : Next} (hr : (execOp ρ o).run P w = .ok n w') : ∃ u, n = .value u := by
  obtain ⟨dst, op, ty, pos, after, guard⟩ := o
  unfold valueOp at h
  cases op <;> (try simp at h)
  case move x => simp [execOp] at hr; exact ⟨_, hr.1.symm⟩
  case assign x => simp [execOp] at hr; exact ⟨_, hr.1.symm⟩
  case pick c a b => exact value_of_pure (s := do pure (if ← asBool (ρ c) then ρ a else ρ b)) (by simpa [execOp] using hr)
  case build => exact value_of_pure hr
  case load => exact value_of_pure hr
  case binOp => exact value_of_pure hr
  case unOp => exact value_of_pure hr
  case convert => exact value_of_pure hr
  case fieldAddr => exact value_of_pure hr
  case field => exact value_of_pure hr
  case indexAddr => exact value_of_pure hr
  case index => exact value_of_pure hr
  case extract => exact value_of_pure hr
  case slice => exact value_of_pure hr
  case nilCheck x =>
    unfold execOp at hr
    simp only at hr
    split at hr
    · simp [go_sem] at hr
    · simp [go_sem] at hr
    · simp [go_sem] at hr
    · split at hr
      · simp [go_sem] at hr
      · simp only [Sem.run_bind] at hr
        revert hr
        generalize Sem.run P program w = r0
        cases r0 with
        | halt x w1 => intro hr; simp at hr
        | ok p w1 =>
          simp only [Result.andThen_ok]
          generalize Sem.run P (nilAhead _ _ _ _) w1 = r1
          cases r1 with
          | halt x w2 => intro hr; simp at hr
          | ok b w2 =>
            simp only [Result.andThen_ok]
            split
            · intro hr; simp [go_sem] at hr
            · intro hr; simp at hr; exact ⟨_, hr.1.symm⟩
      · simp at hr; exact ⟨_, hr.1.symm⟩
    · simp at hr; exact ⟨_, hr.1.symm⟩
  case call c =>
    obtain ⟨callee, args, ats⟩ := c
    cases callee <;> (try simp at h)
    case builtin b =>
      cases b <;> (try simp at h)
      case len => rw [BigFrame.execOp_builtin, BigFrame.builtin_len] at hr; exact value_of_pure hr
      case min => rw [BigFrame.execOp_builtin, BigFrame.builtin_min] at hr; exact value_of_pure hr
      case max => rw [BigFrame.execOp_builtin, BigFrame.builtin_max] at hr; exact value_of_pure hr
      case cap => rw [BigFrame.execOp_builtin, BigFrame.builtin_cap] at hr; exact value_of_pure hr

def pick (ops : Array Oper) (is : List Nat) : List Oper := is.filterMap (ops[·]?)

section
variable {P : Program} {ops : Array Oper} {S : World → Prop} {Q : Exit → Act → World → Prop}

/-- the walk by a plan -/
def wpSegs (P : Program) (ops : Array Oper) (S : World → Prop) (Q : Exit → Act → World → Prop) (last : List Nat) : List (List Nat × Nat) → Act → World → Prop
  | [], a, w => wpQuiet P ops S (fun a' => Q .normal a' w) (pick ops last) a
  | (qs, e) :: r, a, w => wpQuiet P ops S (fun a' => wpList P ops (Exit.then (fun a'' w'' => S w'' ∧ wpSegs P ops S Q last r a'' w'') Q) (pick ops [e]) a' w) (pick ops qs) a

/-- these may be taken first, one behind the other -/
def takesOk (ops : Array Oper) : List Nat → Array Bool → Option (Array Bool)
  | [], L => some L
  | i :: r, L => if (Region.ready .any ops L).contains i && Region.free .any ops L i && ((ops[i]?).map valueOp).getD false then takesOk ops r (L.setIfInBounds i true) else none
def segsOk (ops : Array Oper) (last : List Nat) : List (List Nat × Nat) → Array Bool → Bool
  | [], L => match takesOk ops last L with | some L' => (Region.ready .any ops L').isEmpty | none => false
  | (qs, e) :: r, L => match takesOk ops qs L with | some L' => Region.ready .any ops L' == [e] && segsOk ops last r (L'.setIfInBounds e true) | none => false

theorem takes_run (hsel : Region.noSelect ops = true) (hQ : ∀ c a d v w, Q (.panic c) (a.put d v) w → Q (.panic c) a w) : ∀ (qs : List Nat) (L L' : Array Bool) (fuel : Nat) (K : Act → Prop) (a : Act) (w : World),
    takesOk ops qs L = some L' → S w → wpQuiet P ops S K (pick ops qs) a → (∀ a', K a' → wpAnyH P .any ops Q S fuel L' a' w) → wpAnyH P .any ops Q S (fuel + qs.length) L a w := by
  intro qs
  induction qs with
  | nil =>
    intro L L' fuel K a w hok hS hw hK
    simp [takesOk] at hok; subst hok
    exact hK a hw
  | cons i r ih =>
    intro L L' fuel K a w hok hS hw hK
    unfold takesOk at hok
    split at hok
    · rename_i hc
      simp only [Bool.and_eq_true] at hc
      obtain ⟨⟨hr, hf⟩, hv⟩ := hc
      cases ho : ops[i]? with
      | none => rw [ho] at hv; simp at hv
      | some o =>
        rw [ho] at hv
        have hv' : valueOp o = true := by simpa using hv
        have hp : pick ops (i :: r) = o :: pick ops r := by simp [pick, ho]
        rw [hp] at hw
        unfold wpQuiet at hw
        rw [List.length_cons, ← Nat.add_assoc]
        split at hw
        · rename_i hwa
          obtain ⟨v, h1, h2⟩ := hw
          refine wpAnyH_take ho hsel hf hr (fun c a' w' => hQ c a' _ _ w') (Or.inl ⟨hwa, fun w' hw' => ?_⟩) hS (ih _ L' fuel K _ w hok hS h2 hK)
          have h3 := h1 w' hw'
          unfold Oper.quietAt at h3
          cases hrun : (execOp a.eval o).run P w' with
          | ok n w1 =>
            obtain ⟨u, rfl⟩ := valueOp_spec hv' hrun
            rw [hrun] at h3
            simp only [Oper.quietUpon] at h3
            obtain ⟨rfl, rfl⟩ := h3
            rfl
          | halt x w1 => rw [hrun] at h3; simp only [Oper.quietUpon] at h3
        · rename_i hwa
          exact wpAnyH_take ho hsel hf hr (fun c a' w' => hQ c a' _ _ w') (Or.inr ⟨by simpa using hwa, rfl⟩) hS (ih _ L' fuel K _ w hok hS hw hK)
    · cases hok

theorem segs_run (hsel : Region.noSelect ops = true) (hQ : ∀ c a d v w, Q (.panic c) (a.put d v) w → Q (.panic c) a w) (last : List Nat) : ∀ (r : List (List Nat × Nat)) (L : Array Bool) (fuel : Nat) (a : Act) (w : World),
    segsOk ops last r L = true → S w → (r.map (fun s => s.1.length + 1)).sum + last.length ≤ fuel → wpSegs P ops S Q last r a w → wpAnyH P .any ops Q S fuel L a w := by
  intro r
  induction r with
  | nil =>
    intro L fuel a w hok hS hf hw
    unfold segsOk at hok
    split at hok
    · rename_i L' hL
      obtain ⟨g, rfl⟩ : ∃ g, fuel = g + last.length := ⟨fuel - last.length, by simp at hf; omega⟩
      exact takes_run hsel hQ last L L' g _ a w hL hS hw (fun a' ha => wpAnyH_done (by simpa using hok) ha g)
    · cases hok
  | cons s r ih =>
    obtain ⟨qs, e⟩ := s
    intro L fuel a w hok hS hf hw
    unfold segsOk at hok
    split at hok
    · rename_i L' hL
      simp only [Bool.and_eq_true, beq_iff_eq] at hok
      obtain ⟨hr, hok⟩ := hok
      simp only [List.map_cons, List.sum_cons] at hf
      obtain ⟨g, rfl⟩ : ∃ g, fuel = (g + 1) + qs.length := ⟨fuel - qs.length - 1, by omega⟩
      refine takes_run hsel hQ qs L L' (g + 1) _ a w hL hS hw (fun a' ha => ?_)
      refine wpAnyH_all hr (by simp) (fun i hi => ?_)
      simp only [List.mem_singleton] at hi
      subst hi
      have next : ∀ a'' w'', S w'' ∧ wpSegs P ops S Q last r a'' w'' → S w'' ∧ wpAnyH P .any ops Q S g (L'.setIfInBounds i true) a'' w'' :=
        fun a'' w'' h => ⟨h.1, ih _ g a'' w'' hok h.1 (by omega) h.2⟩
      unfold wpOp
      cases ho : ops[i]? with
      | none =>
        have : i ∈ Region.ready .any ops L' := by rw [hr]; simp
        obtain ⟨_, o, ho', _⟩ := mem_ready.1 this
        rw [ho] at ho'; cases ho'
      | some o =>
        have hp : pick ops [i] = [o] := by simp [pick, ho]
        rw [hp] at ha
        simp only [wpList] at ha ⊢
        have key : ∀ {w1 : World} {a1 : Act}, o.wp P a1 w1 (fun a w => Exit.then (fun a'' w'' => S w'' ∧ wpSegs P ops S Q last r a'' w'') Q .normal a w) (Exit.then (fun a'' w'' => S w'' ∧ wpSegs P ops S Q last r a'' w'') Q) →
            o.wp P a1 w1 (fun a'' w'' => S w'' ∧ wpAnyH P .any ops Q S g (L'.setIfInBounds i true) a'' w'') Q := by
          intro w1 a1 h
          unfold Oper.wp at h ⊢
          generalize (execOp a1.eval o).run P w1 = res at h ⊢
          cases res with
          | ok n w2 =>
            cases n <;> simp only [Oper.upon, Exit.then] at h ⊢
            case value v => exact next _ _ h
            case skip => exact next _ _ h
            case defer d => exact next _ _ h
            case enter f args =>
              refine Calls.mono h fun e w3 he => ?_
              cases e with
              | returned v => exact next _ _ he
              | panicked c => exact he
              | outgrown => exact he
            case row row args => exact h.mono fun v w3 he => next _ _ he
          | halt x w2 =>
            cases x <;> simp only [Oper.upon, Exit.then] at h ⊢
            exact h
        split at ha
        · rename_i hwa
          rw [if_pos hwa]
          exact ha.imp key id
        · rename_i hwa
          rw [if_neg hwa]
          exact next _ _ ha
    · cases hok

/-- THE LAW. -/
theorem wp_region_plan {id : Nat} {a : Act} {w : World} {l : List Oper} (S : World → Prop) (r : List (List Nat × Nat)) (last : List Nat) (hm : P.follows .mixedOrders = true)
    (hB : (Region.noSelect l.toArray && segsOk l.toArray last r (Array.replicate l.length false) && decide ((r.map (fun s => s.1.length + 1)).sum + last.length ≤ l.length)) = true)
    (hQ : ∀ c a d v w, Q (.panic c) (a.put d v) w → Q (.panic c) a w) (hS : S w.drew) (h : wpSegs P l.toArray S Q last r a w.drew) : (Code.region id l.toArray true).wp P Q a w := by
  simp only [Bool.and_eq_true, decide_eq_true_eq] at hB
  exact wp_region_held (S := S) hm (segs_run hB.1.1 hQ last r _ _ a _ hB.1.2 hS (by simpa using hB.2) h)
end
end Go.Own
