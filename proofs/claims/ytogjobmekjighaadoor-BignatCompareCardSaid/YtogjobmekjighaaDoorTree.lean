/-
  A region that draws its order, walked by a tree: in turn some operations that only compute or read, then one, two or three operations of which each may come up next.
-/
import Derived.Test.YtogjobmekjighaaDoorPlan
set_option linter.unusedSimpArgs false
set_option linter.unusedVariables false
namespace Go.Own
open Go.RowKit

/-- the tree of orders -/
inductive PT where
  | last (qs : List Nat)
  | one (qs : List Nat) (e : Nat) (t : PT)
  | two (qs : List Nat) (e1 : Nat) (t1 : PT) (e2 : Nat) (t2 : PT)
  | three (qs : List Nat) (e1 : Nat) (t1 : PT) (e2 : Nat) (t2 : PT) (e3 : Nat) (t3 : PT)

section
variable {P : Program} {ops : Array Oper} {S : World → Prop} {Q : Exit → Act → World → Prop}

/-- the walk by a tree -/
def wpPT (P : Program) (ops : Array Oper) (S : World → Prop) (Q : Exit → Act → World → Prop) : PT → Act → World → Prop
  | .last qs, a, w => wpQuiet P ops S (fun a' => Q .normal a' w) (pick ops qs) a
  | .one qs e t, a, w => wpQuiet P ops S (fun a' => wpList P ops (Exit.then (fun a'' w'' => S w'' ∧ wpPT P ops S Q t a'' w'') Q) (pick ops [e]) a' w) (pick ops qs) a
  | .two qs e1 t1 e2 t2, a, w => wpQuiet P ops S (fun a' => wpList P ops (Exit.then (fun a'' w'' => S w'' ∧ wpPT P ops S Q t1 a'' w'') Q) (pick ops [e1]) a' w ∧
      wpList P ops (Exit.then (fun a'' w'' => S w'' ∧ wpPT P ops S Q t2 a'' w'') Q) (pick ops [e2]) a' w) (pick ops qs) a
  | .three qs e1 t1 e2 t2 e3 t3, a, w => wpQuiet P ops S (fun a' => wpList P ops (Exit.then (fun a'' w'' => S w'' ∧ wpPT P ops S Q t1 a'' w'') Q) (pick ops [e1]) a' w ∧
      wpList P ops (Exit.then (fun a'' w'' => S w'' ∧ wpPT P ops S Q t2 a'' w'') Q) (pick ops [e2]) a' w ∧ wpList P ops (Exit.then (fun a'' w'' => S w'' ∧ wpPT P ops S Q t3 a'' w'') Q) (pick ops [e3]) a' w) (pick ops qs) a

def ptOk (ops : Array Oper) : PT → Array Bool → Bool
  | .last qs, L => match takesOk ops qs L with | some L' => (Region.ready .any ops L').isEmpty | none => false
  | .one qs e t, L => match takesOk ops qs L with | some L' => Region.ready .any ops L' == [e] && ptOk ops t (L'.setIfInBounds e true) | none => false
  | .two qs e1 t1 e2 t2, L => match takesOk ops qs L with | some L' => Region.ready .any ops L' == [e1, e2] && (ptOk ops t1 (L'.setIfInBounds e1 true) && ptOk ops t2 (L'.setIfInBounds e2 true)) | none => false
  | .three qs e1 t1 e2 t2 e3 t3, L => match takesOk ops qs L with | some L' => Region.ready .any ops L' == [e1, e2, e3] && (ptOk ops t1 (L'.setIfInBounds e1 true) && (ptOk ops t2 (L'.setIfInBounds e2 true) && ptOk ops t3 (L'.setIfInBounds e3 true))) | none => false
def ptFuel : PT → Nat
  | .last qs => qs.length
  | .one qs _ t => ptFuel t + 1 + qs.length
  | .two qs _ t1 _ t2 => max (ptFuel t1) (ptFuel t2) + 1 + qs.length
  | .three qs _ t1 _ t2 _ t3 => max (ptFuel t1) (max (ptFuel t2) (ptFuel t3)) + 1 + qs.length

theorem event_run {e : Nat} {L' : Array Bool} {g : Nat} {a : Act} {w : World} {R : Act → World → Prop} (hmem : e ∈ Region.ready .any ops L') (hw : wpList P ops (Exit.then (fun a'' w'' => S w'' ∧ R a'' w'') Q) (pick ops [e]) a w)
    (next : ∀ a'' w'', S w'' ∧ R a'' w'' → S w'' ∧ wpAnyH P .any ops Q S g (L'.setIfInBounds e true) a'' w'') : wpOp P ops Q e (fun a'' w'' => S w'' ∧ wpAnyH P .any ops Q S g (L'.setIfInBounds e true) a'' w'') a w := by
  unfold wpOp
  cases ho : ops[e]? with
  | none =>
    obtain ⟨_, o, ho', _⟩ := mem_ready.1 hmem
    rw [ho] at ho'; cases ho'
  | some o =>
    have hp : pick ops [e] = [o] := by simp [pick, ho]
    rw [hp] at hw
    simp only [wpList] at hw ⊢
    have key : ∀ {w1 : World} {a1 : Act}, o.wp P a1 w1 (fun a w => Exit.then (fun a'' w'' => S w'' ∧ R a'' w'') Q .normal a w) (Exit.then (fun a'' w'' => S w'' ∧ R a'' w'') Q) →
        o.wp P a1 w1 (fun a'' w'' => S w'' ∧ wpAnyH P .any ops Q S g (L'.setIfInBounds e true) a'' w'') Q := by
      intro w1 a1 h
      unfold Oper.wp at h ⊢
      generalize (execOp a1.eval o).run P w1 = res at h ⊢
      cases res with
      | ok n w2 =>
        cases n <;> simp only [Oper.upon, Exit.then] at h ⊢
        case value v => exact next _ _ h
        case skip => exact next _ _ h
        case defer d => exact next _ _ h
        case enter f args =>
          refine Calls.mono h fun e w3 he => ?_
          cases e with
          | returned v => exact next _ _ he
          | panicked c => exact he
          | outgrown => exact he
        case row row args => exact h.mono fun v w3 he => next _ _ he
      | halt x w2 =>
        cases x <;> simp only [Oper.upon, Exit.then] at h ⊢
        exact h
    split at hw
    · rename_i hwa
      rw [if_pos hwa]
      exact hw.imp key id
    · rename_i hwa
      rw [if_neg hwa]
      exact next _ _ hw

theorem pt_run (hsel : Region.noSelect ops = true) (hQ : ∀ c a d v w, Q (.panic c) (a.put d v) w → Q (.panic c) a w) : ∀ (t : PT) (L : Array Bool) (fuel : Nat) (a : Act) (w : World),
    ptOk ops t L = true → S w → ptFuel t ≤ fuel → wpPT P ops S Q t a w → wpAnyH P .any ops Q S fuel L a w := by
  intro t
  induction t with
  | last qs =>
    intro L fuel a w hok hS hf hw
    unfold ptOk at hok
    split at hok
    · rename_i L' hL
      obtain ⟨g, rfl⟩ : ∃ g, fuel = g + qs.length := ⟨fuel - qs.length, by simp [ptFuel] at hf; omega⟩
      exact takes_run hsel hQ qs L L' g _ a w hL hS hw (fun a' ha => wpAnyH_done (by simpa using hok) ha g)
    · cases hok
  | one qs e t ih =>
    intro L fuel a w hok hS hf hw
    unfold ptOk at hok
    split at hok
    · rename_i L' hL
      simp only [Bool.and_eq_true, beq_iff_eq] at hok
      obtain ⟨hr, h1⟩ := hok
      obtain ⟨g, rfl⟩ : ∃ g, fuel = (g + 1) + qs.length := ⟨fuel - qs.length - 1, by simp [ptFuel] at hf; omega⟩
      simp only [ptFuel] at hf
      refine takes_run hsel hQ qs L L' (g + 1) _ a w hL hS hw (fun a' ha => ?_)
      refine wpAnyH_all hr (by simp) (fun i hi => ?_)
      simp only [List.mem_singleton] at hi
      subst hi
      exact event_run (by rw [hr]; simp) ha (fun a'' w'' h => ⟨h.1, ih _ g a'' w'' h1 h.1 (by omega) h.2⟩)
    · cases hok
  | two qs e1 t1 e2 t2 ih1 ih2 =>
    intro L fuel a w hok hS hf hw
    unfold ptOk at hok
    split at hok
    · rename_i L' hL
      simp only [Bool.and_eq_true, beq_iff_eq] at hok
      obtain ⟨hr, h1, h2⟩ := hok
      obtain ⟨g, rfl⟩ : ∃ g, fuel = (g + 1) + qs.length := ⟨fuel - qs.length - 1, by simp [ptFuel] at hf; omega⟩
      simp only [ptFuel] at hf
      refine takes_run hsel hQ qs L L' (g + 1) _ a w hL hS hw (fun a' ha => ?_)
      refine wpAnyH_all hr (by simp) (fun i hi => ?_)
      simp only [List.mem_cons, List.not_mem_nil, or_false] at hi
      rcases hi with rfl | rfl
      · exact event_run (by rw [hr]; simp) ha.1 (fun a'' w'' h => ⟨h.1, ih1 _ g a'' w'' h1 h.1 (by omega) h.2⟩)
      · exact event_run (by rw [hr]; simp) ha.2 (fun a'' w'' h => ⟨h.1, ih2 _ g a'' w'' h2 h.1 (by omega) h.2⟩)
    · cases hok
  | three qs e1 t1 e2 t2 e3 t3 ih1 ih2 ih3 =>
    intro L fuel a w hok hS hf hw
    unfold ptOk at hok
    split at hok
    · rename_i L' hL
      simp only [Bool.and_eq_true, beq_iff_eq] at hok
      obtain ⟨hr, h1, h2, h3⟩ := hok
      obtain ⟨g, rfl⟩ : ∃ g, fuel = (g + 1) + qs.length := ⟨fuel - qs.length - 1, by simp [ptFuel] at hf; omega⟩
      simp only [ptFuel] at hf
      refine takes_run hsel hQ qs L L' (g + 1) _ a w hL hS hw (fun a' ha => ?_)
      refine wpAnyH_all hr (by simp) (fun i hi => ?_)
      simp only [List.mem_cons, List.not_mem_nil, or_false] at hi
      rcases hi with rfl | rfl | rfl
      · exact event_run (by rw [hr]; simp) ha.1 (fun a'' w'' h => ⟨h.1, ih1 _ g a'' w'' h1 h.1 (by omega) h.2⟩)
      · exact event_run (by rw [hr]; simp) ha.2.1 (fun a'' w'' h => ⟨h.1, ih2 _ g a'' w'' h2 h.1 (by omega) h.2⟩)
      · exact event_run (by rw [hr]; simp) ha.2.2 (fun a'' w'' h => ⟨h.1, ih3 _ g a'' w'' h3 h.1 (by omega) h.2⟩)
    · cases hok

/-- THE LAW. -/
theorem wp_region_tree {id : Nat} {a : Act} {w : World} {l : List Oper} (S : World → Prop) (t : PT) (hm : P.follows .mixedOrders = true)
    (hB : (Region.noSelect l.toArray && ptOk l.toArray t (Array.replicate l.length false) && decide (ptFuel t ≤ l.length)) = true)
    (hQ : ∀ c a d v w, Q (.panic c) (a.put d v) w → Q (.panic c) a w) (hS : S w.drew) (h : wpPT P l.toArray S Q t a w.drew) : (Code.region id l.toArray true).wp P Q a w := by
  simp only [Bool.and_eq_true, decide_eq_true_eq] at hB
  exact wp_region_held (S := S) hm (pt_run hB.1.1 hQ t _ _ a _ hB.1.2 hS (by simpa using hB.2) h)
end
end Go.Own
