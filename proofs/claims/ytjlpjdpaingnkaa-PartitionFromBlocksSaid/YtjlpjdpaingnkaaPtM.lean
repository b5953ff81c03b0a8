/-
  Parents and roots: a list of parents, each at most its child.
-/
import Derived.Lib.ItoaNum
set_option linter.unusedSimpArgs false
set_option linter.unusedVariables false
namespace Go.Pt
/-- each parent is at most its child -/
def Up (u : List Nat) : Prop := ∀ i x : Nat, u[i]? = some x → x ≤ i
def par (u : List Nat) (a : Nat) : Nat := u.getD a a
def rootF (u : List Nat) : Nat → Nat → Nat
  | 0, a => a
  | f + 1, a => if par u a = a then a else rootF u f (par u a)
/-- the least element of a's block -/
def root (u : List Nat) (a : Nat) : Nat := rootF u a a
theorem par_le {u : List Nat} (h : Up u) (a : Nat) : par u a ≤ a := by
  unfold par
  rw [List.getD_eq_getElem?_getD]
  cases e : u[a]? with
  | none => exact Nat.le_refl _
  | some x => exact h a x e
theorem rootF_more {u : List Nat} (h : Up u) : ∀ (f g a : Nat), a ≤ f → a ≤ g → rootF u f a = rootF u g a
  | 0, 0, _, _, _ => rfl
  | 0, g + 1, a, hf, _ => by
    obtain rfl : a = 0 := by omega
    have := par_le h 0
    unfold rootF
    rw [if_pos (by omega)]
  | f + 1, 0, a, _, hg => by
    obtain rfl : a = 0 := by omega
    have := par_le h 0
    unfold rootF
    rw [if_pos (by omega)]
  | f + 1, g + 1, a, hf, hg => by
    unfold rootF
    split
    · rfl
    · rename_i hne
      have := par_le h a
      exact rootF_more h f g _ (by omega) (by omega)
theorem root_eq {u : List Nat} (h : Up u) (a : Nat) : root u a = if par u a = a then a else root u (par u a) := by
  have := par_le h a
  unfold root
  match a with
  | 0 => show (0 : Nat) = _; rw [if_pos (by omega)]
  | a + 1 =>
    conv => { lhs; unfold rootF }
    split
    · rfl
    · exact rootF_more h _ _ _ (by omega) (Nat.le_refl _)
theorem root_self {u : List Nat} (h : Up u) {a : Nat} (e : par u a = a) : root u a = a := by rw [root_eq h, if_pos e]
theorem root_par {u : List Nat} (h : Up u) (a : Nat) : root u (par u a) = root u a := by
  by_cases e : par u a = a
  · rw [e]
  · rw [root_eq h a, if_neg e]
theorem root_le {u : List Nat} (h : Up u) (a : Nat) : root u a ≤ a := by
  induction a using Nat.strongRecOn with
  | ind a ih =>
    rw [root_eq h]
    split
    · exact Nat.le_refl _
    · have := par_le h a
      have := ih (par u a) (by omega)
      omega
theorem root_fix {u : List Nat} (h : Up u) (a : Nat) : par u (root u a) = root u a := by
  induction a using Nat.strongRecOn with
  | ind a ih =>
    rw [root_eq h]
    split
    · assumption
    · have := par_le h a
      exact ih (par u a) (by omega)
theorem root_root {u : List Nat} (h : Up u) (a : Nat) : root u (root u a) = root u a := root_self h (root_fix h a)
theorem par_set {u : List Nat} {a r : Nat} (ha : a < u.length) (i : Nat) : par (u.set a r) i = if i = a then r else par u i := by
  unfold par
  rw [List.getD_eq_getElem?_getD, List.getD_eq_getElem?_getD, List.getElem?_set]
  by_cases e : i = a
  · subst e; simp [ha]
  · rw [if_neg (fun h => e h.symm), if_neg e]
theorem up_set {u : List Nat} (h : Up u) {a r : Nat} (hr : r ≤ a) : Up (u.set a r) := by
  intro i x hx
  rw [List.getElem?_set] at hx
  split at hx
  · rename_i e
    subst e
    split at hx
    · cases hx; exact hr
    · cases hx
  · exact h i x hx
/-- pointing an element at its root changes no root -/
theorem root_compress {u : List Nat} (h : Up u) {a : Nat} (ha : a < u.length) (i : Nat) : root (u.set a (root u a)) i = root u i := by
  have h' : Up (u.set a (root u a)) := up_set h (root_le h a)
  induction i using Nat.strongRecOn with
  | ind i ih =>
    rw [root_eq h' i, par_set ha]
    by_cases e : i = a
    · subst e
      rw [if_pos rfl]
      split
      · rename_i e; exact e.symm
      · have := root_le h i
        rw [ih _ (by omega), root_root h]
    · rw [if_neg e]
      have := par_le h i
      split
      · rename_i e2; rw [root_self h e2]
      · rw [ih _ (by omega), root_par h]
/-- hanging one root under a smaller one -/
theorem root_join {u : List Nat} (h : Up u) {hi lo : Nat} (hh : hi < u.length) (h1 : par u hi = hi) (h2 : par u lo = lo) (hl : lo ≤ hi) (i : Nat) : root (u.set hi lo) i = if root u i = hi then lo else root u i := by
  have h' : Up (u.set hi lo) := up_set h hl
  have hlo : root (u.set hi lo) lo = lo := by
    refine root_self h' ?_
    rw [par_set hh]
    split
    · rfl
    · exact h2
  induction i using Nat.strongRecOn with
  | ind i ih =>
    rw [root_eq h' i, par_set hh]
    by_cases e : i = hi
    · subst e
      rw [if_pos rfl, if_pos (root_self h h1)]
      split
      · rename_i e; exact e.symm
      · exact hlo
    · rw [if_neg e]
      have := par_le h i
      split
      · rename_i e2; rw [root_self h e2, if_neg e]
      · rw [ih _ (by omega), root_par h]
end Go.Pt
