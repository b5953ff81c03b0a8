/-
  'make' with a length: the new world is some world beyond the one with the row laid.
-/
import Derived.Test.YtmcfnnapgbgdeaaDoorBase
import Derived.OwnWalk
import Derived.Below
set_option linter.unusedSimpArgs false
set_option linter.unusedVariables false
namespace Go.Own
open Go.RowKit

theorem make_is_alloc {X w' : World} {B n : Nat} {e : TypeId} {xs : List Value} (hown : w'.ownsRow B e 1 (.slice (some ⟨X.heap.size, 0, none⟩) n n) n xs) (hg : X.grownBy w' none) :
    ∃ x, w' = beyond (X.alloc (.cells xs.toArray e)) x := by
  rcases hown.2 with ⟨h, _⟩ | ⟨g, cap, cur, h, hb, hgg, hn, hc, hs, ht⟩
  · cases h
  · cases h
    have hcur : cur = xs.toArray := by
      apply Array.ext'
      rw [← ht]
      rw [← hs, ← Array.length_toList, List.take_length]
    subst hcur
    have hlt : X.heap.size < w'.heap.size := (Array.getElem?_eq_some_iff.1 hgg).1
    refine beyond_of ⟨hg.os, hg.tape, hg.output, by simp; omega, fun k hk => ?_⟩
    rcases Nat.lt_or_ge k X.heap.size with h1 | h1
    · rw [hg.block k h1 (by simp), heap_alloc_old (h := h1)]
    · obtain rfl : k = X.heap.size := by simp at hk; omega
      rw [hgg, heap_alloc_new X _]

theorem make_is {X w' : World} (hg : X.grownBy w' none) {B n g : Nat} {e : TypeId} {xs : List Value} (hown : w'.ownsRow B e 1 (.slice (some ⟨g, 0, none⟩) n n) n xs) (hgs : g = X.heap.size) (cs : Array Value) (hcs : xs = cs.toList) :
    ∃ x, w' = beyond (X.alloc (.cells cs e)) x := by
  subst hgs; subst hcs
  obtain ⟨x, hx⟩ := make_is_alloc hown hg
  exact ⟨x, by simpa using hx⟩

theorem grown_is {X w' : World} (hg : X.grownBy w' none) : ∃ x, w' = beyond X x :=
  beyond_of ⟨hg.os, hg.tape, hg.output, hg.size, fun k hk => hg.block k hk (by simp)⟩

theorem new_cell (X : World) (v : Value) {t : TypeId} : ∀ (j : Nat) (u : Value), [v][j]? = some u → (X.alloc (.cells #[v] t)).cell? ((⟨X.heap.size, 0, none⟩ : Addr).add j) = some u := by
  intro j u hu
  match j with
  | 0 => simp at hu; subst hu; simp [go_sem, Addr.add]
  | j + 1 => simp at hu
theorem new_one (k : IntKind) (v : Int) : ∀ u ∈ [Value.int k v], u.oneCell' = true := by
  intro u hu; simp at hu; subst hu; rfl

/-- what a row of one element is -/
theorem row_one {w : World} {B : Nat} {e : TypeId} {v u : Value} (h : w.ownsRow B e 1 v 1 [u]) :
    ∃ (g c : Nat), v = .slice (some ⟨g, 0, none⟩) 1 c ∧ 1 ≤ c ∧ c ≤ maxLen ∧ g < w.heap.size ∧ B ≤ g ∧ w.cell? ⟨g, 0, none⟩ = some u := by
  have hcell := fun g hg => World.ownsRow.cells h (g := g) hg 0 u (by rfl)
  rcases h.2 with ⟨_, h0⟩ | ⟨g, cap, cur, rfl, hb, hgg, hn, hcm, hs, ht⟩
  · cases h0
  · exact ⟨g, cap, rfl, hn, hcm, (Array.getElem?_eq_some_iff.1 hgg).1, hb, hcell g rfl⟩
end Go.Own
