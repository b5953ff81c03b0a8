/-
  Canonical runs: variables that are arrays of integers, as the row lists them.
-/
import Derived.Test.YtjneboajbmabbaaDoorCanW
import Derived.Lib.LaidTab
import GoSem.ClaimJoined
set_option linter.unusedSimpArgs false
set_option linter.unusedVariables false
namespace Go.Can
open Go.Lib
variable {P : Program}

def onG (G : List Nat) : CR := fun b k l => b = k ∧ l = none ∧ b ∈ G
theorem gl_onG (G : List Nat) : Gl G (onG G) := fun _ hg => ⟨rfl, rfl, hg⟩
theorem known_onG {h : Array Obj} {G : List Nat} {w : World} (hG : ∀ g ∈ G, ∃ c t, h[g]? = some (.cells c t (0, 0)) ∧ w.heap[g]? = some (.cells c t (0, 0)) ∧ c.all (plainV 60) = true) : Known h (onG G) w := by
  refine ⟨?_, ?_, ?_, ?_⟩
  · rintro b k l ⟨rfl, rfl, hb⟩
    obtain ⟨c, t, h1, h2, _⟩ := hG b hb
    exact ⟨rfl, (Array.getElem?_eq_some_iff.1 h1).1, (Array.getElem?_eq_some_iff.1 h2).1⟩
  · rintro b k k' ⟨rfl, _, _⟩ ⟨rfl, _, _⟩; rfl
  · rintro b c k ⟨rfl, _, _⟩ ⟨rfl, _, _⟩ _ _; rfl
  · rintro b k o ⟨rfl, _, hb⟩ ho
    obtain ⟨c, t, h1, h2, h3⟩ := hG b hb
    rw [h1] at ho; cases ho
    exact .inl ⟨c, t, (0, 0), rfl, c, h2, plain_args h3⟩

def kindOf : DataW Unit → IntKind
  | .agg (.lit (.int k _) :: _) => k
  | _ => .i64
def zsOf : DataW Unit → List Int
  | .agg l => l.map fun | .lit (.int _ n) => n | _ => 0
  | _ => []
def tabCells (d : DataW Unit) : Array Value := ((zsOf d).map fun z => Value.int (kindOf d) z).toArray
def tyAt (w : World) (g : Nat) : TypeId := match w.heap[g]? with
  | some (.cells _ t _) => t
  | _ => 0
def tabB (P : Program) (g : Nat) (name : String) (k : IntKind) : Bool :=
  P.globalNamed name == some g && match (P.globals[g]?).map (·.type) with
    | some t => (match P.underlying t with
      | some (.array n e) => (match P.underlying e with | some (.int k') => k' == k | _ => false) && P.cellsOf e == 1 && P.cellsOf t == n
      | _ => false)
    | none => false
theorem tabB_facts {g : Nat} {name : String} {k : IntKind} (h : tabB P g name k = true) : P.globalNamed name = some g ∧ ∃ t n e, (P.globals[g]?).map (·.type) = some t ∧ P.underlying t = some (.array n e) ∧ P.underlying e = some (.int k) ∧ P.cellsOf e = 1 ∧ P.cellsOf t = n := by
  unfold tabB at h
  rw [Bool.and_eq_true] at h
  obtain ⟨h1, h2⟩ := h
  refine ⟨eq_of_beq h1, ?_⟩
  split at h2
  · rename_i t ht
    split at h2
    · rename_i n e hn
      simp only [Bool.and_eq_true] at h2
      obtain ⟨⟨h3, h4⟩, h5⟩ := h2
      split at h3
      · rename_i k' hk
        obtain rfl := eq_of_beq h3
        exact ⟨t, n, e, ht, hn, hk, eq_of_beq h4, eq_of_beq h5⟩
      · cases h3
    · cases h2
  · cases h2

theorem laidVars_mem {w : World} {name : String} {d : DataW Unit} : ∀ {laid : List (String × DataW Unit)} {ps : List MemPlace}, DataW.LaidVars P w laid ps → (name, d) ∈ laid →
    ∃ g t cs fuel p, P.globalNamed name = some g ∧ (P.globals[g]?).map (·.type) = some t ∧ w.var? P name = some cs ∧ DataW.trod (fun _ => ()) P w 0 (fun _ => true) false fuel t cs.toList = some (d, p) ∧ ∀ m ∈ MemPlace.row ⟨g, 0, none⟩ cs.size, m ∈ ps
  | [], _, _, hm => by cases hm
  | (n, x) :: r, ps, h, hm => by
    obtain ⟨g, t, cs, fuel, p, q, h1, h2, h3, h4, h5, rfl⟩ := h
    rcases List.mem_cons.1 hm with hm | hm
    · cases hm
      exact ⟨g, t, cs, fuel, p, h1, h2, h3, h4, fun m hm => by simp [hm]⟩
    · obtain ⟨g', t', cs', fuel', p', k1, k2, k3, k4, k5⟩ := laidVars_mem h5 hm
      exact ⟨g', t', cs', fuel', p', k1, k2, k3, k4, fun m hm => by simp [k5 m hm]⟩

/-- a table that the row lists lies where its variable lies -/
theorem laid_tab {laid : List (String × DataW Unit)} {w : World} (hL : laidMetH P laid w) (hf : (laid.filter fun x => x.2.handleName?.isSome) = []) {g : Nat} {name : String} {d : DataW Unit}
    (hm : (name, d) ∈ laid) (hB : tabB P g name (kindOf d) = true) (hd : d = tabData (kindOf d) (zsOf d)) (hz : 0 < (zsOf d).length) : w.heap[g]? = some (.cells (tabCells d) (tyAt w g) (0, 0)) := by
  unfold laidMetH at hL
  rw [hf] at hL
  obtain ⟨ps, hv, _, hp⟩ := (hL : laidMet P laid w)
  obtain ⟨g', t, cs, fuel, p, h1, h2, h3, h4, h5⟩ := laidVars_mem hv hm
  obtain ⟨hg, t', n, e, k2, k3, k4, k5, k6⟩ := tabB_facts hB
  obtain rfl := Option.some.inj (hg.symm.trans h1)
  obtain rfl := Option.some.inj (k2.symm.trans h2)
  rw [hd] at h4
  have hcs := cells_of_tab k3 k4 k5 k6 h4
  have hcs : cs = tabCells d := by unfold tabCells; rw [← hcs]
  subst hcs
  have h0 : MemPlace.cell g 0 ∈ ps := h5 _ (by
    unfold MemPlace.row
    rw [List.mem_map]
    exact ⟨0, by simpa [tabCells] using hz, by simp⟩)
  obtain ⟨⟨c, ty, hc⟩, _⟩ := hp g 0 h0
  have hc' : c = tabCells d := by
    unfold World.var? at h3
    rw [hg] at h3
    simp only [Option.bind_some, hc, Option.some.injEq] at h3
    exact h3
  subst hc'
  rw [hc]
  unfold tyAt
  rw [hc]
end Go.Can
