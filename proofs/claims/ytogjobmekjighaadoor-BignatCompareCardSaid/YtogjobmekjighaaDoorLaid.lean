/-
  The tables and variables that a row lists, where they lie; bytes that came in.
-/
import Derived.Test.YtogjobmekjighaaDoorCards
import Derived.Test.YtogjobmekjighaaDoorTie
import Derived.Test.YtogjobmekjighaaDoorFrame
import Derived.Test.YtogjobmekjighaaDoorBnTb
import Derived.WalkKit
import Derived.ProofKit
import Derived.OpenShut
import Derived.Deep.DeepHandedRow
import Derived.Lib.LaidTab
import GoSem.ClaimJoined
set_option linter.unusedSimpArgs false
set_option linter.unusedVariables false
namespace Go.Proofs.YtogjobmekjighaaDoor.ld
open Go.RowKit Go.Own Go.Lib Go.ChangeShapes Go.WideShapes Go.ChangeAt
open bd (U8At)
set_option maxRecDepth 100000
variable {P : Program}

theorem own : ownKnob Tryd.prog.godebug = none := by kernel_rfl
def zsOf : DataW Unit → List Int
  | .agg l => l.map fun | .lit (.int _ n) => n | _ => 0
  | _ => []
theorem laidVars_mem {w : World} {name : String} {d : DataW Unit} : ∀ {laid : List (String × DataW Unit)} {ps : List MemPlace}, DataW.LaidVars P w laid ps → (name, d) ∈ laid →
    ∃ g t cs fuel p, P.globalNamed name = some g ∧ (P.globals[g]?).map (·.type) = some t ∧ w.var? P name = some cs ∧ DataW.trod (fun _ => ()) P w 0 (fun _ => true) false fuel t cs.toList = some (d, p) ∧ ∀ m ∈ MemPlace.row ⟨g, 0, none⟩ cs.size, m ∈ ps
  | [], _, _, hm => by cases hm
  | (n, x) :: r, ps, h, hm => by
    obtain ⟨g, t, cs, fuel, p, q, h1, h2, h3, h4, h5, rfl⟩ := h
    rcases List.mem_cons.1 hm with hm | hm
    · cases hm
      exact ⟨g, t, cs, fuel, p, h1, h2, h3, h4, fun m hm => by simp [hm]⟩
    · obtain ⟨g', t', cs', fuel', p', k1, k2, k3, k4, k5⟩ := laidVars_mem h5 hm
      exact ⟨g', t', cs', fuel', p', k1, k2, k3, k4, fun m hm => by simp [k5 m hm]⟩
theorem wants_of {params : Array TypeId} (h : params.all (fun t => !P.wantsStandIn t) = true) (j : Nat) (t : TypeId) (ht : params[j]? = some t) : P.wantsStandIn t = false := by
  have := Array.all_eq_true.1 h j (Array.getElem?_eq_some_iff.1 ht).1
  rw [(Array.getElem?_eq_some_iff.1 ht).2] at this
  simpa using this
theorem tab_of {laid : List (String × DataW Unit)} {W : World} (hL : laidMetH P laid W) (hf : (laid.filter fun x => x.2.handleName?.isSome) = []) {g n : Nat} {t e : TypeId} {name : String} {k : IntKind} {zs : List Int}
    (hm : (name, tabData k zs) ∈ laid) (hg : P.globalNamed name = some g) (hty : (P.globals[g]?).map (·.type) = some t) (ht : P.underlying t = some (.array n e)) (he : P.underlying e = some (.int k)) (hce : P.cellsOf e = 1) (hct : P.cellsOf t = n) : TabIs P W name k zs := by
  unfold laidMetH at hL
  rw [hf] at hL
  obtain ⟨ps, hv, _, hp⟩ := (hL : laidMet P laid W)
  obtain ⟨g', t', cs, fuel, p, h1, h2, h3, h4, h5⟩ := laidVars_mem hv hm
  obtain rfl := Option.some.inj (hg.symm.trans h1)
  obtain rfl := Option.some.inj (hty.symm.trans h2)
  unfold TabIs
  rw [h3, ← cells_of_tab ht he hce hct h4]
theorem decW_of {W : World} (h : TabIs Tryd.prog W "internal/strconv.uint64pow10" .u64 pow10Tab) : bn.DecW W ∧ bn.tabB ≤ W.heap.size := by
  have hg : Tryd.prog.globalNamed "internal/strconv.uint64pow10" = some 1 := by kernel_rfl
  unfold TabIs World.var? at h
  rw [hg] at h
  simp only [Option.bind_some] at h
  refine ⟨fun w' hb => ?_, ?_⟩
  · unfold TabIs World.var?
    rw [hg]
    simp only [Option.bind_some]
    rw [hb.block 1 (Nat.lt_succ_self _)]
    exact h
  · rcases Nat.lt_or_ge 1 W.heap.size with h1 | h1
    · exact h1
    · rw [Array.getElem?_eq_none h1] at h; simp at h
/-- bytes that came in -/
theorem open_bytes {H : Type} {enc : TypeId × Value → H} {w : World} {r : Reach} {b0 base : Nat} {spare : Nat → Bool} {held : Bool} {t e : TypeId} {v : Value} {d : DataW H} {p : List MemPlace}
    (hu : Tryd.prog.underlying t = some (.slice e)) (he : Tryd.prog.underlying e = some (.int .u8)) (hce : Tryd.prog.cellsOf e = 1) (hv : Value.okWide Tryd.prog w r b0 t v) (h : DataW.Trod enc Tryd.prog w base spare held t v d p) :
    ∃ (q : Option Addr) (n c : Nat) (xs : List Nat), v = .slice q n c ∧ (n : Int) ≤ 9223372036854775807 ∧ xs.length = n ∧ (n ≤ 999000 → U8At q n c xs w) := by
  obtain ⟨a0, n0, c0, rfl⟩ := okWide_slice hu hv
  obtain ⟨fuel, hf⟩ := h
  have hcells : (Value.slice a0 n0 c0).cells.toList = [.slice a0 n0 c0] := by simp [Value.cells]
  rw [hcells] at hf
  rcases Go.Deep.open_slice hu hf with ⟨hcs, _⟩ | ⟨a, n1, c1, m, n, D, Pl, hcs, _, hl, hm, hmm, _, hx⟩
  · cases hcs
    exact ⟨none, 0, 0, [], rfl, by decide, rfl, fun _ => ⟨rfl, Nat.zero_le _, Nat.le_refl _, Nat.zero_le _, fun _ h => by simp at h, .inl rfl⟩⟩
  · cases hcs
    have hle : n0 ≤ m := by rw [hmm]; split <;> omega
    rw [hce] at hx
    have hrow : ∀ i, i < n0 → ∃ y : Nat, y < 256 ∧ w.cell? (a.add i) = some (.int .u8 (y : Int)) := by
      intro i hi
      obtain ⟨cs', h1, h2⟩ := hx i (by omega)
      obtain ⟨y, hy, _, hw⟩ := DataW.trod_int he h2
      obtain ⟨_, hl2, hc⟩ := World.cells?_some h1
      have h0 := hc 0 (by omega)
      rw [Addr.add_zero', Nat.mul_one, hy] at h0
      have hb : 0 ≤ y ∧ y ≤ 255 := by simpa [Lit.wf, IntKind.has, IntKind.min, IntKind.max, IntKind.signed, IntKind.bits] using hw
      refine ⟨y.toNat, by omega, ?_⟩
      rw [h0]
      simp
      omega
    obtain ⟨V, hV⟩ := Go.Deep.choose_lt (α := Nat) (p := fun i y => y < 256 ∧ w.cell? (a.add i) = some (.int .u8 (y : Int))) hrow
    refine ⟨some a, n0, c0, (List.range n0).map V, rfl, by unfold maxLen at hm; omega, by simp, fun h9 => ⟨by simp, h9, hl, hm, ?_, ?_⟩⟩
    · intro d hd
      obtain ⟨i, hi, rfl⟩ := List.mem_map.1 hd
      exact (hV i (by simpa using hi)).1
    · rcases Nat.eq_zero_or_pos n0 with h0 | h0
      · subst h0; exact .inl rfl
      · obtain ⟨b, off, spot⟩ := a
        have h00 := (hV 0 h0).2
        rw [Addr.add_zero'] at h00
        have hlt := World.block_lt_of_cell? w ⟨b, off, spot⟩ h00
        have hs : spot = none := by
          unfold World.cell? at h00
          cases spot with
          | none => rfl
          | some s => simp at h00; split at h00 <;> simp_all
        subst hs
        refine .inr ⟨b, off, rfl, hlt, fun i x hx => ?_⟩
        have hi : i < n0 := by have := (List.getElem?_eq_some_iff.1 hx).1; simpa using this
        have e : (⟨b, off, Option.none⟩ : Addr).add i = ⟨b, off + i, Option.none⟩ := by unfold Addr.add; split <;> simp_all
        have h1 := (hV i hi).2
        rw [e] at h1
        rw [h1]
        simp [hi] at hx
        rw [hx]
end Go.Proofs.YtogjobmekjighaaDoor.ld
