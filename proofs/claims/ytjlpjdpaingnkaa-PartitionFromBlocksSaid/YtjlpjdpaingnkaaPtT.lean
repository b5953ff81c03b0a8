/-
  Slices of pairs that came in, opened; alone, or some of them in an array.
-/
import Derived.Test.YtjlpjdpaingnkaaFrame
import Derived.Test.YtjlpjdpaingnkaaPtO
set_option linter.unusedSimpArgs false
set_option linter.unusedVariables false
namespace Go.Proofs.Ytjlpjdpaingnkaa.pt
open Go.RowKit Go.Own Go.Pt Go.ChangeShapes Go.WideShapes Go.ChangeAt
set_option maxRecDepth 100000

theorem nats_of {H : Type} {enc : TypeId × Value → H} {P : Program} {w : World} {base n : Nat} {spare : Nat → Bool} {held : Bool} {t e : TypeId} {cs : List Value} {x : DataW H × List MemPlace} {fuel : Nat}
    (hu : P.underlying t = some (.array n e)) (he : P.underlying e = some (.int .i64)) (hce : P.cellsOf e = 1) (hf : DataW.trod enc P w base spare held fuel t cs = some x) (i : Nat) (hi : i < n) :
    ∃ y : Int, cs[i]? = some (Value.int .i64 y) := by
  obtain ⟨ys, m, _, _, hlen, hyn, hall⟩ := DataW.trod_array hu hf
  have h1 := hall i hi
  rw [hce, Nat.mul_one] at h1
  have hy : ys[i]? = some ys[i] := List.getElem?_eq_getElem (by omega)
  rw [hy] at h1
  obtain ⟨x, hx, _, hw⟩ := DataW.trod_int he h1
  have h0 := congrArg (·[0]?) hx
  exact ⟨x, by simpa using h0⟩
/-- the cells of a slice of pairs -/
theorem pairs_cells {H : Type} {enc : TypeId × Value → H} {P : Program} {w : World} {base : Nat} {spare : Nat → Bool} {held : Bool} {t e u : TypeId} {cs : List Value} {x : DataW H × List MemPlace} {fuel : Nat}
    (hu : P.underlying t = some (.slice e)) (he : P.underlying e = some (.array 2 u)) (hw : P.underlying u = some (.int .i64)) (hce : P.cellsOf e = 2) (hcu : P.cellsOf u = 1) (hf : DataW.trod enc P w base spare held fuel t cs = some x) :
    ∃ (q : Option Addr) (n cap : Nat) (A B : Nat → Int), cs = [.slice q n cap] ∧ n ≤ cap ∧ cap ≤ maxLen ∧ Pairs q n A B w := by
  rcases Go.Deep.open_slice hu hf with ⟨hcs, _⟩ | ⟨a, n0, c0, m, n, D, Pl, rfl, _, hl, hm, hmm, _, hx⟩
  · subst hcs
    exact ⟨none, 0, 0, fun _ => 0, fun _ => 0, rfl, Nat.le_refl _, Nat.zero_le _, ⟨fun k hk => absurd hk (Nat.not_lt_zero _)⟩⟩
  · have hle : n0 ≤ m := by rw [hmm]; split <;> omega
    rw [hce] at hx
    have hrow : ∀ i, i < n0 → ∃ y : Int × Int, w.cell? (a.add (i * 2)) = some (.int .i64 y.1) ∧ w.cell? ((a.add (i * 2)).add 1) = some (.int .i64 y.2) := by
      intro i hi
      obtain ⟨cs', h1, h2⟩ := hx i (by omega)
      obtain ⟨y0, h0⟩ := nats_of he hw hcu h2 0 (by omega)
      obtain ⟨y1, h3⟩ := nats_of he hw hcu h2 1 (by omega)
      obtain ⟨_, hl2, hc⟩ := World.cells?_some h1
      refine ⟨(y0, y1), ?_, ?_⟩
      · have := hc 0 (by omega); rw [Addr.add_zero'] at this; rw [this]; exact h0
      · rw [hc 1 (by omega)]; exact h3
    obtain ⟨V, hV⟩ := Go.Deep.choose_lt (α := Int × Int) (p := fun i y => w.cell? (a.add (i * 2)) = some (.int .i64 y.1) ∧ w.cell? ((a.add (i * 2)).add 1) = some (.int .i64 y.2)) hrow
    refine ⟨some a, n0, c0, fun i => (V i).1, fun i => (V i).2, rfl, hl, hm, ⟨fun k hk => ?_⟩⟩
    obtain ⟨b, off, spot⟩ := a
    have h00 := (hV 0 (by omega)).1
    rw [Nat.zero_mul, Addr.add_zero'] at h00
    have hlt := World.block_lt_of_cell? w ⟨b, off, spot⟩ h00
    have hs : spot = none := by
      unfold World.cell? at h00
      cases spot with
      | none => rfl
      | some s => simp at h00; split at h00 <;> simp_all
    subst hs
    obtain ⟨h1, h2⟩ := hV k hk
    have e : ∀ j, (⟨b, off, Option.none⟩ : Addr).add j = ⟨b, off + j, Option.none⟩ := fun j => by unfold Addr.add; split <;> simp_all
    have e2 : ∀ o j, (⟨b, o, Option.none⟩ : Addr).add j = ⟨b, o + j, Option.none⟩ := fun o j => by unfold Addr.add; split <;> simp_all
    rw [e] at h1 h2
    rw [e2] at h2
    exact ⟨b, off, rfl, hlt, h1, h2⟩
/-- a slice of pairs -/
theorem open_pairs {H : Type} {enc : TypeId × Value → H} {P : Program} {w : World} {r : Reach} {b0 base : Nat} {spare : Nat → Bool} {held : Bool} {t e u : TypeId} {v : Value} {d : DataW H} {p : List MemPlace}
    (hu : P.underlying t = some (.slice e)) (he : P.underlying e = some (.array 2 u)) (hw : P.underlying u = some (.int .i64)) (hce : P.cellsOf e = 2) (hcu : P.cellsOf u = 1) (hv : Value.okWide P w r b0 t v) (h : DataW.Trod enc P w base spare held t v d p) :
    ∃ (q : Option Addr) (n cap : Nat) (A B : Nat → Int), v = .slice q n cap ∧ n ≤ maxLen ∧ Pairs q n A B w := by
  obtain ⟨a0, n0, c0, rfl⟩ := okWide_slice hu hv
  obtain ⟨fuel, hf⟩ := h
  have hcells : (Value.slice a0 n0 c0).cells.toList = [.slice a0 n0 c0] := by simp [Value.cells]
  rw [hcells] at hf
  obtain ⟨q, n, cap, A, B, h1, h2, h3, h4⟩ := pairs_cells hu he hw hce hcu hf
  cases h1
  exact ⟨_, _, _, A, B, rfl, by omega, h4⟩
/-- an array of slices of pairs -/
theorem open_pairs_array {H : Type} {enc : TypeId × Value → H} {P : Program} {w : World} {r : Reach} {b0 base N : Nat} {spare : Nat → Bool} {held : Bool} {t s e u : TypeId} {v : Value} {d : DataW H} {p : List MemPlace}
    (ht : P.underlying t = some (.array N s)) (hct : P.cellsOf t = N) (hcs : P.cellsOf s = 1) (hu : P.underlying s = some (.slice e)) (he : P.underlying e = some (.array 2 u)) (hw : P.underlying u = some (.int .i64)) (hce : P.cellsOf e = 2) (hcu : P.cellsOf u = 1) (hv : Value.okWide P w r b0 t v) (h : DataW.Trod enc P w base spare held t v d p) :
    ∃ cs : Array Value, v = .agg cs ∧ cs.size = N ∧ ∀ i, i < N → ∃ (q : Option Addr) (n cap : Nat) (A B : Nat → Int), cs[i]? = some (.slice q n cap) ∧ n ≤ maxLen ∧ Pairs q n A B w := by
  unfold Value.okWide at hv
  rw [ht] at hv
  obtain ⟨cs, rfl, hsz, _⟩ := hv
  obtain ⟨fuel, hf⟩ := h
  obtain ⟨ys, m, _, _, hlen, hyn, hall⟩ := DataW.trod_array ht hf
  have hcells : (Value.agg cs).cells.toList = cs.toList := by simp [Value.cells]
  rw [hcells] at hlen hall
  refine ⟨cs, rfl, by have := hlen.trans hct; simpa using this, fun i hi => ?_⟩
  have h1 := hall i hi
  rw [hcs, Nat.mul_one] at h1
  have hy : ys[i]? = some ys[i] := List.getElem?_eq_getElem (by omega)
  rw [hy] at h1
  obtain ⟨q, n, cap, A, B, k1, k2, k3, k4⟩ := pairs_cells hu he hw hce hcu h1
  have h0 := congrArg (·[0]?) k1
  exact ⟨q, n, cap, A, B, by simpa using h0, by omega, k4⟩
theorem cellsPair : Try.prog.cellsOf 33 = 2 := by kernel_rfl
theorem arr2 {cs : Array Value} {a b : Value} (h : cs.size = 2) (h0 : cs[0]? = some a) (h1 : cs[1]? = some b) : cs = #[a, b] := by
  obtain ⟨l⟩ := cs
  match l, h with
  | [x, y], _ => simp at h0 h1; subst h0 h1; rfl
theorem arr3 {cs : Array Value} {a b c : Value} (h : cs.size = 3) (h0 : cs[0]? = some a) (h1 : cs[1]? = some b) (h2 : cs[2]? = some c) : cs = #[a, b, c] := by
  obtain ⟨l⟩ := cs
  match l, h with
  | [x, y, z], _ => simp at h0 h1 h2; subst h0 h1 h2; rfl
end Go.Proofs.Ytjlpjdpaingnkaa.pt
