/-
  The frame of a law's proof, over any program: where the call answers true and leaves what was there as it was, the row's demand is met.
-/
import Derived.Test.YtogjobmekjighaaDoorBase
import Derived.ProofKit
import Derived.OpenShut
import Derived.Lib.SmallJoins
import Derived.Deep.Slices
set_option linter.unusedSimpArgs false
set_option linter.unusedVariables false
namespace Go.Own
open Go.RowKit Go.ChangeShapes Go.WideShapes Go.ChangeAt

theorem below_trodAll {H : Type} {enc : TypeId × Value → H} {P : Program} {W W' : World} (hl : laidOutB P = true) (hb : Below W.heap.size W W') : ∀ (ts : List TypeId) (vs : List Value) (ds : List (DataW H)) (ps : List MemPlace),
    DataW.TrodAll enc P W 0 (fun _ => true) true ts vs ds ps → (∀ t ∈ ts, P.readableRec t = true ∧ t < P.types.size) → (∀ x ∈ ps, x.block < W.heap.size) →
    DataW.TrodAll enc P W' 0 (fun b => decide (b < W.heap.size)) true ts vs ds ps := by
  intro ts
  induction ts with
  | nil =>
    intro vs ds ps h _ _
    obtain ⟨rfl, rfl, rfl⟩ := trodAll_nil h
    exact trodAll_mk0
  | cons t ts ih =>
    intro vs ds ps h hr hlt
    obtain ⟨v, vs', d, ds', p, q, rfl, rfl, rfl, h0, h1⟩ := trodAll_cons h
    obtain ⟨r1, r2⟩ := hr t (by simp)
    exact trodAll_cons_mk (Below.trod hl r1 r2 h0 hb (fun x hx => hlt x (by simp [hx])))
      (ih _ _ _ h1 (fun u hu => hr u (by simp [hu])) (fun x hx => hlt x (by simp [hx])))

theorem law_post {H : Type} {enc : TypeId × Value → H} {P : Program} {f : Func} {s : ChangeSpec} {apart : Bool} {W W' : World} {args : Array Value} {ds gs : List (DataW H)} {before : List MemPlace} {tb : TypeId}
    (hW : DataW.Whole enc P f.params.toList s.vars apart W args.toList ds gs before) (hv : s.vars = []) (hfn : s.fn H ds = { results := [.lit (.bool true)], args := ds })
    (hb : Below W.heap.size W W') (hr : f.resultTypes = #[tb]) (hu : P.underlying tb = some .bool) (hl : laidOutB P = true)
    (hp : (f.params.toList.all fun t => P.readableRec t && decide (t < P.types.size)) = true) :
    s.post enc P f apart true false false W args (.bool true) W' := by
  have hlt : ∀ p ∈ before, p.block < W.heap.size := fun p hp => hW.lt p hp
  have hW0 := hW
  obtain ⟨p, q, hA, hV, rfl, _, _⟩ := hW
  rw [hv] at hV
  obtain ⟨rfl, rfl⟩ := trodVars_none hV
  refine ⟨ds, [], p ++ [], [], p, [], hW0, ?_, ?_, ?_, hb.frame _, fun h => by cases h⟩
  · rw [List.append_nil, hfn, hr]
    exact trodAll_cons_mk (shut_bool hu _) trodAll_mk0
  · rw [List.append_nil, hfn]
    exact below_trodAll hl hb _ _ _ _ hA (fun t ht => by
      have := List.all_eq_true.1 hp t ht
      simpa using this) (fun x hx => hlt x (by simp [hx]))
  · rw [List.append_nil, hfn, hv]
    rfl

theorem list2 {α : Type} {xs : List α} (h : xs.length = 2) : ∃ a b, xs = [a, b] := by
  match xs, h with | [a, b], _ => exact ⟨a, b, rfl⟩
theorem list3 {α : Type} {xs : List α} (h : xs.length = 3) : ∃ a b c, xs = [a, b, c] := by
  match xs, h with | [a, b, c], _ => exact ⟨a, b, c, rfl⟩

/-- an array of integers by value, opened -/
theorem open_array_ints {H : Type} {enc : TypeId × Value → H} {P : Program} {w : World} {r : Reach} {b0 base n : Nat} {spare : Nat → Bool} {held : Bool} {t e : TypeId} {k : IntKind} {v : Value} {d : DataW H} {p : List MemPlace}
    (hu : P.underlying t = some (.array n e)) (he : P.underlying e = some (.int k)) (hct : P.cellsOf t = n) (hce : P.cellsOf e = 1) (hv : Value.okWide P w r b0 t v) (h : DataW.Trod enc P w base spare held t v d p) :
    ∃ xs : List Int, xs.length = n ∧ v = .agg (xs.map (Value.int k)).toArray ∧ ∀ x ∈ xs, (Lit.int k x).wf = true := by
  unfold Value.okWide at hv
  rw [hu] at hv
  obtain ⟨cs, rfl, hsz, _⟩ := hv
  obtain ⟨fuel, hf⟩ := h
  obtain ⟨ys, m, _, _, hlen, hyn, hall⟩ := DataW.trod_array hu hf
  have hcells : (Value.agg cs).cells.toList = cs.toList := by simp [Value.cells]
  rw [hcells] at hlen hall
  have hcell : ∀ i, i < n → ∃ x, cs.toList[i]? = some (Value.int k x) ∧ (Lit.int k x).wf = true := by
    intro i hi
    have h1 := hall i hi
    rw [hce, Nat.mul_one] at h1
    have hy : ys[i]? = some ys[i] := List.getElem?_eq_getElem (by omega)
    rw [hy] at h1
    obtain ⟨x, hx, _, hw⟩ := DataW.trod_int he h1
    refine ⟨x, ?_, hw⟩
    have := congrArg (·[0]?) hx
    simpa using this
  have hn : cs.toList.length = n := hlen.trans hct
  refine ⟨cs.toList.map intOf, by simpa using hn, ?_, ?_⟩
  · congr 1
    apply Array.ext'
    apply List.ext_getElem?
    intro i
    rcases Nat.lt_or_ge i n with hi | hi
    · obtain ⟨x, hx, _⟩ := hcell i hi
      simp only [List.getElem?_map, hx, List.map_map]
      simp [hx, intOf]
    · have h1 : cs.toList[i]? = none := by simp at hn ⊢; omega
      simp only [List.getElem?_map, List.map_map]
      rw [h1]; rfl
  · intro x hx
    obtain ⟨v, hv, rfl⟩ := List.mem_map.1 hx
    obtain ⟨i, hi, hiv⟩ := List.getElem_of_mem hv
    obtain ⟨y, hy, hw⟩ := hcell i (by omega)
    have : cs.toList[i]? = some v := by rw [List.getElem?_eq_getElem hi, hiv]
    rw [hy] at this
    obtain rfl := Option.some.inj this
    exact hw

/-- a slice whose elements are one cell each, opened -/
theorem open_slice_cells {H : Type} {enc : TypeId × Value → H} {P : Program} {w : World} {r : Reach} {b0 base : Nat} {spare : Nat → Bool} {held : Bool} {t e : TypeId} {v : Value} {d : DataW H} {p : List MemPlace}
    (hu : P.underlying t = some (.slice e)) (hc : P.cellsOf e = 1) (hv : Value.okWide P w r b0 t v) (h : DataW.Trod enc P w base spare held t v d p) :
    ∃ (q : Option Addr) (n cap b off : Nat) (V : Nat → Value), v = .slice q n cap ∧ n ≤ cap ∧ cap ≤ maxLen ∧ (0 < n → q = some ⟨b, off, none⟩ ∧ b < w.heap.size) ∧
      ∀ i, i < n → w.cell? ⟨b, off + i, none⟩ = some (V i) ∧ ∃ m x, DataW.trod enc P w base spare held m e [V i] = some x := by
  obtain ⟨a0, n0, c0, rfl⟩ := okWide_slice hu hv
  obtain ⟨fuel, hf⟩ := h
  have hcells : (Value.slice a0 n0 c0).cells.toList = [.slice a0 n0 c0] := by simp [Value.cells]
  rw [hcells] at hf
  rcases Go.Deep.open_slice1 hu hc hf with ⟨hcs, _⟩ | ⟨a, len, cap, m, n, V, D, Pl, hcs, _, hl, hm, hmm, _, hx⟩
  · simp at hcs
    obtain ⟨rfl, rfl, rfl⟩ := hcs
    exact ⟨none, 0, 0, 0, 0, fun _ => undef, rfl, Nat.le_refl _, Nat.zero_le _, fun h => by omega, fun i hi => by omega⟩
  · simp at hcs
    obtain ⟨rfl, rfl, rfl⟩ := hcs
    have hle : n0 ≤ m := by rw [hmm]; split <;> omega
    obtain ⟨b, off, spot⟩ := a
    by_cases hn : 0 < n0
    · have h0 := (hx 0 (by omega)).1
      have hlt := World.block_lt_of_cell? w ⟨b, off, spot⟩ (by simpa [Addr.add_zero'] using h0)
      have hs : spot = none := by
        rw [Addr.add_zero'] at h0
        unfold World.cell? at h0
        cases spot with
        | none => rfl
        | some s => simp at h0; split at h0 <;> simp_all
      subst hs
      exact ⟨_, _, _, b, off, V, rfl, hl, hm, fun _ => ⟨rfl, hlt⟩, fun i hi => by
        obtain ⟨h1, h2⟩ := hx i (by omega)
        rw [Addr.add_lit] at h1
        exact ⟨h1, n, _, h2⟩⟩
    · exact ⟨_, _, _, b, off, V, rfl, hl, hm, fun h => absurd h hn, fun i hi => by omega⟩

/-- a slice of bools -/
theorem open_bools {H : Type} {enc : TypeId × Value → H} {P : Program} {w : World} {r : Reach} {b0 base : Nat} {spare : Nat → Bool} {held : Bool} {t e : TypeId} {v : Value} {d : DataW H} {p : List MemPlace}
    (hu : P.underlying t = some (.slice e)) (he : P.underlying e = some .bool) (hc : P.cellsOf e = 1) (hv : Value.okWide P w r b0 t v) (h : DataW.Trod enc P w base spare held t v d p) :
    ∃ (q : Option Addr) (n cap b off : Nat) (V : Nat → Bool), v = .slice q n cap ∧ n ≤ cap ∧ cap ≤ maxLen ∧ (0 < n → q = some ⟨b, off, none⟩ ∧ b < w.heap.size) ∧
      ∀ i, i < n → w.cell? ⟨b, off + i, none⟩ = some (.bool (V i)) := by
  obtain ⟨q, n, cap, b, off, V, rfl, hl, hm, hq, hx⟩ := open_slice_cells hu hc hv h
  refine ⟨q, n, cap, b, off, fun i => match V i with | .bool x => x | _ => false, rfl, hl, hm, hq, fun i hi => ?_⟩
  obtain ⟨h1, m, x, h2⟩ := hx i hi
  obtain ⟨y, hy, _⟩ := DataW.trod_bool he h2
  simp at hy
  simp [h1, hy]
/-- a slice of integers -/
theorem open_ints_cells {H : Type} {enc : TypeId × Value → H} {P : Program} {w : World} {r : Reach} {b0 base : Nat} {spare : Nat → Bool} {held : Bool} {t e : TypeId} {k : IntKind} {v : Value} {d : DataW H} {p : List MemPlace}
    (hu : P.underlying t = some (.slice e)) (he : P.underlying e = some (.int k)) (hc : P.cellsOf e = 1) (hv : Value.okWide P w r b0 t v) (h : DataW.Trod enc P w base spare held t v d p) :
    ∃ (q : Option Addr) (n cap b off : Nat) (V : Nat → Int), v = .slice q n cap ∧ n ≤ cap ∧ cap ≤ maxLen ∧ (0 < n → q = some ⟨b, off, none⟩ ∧ b < w.heap.size) ∧
      ∀ i, i < n → w.cell? ⟨b, off + i, none⟩ = some (.int k (V i)) ∧ (Lit.int k (V i)).wf = true := by
  obtain ⟨q, n, cap, b, off, V, rfl, hl, hm, hq, hx⟩ := open_slice_cells hu hc hv h
  refine ⟨q, n, cap, b, off, fun i => intOf (V i), rfl, hl, hm, hq, fun i hi => ?_⟩
  obtain ⟨h1, m, x, h2⟩ := hx i hi
  obtain ⟨y, hy, _, hw⟩ := DataW.trod_int he h2
  simp at hy
  exact ⟨by simp [h1, hy, intOf], by simpa [hy, intOf] using hw⟩
end Go.Own
