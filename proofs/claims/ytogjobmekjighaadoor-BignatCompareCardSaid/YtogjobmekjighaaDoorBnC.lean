/-
  Contracts of bignat: FromUint64, Cmp, Equal.
-/
import Derived.Test.YtogjobmekjighaaDoorBnB
set_option linter.unusedSimpArgs false
set_option linter.unusedVariables false
namespace Go.Proofs.YtogjobmekjighaaDoor.bn
open Go.RowKit Go.Own Go.Bn
set_option maxHeartbeats 4000000
set_option maxRecDepth 100000

theorem bsU (x y : Int) (w : World) : (Instr.buildSlice 25 2 #[(0, .int .u32 x), (1, .int .u32 y)]).run Tryd.prog w = .ok (.slice (some ⟨w.heap.size, 0, none⟩) 2 2) (w.alloc (.cells #[.int .u32 x, .int .u32 y] 68)) := by kernel_rfl
/-- []uint32{x, y} -/
theorem wpList_buildU {ops : Array Oper} {rest : List Oper} {o : Oper} {a : Act} {Q : Exit → Act → World → Prop} {w : World} (hgd : o.guard = none) (p q : Operand) (ho : o.op = .buildSlice 25 2 #[(0, p), (1, q)]) (x y : Int) (hx : a.eval p = .int .u32 x) (hy : a.eval q = .int .u32 y)
    (h : wpList Tryd.prog ops Q rest (a.put o.dst (.slice (some ⟨w.heap.size, 0, none⟩) 2 2)) (w.alloc (.cells #[.int .u32 x, .int .u32 y] 68))) : wpList Tryd.prog ops Q (o :: rest) a w := by
  refine wpList_plain hgd fun K hK => ?_
  unfold Oper.wp execOp
  simp only [ho, Sem.run_bind, Sem.run_pure, Result.andThen_ok, List.map_toArray, List.map_cons, List.map_nil, hx, hy, bsU]
  exact hK _ _ h
theorem two_at {g x y : Nat} {w : World} (h : w.heap[g]? = some (.cells #[dv x, dv y] 68 (0, 0))) (hx : x < B) (hy : y < B) : DgAt (some ⟨g, 0, none⟩) 2 2 [x, y] w := by
  refine RowU.at_ (l := [x, y]) ⟨[], by simpa [dv] using h⟩ (by simp) (fun d hd => ?_) (by simp) (by decide)
  simp at hd; omega
theorem wrapU (x : Int) : IntKind.u32.wrap x = x % 4294967296 := by simp [IntKind.wrap, show IntKind.u32.signed = false from rfl, show IntKind.u32.bits = 32 from rfl]
theorem two_allocs (W : World) (a b : Obj) : ((W.alloc a).alloc b).heap.size = W.heap.size + 2 ∧ ((W.alloc a).alloc b).heap[W.heap.size]? = some a ∧ ((W.alloc a).alloc b).heap[W.heap.size + 1]? = some b := by
  refine ⟨?_, ?_, ?_⟩
  · show ((W.heap.push a).push b).size = _; simp
  · show ((W.heap.push a).push b)[_]? = _; simp [Array.getElem?_push]
  · show ((W.heap.push a).push b)[_]? = _; rw [Array.getElem?_push, if_pos (by simp)]
theorem rowU_ne {w : World} {g b k : Nat} {old : Value} {t : TypeId} {x : Int} (hg : w.heap[g]? = some (.cells #[old] t (0, 0))) (ho : ∀ x, old ≠ .int .u32 x) (h : w.cell? ⟨b, k, none⟩ = some (.int .u32 x)) : b ≠ g := by
  rintro rfl
  simp only [World.cell?, hg] at h
  rcases k with _ | k
  · simp at h; exact ho _ h
  · simp at h
theorem DgAt.row {q : Option Addr} {m c : Nat} {ds : List Nat} {w : World} (h : DgAt q m c ds w) {g : Nat} {old : Value} {t : TypeId} (hg : w.heap[g]? = some (.cells #[old] t (0, 0))) (ho : ∀ x, old ≠ .int .u32 x) (cs : Array Value) : DgAt q m c ds (w.setRow g cs) := by
  obtain ⟨h1, h2, h3, h4, h5, h6⟩ := h.all
  refine ⟨h1, h2, h3, h4, h5, ?_⟩
  rcases h6 with h | ⟨b, off, k1, k2, k3⟩
  · exact .inl h
  · exact .inr ⟨b, off, k1, by rw [size_setRow]; exact k2, fun i x hx => by
      have e := k3 i x hx
      exact (cell_setRow_other _ _ _ ⟨b, off + i, none⟩ (rowU_ne hg ho e)).trans e⟩
/-- a number that a call made is laid into the result's cell -/
theorem RetN.laid {W w : World} {g n : Nat} {q : Option Addr} {m c : Nat} {old : Value} {t : TypeId} (h : NatAt (.agg #[.slice q m c]) n w) (hB : Below W.heap.size W w) (hg : w.heap[g]? = some (.cells #[old] t (0, 0))) (ho : ∀ x, old ≠ .int .u32 x) (hgW : W.heap.size ≤ g) : RetN W n (.returned (.agg #[.slice q m c])) (w.setRow g #[.slice q m c]) := by
  obtain ⟨q', m', c', ds, e, h1, h2, h3⟩ := h.ex
  cases e
  exact ⟨_, rfl, ⟨_, _, _, _, rfl, h1.row hg ho _, h2, h3⟩, Go.Rw.below_setRow hB hgW _⟩
theorem setCell_row {w : World} {g : Nat} {old : Value} {t : TypeId} (hg : w.heap[g]? = some (.cells #[old] t (0, 0))) (v : Value) : w.setCell ⟨g, 0, none⟩ v = w.setRow g #[v] := by
  unfold World.setCell World.setRow
  congr 1
  apply Array.ext_getElem?
  intro k
  rw [Array.getElem?_modify, Array.getElem?_modify]
  by_cases hk : g = k
  · subst hk; simp [hg]
  · simp [hk]
theorem cell_of_row {w : World} {g : Nat} {old : Value} {t : TypeId} (hg : w.heap[g]? = some (.cells #[old] t (0, 0))) : w.cell? ⟨g, 0, none⟩ = some old ∧ w.frozen? ⟨g, 0, none⟩ = false := by
  constructor
  · simp [World.cell?, hg]
  · simp [World.frozen?, hg]
theorem from_calls (n : Nat) (hn : n < 18446744073709551616) (W : World) :
    Calls Tryd.prog 42 #[.int .u64 (n : Int)] W (RetN W n) := by
  have HE := Lib.hid (show val [n % B, n / B] = n by simp [val]; have := Nat.mod_add_div n B; omega)
  have h1 : n % B < B := Nat.mod_lt _ (by decide)
  have h2 : n / B < B := by unfold B; omega
  have H12 := Lib.hid (And.intro h1 h2)
  have e1 : IntKind.u32.wrap (n : Int) = ((n % B : Nat) : Int) := by rw [wrapU]; unfold B; omega
  have e2 : IntKind.u32.wrap ((n : Int) / 4294967296) = ((n / B : Nat) : Int) := by rw [wrapU]; unfold B; omega
  clear h1 h2
  generalize n % B = x at HE H12 e1
  generalize n / B = y at HE H12 e2
  go_enter Tryd.func42, Tryd.ntmps42
  go_wp2_with (first
    | (refine wpList_buildU rfl _ _ rfl _ _ rfl rfl ?_)
    | (go_at_call 52
       have hW : W.heap.size < ((W.alloc (Obj.cells #[Value.slice none 0 0] 27)).alloc (Obj.cells #[Value.int IntKind.u32 (x : Int), Value.int IntKind.u32 (y : Int)] 68)).heap.size := by rw [(two_allocs _ _ _).1]; omega
       have hB0 : Below W.heap.size W ((W.alloc (Obj.cells #[Value.slice none 0 0] 27)).alloc (Obj.cells #[Value.int IntKind.u32 (x : Int), Value.int IntKind.u32 (y : Int)] 68)) := (by repeat (first | assumption | exact Below.refl _ _ | exact below_beyond _ _ | refine Below.beyond ?_ (by (try simp [size_beyond]) <;> omega) _ | refine Below.drew ?_ | refine Go.Rw.below_drewN ?_ _ | refine Go.Rw.below_setRow ?_ (by (try simp [size_beyond]) <;> omega) _ | refine Below.alloc ?_ (by (try simp [size_beyond]) <;> omega) _ | refine Below.setCell ?_ (by (try simp [size_beyond]) <;> omega) _))
       have hg0 : ((W.alloc (Obj.cells #[Value.slice none 0 0] 27)).alloc (Obj.cells #[Value.int IntKind.u32 (x : Int), Value.int IntKind.u32 (y : Int)] 68)).heap[W.heap.size]? = some (.cells #[.slice none 0 0] 27 (0, 0)) := (two_allocs _ _ _).2.1
       have hA := two_at (g := W.heap.size + 1) (x := x) (y := y) (w := (W.alloc (Obj.cells #[Value.slice none 0 0] 27)).alloc (Obj.cells #[Value.int IntKind.u32 (x : Int), Value.int IntKind.u32 (y : Int)] 68)) (two_allocs _ _ _).2.2 H12.out.1 H12.out.2
       refine (trimmed_calls hA).mono ?_
       rw [HE.out]
       generalize ((W.alloc (Obj.cells #[Value.slice none 0 0] 27)).alloc (Obj.cells #[Value.int IntKind.u32 (x : Int), Value.int IntKind.u32 (y : Int)] 68)) = w1 at hW hB0 hg0 hA ⊢
       rintro e w2 ⟨v, rfl, hv, hb⟩
       obtain ⟨q, m, c, ds, rfl, hd⟩ := hv.ex
       have hB2 := Lib.hid (show Below W.heap.size W w2 from hB0.trans (hb.mono (Nat.le_of_lt hW)))
       have hg2 : blockOf w2 W.heap.size = some (.cells #[.slice none 0 0] 27 (0, 0)) := (hb.block _ hW).trans hg0
       have HV := Lib.hid hv
       obtain ⟨hc2, hf2⟩ := cell_of_row hg2
       clear hd hv hb hA hB0 hg0))
  rw [setCell_row hg2]
  refine bodyPost_ret (results_block rfl _ _ W.heap.size 27 #[.slice q m c] _ rfl (setRow_heap _ _ _ _ _ _ hg2) Tryd.underlying27 rfl nInfo) rfl ?_
  exact RetN.laid HV.out hB2.out hg2 (fun _ h => by cases h) (Nat.le_refl _)
end Go.Proofs.YtogjobmekjighaaDoor.bn
