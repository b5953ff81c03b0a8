/-
  BitsetElements: the walk, whatever known() is.
-/
import Derived.Test.YtjneboajbmabbaaDoorMB1
import Derived.Test.YtjneboajbmabbaaDoorMB2
import Derived.Test.YtjneboajbmabbaaDoorMLB1
import Derived.Test.YtjneboajbmabbaaDoorMLB2
import Derived.Test.YtjneboajbmabbaaDoorMLB3
import Derived.Test.YtjneboajbmabbaaDoorMLB4
import Derived.Test.YtjneboajbmabbaaDoorMLB5
import Derived.Test.YtjneboajbmabbaaDoorMLB6
set_option linter.unusedSimpArgs false
set_option linter.unusedVariables false
namespace Go.Proofs.YtjneboajbmabbaaDoor.ref1
open Go.RowKit Go.Rw Go.SetL Go.Bits Go.Tz Go.Shelf Go.Own
set_option maxHeartbeats 1000000
set_option maxRecDepth 100000
attribute [local go_sem] Oper.semAt_some
attribute [local irreducible] beyond grow over

theorem elements_at {xs : List W} (hx : xs.length = 16) (w : World) (hT : TzW w) (h0 : 0 < w.heap.size) :
    Calls Tryd.prog 37 #[.agg (rowW xs)] w (Ret w (elems xs)) :=
  (elements_calls hx w hT h0).mono fun e w' ⟨v, e1, h1, h2⟩ => by subst e1; exact gives_ret (elems_len xs) (h1.gives h2)

/-- one cell is loaded, in a region that draws its order -/
theorem wpQuiet_load_cell {P : Program} {ops : Array Oper} {C : World → Prop} {Q : Act → Prop} {a : Act} {o : Oper} {rest : List Oper} (hw : Region.wanted o (yielded ops a.tmps) = true) (ty : TypeId) (x : Operand) (ho : o.op = .load ty x)
    (p : Addr) (v : Value) (e : TypeId) (hx : a.eval x = .pointer (some p)) (hc : ∀ w, C w → w.cell? p = some v) (hu : P.underlying ty = some (.slice e))
    (hk : wpQuiet P ops C Q rest (a.put o.dst v)) : wpQuiet P ops C Q (o :: rest) a :=
  BigFrame.wpQuiet_want hw fun K hK => ⟨_, fun w hC => by
    have hagg : (isAgg ty).run P w = .ok false w := by
      unfold isAgg
      rw [Sem.run_bind, run_underlying hu w]
      rfl
    have hl : (loadVar ty p).run P w = .ok v w := by simp [loadVar, Sem.run_bind, hagg, run_load, hc w hC]
    unfold Oper.quietAt execOp
    simp only [ho, hx, Instr.loadAt, Instr.sureAddr, Sem.run_bind, Sem.run_pure, Result.andThen_ok, hl]
    exact ⟨rfl, rfl⟩, hK _ hk⟩
/-- a result that lies in a box -/
theorem results_box {P : Program} {fn : Func} {p : Tmp} {ty : TypeId} (h : fn.results = #[.cell p ty]) (tmps : Array Value) (w : World) (g : Nat) (t : TypeId) (v : Value)
    (hp : tmps.getD p undef = .pointer (some ⟨g, 0, none⟩)) (hg : Boxed w g t v) (hu : P.underlying ty = some .bool) : (results fn tmps).run P w = .ok v w := by
  have hagg : (isAgg ty).run P w = .ok false w := by
    unfold isAgg
    rw [Sem.run_bind, run_underlying hu w]
    rfl
  have hl : (loadVar ty ⟨g, 0, none⟩).run P w = .ok v w := by simp [loadVar, Sem.run_bind, hagg, run_load, hg.cell]
  have hp' : tmps[p]?.getD undef = .pointer (some ⟨g, 0, none⟩) := by simpa using hp
  simp [results, h, hp', asAddr, hl]
theorem wp_only {P : Program} {c : Code} {Q : Exit → Act → World → Prop} {a : Act} {w : World} (h : c.wp P (fun e a w => e = .normal ∧ Q .normal a w) a w) : c.wp P Q a w :=
  Code.wp_mono (fun e a w h => by obtain ⟨rfl, h⟩ := h; exact h) h
theorem pre_snoc {pre E : List Int} {u : Int} (h : pre <+: E) (hu : E[pre.length]? = some u) : pre ++ [u] <+: E := by
  obtain ⟨t, rfl⟩ := h
  cases t with
  | nil => simp at hu
  | cons y t => simp at hu; subst hu; exact ⟨t, by simp⟩
theorem pre_at {pre E : List Int} {x : Int} (h : pre ++ [x] <+: E) : E[pre.length]? = some x := by
  obtain ⟨t, rfl⟩ := h
  simp
theorem elem_main {W0 : World} {xs : List W} (hx : xs.length = 16) (s : Int) (hs : 0 ≤ s ∧ s ≤ 255) (hK : ∀ X, Below W0.heap.size W0 X → Calls Tryd.prog 24 #[] X fun e w' => e = .returned (.bool true) ∧ ∃ y, w' = beyond X y)
    (hT : TzW W0) (h0 : 0 < W0.heap.size) :
    Calls Tryd.prog 5 #[.agg (rowW xs), .int .u8 s] W0 fun e w' => e = .returned (.bool true) ∧ ∃ x, w' = beyond W0 x := by
  have HX := Lib.hid hx; clear hx
  have KK := Lib.hid hK; clear hK
  have TZ := Lib.hid hT; clear hT
  have HZ := Lib.hid (show (rowW xs).size = 16 by rw [rowW_size, HX.out])
  have HAl := Lib.hid (all_calls xs HX.out)
  have K1 : BlkAt W0.heap.size (rowW xs) 25 (((W0.alloc (.cells (rowW xs) 25)).alloc (.cells #[.int .u8 s] 5)).alloc (.cells #[.bool false] 4)) := ⟨by simp [go_sem, inW]⟩
  refine callsIn_wide.1 (callsIn_of_wp_marks (n := 5) Tryd.func5 rfl trivial ?_ rfl)
  simp only [Tryd.ntmps5, List.size_toArray, List.length_cons, List.length_nil, Nat.reduceAdd, Nat.reduceSub, Array.replicate_succ, Array.replicate_zero, List.push_toArray, List.append_toArray, List.nil_append, List.cons_append]
  refine wpIn_wide.2 ?_
  go_wp2_with (refine wpList_load_any (by kernel_rfl) 25 (.tmp 2) rfl _ (rowW xs) 25 _ rfl (BlkAt.all (by first | (with_reducible assumption) | (refine BlkAt.below (by with_reducible assumption) ?_; exact (by repeat (first | assumption | exact Below.refl _ _ | exact below_beyond _ _ | refine Below.beyond ?_ (by (try simp [size_beyond]) <;> omega) _ | refine Below.drew ?_ | refine Go.Rw.below_drewN ?_ _ | refine Go.Rw.below_setRow ?_ (by (try simp [size_beyond]) <;> omega) _ | refine Below.alloc ?_ (by (try simp [size_beyond]) <;> omega) _ | refine Below.setCell ?_ (by (try simp [size_beyond]) <;> omega) _))))) Tryd.underlying25 rfl (by rw [HZ.out]; exact sInfo) ?_)
  go_at_call 18
  refine (to_at HX.out _).mono ?_
  rintro e w1 ⟨q1, m1, c1, y1, rfl, hw1, H1⟩
  obtain rfl : m1 = (elems xs).length := H1.all.1
  have K2 : BlkAt W0.heap.size (rowW xs) 25 w1 := by subst hw1; exact BlkAt.below K1 (below_beyond _ _)
  have B1 : Below W0.heap.size W0 w1 := by subst hw1; exact (by repeat (first | assumption | exact Below.refl _ _ | exact below_beyond _ _ | refine Below.beyond ?_ (by (try simp [size_beyond]) <;> omega) _ | refine Below.drew ?_ | refine Go.Rw.below_drewN ?_ _ | refine Go.Rw.below_setRow ?_ (by (try simp [size_beyond]) <;> omega) _ | refine Below.alloc ?_ (by (try simp [size_beyond]) <;> omega) _ | refine Below.setCell ?_ (by (try simp [size_beyond]) <;> omega) _))
  have hs1 : W0.heap.size + 3 ≤ w1.heap.size := by subst hw1; rw [size_beyond]; simp [World.size_alloc]
  have S1 : blockOf w1 (W0.heap.size + 1) = some (.cells #[.int .u8 s] 5 (0, 0)) := by subst hw1; simp [go_sem, inW]
  have R1 : blockOf w1 (W0.heap.size + 2) = some (.cells #[.bool false] 4 (0, 0)) := by subst hw1; simp [go_sem, inW]
  clear hw1 K1
  go_wp2
  have HW : ∃ Wa, Wa = w1.alloc (.cells #[.slice q1 (elems xs).length c1] 27) := ⟨_, rfl⟩
  obtain ⟨Wa, HWa⟩ := HW
  have K3 : BlkAt W0.heap.size (rowW xs) 25 Wa := by subst HWa; exact K2.below (by repeat (first | assumption | exact Below.refl _ _ | exact below_beyond _ _ | refine Below.beyond ?_ (by (try simp [size_beyond]) <;> omega) _ | refine Below.drew ?_ | refine Go.Rw.below_drewN ?_ _ | refine Go.Rw.below_setRow ?_ (by (try simp [size_beyond]) <;> omega) _ | refine Below.alloc ?_ (by (try simp [size_beyond]) <;> omega) _ | refine Below.setCell ?_ (by (try simp [size_beyond]) <;> omega) _))
  have H3 : IsAt q1 (elems xs).length c1 (elems xs) Wa := by subst HWa; exact H1.below (by repeat (first | assumption | exact Below.refl _ _ | exact below_beyond _ _ | refine Below.beyond ?_ (by (try simp [size_beyond]) <;> omega) _ | refine Below.drew ?_ | refine Go.Rw.below_drewN ?_ _ | refine Go.Rw.below_setRow ?_ (by (try simp [size_beyond]) <;> omega) _ | refine Below.alloc ?_ (by (try simp [size_beyond]) <;> omega) _ | refine Below.setCell ?_ (by (try simp [size_beyond]) <;> omega) _))
  have V3 : blockOf Wa w1.heap.size = some (.cells #[.slice q1 (elems xs).length c1] 27 (0, 0)) := by subst HWa; simp [go_sem, inW]
  have B3 : Below W0.heap.size W0 Wa := by subst HWa; exact B1.trans (by repeat (first | assumption | exact Below.refl _ _ | exact below_beyond _ _ | refine Below.beyond ?_ (by (try simp [size_beyond]) <;> omega) _ | refine Below.drew ?_ | refine Go.Rw.below_drewN ?_ _ | refine Go.Rw.below_setRow ?_ (by (try simp [size_beyond]) <;> omega) _ | refine Below.alloc ?_ (by (try simp [size_beyond]) <;> omega) _ | refine Below.setCell ?_ (by (try simp [size_beyond]) <;> omega) _))
  have hs3 : Wa.heap.size = w1.heap.size + 1 := by subst HWa; rw [World.size_alloc]
  have S3 : blockOf Wa (W0.heap.size + 1) = some (.cells #[.int .u8 s] 5 (0, 0)) := by subst HWa; exact (((Below.refl _ w1).alloc (Nat.le_refl _) _).block (W0.heap.size + 1) (by omega)).trans S1
  have R3 : blockOf Wa (W0.heap.size + 2) = some (.cells #[.bool false] 4 (0, 0)) := by subst HWa; exact (((Below.refl _ w1).alloc (Nat.le_refl _) _).block (W0.heap.size + 2) (by omega)).trans R1
  have T3 := Lib.hid (TZ.out.belowN h0 B3)
  rw [← HWa]
  clear HWa
  refine wp_only ?_
  refine wp_region_plan (fun w' => ∃ x, w' = beyond Wa x) [([0, 2], 1), ([], 3), ([4, 5, 6, 9, 10], 7)] [8, 11, 12] (by kernel_rfl) (by kernel_rfl) (by rintro c a d v w ⟨h, _⟩; cases h) (beyond_of (by repeat (first | assumption | exact Below.refl _ _ | exact below_beyond _ _ | refine Below.beyond ?_ (by (try simp [size_beyond]) <;> omega) _ | refine Below.drew ?_ | refine Go.Rw.below_drewN ?_ _ | refine Go.Rw.below_setRow ?_ (by (try simp [size_beyond]) <;> omega) _ | refine Below.alloc ?_ (by (try simp [size_beyond]) <;> omega) _ | refine Below.setCell ?_ (by (try simp [size_beyond]) <;> omega) _))) ?_
  simp only [wpSegs, pick, List.filterMap, List.size_toArray, List.getElem?_toArray, List.getElem?_cons_zero, List.getElem?_cons_succ]
  refine wpQuiet_load_row (by kernel_rfl) 25 (.tmp 2) rfl W0.heap.size (rowW xs) 25 _ rfl (by rintro _ ⟨x, rfl⟩; exact (BlkAt.below K3 (below_beyond _ _)).all) Tryd.underlying25 rfl (by rw [HZ.out]; exact sInfo) ?_
  simp only [Act.put, List.setIfInBounds_toArray, List.set_cons_succ, List.set_cons_zero]
  have VC : ∀ x, (beyond Wa x).cell? ⟨w1.heap.size, 0, none⟩ = some (.slice q1 (elems xs).length c1) := fun x => by
    have := ((below_beyond Wa x).block w1.heap.size (by omega)).trans V3
    simp [World.cell?, this]
  refine wpQuiet_load_cell (by kernel_rfl) 27 (.tmp 5) rfl _ _ _ rfl (by rintro _ ⟨x, rfl⟩; exact VC x) Tryd.underlying27 ?_
  simp only [Act.put, List.setIfInBounds_toArray, List.set_cons_succ, List.set_cons_zero]
  refine wpQuiet_nil ?_
  go_wp2_with (fail)
  go_at_call 37
  (refine (elements_at HX.out _ (T3.out.below (by repeat (first | assumption | exact Below.refl _ _ | exact below_beyond _ _ | refine Below.beyond ?_ (by (try simp [size_beyond]) <;> omega) _ | refine Below.drew ?_ | refine Go.Rw.below_drewN ?_ _ | refine Go.Rw.below_setRow ?_ (by (try simp [size_beyond]) <;> omega) _ | refine Below.alloc ?_ (by (try simp [size_beyond]) <;> omega) _ | refine Below.setCell ?_ (by (try simp [size_beyond]) <;> omega) _))) (by first | omega | (simp; omega) | (rw [size_beyond]; simp; omega))).mono ?_; rintro e w2 ⟨q2, m2, c2, y2, rfl, rfl, H2⟩)
  go_wp2
  refine ⟨beyond_of (by repeat (first | assumption | exact Below.refl _ _ | exact below_beyond _ _ | refine Below.beyond ?_ (by (try simp [size_beyond]) <;> omega) _ | refine Below.drew ?_ | refine Go.Rw.below_drewN ?_ _ | refine Go.Rw.below_setRow ?_ (by (try simp [size_beyond]) <;> omega) _ | refine Below.alloc ?_ (by (try simp [size_beyond]) <;> omega) _ | refine Below.setCell ?_ (by (try simp [size_beyond]) <;> omega) _)), wpQuiet_nil ?_⟩
  go_wp2_with (go_at_call 17; refine (same_at (by first | (with_reducible assumption) | (refine IsAt.below (by with_reducible assumption) ?_; exact (by repeat (first | assumption | exact Below.refl _ _ | exact below_beyond _ _ | refine Below.beyond ?_ (by (try simp [size_beyond]) <;> omega) _ | refine Below.drew ?_ | refine Go.Rw.below_drewN ?_ _ | refine Go.Rw.below_setRow ?_ (by (try simp [size_beyond]) <;> omega) _ | refine Below.alloc ?_ (by (try simp [size_beyond]) <;> omega) _ | refine Below.setCell ?_ (by (try simp [size_beyond]) <;> omega) _)))) (by first | (with_reducible assumption) | (refine IsAt.below (by with_reducible assumption) ?_; exact (by repeat (first | assumption | exact Below.refl _ _ | exact below_beyond _ _ | refine Below.beyond ?_ (by (try simp [size_beyond]) <;> omega) _ | refine Below.drew ?_ | refine Go.Rw.below_drewN ?_ _ | refine Go.Rw.below_setRow ?_ (by (try simp [size_beyond]) <;> omega) _ | refine Below.alloc ?_ (by (try simp [size_beyond]) <;> omega) _ | refine Below.setCell ?_ (by (try simp [size_beyond]) <;> omega) _))))).mono ?_; rintro e w3 ⟨rfl, y3, rfl⟩)
  refine ⟨beyond_of (by repeat (first | assumption | exact Below.refl _ _ | exact below_beyond _ _ | refine Below.beyond ?_ (by (try simp [size_beyond]) <;> omega) _ | refine Below.drew ?_ | refine Go.Rw.below_drewN ?_ _ | refine Go.Rw.below_setRow ?_ (by (try simp [size_beyond]) <;> omega) _ | refine Below.alloc ?_ (by (try simp [size_beyond]) <;> omega) _ | refine Below.setCell ?_ (by (try simp [size_beyond]) <;> omega) _)), ?_⟩
  iterate 2 (go_big_quiet_step (fail))
  refine wpQuiet_load_row (by kernel_rfl) 25 (.tmp 2) rfl W0.heap.size (rowW xs) 25 _ rfl (by rintro _ ⟨x, rfl⟩; exact (BlkAt.below K3 (below_beyond _ _)).all) Tryd.underlying25 rfl (by rw [HZ.out]; exact sInfo) ?_
  simp only [Act.put, List.setIfInBounds_toArray, List.set_cons_succ, List.set_cons_zero]
  refine wpQuiet_load_cell (by kernel_rfl) 27 (.tmp 5) rfl _ _ _ rfl (by rintro _ ⟨x, rfl⟩; exact VC x) Tryd.underlying27 ?_
  simp only [Act.put, List.setIfInBounds_toArray, List.set_cons_succ, List.set_cons_zero]
  repeat (go_big_quiet_step (fail))
  refine wpQuiet_nil ?_
  go_wp2_with (fail)
  go_at_call 37
  refine (elements_at HX.out _ (T3.out.below (by repeat (first | assumption | exact Below.refl _ _ | exact below_beyond _ _ | refine Below.beyond ?_ (by (try simp [size_beyond]) <;> omega) _ | refine Below.drew ?_ | refine Go.Rw.below_drewN ?_ _ | refine Go.Rw.below_setRow ?_ (by (try simp [size_beyond]) <;> omega) _ | refine Below.alloc ?_ (by (try simp [size_beyond]) <;> omega) _ | refine Below.setCell ?_ (by (try simp [size_beyond]) <;> omega) _))) (by first | omega | (simp; omega) | (rw [size_beyond, size_beyond]; simp; omega))).mono ?_
  rintro e w4 ⟨q4, m4, c4, y4, rfl, rfl, H4⟩
  obtain rfl : m4 = (elems xs).length := H4.all.1
  go_wp2
  refine ⟨beyond_of (by repeat (first | assumption | exact Below.refl _ _ | exact below_beyond _ _ | refine Below.beyond ?_ (by (try simp [size_beyond]) <;> omega) _ | refine Below.drew ?_ | refine Go.Rw.below_drewN ?_ _ | refine Go.Rw.below_setRow ?_ (by (try simp [size_beyond]) <;> omega) _ | refine Below.alloc ?_ (by (try simp [size_beyond]) <;> omega) _ | refine Below.setCell ?_ (by (try simp [size_beyond]) <;> omega) _)), ?_⟩
  repeat (go_big_quiet_step (fail))
  refine wpQuiet_nil ?_
  obtain ⟨W2, hW2⟩ : ∃ W2, W2 = beyond (beyond (beyond Wa.drew y2) y3) y4 := ⟨_, rfl⟩
  have HB4 : Below Wa.heap.size Wa W2 := by subst hW2; exact (by repeat (first | assumption | exact Below.refl _ _ | exact below_beyond _ _ | refine Below.beyond ?_ (by (try simp [size_beyond]) <;> omega) _ | refine Below.drew ?_ | refine Go.Rw.below_drewN ?_ _ | refine Go.Rw.below_setRow ?_ (by (try simp [size_beyond]) <;> omega) _ | refine Below.alloc ?_ (by (try simp [size_beyond]) <;> omega) _ | refine Below.setCell ?_ (by (try simp [size_beyond]) <;> omega) _))
  rw [← hW2]
  clear hW2 H2 H4
  have K4 := K3.below HB4
  have A4 := H3.below HB4
  have V4 := (HB4.block w1.heap.size (by omega)).trans V3
  have S4 := (HB4.block (W0.heap.size + 1) (by omega)).trans S3
  have R4 := (HB4.block (W0.heap.size + 2) (by omega)).trans R3
  have B4 : Below W0.heap.size W0 W2 := B3.trans (HB4.mono (by omega))
  have hs4 : w1.heap.size + 1 ≤ W2.heap.size := by have := HB4.size; omega
  clear HB4 K3 H3 V3 S3 R3 VC
  go_wp2_with (fail)
  refine ⟨trivial, ?_⟩
  go_wp2_with (refine wpList_load_any (by kernel_rfl) 25 (.tmp 2) rfl _ (rowW xs) 25 _ rfl (BlkAt.all (by first | (with_reducible assumption) | (refine BlkAt.below (by with_reducible assumption) ?_; exact (by repeat (first | assumption | exact Below.refl _ _ | exact below_beyond _ _ | refine Below.beyond ?_ (by (try simp [size_beyond]) <;> omega) _ | refine Below.drew ?_ | refine Go.Rw.below_drewN ?_ _ | refine Go.Rw.below_setRow ?_ (by (try simp [size_beyond]) <;> omega) _ | refine Below.alloc ?_ (by (try simp [size_beyond]) <;> omega) _ | refine Below.setCell ?_ (by (try simp [size_beyond]) <;> omega) _))))) Tryd.underlying25 rfl (by rw [HZ.out]; exact sInfo) ?_)
  go_at_call 38
  refine (HAl.out _).mono ?_
  rintro e w5 ⟨rfl, rfl⟩
  go_wp2
  have bN := Boxed.new W2 3 (.int .i64 0)
  have hB0 : Below W2.heap.size W2 ((W2.alloc (.cells #[.int .i64 0] 3)).alloc (.cells (rowW xs) 25)) := ((Below.refl _ W2).alloc (Nat.le_refl _) _).alloc (by simp) _
  have hTc := TZ.out.belowN h0 (B4.trans (hB0.mono (by omega)))
  have hlen' : (elems xs).length ≤ 1024 := ofN_len (bitAt xs) 1024
  have HR := Lib.hid A4.all.2.2.2.2
  refine (wpIn_wide (n := 5)).1 ?_
  refine wpIn_rangeFunc_ownG rfl (by omega) (gf := 57) (lb := #[.pointer (some ⟨W2.heap.size + 1, 0, none⟩)]) rfl trivial (enters_of Tryd.func57 (by kernel_rfl) rfl)
    (all_stops 4 (W2.heap.size + 1) W2.heap.size HX.out (by omega) _ (T := 25) (by simp) (by simp) (by simp [go_sem]) hTc) belowK_t (belowK_b (by simp; omega)) (Below.refl _ _) (fun _ => rfl)
    (fun pre W => (Boxed W W2.heap.size 3 (.int .i64 (pre.length : Nat)) ∧ pre <+: elems xs) ∧ Below W2.heap.size W2 W)
    (fun c pre W => match c with
      | .exit k => (Boxed W W2.heap.size 3 (.int .i64 (pre.length : Nat)) ∧ (k = 0 ∧ ((pre.length : Nat) : Int) = s)) ∧ Below W2.heap.size W2 W
      | _ => ¬ pre <+: elems xs)
    (OwnFrom.and (OwnFrom.and (Own.from (boxed_own _ _ (fun pre : List Int => .int .i64 (pre.length : Nat))) _) (ownFrom_pure _ _)) (ownFrom_below (Nat.le_refl _) (by simp; omega)))
    (fun c => by
      cases c
      case exit k => exact OwnFrom.and (OwnFrom.and (Own.from (boxed_own _ _ (fun pre : List Int => .int .i64 (pre.length : Nat))) _) (ownFrom_pure _ _)) (ownFrom_below (Nat.le_refl _) (by simp; omega))
      all_goals exact ownFrom_pure _ _)
    ⟨⟨bN.alloc _, List.nil_prefix⟩, hB0⟩
    (fun x => { tmps := #[.agg (rowW xs), .int .u8 s, .pointer (some ⟨W0.heap.size, 0, none⟩), .pointer (some ⟨W0.heap.size + 1, 0, none⟩), .pointer (some ⟨W0.heap.size + 1 + 1, 0, none⟩), .pointer (some ⟨w1.heap.size, 0, none⟩), .pointer (some ⟨W2.heap.size, 0, none⟩), .int .i64 x, undef, .agg (rowW xs), .slice q1 (elems xs).length c1, .agg (rowW xs), .slice q2 m2 c2, .slice q1 (elems xs).length c1, .bool true, .bool false, .bool false, .agg (rowW xs), .slice q4 (elems xs).length c4, .int .i64 ((elems xs).length : Nat), .slice q1 (elems xs).length c1, .int .i64 ((elems xs).length : Nat), .bool false, .bool false, .agg (rowW xs), .func (.func 57) #[] #[.pointer (some ⟨W2.heap.size + 1, 0, none⟩)], .int .i64 x, undef, undef, undef, undef, undef, undef, undef, undef, undef, undef, undef, undef, undef, undef, undef, undef, undef, undef, undef, undef, undef, undef, undef, undef, undef, undef, undef, undef, undef, undef, undef, undef, undef, undef, undef, undef, undef, undef, undef, undef], defers := [] }) ?assign ?body ?done ?stop
  case assign =>
    intro l x W K hK
    gi_wp2
    exact hK
  case body =>
    rintro l pre x W ⟨⟨hn, hp⟩, hB⟩ hlt
    have hc := hn.cell
    have hf := hn.frozen
    have VC : W.cell? ⟨w1.heap.size, 0, none⟩ = some (.slice q1 (elems xs).length c1) := by
      have := (hB.block w1.heap.size (by omega)).trans V4
      simp [World.cell?, this]
    have SC : W.cell? ⟨W0.heap.size + 1, 0, none⟩ = some (.int .u8 s) := by
      have := (hB.block (W0.heap.size + 1) (by omega)).trans S4
      simp [World.cell?, this]
    have RC : W.cell? ⟨W0.heap.size + 1 + 1, 0, none⟩ = some (.bool false) ∧ W.frozen? ⟨W0.heap.size + 1 + 1, 0, none⟩ = false := by
      have := (hB.block (W0.heap.size + 2) (by omega)).trans R4
      constructor <;> simp [World.cell?, World.frozen?, this]
    obtain ⟨RC1, RC2⟩ := RC
    by_cases h2 : pre.length < (elems xs).length
    · obtain ⟨b, off, u, rfl, hu, hbw, hcu⟩ := HR.out.at (k := pre.length) h2
      have hcu := (hB.cell (p := ⟨b, off + pre.length, none⟩) hbw).trans hcu
      by_cases hxu : x = u
      · by_cases hst : ((pre.length : Nat) : Int) + 1 = s
        · gi_wp2
          have e : (((pre ++ [x]).length : Nat) : Int) = s := by simp; omega
          exact ⟨(KeepsOthers.setCell _ _ _).from _, ⟨by rw [e]; exact hn.set _, rfl, e⟩, hB.setCell (p := ⟨W2.heap.size, 0, none⟩) (Nat.le_refl _) _⟩
        · gi_wp2
          have e : (((pre ++ [x]).length : Nat) : Int) = (pre.length : Int) + 1 := by simp
          exact ⟨(KeepsOthers.setCell _ _ _).from _, (Below.refl W2.heap.size W).setCell (p := ⟨W2.heap.size, 0, none⟩) (Nat.le_refl _) _, ⟨by rw [e]; exact hn.set _, by rw [hxu]; exact pre_snoc hp hu⟩, hB.setCell (p := ⟨W2.heap.size, 0, none⟩) (Nat.le_refl _) _⟩
      · gi_wp2
        all_goals first
          | exact ⟨(KeepsOthers.setCell _ _ _).from _, fun h => by have := pre_at h; rw [hu] at this; cases this; exact hxu rfl⟩
          | (exfalso; rename_i hq _; exact absurd hq.2 (by simp [hxu]))
    · gi_wp2
      exact ⟨(KeepsOthers.setCell _ _ _).from _, fun h => by have := h.length_le; simp at this; omega⟩
  case done =>
    rintro D ys W hD rfl ⟨⟨hn, hp⟩, hB⟩ hK
    have hc := hn.cell
    have VC : W.cell? ⟨w1.heap.size, 0, none⟩ = some (.slice q1 (elems xs).length c1) := by
      have := (hB.block w1.heap.size (by omega)).trans V4
      simp [World.cell?, this]
    have SC : W.cell? ⟨W0.heap.size + 1, 0, none⟩ = some (.int .u8 s) := by
      have := (hB.block (W0.heap.size + 1) (by omega)).trans S4
      simp [World.cell?, this]
    have hsz := hB.size
    have K5 : BlkAt W0.heap.size (rowW xs) 25 W := ⟨(hB.block W0.heap.size (by omega)).trans K4.all⟩
    go_wp2_with (refine wpList_load_any (by kernel_rfl) 25 (.tmp 2) rfl _ (rowW xs) 25 _ rfl (BlkAt.all (by first | (with_reducible assumption) | (refine BlkAt.below (by with_reducible assumption) ?_; exact (by repeat (first | assumption | exact Below.refl _ _ | exact below_beyond _ _ | refine Below.beyond ?_ (by (try simp [size_beyond]) <;> omega) _ | refine Below.drew ?_ | refine Go.Rw.below_drewN ?_ _ | refine Go.Rw.below_setRow ?_ (by (try simp [size_beyond]) <;> omega) _ | refine Below.alloc ?_ (by (try simp [size_beyond]) <;> omega) _ | refine Below.setCell ?_ (by (try simp [size_beyond]) <;> omega) _))))) Tryd.underlying25 rfl (by rw [HZ.out]; exact sInfo) ?_)
    go_at_call 38
    refine (HAl.out _).mono ?_
    rintro e w5 ⟨rfl, rfl⟩
    go_wp2
    have bM := Boxed.new W 3 (.int .i64 0)
    have hB5 : Below W.heap.size W ((W.alloc (.cells #[.int .i64 0] 3)).alloc (.cells (rowW xs) 25)) := ((Below.refl _ W).alloc (Nat.le_refl _) _).alloc (by simp) _
    have hTd := TZ.out.belowN h0 (B4.trans ((hB.mono (by omega)).trans (hB5.mono (by omega))))
    refine (wpIn_wide (n := 5)).1 ?_
    refine wpIn_rangeFunc_ownG rfl (by omega) (gf := 57) (lb := #[.pointer (some ⟨W.heap.size + 1, 0, none⟩)]) rfl trivial (enters_of Tryd.func57 (by kernel_rfl) rfl)
      (all_stops 4 (W.heap.size + 1) W.heap.size HX.out (by omega) _ (T := 25) (by simp) (by simp) (by simp [go_sem]) hTd) belowK_t (belowK_b (by simp; omega)) (Below.refl _ _) (fun _ => rfl)
      (fun pre X => Boxed X W.heap.size 3 (.int .i64 (pre.length : Nat)) ∧ Below W.heap.size W X)
      (fun _ _ _ => False)
      (OwnFrom.and (Own.from (boxed_own _ _ (fun pre : List Int => .int .i64 (pre.length : Nat))) _) (ownFrom_below (Nat.le_refl _) (by simp; omega)))
      (fun _ => ownFrom_pure _ _)
      ⟨bM.alloc _, hB5⟩ ?a1 ?assign2 ?body2 ?done2 ?stop2
    case assign2 =>
      intro l x W K hK
      gi_wp2
      exact hK
    case body2 =>
      rintro l pre x X ⟨hm, hB6⟩ hlt
      have hc6 := hm.cell
      have hf6 := hm.frozen
      gi_wp2
      have e : (((pre ++ [x]).length : Nat) : Int) = (pre.length : Int) + 1 := by simp
      exact ⟨(KeepsOthers.setCell _ _ _).from _, (Below.refl W.heap.size X).setCell (p := ⟨W.heap.size, 0, none⟩) (Nat.le_refl _) _, by rw [e]; exact hm.set _, hB6.setCell (p := ⟨W.heap.size, 0, none⟩) (Nat.le_refl _) _⟩
    case stop2 =>
      rintro D2 c2 pre X _ _ h _
      exact h.elim
    case done2 =>
      rintro D2 ys X hD2 rfl ⟨hm, hB6⟩ hK2
      have hK1 := (hB6.block D (Array.getElem?_eq_some_iff.1 hK).1).trans hK
      have hBX : Below W0.heap.size W0 X := B4.trans ((hB.mono (by omega)).trans (hB6.mono (by omega)))
      have V6 := (hB6.block w1.heap.size (by omega)).trans ((hB.block w1.heap.size (by omega)).trans V4)
      have R6 := (hB6.block (W0.heap.size + 2) (by omega)).trans ((hB.block (W0.heap.size + 2) (by omega)).trans R4)
      go_wp2_with (fail)
      go_at_call 24
      refine (KK.out X hBX).mono ?_
      rintro e w6 ⟨rfl, hw6⟩
      have hB7 : Below X.heap.size X w6 := by obtain ⟨y, rfl⟩ := hw6; exact below_beyond _ _
      clear hw6
      have hsX := hB6.size
      have hsBX := hBX.size
      have hs67 := hB7.size
      rw [World.size_alloc, World.size_alloc] at hD hD2
      have hDX := (Array.getElem?_eq_some_iff.1 hK2).1
      have hDW := (Array.getElem?_eq_some_iff.1 hK).1
      have MC : w6.cell? ⟨W.heap.size, 0, none⟩ = some (.int .i64 ((elems xs).length : Nat)) := (hB7.cell (p := ⟨W.heap.size, 0, none⟩) hm.lt).trans hm.cell
      have VC6 : w6.cell? ⟨w1.heap.size, 0, none⟩ = some (.slice q1 (elems xs).length c1) := by
        have := (hB7.block w1.heap.size (by omega)).trans V6
        simp [World.cell?, this]
      have R7 : Boxed w6 (W0.heap.size + 1 + 1) 4 (.bool false) := (hB7.block (W0.heap.size + 2) (by omega)).trans R6
      have RC := R7.cell
      have RF := R7.frozen
      have hK2' := (hB7.block D2 hDX).trans hK2
      have hK1' := (hB7.block D (by omega)).trans hK1
      go_wp2
      have hY2 := (KeepsOthers.setCell w6 ⟨W0.heap.size + 1 + 1, 0, none⟩ (.bool true)).same D2 _ hK2' rfl
      have hY1 := (KeepsOthers.setCell w6 ⟨W0.heap.size + 1 + 1, 0, none⟩ (.bool true)).same D _ hK1' rfl
      have R8 := R7.set (.bool true)
      have BY : Below W0.heap.size W0 (w6.setCell ⟨W0.heap.size + 1 + 1, 0, none⟩ (.bool true)) := (hBX.trans (hB7.mono (by omega))).setCell (p := ⟨W0.heap.size + 1 + 1, 0, none⟩) (show W0.heap.size ≤ W0.heap.size + 1 + 1 by omega) _
      obtain ⟨Y, hY⟩ : ∃ Y, Y = w6.setCell ⟨W0.heap.size + 1 + 1, 0, none⟩ (.bool true) := ⟨_, rfl⟩
      rw [← hY] at hY2 hY1 R8 BY ⊢
      clear hY
      refine ⟨by simp, .inl ⟨_, _, rfl, run_takeDeferred hY2, ?_⟩⟩
      have hD1 := ((grownBy_putObj' Y D2 (.deferred none)).block D (Array.getElem?_eq_some_iff.1 hY1).1 (by intro e; cases e; omega)).trans hY1
      have R9 := R8.kept (grownBy_putObj' Y D2 (.deferred none)) (by intro e; cases e; omega)
      have BZ := BY.trans (belowK_b (w := W0) (Nat.le_refl _) Y D2 _ (.deferred none) (by omega) hY2 rfl rfl)
      refine ⟨by simp, .inl ⟨_, _, rfl, run_takeDeferred hD1, ?_⟩⟩
      have R10 := R9.kept (grownBy_putObj' _ D (.deferred none)) (by intro e; cases e; omega)
      have BQ := BZ.trans (belowK_b (w := W0) (Nat.le_refl _) _ D _ (.deferred none) (by omega) hD1 rfl rfl)
      exact ⟨_, results_box rfl _ _ _ _ _ rfl R10 Tryd.underlying4, rfl, beyond_of BQ⟩
  case stop =>
    rintro D c pre W hD hpre hI hK
    cases c
    case exit k =>
      obtain ⟨⟨hn, rfl, hs2⟩, hB⟩ := hI
      refine wpIn_wide.2 ?_
      by_cases hpl : pre.length = (elems xs).length
      · have hc := hn.cell
        have VC : W.cell? ⟨w1.heap.size, 0, none⟩ = some (.slice q1 (elems xs).length c1) := by
          have := (hB.block w1.heap.size (by omega)).trans V4
          simp [World.cell?, this]
        have SC : W.cell? ⟨W0.heap.size + 1, 0, none⟩ = some (.int .u8 s) := by
          have := (hB.block (W0.heap.size + 1) (by omega)).trans S4
          simp [World.cell?, this]
        have hsz := hB.size
        have K5 : BlkAt W0.heap.size (rowW xs) 25 W := ⟨(hB.block W0.heap.size (by omega)).trans K4.all⟩
        go_wp2_with (refine wpList_load_any (by kernel_rfl) 25 (.tmp 2) rfl _ (rowW xs) 25 _ rfl (BlkAt.all (by first | (with_reducible assumption) | (refine BlkAt.below (by with_reducible assumption) ?_; exact (by repeat (first | assumption | exact Below.refl _ _ | exact below_beyond _ _ | refine Below.beyond ?_ (by (try simp [size_beyond]) <;> omega) _ | refine Below.drew ?_ | refine Go.Rw.below_drewN ?_ _ | refine Go.Rw.below_setRow ?_ (by (try simp [size_beyond]) <;> omega) _ | refine Below.alloc ?_ (by (try simp [size_beyond]) <;> omega) _ | refine Below.setCell ?_ (by (try simp [size_beyond]) <;> omega) _))))) Tryd.underlying25 rfl (by rw [HZ.out]; exact sInfo) ?_)
        go_at_call 38
        refine (HAl.out _).mono ?_
        rintro e w5 ⟨rfl, rfl⟩
        go_wp2
        have bM := Boxed.new W 3 (.int .i64 0)
        have hB5 : Below W.heap.size W ((W.alloc (.cells #[.int .i64 0] 3)).alloc (.cells (rowW xs) 25)) := ((Below.refl _ W).alloc (Nat.le_refl _) _).alloc (by simp) _
        have hTd := TZ.out.belowN h0 (B4.trans ((hB.mono (by omega)).trans (hB5.mono (by omega))))
        refine (wpIn_wide (n := 5)).1 ?_
        refine wpIn_rangeFunc_ownG rfl (by omega) (gf := 57) (lb := #[.pointer (some ⟨W.heap.size + 1, 0, none⟩)]) rfl trivial (enters_of Tryd.func57 (by kernel_rfl) rfl)
          (all_stops 4 (W.heap.size + 1) W.heap.size HX.out (by omega) _ (T := 25) (by simp) (by simp) (by simp [go_sem]) hTd) belowK_t (belowK_b (by simp; omega)) (Below.refl _ _) (fun _ => rfl)
          (fun pre X => Boxed X W.heap.size 3 (.int .i64 (pre.length : Nat)) ∧ Below W.heap.size W X)
          (fun _ _ _ => False)
          (OwnFrom.and (Own.from (boxed_own _ _ (fun pre : List Int => .int .i64 (pre.length : Nat))) _) (ownFrom_below (Nat.le_refl _) (by simp; omega)))
          (fun _ => ownFrom_pure _ _)
          ⟨bM.alloc _, hB5⟩ ?a1y ?assign2y ?body2y ?done2y ?stop2y
        case assign2y =>
          intro l x W K hK
          gi_wp2
          exact hK
        case body2y =>
          rintro l pre x X ⟨hm, hB6⟩ hlt
          have hc6 := hm.cell
          have hf6 := hm.frozen
          gi_wp2
          have e : (((pre ++ [x]).length : Nat) : Int) = (pre.length : Int) + 1 := by simp
          exact ⟨(KeepsOthers.setCell _ _ _).from _, (Below.refl W.heap.size X).setCell (p := ⟨W.heap.size, 0, none⟩) (Nat.le_refl _) _, by rw [e]; exact hm.set _, hB6.setCell (p := ⟨W.heap.size, 0, none⟩) (Nat.le_refl _) _⟩
        case stop2y =>
          rintro D2 c2 pre X _ _ h _
          exact h.elim
        case done2y =>
          rintro D2 ys X hD2 rfl ⟨hm, hB6⟩ hK2
          have hK1 := (hB6.block D (Array.getElem?_eq_some_iff.1 hK).1).trans hK
          have hBX : Below W0.heap.size W0 X := B4.trans ((hB.mono (by omega)).trans (hB6.mono (by omega)))
          have V6 := (hB6.block w1.heap.size (by omega)).trans ((hB.block w1.heap.size (by omega)).trans V4)
          have R6 := (hB6.block (W0.heap.size + 2) (by omega)).trans ((hB.block (W0.heap.size + 2) (by omega)).trans R4)
          go_wp2_with (fail)
          go_at_call 24
          refine (KK.out X hBX).mono ?_
          rintro e w6 ⟨rfl, hw6⟩
          have hB7 : Below X.heap.size X w6 := by obtain ⟨y, rfl⟩ := hw6; exact below_beyond _ _
          clear hw6
          have hsX := hB6.size
          have hsBX := hBX.size
          have hs67 := hB7.size
          rw [World.size_alloc, World.size_alloc] at hD hD2
          have hDX := (Array.getElem?_eq_some_iff.1 hK2).1
          have hDW := (Array.getElem?_eq_some_iff.1 hK).1
          have MC : w6.cell? ⟨W.heap.size, 0, none⟩ = some (.int .i64 ((elems xs).length : Nat)) := (hB7.cell (p := ⟨W.heap.size, 0, none⟩) hm.lt).trans hm.cell
          have VC6 : w6.cell? ⟨w1.heap.size, 0, none⟩ = some (.slice q1 (elems xs).length c1) := by
            have := (hB7.block w1.heap.size (by omega)).trans V6
            simp [World.cell?, this]
          have R7 : Boxed w6 (W0.heap.size + 1 + 1) 4 (.bool false) := (hB7.block (W0.heap.size + 2) (by omega)).trans R6
          have RC := R7.cell
          have RF := R7.frozen
          have hK2' := (hB7.block D2 hDX).trans hK2
          have hK1' := (hB7.block D (by omega)).trans hK1
          go_wp2
          have hY2 := (KeepsOthers.setCell w6 ⟨W0.heap.size + 1 + 1, 0, none⟩ (.bool true)).same D2 _ hK2' rfl
          have hY1 := (KeepsOthers.setCell w6 ⟨W0.heap.size + 1 + 1, 0, none⟩ (.bool true)).same D _ hK1' rfl
          have R8 := R7.set (.bool true)
          have BY : Below W0.heap.size W0 (w6.setCell ⟨W0.heap.size + 1 + 1, 0, none⟩ (.bool true)) := (hBX.trans (hB7.mono (by omega))).setCell (p := ⟨W0.heap.size + 1 + 1, 0, none⟩) (show W0.heap.size ≤ W0.heap.size + 1 + 1 by omega) _
          obtain ⟨Y, hY⟩ : ∃ Y, Y = w6.setCell ⟨W0.heap.size + 1 + 1, 0, none⟩ (.bool true) := ⟨_, rfl⟩
          rw [← hY] at hY2 hY1 R8 BY ⊢
          clear hY
          refine ⟨by simp, .inl ⟨_, _, rfl, run_takeDeferred hY2, ?_⟩⟩
          have hD1 := ((grownBy_putObj' Y D2 (.deferred none)).block D (Array.getElem?_eq_some_iff.1 hY1).1 (by intro e; cases e; omega)).trans hY1
          have R9 := R8.kept (grownBy_putObj' Y D2 (.deferred none)) (by intro e; cases e; omega)
          have BZ := BY.trans (belowK_b (w := W0) (Nat.le_refl _) Y D2 _ (.deferred none) (by omega) hY2 rfl rfl)
          refine ⟨by simp, .inl ⟨_, _, rfl, run_takeDeferred hD1, ?_⟩⟩
          have R10 := R9.kept (grownBy_putObj' _ D (.deferred none)) (by intro e; cases e; omega)
          have BQ := BZ.trans (belowK_b (w := W0) (Nat.le_refl _) _ D _ (.deferred none) (by omega) hD1 rfl rfl)
          exact ⟨_, results_box rfl _ _ _ _ _ rfl R10 Tryd.underlying4, rfl, beyond_of BQ⟩
      · have hc := hn.cell
        have VC : W.cell? ⟨w1.heap.size, 0, none⟩ = some (.slice q1 (elems xs).length c1) := by
          have := (hB.block w1.heap.size (by omega)).trans V4
          simp [World.cell?, this]
        have SC : W.cell? ⟨W0.heap.size + 1, 0, none⟩ = some (.int .u8 s) := by
          have := (hB.block (W0.heap.size + 1) (by omega)).trans S4
          simp [World.cell?, this]
        have hsz := hB.size
        have K5 : BlkAt W0.heap.size (rowW xs) 25 W := ⟨(hB.block W0.heap.size (by omega)).trans K4.all⟩
        go_wp2_with (refine wpList_load_any (by kernel_rfl) 25 (.tmp 2) rfl _ (rowW xs) 25 _ rfl (BlkAt.all (by first | (with_reducible assumption) | (refine BlkAt.below (by with_reducible assumption) ?_; exact (by repeat (first | assumption | exact Below.refl _ _ | exact below_beyond _ _ | refine Below.beyond ?_ (by (try simp [size_beyond]) <;> omega) _ | refine Below.drew ?_ | refine Go.Rw.below_drewN ?_ _ | refine Go.Rw.below_setRow ?_ (by (try simp [size_beyond]) <;> omega) _ | refine Below.alloc ?_ (by (try simp [size_beyond]) <;> omega) _ | refine Below.setCell ?_ (by (try simp [size_beyond]) <;> omega) _))))) Tryd.underlying25 rfl (by rw [HZ.out]; exact sInfo) ?_)
        go_at_call 38
        refine (HAl.out _).mono ?_
        rintro e w5 ⟨rfl, rfl⟩
        go_wp2
        have bM := Boxed.new W 3 (.int .i64 0)
        have hB5 : Below W.heap.size W ((W.alloc (.cells #[.int .i64 0] 3)).alloc (.cells (rowW xs) 25)) := ((Below.refl _ W).alloc (Nat.le_refl _) _).alloc (by simp) _
        have hTd := TZ.out.belowN h0 (B4.trans ((hB.mono (by omega)).trans (hB5.mono (by omega))))
        refine (wpIn_wide (n := 5)).1 ?_
        refine wpIn_rangeFunc_ownG rfl (by omega) (gf := 57) (lb := #[.pointer (some ⟨W.heap.size + 1, 0, none⟩)]) rfl trivial (enters_of Tryd.func57 (by kernel_rfl) rfl)
          (all_stops 4 (W.heap.size + 1) W.heap.size HX.out (by omega) _ (T := 25) (by simp) (by simp) (by simp [go_sem]) hTd) belowK_t (belowK_b (by simp; omega)) (Below.refl _ _) (fun _ => rfl)
          (fun pre X => Boxed X W.heap.size 3 (.int .i64 (pre.length : Nat)) ∧ Below W.heap.size W X)
          (fun _ _ _ => False)
          (OwnFrom.and (Own.from (boxed_own _ _ (fun pre : List Int => .int .i64 (pre.length : Nat))) _) (ownFrom_below (Nat.le_refl _) (by simp; omega)))
          (fun _ => ownFrom_pure _ _)
          ⟨bM.alloc _, hB5⟩ ?a1z ?assign2z ?body2z ?done2z ?stop2z
        case assign2z =>
          intro l x W K hK
          gi_wp2
          exact hK
        case body2z =>
          rintro l pre x X ⟨hm, hB6⟩ hlt
          have hc6 := hm.cell
          have hf6 := hm.frozen
          gi_wp2
          have e : (((pre ++ [x]).length : Nat) : Int) = (pre.length : Int) + 1 := by simp
          exact ⟨(KeepsOthers.setCell _ _ _).from _, (Below.refl W.heap.size X).setCell (p := ⟨W.heap.size, 0, none⟩) (Nat.le_refl _) _, by rw [e]; exact hm.set _, hB6.setCell (p := ⟨W.heap.size, 0, none⟩) (Nat.le_refl _) _⟩
        case stop2z =>
          rintro D2 c2 pre X _ _ h _
          exact h.elim
        case done2z =>
          rintro D2 ys X hD2 rfl ⟨hm, hB6⟩ hK2
          have hK1 := (hB6.block D (Array.getElem?_eq_some_iff.1 hK).1).trans hK
          have hBX : Below W0.heap.size W0 X := B4.trans ((hB.mono (by omega)).trans (hB6.mono (by omega)))
          have V6 := (hB6.block w1.heap.size (by omega)).trans ((hB.block w1.heap.size (by omega)).trans V4)
          have R6 := (hB6.block (W0.heap.size + 2) (by omega)).trans ((hB.block (W0.heap.size + 2) (by omega)).trans R4)
          go_wp2_with (fail)
          go_at_call 24
          refine (KK.out X hBX).mono ?_
          rintro e w6 ⟨rfl, hw6⟩
          have hB7 : Below X.heap.size X w6 := by obtain ⟨y, rfl⟩ := hw6; exact below_beyond _ _
          clear hw6
          have hsX := hB6.size
          have hsBX := hBX.size
          have hs67 := hB7.size
          rw [World.size_alloc, World.size_alloc] at hD hD2
          have hDX := (Array.getElem?_eq_some_iff.1 hK2).1
          have hDW := (Array.getElem?_eq_some_iff.1 hK).1
          have MC : w6.cell? ⟨W.heap.size, 0, none⟩ = some (.int .i64 ((elems xs).length : Nat)) := (hB7.cell (p := ⟨W.heap.size, 0, none⟩) hm.lt).trans hm.cell
          have VC6 : w6.cell? ⟨w1.heap.size, 0, none⟩ = some (.slice q1 (elems xs).length c1) := by
            have := (hB7.block w1.heap.size (by omega)).trans V6
            simp [World.cell?, this]
          have R7 : Boxed w6 (W0.heap.size + 1 + 1) 4 (.bool false) := (hB7.block (W0.heap.size + 2) (by omega)).trans R6
          have RC := R7.cell
          have RF := R7.frozen
          have hK2' := (hB7.block D2 hDX).trans hK2
          have hK1' := (hB7.block D (by omega)).trans hK1
          go_wp2
          have hY2 := (KeepsOthers.setCell w6 ⟨W0.heap.size + 1 + 1, 0, none⟩ (.bool true)).same D2 _ hK2' rfl
          have hY1 := (KeepsOthers.setCell w6 ⟨W0.heap.size + 1 + 1, 0, none⟩ (.bool true)).same D _ hK1' rfl
          have R8 := R7.set (.bool true)
          have BY : Below W0.heap.size W0 (w6.setCell ⟨W0.heap.size + 1 + 1, 0, none⟩ (.bool true)) := (hBX.trans (hB7.mono (by omega))).setCell (p := ⟨W0.heap.size + 1 + 1, 0, none⟩) (show W0.heap.size ≤ W0.heap.size + 1 + 1 by omega) _
          obtain ⟨Y, hY⟩ : ∃ Y, Y = w6.setCell ⟨W0.heap.size + 1 + 1, 0, none⟩ (.bool true) := ⟨_, rfl⟩
          rw [← hY] at hY2 hY1 R8 BY ⊢
          clear hY
          refine ⟨by simp, .inl ⟨_, _, rfl, run_takeDeferred hY2, ?_⟩⟩
          have hD1 := ((grownBy_putObj' Y D2 (.deferred none)).block D (Array.getElem?_eq_some_iff.1 hY1).1 (by intro e; cases e; omega)).trans hY1
          have R9 := R8.kept (grownBy_putObj' Y D2 (.deferred none)) (by intro e; cases e; omega)
          have BZ := BY.trans (belowK_b (w := W0) (Nat.le_refl _) Y D2 _ (.deferred none) (by omega) hY2 rfl rfl)
          refine ⟨by simp, .inl ⟨_, _, rfl, run_takeDeferred hD1, ?_⟩⟩
          have R10 := R9.kept (grownBy_putObj' _ D (.deferred none)) (by intro e; cases e; omega)
          have BQ := BZ.trans (belowK_b (w := W0) (Nat.le_refl _) _ D _ (.deferred none) (by omega) hD1 rfl rfl)
          exact ⟨_, results_box rfl _ _ _ _ _ rfl R10 Tryd.underlying4, rfl, beyond_of BQ⟩
    all_goals exact absurd hpre hI
end Go.Proofs.YtjneboajbmabbaaDoor.ref1
