/-
  The elements of a set as a slice.
-/
import Derived.Test.YtjneboajbmabbaaDoorMB1
import Derived.Test.YtjneboajbmabbaaDoorMB2
import Derived.Test.YtjneboajbmabbaaDoorMLP1
import Derived.Test.YtjneboajbmabbaaDoorMLP2
import Derived.Test.YtjneboajbmabbaaDoorMLP3
import Derived.Test.YtjneboajbmabbaaDoorMLP4
import Derived.Test.YtjneboajbmabbaaDoorMLP5
import Derived.Test.YtjneboajbmabbaaDoorMLP6
import Derived.RangeFuncBox
import Derived.Maps.AppendAt
set_option linter.unusedSimpArgs false
set_option linter.unusedVariables false
namespace Go.Proofs.YtjneboajbmabbaaDoor.ref1
open Go.RowKit Go.Own Go.Rw Go.SetL Go.Bits Go.Tz Go.Shelf
set_option maxHeartbeats 1000000
set_option maxRecDepth 100000
attribute [local go_sem] Oper.semAt_some

theorem all_calls (xs : List W) (hx : xs.length = 16) (w : World) : Calls Tryd.prog 38 #[.agg (rowW xs)] w fun e w' => e = .returned (.func (.func 57) #[] #[.pointer (some ⟨w.heap.size, 0, none⟩)]) ∧ w' = w.alloc (.cells (rowW xs) 25) := by
  go_enter Tryd.func38, Tryd.ntmps38
  go_wp2
  go_ret
  exact ⟨rfl, rfl⟩
theorem infoInt : (Tryd.prog.info? 3).map (fun i => (i.zero, i.size, i.bytes)) = some (some (.int .i64 0), 1, 8) := by kernel_rfl

theorem wpListIn_make0 {F : Fence} {n : Nat} {P : Program} {ops : Array Oper} {rest : List Oper} {o : Oper} {a : Act} {w : World} {Q : Exit → Act → World → Prop} (hro : F.round = none) (hF : ∀ f, F.fn f) (hgd : o.guard = none)
    (t e : TypeId) (x : Operand) (ho : o.op = .makeSlice t (.const (.int .i64 0)) x) {c : Nat} (hx : a.eval x = .int .i64 c) (hc : c ≤ 1024)
    (i : TypeInfo) (z : Value) (hu : P.underlying t = some (.slice e)) (hi : P.info? e = some i) (hz : i.zero = some z) (hs : i.size = 1) (hb : i.bytes = 8)
    (h : wpListIn F n P ops Q rest (a.put o.dst (.slice (some ⟨w.heap.size, 0, none⟩) 0 c)) (w.alloc (.cells (madeCells z.cells c) e))) : wpListIn F n P ops Q (o :: rest) a w := by
  have hr := run_makeSlice (P := P) w t e i z hu hi hz .i64 .i64 0 c (Int.le_refl _) (by omega) (by rw [hs]; simp; omega) (by rw [hb]; omega) (by omega)
  rw [hs, Int.toNat_natCast, Nat.mul_one] at hr
  refine wpListIn_value hro hF hgd ?_ h
  unfold execOp
  simp only [ho, hx, BigFrame.eval_const]
  rw [Sem.run_bind, hr]
  rfl
theorem own_lower {w : World} {B B' : Nat} {T : TypeId} {v : Value} {n : Nat} {l : List Value} (h : B' ≤ B) (ho : w.ownsRow B T 1 v n l) : w.ownsRow B' T 1 v n l :=
  ⟨ho.1, ho.2.imp id fun ⟨g, cap, cur, e, hb, r⟩ => ⟨g, cap, cur, e, Nat.le_trans h hb, r⟩⟩
theorem elements_in (n : Nat) (hn : 3 ≤ n) {xs : List W} (hx : xs.length = 16) (w : World) (hT : TzW w) (h0 : 0 < w.heap.size) :
    CallsIn Fence.wide n Tryd.prog 37 #[.agg (rowW xs)] w fun e w' => ∃ v, e = .returned v ∧ Go.Rw.Own w' w.heap.size 3 v (elems xs) ∧ Below w.heap.size w w' := by
  have HZ := Lib.hid (show (rowW xs).size = 16 by rw [rowW_size, hx])
  have HT := Lib.hid hT; clear hT
  have HLn := Lib.hid (len_at hx)
  have HAl := Lib.hid (all_calls xs hx)
  have hlen' : (elems xs).length ≤ 1024 := ofN_len (bitAt xs) 1024
  obtain ⟨i0, hi, hz0, hz1, hz2⟩ := info_parts infoInt
  refine callsIn_of_wp_marks Tryd.func37 rfl trivial ?_ rfl
  simp only [Tryd.ntmps37, List.size_toArray, List.length_cons, List.length_nil, Nat.reduceAdd, Nat.reduceSub, Array.replicate_succ, Array.replicate_zero, List.push_toArray, List.append_toArray, List.nil_append, List.cons_append]
  gi_wp2_with (refine wpListIn_load_block rfl (fun _ => trivial) rfl 25 (.tmp 1) rfl w.heap.size (rowW xs) 25 _ rfl (by simp [go_sem]) Tryd.underlying25 rfl (by rw [HZ.out]; exact sInfo) ?_)
  refine ⟨trivial, (fun h => by cases h), ?_⟩
  refine (callsIn_wide.2 (HLn.out _)).mono ?_
  rintro e w1 ⟨rfl, hw1⟩
  have hb1 : blockOf w1 w.heap.size = some (.cells (rowW xs) 25 (0, 0)) := by obtain ⟨y, rfl⟩ := hw1; simp [go_sem]
  have hB1 : Below w.heap.size w w1 := by obtain ⟨y, rfl⟩ := hw1; exact (by repeat (first | assumption | exact Below.refl _ _ | exact below_beyond _ _ | refine Below.beyond ?_ (by (try simp [size_beyond]) <;> omega) _ | refine Below.drew ?_ | refine Go.Rw.below_drewN ?_ _ | refine Go.Rw.below_setRow ?_ (by (try simp [size_beyond]) <;> omega) _ | refine Below.alloc ?_ (by (try simp [size_beyond]) <;> omega) _ | refine Below.setCell ?_ (by (try simp [size_beyond]) <;> omega) _))
  have hs1 : w.heap.size + 1 ≤ w1.heap.size := by obtain ⟨y, rfl⟩ := hw1; rw [size_beyond, World.size_alloc]; omega
  clear hw1
  have HB1 := Lib.hid hB1
  have HS1 := Lib.hid hs1
  clear hB1
  gi_wp2_with (first
    | (refine wpListIn_make0 rfl (fun _ => trivial) rfl 22 3 (.tmp 6) rfl rfl hlen' i0 (.int .i64 0) Tryd.underlying22 hi hz0 hz1 hz2 ?_)
    | (refine wpListIn_load_block rfl (fun _ => trivial) rfl 25 (.tmp 1) rfl w.heap.size (rowW xs) 25 _ rfl (((((Below.refl (w.heap.size + 1) w1).alloc HS1.out _).alloc (by rw [World.size_alloc]; have := HS1.out; omega) _).block w.heap.size (by omega)).trans hb1) Tryd.underlying25 rfl (by rw [HZ.out]; exact sInfo) ?_))
  refine ⟨trivial, (fun h => by cases h), ?_⟩
  refine (callsIn_wide.2 (HAl.out _)).mono ?_
  rintro e w2 ⟨rfl, rfl⟩
  gi_wp2
  have hm : (elems xs).length ≤ maxLen := by unfold maxLen; omega
  have hrow0 : (w1.alloc (.cells (madeCells #[.int .i64 0] (elems xs).length) 3)).ownsRow w1.heap.size 3 1 (.slice (some ⟨w1.heap.size, 0, none⟩) 0 (elems xs).length) 0 [] := World.ownsRow_made w1 _ _ (Nat.le_refl _) hm (by rw [Nat.mul_one]; exact size_madeCells _ _)
  have bO := Boxed.new (w1.alloc (.cells (madeCells #[.int .i64 0] (elems xs).length) 3)) 22 (.slice (some ⟨w1.heap.size, 0, none⟩) 0 (elems xs).length)
  rw [World.size_alloc] at bO
  have hB0 : Below w1.heap.size w1 (((w1.alloc (.cells (madeCells #[.int .i64 0] (elems xs).length) 3)).alloc (.cells #[.slice (some ⟨w1.heap.size, 0, none⟩) 0 (elems xs).length] 22)).alloc (.cells (rowW xs) 25)) :=
    (((Below.refl _ w1).alloc (Nat.le_refl _) _).alloc (by simp) _).alloc (by simp; omega) _
  have hTc := HT.out.belowN h0 (HB1.out.trans (hB0.mono (by omega)))
  refine wpIn_rangeFunc_ownG rfl (by omega) (gf := 57) (lb := #[.pointer (some ⟨w1.heap.size + 1 + 1, 0, none⟩)]) rfl trivial (enters_of Tryd.func57 (by kernel_rfl) rfl)
    (all_stops (n - 1) (w1.heap.size + 1 + 1) w1.heap.size hx (by omega) _ (T := 25) (by simp) (by simp) (by simp [go_sem]) hTc) belowK_t (belowK_b (by simp; omega)) (Below.refl _ _) (fun _ => rfl)
    (fun pre W => (∃ v, Boxed W (w1.heap.size + 1) 22 v ∧ W.ownsRow w1.heap.size 3 1 v pre.length (pre.map (Value.int .i64)) ∧ True) ∧ Below w1.heap.size w1 W)
    (fun _ _ _ => False)
    (OwnFrom.and (Own.from (holdsRow_own w1.heap.size (w1.heap.size + 1) 22 3 1 (fun pre : List Int => pre.length) (fun pre => pre.map (Value.int .i64)) (fun _ _ => True)) _) (ownFrom_below (Nat.le_refl _) (by simp; omega)))
    (fun _ _ _ _ _ hs _ _ => hs)
    ⟨⟨_, bO.alloc _, (hrow0.alloc _).alloc _, trivial⟩, hB0⟩
    (fun x => { tmps := #[.agg (rowW xs), .pointer (some ⟨w.heap.size, 0, none⟩), .slice none 0 0, .pointer (some ⟨w1.heap.size + 1, 0, none⟩), .int .i64 x, .agg (rowW xs), .int .i64 ((elems xs).length : Nat), .slice (some ⟨w1.heap.size, 0, none⟩) 0 (elems xs).length, .agg (rowW xs), .func (.func 57) #[] #[.pointer (some ⟨w1.heap.size + 1 + 1, 0, none⟩)], .int .i64 x, undef, undef, undef, undef, undef], defers := [] }) ?assign ?body ?done ?stop
  case assign =>
    intro l x W K hK
    gi_wp2
    exact hK
  case body =>
    rintro l pre x W ⟨⟨v, hv, hrow, -⟩, hB⟩ hlt
    have hc := hv.cell
    gi_wp2_with (gi_at_builtin; refine wpListIn_append_own _ rfl _ _ 22 rfl w1.heap.size 3 i0 (.int .i64 0) 1 8 Tryd.underlying22 hi hz0 hz1 hz2 rfl (by decide) _ _ _ rfl (hrow.alloc _) ⟨W.heap.size, 0, none⟩ 1 1 [.int .i64 x] rfl rfl (cell_one_new _ _ _) (by simp [Value.oneCell']) (by unfold maxLen; omega) (by omega) (by have := hB.size; simp; omega) ?_; intro v' w2 hown' hgrow _; obtain ⟨g', cap', rfl⟩ := ownsRow_succ hown'; obtain ⟨hv1, hv2, hr2, hk2, hb2⟩ := hv.appended (by decide) hrow hB.size (by omega) hown' hgrow; have hc1 := hv1.cell; have hf1 := hv1.frozen)
    exact ⟨hk2.from _, hb2, ⟨_, hv2, by simpa using hr2, trivial⟩, hB.trans hb2⟩
  case done =>
    rintro D ys W hD rfl ⟨⟨v, hv, hrow, -⟩, hB⟩ hK
    have hc := hv.cell
    gi_wp2
    refine ⟨by simp, .inl ⟨_, _, rfl, run_takeDeferred hK, ?_⟩⟩
    exact ⟨_, results_tmp rfl _ _ _, v, rfl, own_lower (by omega) (ownsRow_putObj hrow _ hK rfl), HB1.out.trans ((hB.trans (belowK_b (w := w1) (Nat.le_refl _) W D _ _ (by simp at hD; omega) hK rfl rfl)).mono (by omega))⟩
  case stop =>
    rintro D c pre W _ _ h _
    exact h.elim
/-- the elements, as a slice of the call's own -/
theorem elements_calls {xs : List W} (hx : xs.length = 16) (w : World) (hT : TzW w) (h0 : 0 < w.heap.size) :
    Calls Tryd.prog 37 #[.agg (rowW xs)] w fun e w' => ∃ v, e = .returned v ∧ Go.Rw.Own w' w.heap.size 3 v (elems xs) ∧ Below w.heap.size w w' :=
  callsIn_wide.1 (elements_in 3 (by omega) hx w hT h0)
end Go.Proofs.YtjneboajbmabbaaDoor.ref1
