/-
  (*Partition).root: the closure that points each element on its way at the root.
-/
import Derived.Test.YtjlpjdpaingnkaaKeeps
import Derived.Test.YtjlpjdpaingnkaaPtM
import Derived.Test.YtjlpjdpaingnkaaProg
set_option linter.unusedSimpArgs false
set_option linter.unusedVariables false
namespace Go.Proofs.Ytjlpjdpaingnkaa.pt
open Go.RowKit Go.Own Go.Pt
set_option maxHeartbeats 4000000
set_option maxRecDepth 100000

theorem wpQuiet_load_one {P : Program} {ops : Array Oper} {C : World → Prop} {Q : Act → Prop} {a : Act} {o : Oper} {rest : List Oper} (hw : Region.wanted o (yielded ops a.tmps) = true) (ty : TypeId) (x : Operand) (ho : o.op = .load ty x)
    (p : Addr) (v : Value) (hx : a.eval x = .pointer (some p)) (hc : ∀ w, C w → w.cell? p = some v) (hagg : ∀ w, (isAgg ty).run P w = .ok false w)
    (hk : wpQuiet P ops C Q rest (a.put o.dst v)) : wpQuiet P ops C Q (o :: rest) a :=
  BigFrame.wpQuiet_want hw fun K hK => ⟨_, fun w hC => by
    have hl : (loadVar ty p).run P w = .ok v w := by simp [loadVar, Sem.run_bind, hagg w, run_load, hc w hC]
    unfold Oper.quietAt execOp
    simp only [ho, hx, Instr.loadAt, Instr.sureAddr, Sem.run_bind, Sem.run_pure, Result.andThen_ok, hl]
    exact ⟨rfl, rfl⟩, hK _ hk⟩
/-- a partition: its struct in block P, its parents in block g -/
structure PtAt (P g c : Nat) (u : List Nat) (w : World) : Prop where
  head : w.heap[P]? = some (.cells #[.slice (some ⟨g, 0, none⟩) u.length c] 68 (0, 0))
  row : ∃ rest : List Value, w.heap[g]? = some (.cells ((u.map fun (x : Nat) => Value.int .i64 (x : Int)) ++ rest).toArray 3 (0, 0))
  ne : P ≠ g
theorem PtAt.gl {P g c : Nat} {u : List Nat} {w : World} (h : PtAt P g c u w) : g < w.heap.size := by
  obtain ⟨r, hr⟩ := h.row; exact (Array.getElem?_eq_some_iff.1 hr).1
theorem PtAt.pl {P g c : Nat} {u : List Nat} {w : World} (h : PtAt P g c u w) : P < w.heap.size := (Array.getElem?_eq_some_iff.1 h.head).1
theorem PtAt.kept {P g c : Nat} {u : List Nat} {w w' : World} (h : PtAt P g c u w) {X : Nat → Prop} (hk : KeptBut X w w') (h1 : ¬ X P) (h2 : ¬ X g) : PtAt P g c u w' :=
  ⟨(hk.block P h.pl h1).trans h.head, by obtain ⟨r, hr⟩ := h.row; exact ⟨r, (hk.block g h.gl h2).trans hr⟩, h.ne⟩
theorem PtAt.cellP {P g c : Nat} {u : List Nat} {w : World} (h : PtAt P g c u w) : w.cell? ⟨P, 0, none⟩ = some (.slice (some ⟨g, 0, none⟩) u.length c) := by simp [World.cell?, h.head]
theorem PtAt.cell {P g c : Nat} {u : List Nat} {w : World} (h : PtAt P g c u w) {a : Nat} (ha : a < u.length) : w.cell? ⟨g, a, none⟩ = some (.int .i64 (par u a : Int)) := by
  obtain ⟨r, hr⟩ := h.row
  have e : ((u.map fun (x : Nat) => Value.int .i64 (x : Int)) ++ r)[a]? = some (Value.int .i64 (par u a : Int)) := by
    rw [List.getElem?_append_left (by simpa using ha)]; simp [par, List.getD_eq_getElem?_getD, ha]
  simp [World.cell?, hr]
  simpa using e
theorem PtAt.frozen {P g c : Nat} {u : List Nat} {w : World} (h : PtAt P g c u w) (a : Nat) : w.frozen? ⟨g, a, none⟩ = false := by obtain ⟨r, hr⟩ := h.row; simp [World.frozen?, hr]
theorem PtAt.set {P g c : Nat} {u : List Nat} {w : World} (h : PtAt P g c u w) {a : Nat} (ha : a < u.length) (r : Nat) : PtAt P g c (u.set a r) (w.setCell ⟨g, a, none⟩ (.int .i64 (r : Int))) ∧ KeptBut (· = g) w (w.setCell ⟨g, a, none⟩ (.int .i64 (r : Int))) := by
  obtain ⟨rs, hrow⟩ := h.row
  obtain ⟨hl, hr⟩ := Array.getElem?_eq_some_iff.1 hrow
  refine ⟨⟨?_, ⟨rs, ?_⟩, h.ne⟩, ⟨rfl, rfl, rfl, by simp [World.setCell], fun k hk hx => ?_⟩⟩
  · show (w.heap.modify g _)[P]? = _
    rw [Array.getElem?_modify, if_neg (fun e => h.ne e.symm), List.length_set]; exact h.head
  · show (w.heap.modify g _)[g]? = _
    rw [Array.getElem?_modify, if_pos rfl, hrow]
    simp [List.map_set, List.set_append, ha]
  · show (w.heap.modify g _)[k]? = _
    rw [Array.getElem?_modify, if_neg (fun e => hx e.symm)]

/-- a world on the way: the parents may have changed, the rest lies as it lay -/
structure Mid (P g c n : Nat) (W w : World) : Prop where
  ex : ∃ u' : List Nat, u'.length = n ∧ PtAt P g c u' w ∧ KeptBut (· = g) W w
theorem Mid.kept {P g c n : Nat} {W w : World} (h : Mid P g c n W w) : KeptBut (· = g) W w := by obtain ⟨_, _, _, hk⟩ := h.ex; exact hk
theorem Mid.head {P g c n : Nat} {W w : World} (h : Mid P g c n W w) : w.cell? ⟨P, 0, none⟩ = some (.slice (some ⟨g, 0, none⟩) n c) := by
  obtain ⟨u', h1, h5, h6⟩ := h.ex
  rw [h5.cellP, h1]
theorem root1_calls (bp bf P g c : Nat) (hbp : bp ≠ g) (hbf : bf ≠ g) : ∀ (a : Nat) (u : List Nat) (W : World), Up u → a < u.length → u.length ≤ 4096 → PtAt P g c u W →
    W.heap[bp]? = some (.cells #[.pointer (some ⟨P, 0, none⟩)] 27 (0, 0)) → W.heap[bf]? = some (.cells #[.func (.func 50) #[] #[.pointer (some ⟨bp, 0, none⟩), .pointer (some ⟨bf, 0, none⟩)]] 44 (0, 0)) →
    Calls Try.prog 50 #[.int .i64 (a : Int), .pointer (some ⟨bp, 0, none⟩), .pointer (some ⟨bf, 0, none⟩)] W fun e w' =>
      e = .returned (.int .i64 (root u a : Int)) ∧ ∃ u', u'.length = u.length ∧ Up u' ∧ (∀ i, root u' i = root u i) ∧ (∀ i, a < i → par u' i = par u i) ∧ PtAt P g c u' w' ∧ KeptBut (· = g) W w' := by
  intro a
  induction a using Nat.strongRecOn with
  | ind a ih =>
    intro u W hU ha hn hP hp hf
    have hcp : W.cell? ⟨bp, 0, none⟩ = some (.pointer (some ⟨P, 0, none⟩)) := by simp [World.cell?, hp]
    have hcf : W.cell? ⟨bf, 0, none⟩ = some (.func (.func 50) #[] #[.pointer (some ⟨bp, 0, none⟩), .pointer (some ⟨bf, 0, none⟩)]) := by simp [World.cell?, hf]
    have hcs := hP.cellP
    have hca := hP.cell ha
    have hpl := par_le hU a
    by_cases e : par u a = a
    · have HR := Lib.hid (root_self hU e)
      rw [e] at hca
      go_enter Try.func50, Try.ntmps50
      go_wp2
      go_ret
      rw [HR.out]
      exact ⟨rfl, u, rfl, hU, fun _ => rfl, fun _ _ => rfl, hP, KeptBut.refl _ _⟩
    · have hlt : par u a < a := by omega
      have HIH := Lib.hid (ih (par u a) hlt u W hU (by omega) hn hP hp hf)
      have hne : ¬ (par u a : Int) = (a : Int) := by omega
      go_enter Try.func50, Try.ntmps50
      go_wp2
      refine wp_region_plan (Mid P g c u.length W) [([0, 1, 2, 3, 4, 5, 6, 7, 8, 9, 10, 11], 12), ([], 13), ([14], 15)] [] (by kernel_rfl) (by kernel_rfl) (by intro _ _ d _ _ h; cases d <;> exact h) ⟨u, rfl, ⟨hP.head, hP.row, hP.ne⟩, KeptBut.of_below ((Below.refl _ _).drew)⟩ ?_
      simp only [wpSegs, pick, List.filterMap, List.size_toArray, List.getElem?_toArray, List.getElem?_cons_zero, List.getElem?_cons_succ]
      have hagg27 : ∀ w, (isAgg 27).run Try.prog w = .ok false w := fun w => by unfold isAgg; rw [Sem.run_bind, run_underlying Try.underlying27 w]; rfl
      have hagg44 : ∀ w, (isAgg 44).run Try.prog w = .ok false w := fun w => by unfold isAgg; rw [Sem.run_bind, run_underlying Try.underlying44 w]; rfl
      have hagg23 : ∀ w, (isAgg 23).run Try.prog w = .ok false w := fun w => by unfold isAgg; rw [Sem.run_bind, run_underlying Try.underlying23 w]; rfl
      have hagg3 : ∀ w, (isAgg 3).run Try.prog w = .ok false w := fun w => by unfold isAgg; rw [Sem.run_bind, run_underlying Try.underlying3 w]; rfl
      have keepP : ∀ w, KeptBut (· = g) W w → w.cell? ⟨bp, 0, none⟩ = some (.pointer (some ⟨P, 0, none⟩)) := fun w h => by simp [World.cell?, (h.block bp (Array.getElem?_eq_some_iff.1 hp).1 hbp).trans hp]
      have keepF : ∀ w, KeptBut (· = g) W w → w.cell? ⟨bf, 0, none⟩ = some (.func (.func 50) #[] #[.pointer (some ⟨bp, 0, none⟩), .pointer (some ⟨bf, 0, none⟩)]) := fun w h => by simp [World.cell?, (h.block bf (Array.getElem?_eq_some_iff.1 hf).1 hbf).trans hf]
      refine wpQuiet_load_one (by kernel_rfl) 27 (.tmp 1) rfl ⟨bp, 0, none⟩ (.pointer (some ⟨P, 0, none⟩)) rfl (fun w hw => keepP w hw.kept) hagg27 ?_
      simp only [Act.put, List.setIfInBounds_toArray, List.set_cons_succ, List.set_cons_zero]
      go_big_quiet_step (exact fun _ => rfl)
      go_big_quiet_step (exact fun _ => rfl)
      refine wpQuiet_load_one (by kernel_rfl) 23 (.tmp 16) rfl ⟨P, 0, none⟩ (.slice (some ⟨g, 0, none⟩) u.length c) rfl (fun w hw => hw.head) hagg23 ?_
      simp only [Act.put, List.setIfInBounds_toArray, List.set_cons_succ, List.set_cons_zero]
      go_big_quiet_step (exact fun _ => rfl)
      refine wpQuiet_load_one (by kernel_rfl) 44 (.tmp 2) rfl ⟨bf, 0, none⟩ (.func (.func 50) #[] #[.pointer (some ⟨bp, 0, none⟩), .pointer (some ⟨bf, 0, none⟩)]) rfl (fun w hw => keepF w hw.kept) hagg44 ?_
      simp only [Act.put, List.setIfInBounds_toArray, List.set_cons_succ, List.set_cons_zero]
      refine wpQuiet_load_one (by kernel_rfl) 27 (.tmp 1) rfl ⟨bp, 0, none⟩ (.pointer (some ⟨P, 0, none⟩)) rfl (fun w hw => keepP w hw.kept) hagg27 ?_
      simp only [Act.put, List.setIfInBounds_toArray, List.set_cons_succ, List.set_cons_zero]
      go_big_quiet_step (exact fun _ => rfl)
      go_big_quiet_step (exact fun _ => rfl)
      refine wpQuiet_load_one (by kernel_rfl) 23 (.tmp 22) rfl ⟨P, 0, none⟩ (.slice (some ⟨g, 0, none⟩) u.length c) rfl (fun w hw => hw.head) hagg23 ?_
      simp only [Act.put, List.setIfInBounds_toArray, List.set_cons_succ, List.set_cons_zero]
      go_big_quiet_step (exact fun _ => rfl)
      go_big_quiet_step (exact fun _ => rfl)
      refine wpQuiet_nil ?_
      have hPd : PtAt P g c u W.drew := ⟨hP.head, hP.row, hP.ne⟩
      have hKd : KeptBut (· = g) W W.drew := KeptBut.of_below ((Below.refl _ _).drew)
      have hcd := hPd.cell ha
      have HIHd := Lib.hid (ih (par u a) hlt u W.drew hU (by omega) hn hPd hp hf)
      go_wp2
      refine ⟨⟨u, rfl, hPd, hKd⟩, wpQuiet_nil ?_⟩
      go_wp2_with (go_at_call 50; refine HIHd.out.mono ?_; rintro e w1 ⟨rfl, u1, h1, h2, h3, h4, h5, h6⟩)
      have ha1 : a < u1.length := by omega
      have hr : root u (par u a) = root u1 a := by rw [h3, root_par hU]
      rw [hr]
      have hrl : root u1 a ≤ a := root_le h2 a
      obtain ⟨hP2, hK2⟩ := h5.set ha1 (root u1 a)
      have hK1 := hKd.trans h6
      have HU2 := Lib.hid (show (u1.set a (root u1 a)).length = u.length ∧ Up (u1.set a (root u1 a)) ∧ (∀ i, root (u1.set a (root u1 a)) i = root u i) ∧ (∀ i, a < i → par (u1.set a (root u1 a)) i = par u i) from
        ⟨by simp [h1], up_set h2 hrl, fun i => by rw [root_compress h2 ha1, h3], fun i hi => by rw [par_set ha1, if_neg (by omega), h4 i (by omega)]⟩)
      have hpa : par (u1.set a (root u1 a)) a = root u1 a := by rw [par_set ha1, if_pos rfl]
      have HR := Lib.hid (show root u a = root u1 a from (h3 a).symm)
      have hc1 := h5.cell ha1
      have hf1 := h5.frozen a
      refine ⟨⟨u1, h1, h5, hK1⟩, ?_⟩
      generalize root u1 a = r at *
      go_big_quiet_step (exact fun _ => rfl)
      refine wpQuiet_nil ?_
      go_wp2
      generalize w1.setCell ⟨g, a, none⟩ (.int .i64 (r : Int)) = w2 at *
      refine ⟨⟨_, HU2.out.1, hP2, hK1.trans hK2⟩, wpQuiet_nil ?_⟩
      have hcp2 := keepP w2 (hK1.trans hK2)
      have hcs2 := hP2.cellP
      have hca2 := hP2.cell (a := a) (by simp; omega)
      rw [hpa] at hca2
      rw [HU2.out.1] at hcs2
      clear hcp hcs hca hc1 hcd
      go_wp2
      go_ret
      rw [HR.out]
      exact ⟨rfl, _, HU2.out.1, HU2.out.2.1, HU2.out.2.2.1, HU2.out.2.2.2, hP2, hK1.trans hK2⟩
/-- what a call that only compresses does -/
def Same (P g c : Nat) (u : List Nat) (W w : World) : Prop := ∃ u', u'.length = u.length ∧ Up u' ∧ (∀ i, root u' i = root u i) ∧ PtAt P g c u' w ∧ KeptBut (· = g) W w
theorem root_calls {P g c a : Nat} {u : List Nat} {W : World} (hU : Up u) (ha : a < u.length) (hn : u.length ≤ 4096) (hP : PtAt P g c u W) :
    Calls Try.prog 42 #[.pointer (some ⟨P, 0, none⟩), .int .i64 (a : Int)] W fun e w' => e = .returned (.int .i64 (root u a : Int)) ∧ Same P g c u W w' := by
  have hg : g < W.heap.size := hP.gl
  have hPl : P < W.heap.size := hP.pl
  go_enter Try.func42, Try.ntmps42
  go_wp2_with (fail)
  go_at_call 50
  have hB : Below W.heap.size W ((W.alloc (.cells #[.pointer (some ⟨P, 0, none⟩)] 27)).alloc (.cells #[.func (.func 50) #[] #[.pointer (some ⟨W.heap.size, 0, none⟩), .pointer (some ⟨W.heap.size + 1, 0, none⟩)]] 44)) := (by repeat (first | assumption | exact Below.refl _ _ | exact below_beyond _ _ | refine Below.beyond ?_ (by (try simp [size_beyond]) <;> omega) _ | refine Below.drew ?_ | refine Go.Rw.below_drewN ?_ _ | refine Go.Rw.below_setRow ?_ (by (try simp [size_beyond]) <;> omega) _ | refine Below.alloc ?_ (by (try simp [size_beyond]) <;> omega) _ | refine Below.setCell ?_ (by (try simp [size_beyond]) <;> omega) _))
  have hK := KeptBut.of_below (X := (· = g)) hB
  have hP1 : PtAt P g c u ((W.alloc (.cells #[.pointer (some ⟨P, 0, none⟩)] 27)).alloc (.cells #[.func (.func 50) #[] #[.pointer (some ⟨W.heap.size, 0, none⟩), .pointer (some ⟨W.heap.size + 1, 0, none⟩)]] 44)) := ⟨(hB.block P hPl).trans hP.head, (by obtain ⟨r, hr⟩ := hP.row; exact ⟨r, (hB.block g hg).trans hr⟩), hP.ne⟩
  refine (root1_calls W.heap.size (W.heap.size + 1) P g c (by omega) (by omega) a u _ hU ha hn hP1 (by show blockOf _ _ = some _; simp [go_sem]) (by show blockOf _ _ = some _; simp [go_sem])).mono ?_
  rintro e w1 ⟨rfl, u', h1, h2, h3, h4, h5, h6⟩
  go_wp2
  go_ret
  exact ⟨rfl, u', h1, h2, h3, h5, hK.trans h6⟩
end Go.Proofs.Ytjlpjdpaingnkaa.pt
