/-
  Contract of bignat: combine, whatever the step.
-/
import Derived.Test.YtogjobmekjighaaDoorBnI
import Derived.Test.YtogjobmekjighaaDoorPlan
set_option linter.unusedSimpArgs false
set_option linter.unusedVariables false
namespace Go.Proofs.YtogjobmekjighaaDoor.bn
open Go.RowKit Go.Own Go.Bn
set_option maxHeartbeats 4000000
set_option maxRecDepth 100000

theorem wpQuiet_load_row {P : Program} {ops : Array Oper} {C : World → Prop} {Q : Act → Prop} {a : Act} {o : Oper} {rest : List Oper} (hw : Region.wanted o (yielded ops a.tmps) = true) (ty : TypeId) (x : Operand) (ho : o.op = .load ty x)
    (g : Nat) (cells : Array Value) (t : TypeId) (d : TypeDesc) (hx : a.eval x = .pointer (some ⟨g, 0, none⟩))
    (hg : ∀ w, C w → blockOf w g = some (.cells cells t (0, 0))) (hu : P.underlying ty = some d) (hd : (match d with | .struct _ | .array _ _ => true | _ => false) = true) (hi : (P.info? ty).map (·.size) = some cells.size)
    (hk : wpQuiet P ops C Q rest (a.put o.dst (.agg cells))) : wpQuiet P ops C Q (o :: rest) a :=
  BigFrame.wpQuiet_want hw fun K hK => ⟨_, fun w hC => by
    unfold Oper.quietAt execOp
    simp only [ho, hx, Instr.loadAt, Instr.sureAddr, Sem.run_bind, Sem.run_pure, Result.andThen_ok, run_loadVar_row w g t ty cells (0, 0) d (hg w hC) hu hd hi]
    exact ⟨rfl, rfl⟩, hK _ hk⟩
theorem wpQuiet_load_one {P : Program} {ops : Array Oper} {C : World → Prop} {Q : Act → Prop} {a : Act} {o : Oper} {rest : List Oper} (hw : Region.wanted o (yielded ops a.tmps) = true) (ty : TypeId) (x : Operand) (ho : o.op = .load ty x)
    (p : Addr) (v : Value) (hx : a.eval x = .pointer (some p)) (hc : ∀ w, C w → w.cell? p = some v) (hagg : ∀ w, (isAgg ty).run P w = .ok false w)
    (hk : wpQuiet P ops C Q rest (a.put o.dst v)) : wpQuiet P ops C Q (o :: rest) a :=
  BigFrame.wpQuiet_want hw fun K hK => ⟨_, fun w hC => by
    have hl : (loadVar ty p).run P w = .ok v w := by simp [loadVar, Sem.run_bind, hagg w, run_load, hc w hC]
    unfold Oper.quietAt execOp
    simp only [ho, hx, Instr.loadAt, Instr.sureAddr, Sem.run_bind, Sem.run_pure, Result.andThen_ok, hl]
    exact ⟨rfl, rfl⟩, hK _ hk⟩
/-- a function of the program's own -/
def IsFn (F : FuncId) : Prop := ((Tryd.prog.funcs[F]?).map fun f => (f.name == "runtime.NumGoroutine", f.body.isNone)) = some (false, false)
theorem callFn_run {F : FuncId} (h : IsFn F) (args : Array Value) (w : World) : (callFunc F args).run Tryd.prog w = .ok (.enter F args) w := by
  unfold IsFn at h
  cases hf : Tryd.prog.funcs[F]? with
  | none => rw [hf] at h; simp at h
  | some f =>
    rw [hf] at h
    simp only [Option.map_some, Option.some.injEq, Prod.mk.injEq] at h
    unfold callFunc
    rw [Sem.run_bind]
    have h1 : ¬ f.name = "runtime.NumGoroutine" := by simpa using h.1
    have h2 : ¬ f.body = none := by intro hb; have := h.2; rw [hb] at this; simp at this
    simp [go_sem, hf, h1, h2]
theorem upon_fn {P : Program} {o : Oper} {a : Act} {K : Act → World → Prop} {Q : Exit → Act → World → Prop} {r : Result Next} {f : FuncId} {args : Array Value} {w : World} {v : Value} (h : r = .ok (.enter f args) w)
    (hc : Calls P f args w fun e w' => e = .returned v ∧ ∃ x, w' = beyond w x) (hk : ∀ x, K (a.put o.dst v) (beyond w x)) : o.upon P a K Q r := by
  subst h
  refine hc.mono ?_
  rintro e w' ⟨rfl, x, rfl⟩
  exact hk x
theorem kset (w : World) (b a : Nat) (v : Value) : KeptBut (· = b) w (w.setCell ⟨b, a, none⟩ v) := by
  refine ⟨rfl, rfl, rfl, by simp [World.setCell], fun k hk hx => ?_⟩
  show (w.heap.modify b _)[k]? = _
  rw [Array.getElem?_modify, if_neg (fun e => hx e.symm)]
/-- what one digit's step does -/
def StepOk (F : FuncId) (a b : List Nat) (N : Nat) (I : Nat → Nat → Nat → Prop) : Prop :=
  ∀ k s c, k < N → c < B → I k s c → ∃ d c', d < B ∧ c' < B ∧ I (k + 1) (s + B ^ k * d) c' ∧ ∀ w, Calls Tryd.prog F #[.int .u32 (dg a k : Int), .int .u32 (dg b k : Int), .int .u32 (c : Int)] w fun e w' => e = .returned (.tuple #[.int .u32 (d : Int), .int .u32 (c' : Int)]) ∧ ∃ z, w' = beyond w z
theorem row_in {g n k d : Nat} {ds : List Nat} {w : World} (h : Mrow g n k ds w) (hk : k < n) (hd : d < B) :
    Mrow g n (k + 1) (ds.set k d) (w.setCell ⟨g, k, none⟩ (.int .u32 (d : Int))) ∧ val (ds.set k d) = val ds + B ^ k * d := by
  have hl : k < ds.length := by rw [h.2.1]; exact hk
  have h1 := val_set (d := ds) d hl
  rw [h.2.2.2 k (Nat.le_refl _), Nat.mul_zero, Nat.add_zero] at h1
  exact ⟨⟨h.1.set hl _, by rw [List.length_set]; exact h.2.1, dig_set h.2.2.1 hd, fun j hj => by rw [dg_set hl, if_neg (by omega)]; exact h.2.2.2 j (by omega)⟩, h1⟩
/-- the number that the digits come to -/
def CombR (W : World) (N : Nat) (I : Nat → Nat → Nat → Prop) (e : Ending) (w' : World) : Prop := ∃ v n c, e = .returned v ∧ NatAt v n w' ∧ Below W.heap.size W w' ∧ n < B ^ N ∧ I N n c
theorem Mrow.kept {g n z : Nat} {d : List Nat} {w w' : World} (h : Mrow g n z d w) (hk : KeptBut (fun _ => False) w w') : Mrow g n z d w' := h.below (hk.below (fun _ h => h.elim) (Nat.le_refl _))
theorem combine_calls {F : FuncId} {q q2 : Option Addr} {m c m2 c2 : Nat} {a b : List Nat} {W : World} (hA : DgAt q m c a W) (hA2 : DgAt q2 m2 c2 b W) (hms : m ≤ 900000) (hms2 : m2 ≤ 900000)
    (N : Nat) (hN : N = max m m2 + 1) (I : Nat → Nat → Nat → Prop) (h0 : I 0 0 0) (hst : StepOk F a b N I) (hF : IsFn F) :
    Calls Tryd.prog 46 #[.agg #[.slice q m c], .agg #[.slice q2 m2 c2], .func (.func F) #[] #[]] W (CombR W N I) := by
  obtain ⟨hN1, hN2, hN3, hN4⟩ : m < N ∧ m2 < N ∧ N ≤ 900001 ∧ (if m < m2 then (m2 : Int) else (m : Int)) + 1 = (N : Int) := ⟨by omega, by omega, by omega, by split <;> omega⟩
  have HST := Lib.hid hst
  have H0 := Lib.hid h0
  have HF := Lib.hid hF
  have HA := Lib.hid hA
  have HA2 := Lib.hid hA2
  clear hA hA2 hst h0 hN hF
  have hmx := hN4
  obtain ⟨i0, hi, hz0, hz1, hz2⟩ := info_parts uI
  have Hi := Lib.hid hi; clear hi
  go_enter Tryd.func46, Tryd.ntmps46
  go_wp2_with (first | (at_make; refine wpList_make_full _ rfl _ _ 25 rfl (W.heap.size + 3) 68 i0 (.int .u32 0) 1 uU Hi.out hz0 hz1 _ _ _ _ N rfl rfl ?_ ?_ (by rw [hz2]; omega) (by unfold maxLen; omega) (by simp) ?_))
  all_goals first
    | omega
    | skip
  all_goals
    intro w1 hown hgr
    have HR0 := Lib.hid (Mrow.made hown 0)
    have hlt1 : W.heap.size + 1 + 1 + 1 < w1.heap.size := HR0.out.1.lt
    have hw0 : (((W.alloc (.cells #[.slice q m c] 27)).alloc (.cells #[.slice q2 m2 c2] 27)).alloc (.cells #[.slice none 0 0] 27)).heap.size = W.heap.size + 1 + 1 + 1 := by show (((W.heap.push _).push _).push _).size = _; simp
    have hbl : Below (W.heap.size + 1 + 1 + 1) (((W.alloc (.cells #[.slice q m c] 27)).alloc (.cells #[.slice q2 m2 c2] 27)).alloc (.cells #[.slice none 0 0] 27)) w1 := ⟨hgr.os, hgr.tape, hgr.output, hgr.size, fun k hk => hgr.block k (by rw [hw0]; exact hk) (by simp)⟩
    have hcA : w1.heap[W.heap.size]? = some (.cells #[.slice q m c] 27 (0, 0)) := (hbl.block _ (by omega)).trans (by
      show (((W.heap.push _).push _).push _)[_]? = _
      rw [Array.getElem?_push, if_neg (by simp; omega), Array.getElem?_push, if_neg (by simp), Array.getElem?_push, if_pos (by simp)])
    have hcB : w1.heap[W.heap.size + 1]? = some (.cells #[.slice q2 m2 c2] 27 (0, 0)) := (hbl.block _ (by omega)).trans (by
      show (((W.heap.push _).push _).push _)[_]? = _
      rw [Array.getElem?_push, if_neg (by simp), Array.getElem?_push, if_pos (by simp)])
    have hcR : w1.heap[W.heap.size + 1 + 1]? = some (.cells #[.slice none 0 0] 27 (0, 0)) := (hbl.block _ (by omega)).trans (by
      show (((W.heap.push _).push _).push _)[_]? = _
      rw [Array.getElem?_push, if_pos (by simp)])
    have HCA := Lib.hid hcA
    have HCB := Lib.hid hcB
    have HCR := Lib.hid hcR
    have HB0 := Lib.hid (show Below W.heap.size W w1 from (show Below W.heap.size W (((W.alloc (.cells #[.slice q m c] 27)).alloc (.cells #[.slice q2 m2 c2] 27)).alloc (.cells #[.slice none 0 0] 27)) from (by repeat (first | assumption | exact Below.refl _ _ | exact below_beyond _ _ | refine Below.beyond ?_ (by (try simp [size_beyond]) <;> omega) _ | refine Below.drew ?_ | refine Go.Rw.below_drewN ?_ _ | refine Go.Rw.below_setRow ?_ (by (try simp [size_beyond]) <;> omega) _ | refine Below.alloc ?_ (by (try simp [size_beyond]) <;> omega) _ | refine Below.setCell ?_ (by (try simp [size_beyond]) <;> omega) _))).trans (hbl.mono (by omega)))
    clear hown hgr hbl hw0 hcA hcB hcR
    go_wp2
    go_loopw [9, 10, 22] (fun s _ i wr => ∃ (k e : Nat) (d : List Nat), k ≤ N ∧ i = .int .i64 k ∧ s = .int .u32 e ∧ e < 4294967296 ∧ Hid (Mrow (W.heap.size + 1 + 1 + 1) N k d wr ∧ I k (val d) e) ∧ Hid (Below (W.heap.size + 1 + 1 + 1) w1 wr)) (fun _ _ i _ => N - (intOf i).toNat)
    case atStart => exact ⟨0, 0, _, Nat.zero_le _, rfl, rfl, by omega, Lib.hid ⟨HR0.out, by rw [val_zeros]; exact H0.out⟩, Lib.hid (Below.refl _ _)⟩
    case round =>
      obtain ⟨k, e, d, hk, rfl, rfl, he, HR, HB⟩ := hrel
      have HBW := Lib.hid (HB0.out.trans (HB.out.mono (show W.heap.size ≤ W.heap.size + 1 + 1 + 1 by omega)))
      by_cases hlt : k < N
      · have HRA := Lib.hid ((HB.out.block W.heap.size (by omega)).trans HCA.out)
        have HRB := Lib.hid ((HB.out.block (W.heap.size + 1) (by omega)).trans HCB.out)
        have hgl : W.heap.size + 1 + 1 + 1 < wr.heap.size := HR.out.1.1.lt
        obtain ⟨dd, e2, hd1, he2, HI, HC⟩ := HST.out k (val d) e hlt he HR.out.2
        have HI2 := Lib.hid HI
        have HC2 := Lib.hid HC
        have HDA := Lib.hid (fun (w : World) (hb : KeptBut (fun b => b = W.heap.size + 1 + 1 + 1) wr w) => (digit_calls (HA.out.below (HBW.out.trans (hb.below (B := W.heap.size) (fun b hb => by rw [hb]; omega) (by omega)))) k (by omega)))
        have HDB := Lib.hid (fun (w : World) (hb : KeptBut (fun b => b = W.heap.size + 1 + 1 + 1) wr w) => (digit_calls (HA2.out.below (HBW.out.trans (hb.below (B := W.heap.size) (fun b hb => by rw [hb]; omega) (by omega)))) k (by omega)))
        clear HI HC
        generalize dg a k = x at HDA HC2
        generalize dg b k = y at HDB HC2
        go_wp2
        refine wp_region_plan (KeptBut (fun b => b = W.heap.size + 1 + 1 + 1) wr) [([0, 1, 2, 3, 4, 6, 7, 9], 5), ([], 8), ([], 10), ([11, 12, 13, 14], 15)] [16] (by kernel_rfl) (by kernel_rfl) (by intro _ _ d _ _ h; cases d <;> exact h) (KeptBut.of_below ((Below.refl _ _).drew)) ?_
        simp only [wpSegs, pick, List.filterMap, List.size_toArray, List.getElem?_toArray, List.getElem?_cons_zero, List.getElem?_cons_succ]
        go_big_quiet_step (exact fun _ => rfl)
        go_big_quiet_step (exact fun _ => rfl)
        go_big_quiet_step (exact fun _ => rfl)
        refine wpQuiet_load_row (by kernel_rfl) 27 (.tmp 3) rfl W.heap.size #[.slice q m c] 27 _ rfl (fun w hw => (hw.block W.heap.size (by omega) (by omega)).trans HRA.out) Tryd.underlying27 rfl nInfo ?_
        simp only [Act.put, List.setIfInBounds_toArray, List.set_cons_succ, List.set_cons_zero]
        go_big_quiet_step (exact fun _ => rfl)
        refine wpQuiet_load_row (by kernel_rfl) 27 (.tmp 4) rfl (W.heap.size + 1) #[.slice q2 m2 c2] 27 _ rfl (fun w hw => (hw.block (W.heap.size + 1) (by omega) (by omega)).trans HRB.out) Tryd.underlying27 rfl nInfo ?_
        simp only [Act.put, List.setIfInBounds_toArray, List.set_cons_succ, List.set_cons_zero]
        go_big_quiet_step (exact fun _ => rfl)
        go_big_quiet_step (exact fun _ => rfl)
        refine wpQuiet_nil ?_
        have HK0 : Hid (KeptBut (fun b => b = W.heap.size + 1 + 1 + 1) wr wr.drew) := Lib.hid (KeptBut.of_below ((Below.refl _ _).drew))
        have HM0 := Lib.hid (HR.out.1.below ((Below.refl wr.heap.size wr).drew))
        go_wp2_with (go_at_call 59; refine (HDA.out _ HK0.out).mono ?_; rintro e w2 ⟨rfl, h1⟩)
        have HK1 := Lib.hid (HK0.out.trans (KeptBut.of_below h1))
        have HM1 := Lib.hid (HM0.out.below h1)
        clear h1
        refine And.intro HK1.out (wpQuiet_nil ?_)
        go_wp2_with (go_at_call 59; refine (HDB.out _ HK1.out).mono ?_; rintro e w3 ⟨rfl, h1⟩)
        have HK2 := Lib.hid (HK1.out.trans (KeptBut.of_below h1))
        have HM2 := Lib.hid (HM1.out.below h1)
        clear h1
        refine And.intro HK2.out (wpQuiet_nil ?_)
        have hcf := fun w => callFn_run HF.out #[.int .u32 (x : Int), .int .u32 (y : Int), .int .u32 (e : Int)] w
        go_wp2_with (refine (HC2.out _).mono ?_; rintro e w4 ⟨rfl, z, rfl⟩; have h1 := below_beyond w3 z; generalize beyond w3 z = w4 at h1 ⊢)
        have HK3 := Lib.hid (HK2.out.trans (KeptBut.of_below h1))
        have HM3 := Lib.hid (HM2.out.below h1)
        clear h1 hcf
        refine And.intro HK3.out ?_
        go_big_quiet_step (exact fun _ => rfl)
        go_big_quiet_step (exact fun _ => rfl)
        go_big_quiet_step (exact fun _ => rfl)
        go_big_quiet_step (exact fun _ => rfl)
        refine wpQuiet_nil ?_
        have hcd := HM3.out.1.cell (a := k) (by rw [HM3.out.2.1]; omega)
        have hfd := HM3.out.1.frozen k
        generalize dg d k = t at hcd
        go_wp2
        have HR4 := Lib.hid (row_in HM3.out hlt hd1)
        have HK4 := Lib.hid (HK3.out.trans (kset w4 (W.heap.size + 1 + 1 + 1) k (.int .u32 (dd : Int))))
        refine And.intro HK4.out ?_
        repeat (go_big_quiet_step (exact fun _ => rfl))
        refine wpQuiet_nil ?_
        go_wp2
        refine ⟨⟨k + 1, e2, _, by omega, by go_num, rfl, he2, Lib.hid ⟨HR4.out.1, by rw [HR4.out.2]; exact HI2.out⟩, Lib.hid (HB.out.trans (HK4.out.below (fun b hb => by rw [hb]; exact Nat.le_refl _) (by omega)))⟩, ?_⟩
        show N - ((k : Int) + 1).toNat < N - ((k : Int)).toNat
        omega
      · obtain rfl : k = N := by omega
        have hA3 := HR.out.1.1.at_ (c := k) (by rw [HR.out.1.2.1]; omega) HR.out.1.2.2.1 (by rw [HR.out.1.2.1]; exact Nat.le_refl _) (by unfold maxLen; omega)
        have hlt2 := val_lt HR.out.1.2.2.1
        rw [HR.out.1.2.1] at hA3 hlt2
        have HA3 := Lib.hid hA3; clear hA3
        have HL2 := Lib.hid hlt2; clear hlt2
        have hlr : W.heap.size + 1 + 1 < wr.heap.size := Nat.lt_of_lt_of_le (by omega) HB.out.size
        have hcr := (HB.out.block (W.heap.size + 1 + 1) (by omega)).trans HCR.out
        go_wp2_with (go_at_call 52
                     refine (trimmed_calls HA3.out).mono ?_
                     rintro e w2 ⟨v, rfl, hv, hb⟩
                     obtain ⟨qq, mm, cc, ds, rfl, hd⟩ := hv.ex
                     have hB2 := Lib.hid (HBW.out.trans (hb.mono HBW.out.size))
                     have hg2 : blockOf w2 (W.heap.size + 1 + 1) = some (.cells #[.slice none 0 0] 27 (0, 0)) := (hb.block _ hlr).trans hcr
                     have HVX := Lib.hid hv
                     obtain ⟨hc2, hf2⟩ := cell_of_row hg2
                     clear hd hv hb)
        rw [setCell_row hg2]
        refine bodyPost_ret (results_block rfl _ _ (W.heap.size + 1 + 1) 27 #[.slice qq mm cc] _ rfl (setRow_heap _ _ _ _ _ _ hg2) Tryd.underlying27 rfl nInfo) rfl ?_
        obtain ⟨v, e1, e2, e3⟩ := RetN.laid HVX.out hB2.out hg2 (fun _ h => by cases h) (show W.heap.size ≤ W.heap.size + 1 + 1 by omega)
        exact ⟨_, _, _, e1, e2, e3, HL2.out, HR.out.2⟩
end Go.Proofs.YtogjobmekjighaaDoor.bn
