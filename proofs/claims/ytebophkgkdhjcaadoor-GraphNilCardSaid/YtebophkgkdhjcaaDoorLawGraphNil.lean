/-
  GraphNil: the call answers true whatever its arguments: found by the evaluator of canonical runs.
-/
import Derived.Test.YtebophkgkdhjcaaDoorCards
import Derived.Test.YtebophkgkdhjcaaDoorTie
import Derived.Test.YtebophkgkdhjcaaDoorCanZ
import Derived.WalkKit
import Derived.ProofKit
import Derived.OpenShut
import Derived.Deep.DeepHandedRow
set_option linter.unusedSimpArgs false
set_option linter.unusedVariables false
namespace Go.Proofs.YtebophkgkdhjcaaDoor.graphNil
open Go.ChangeShapes Go.WideShapes Go.ChangeAt Go.RowKit Go.Joins Go.Own

theorem own : ownKnob Tryd.prog.godebug = none := by kernel_rfl
theorem pc : Can.PC2 Tryd.prog := .of_bool (by kernel_rfl)
noncomputable def H0 (T : Nat → TypeId) : Array Obj := #[.cells (Can.tabCells Rows.laid_math_bits_deBruijn64tab) (T 0)]
set_option maxRecDepth 100000 in
theorem found (T : Nat → TypeId) (x0_0 : Int) (x0_1 : Int) (x0_2 : Int) (x0_3 : Int) (x0_4 : Int) (x1_0 : Int) (x2_0 : Int) (x2_1 : Int) (x2_2 : Int) (x2_3 : Int) (x2_4 : Int) (x2_5 : Int) (x2_6 : Int) (x2_7 : Int) (x2_8 : Int) (x2_9 : Int) (x2_10 : Int) (x2_11 : Int) (x2_12 : Int) (x2_13 : Int) (x2_14 : Int) (x2_15 : Int) : Can.evTrue (Can.evF Tryd.prog [0] 3000 (.call 3 #[.agg #[.int .i64 x0_0, .int .i64 x0_1, .int .i64 x0_2, .int .u8 x0_3, .int .i64 x0_4], .int .i64 x1_0, .agg #[.int .u64 x2_0, .int .u64 x2_1, .int .u64 x2_2, .int .u64 x2_3, .int .u64 x2_4, .int .u64 x2_5, .int .u64 x2_6, .int .u64 x2_7, .int .u64 x2_8, .int .u64 x2_9, .int .u64 x2_10, .int .u64 x2_11, .int .u64 x2_12, .int .u64 x2_13, .int .u64 x2_14, .int .u64 x2_15]]) (Can.AW.start (H0 T))) = true := by kernel_rfl
theorem known {W : World} (hL : laidMetH Tryd.prog Rows.graphNilRow.laid W) : Can.Known (H0 (Can.tyAt W)) (Can.onG [0]) W := by
  refine Can.known_onG fun g hg => ?_
  simp only [List.mem_cons, List.not_mem_nil, or_false] at hg
  rcases hg with rfl
  · exact ⟨Can.tabCells Rows.laid_math_bits_deBruijn64tab, Can.tyAt W 0, rfl, Can.laid_tab hL (by kernel_rfl) (List.mem_of_getElem? (i := 0) rfl) (by kernel_rfl) (by kernel_rfl) (by decide +kernel), by kernel_rfl⟩

set_option maxRecDepth 100000 in
theorem contract (H : Type) (enc : TypeId × Value → H) (W : World) (base : Nat) (args : Array Value) (ds gs : List (DataW H)) (before : List MemPlace)
    (hval : ∀ (j : Nat) t v, Tryd.f3.params[j]? = some t → args[j]? = some v → Value.okWide Tryd.prog W .any base t v)
    (hW : DataW.Whole enc Tryd.prog Tryd.f3.params.toList Rows.graphNilSpec.vars false W args.toList ds gs before) (hL : laidMetH Tryd.prog Rows.graphNilRow.laid W) :
    Calls Tryd.prog 3 args W fun e W' => ∃ v, e = .returned v ∧ Rows.graphNilSpec.post enc Tryd.prog Tryd.f3 false true false false W args v W' := by
  have hW' := hW
  obtain ⟨ha, hn⟩ := Can.whole_args (ks := [.row [.int .i64, .int .i64, .int .i64, .int .u8, .int .i64], .one (.int .i64), .row [.int .u64, .int .u64, .int .u64, .int .u64, .int .u64, .int .u64, .int .u64, .int .u64, .int .u64, .int .u64, .int .u64, .int .u64, .int .u64, .int .u64, .int .u64, .int .u64]]) (by kernel_rfl) hval hW
  have hn : ds.length = 3 := hn.trans (by kernel_rfl)
  generalize ea : args.toList = al at ha
  obtain ⟨v0, al0, rfl, k0, ha0⟩ := Can.hasArgs_cons ha
  obtain ⟨r0_, rfl, k0_⟩ := k0
  obtain ⟨_, r0_0, rfl, ⟨x0_0, rfl⟩, k0_0⟩ := Can.hasAll_cons k0_
  obtain ⟨_, r0_1, rfl, ⟨x0_1, rfl⟩, k0_1⟩ := Can.hasAll_cons k0_0
  obtain ⟨_, r0_2, rfl, ⟨x0_2, rfl⟩, k0_2⟩ := Can.hasAll_cons k0_1
  obtain ⟨_, r0_3, rfl, ⟨x0_3, rfl⟩, k0_3⟩ := Can.hasAll_cons k0_2
  obtain ⟨_, r0_4, rfl, ⟨x0_4, rfl⟩, k0_4⟩ := Can.hasAll_cons k0_3
  obtain rfl := Can.hasAll_nil k0_4
  obtain ⟨v1, al1, rfl, k1, ha1⟩ := Can.hasArgs_cons ha0
  obtain ⟨x1_0, rfl⟩ := k1
  obtain ⟨v2, al2, rfl, k2, ha2⟩ := Can.hasArgs_cons ha1
  obtain ⟨r2_, rfl, k2_⟩ := k2
  obtain ⟨_, r2_0, rfl, ⟨x2_0, rfl⟩, k2_0⟩ := Can.hasAll_cons k2_
  obtain ⟨_, r2_1, rfl, ⟨x2_1, rfl⟩, k2_1⟩ := Can.hasAll_cons k2_0
  obtain ⟨_, r2_2, rfl, ⟨x2_2, rfl⟩, k2_2⟩ := Can.hasAll_cons k2_1
  obtain ⟨_, r2_3, rfl, ⟨x2_3, rfl⟩, k2_3⟩ := Can.hasAll_cons k2_2
  obtain ⟨_, r2_4, rfl, ⟨x2_4, rfl⟩, k2_4⟩ := Can.hasAll_cons k2_3
  obtain ⟨_, r2_5, rfl, ⟨x2_5, rfl⟩, k2_5⟩ := Can.hasAll_cons k2_4
  obtain ⟨_, r2_6, rfl, ⟨x2_6, rfl⟩, k2_6⟩ := Can.hasAll_cons k2_5
  obtain ⟨_, r2_7, rfl, ⟨x2_7, rfl⟩, k2_7⟩ := Can.hasAll_cons k2_6
  obtain ⟨_, r2_8, rfl, ⟨x2_8, rfl⟩, k2_8⟩ := Can.hasAll_cons k2_7
  obtain ⟨_, r2_9, rfl, ⟨x2_9, rfl⟩, k2_9⟩ := Can.hasAll_cons k2_8
  obtain ⟨_, r2_10, rfl, ⟨x2_10, rfl⟩, k2_10⟩ := Can.hasAll_cons k2_9
  obtain ⟨_, r2_11, rfl, ⟨x2_11, rfl⟩, k2_11⟩ := Can.hasAll_cons k2_10
  obtain ⟨_, r2_12, rfl, ⟨x2_12, rfl⟩, k2_12⟩ := Can.hasAll_cons k2_11
  obtain ⟨_, r2_13, rfl, ⟨x2_13, rfl⟩, k2_13⟩ := Can.hasAll_cons k2_12
  obtain ⟨_, r2_14, rfl, ⟨x2_14, rfl⟩, k2_14⟩ := Can.hasAll_cons k2_13
  obtain ⟨_, r2_15, rfl, ⟨x2_15, rfl⟩, k2_15⟩ := Can.hasAll_cons k2_14
  obtain rfl := Can.hasAll_nil k2_15
  obtain rfl := Can.hasArgs_nil ha2
  obtain rfl := Can.arr_of ea
  obtain ⟨d0, ds0, rfl, hn0⟩ := Can.list_cons hn
  obtain ⟨d1, ds1, rfl, hn1⟩ := Can.list_cons hn0
  obtain ⟨d2, ds2, rfl, hn2⟩ := Can.list_cons hn1
  obtain rfl := Can.list_nil hn2
  refine ((Can.true_callsF pc (found (Can.tyAt W) x0_0 x0_1 x0_2 x0_3 x0_4 x1_0 x2_0 x2_1 x2_2 x2_3 x2_4 x2_5 x2_6 x2_7 x2_8 x2_9 x2_10 x2_11 x2_12 x2_13 x2_14 x2_15) (known hL) (Can.gl_onG _) (Can.plain_args (by kernel_rfl)))).mono fun e W' ⟨he, x, hx⟩ => ?_
  subst he; subst hx
  exact ⟨_, rfl, law_post hW' rfl rfl (below_beyond _ _) rfl Tryd.underlying4 (by kernel_rfl) (by kernel_rfl)⟩

noncomputable def laid1 (cs : Array Value) : Obj → Obj
  | .cells _ t frozen => .cells cs t frozen
  | o => o
/-- A world for the witness: the settled one, the tables holding what their initialisers lay. -/
noncomputable def laidWorld (os : Os) : World := { World.holding Tryd.prog os ⟨#[], #[], []⟩ with heap := ((World.holding Tryd.prog os ⟨#[], #[], []⟩).heap.modify 0 (laid1 (Can.tabCells Rows.laid_math_bits_deBruijn64tab))) }
theorem laid_met (os : Os) : laidMet Tryd.prog Rows.graphNilRow.laid ((laidWorld os).forCall (fun _ _ => 0) ⟨#[], #[.agg #[.int .i64 0, .int .i64 0, .int .i64 0, .int .u8 0, .int .i64 0], .int .i64 0, .agg #[.int .u64 0, .int .u64 0, .int .u64 0, .int .u64 0, .int .u64 0, .int .u64 0, .int .u64 0, .int .u64 0, .int .u64 0, .int .u64 0, .int .u64 0, .int .u64 0, .int .u64 0, .int .u64 0, .int .u64 0, .int .u64 0]], []⟩).memory :=
  laidMet_of_run' 8 (by kernel_rfl) (by kernel_rfl)
theorem reads (os : Os) {H : Type} (enc : TypeId × Value → H) : ∃ places, DataW.whole enc Tryd.prog ((laidWorld os).forCall (fun _ _ => 0) ⟨#[], #[.agg #[.int .i64 0, .int .i64 0, .int .i64 0, .int .u8 0, .int .i64 0], .int .i64 0, .agg #[.int .u64 0, .int .u64 0, .int .u64 0, .int .u64 0, .int .u64 0, .int .u64 0, .int .u64 0, .int .u64 0, .int .u64 0, .int .u64 0, .int .u64 0, .int .u64 0, .int .u64 0, .int .u64 0, .int .u64 0, .int .u64 0]], []⟩).memory Tryd.f3.params.toList Rows.graphNilSpec.vars false (#[.agg #[.int .i64 0, .int .i64 0, .int .i64 0, .int .u8 0, .int .i64 0], .int .i64 0, .agg #[.int .u64 0, .int .u64 0, .int .u64 0, .int .u64 0, .int .u64 0, .int .u64 0, .int .u64 0, .int .u64 0, .int .u64 0, .int .u64 0, .int .u64 0, .int .u64 0, .int .u64 0, .int .u64 0, .int .u64 0, .int .u64 0]] : Array Value).toList 8 = some ([.agg [.lit (.int .i64 0), .lit (.int .i64 0), .lit (.int .i64 0), .lit (.int .u8 0), .lit (.int .i64 0)], .lit (.int .i64 0), .agg [.lit (.int .u64 0), .lit (.int .u64 0), .lit (.int .u64 0), .lit (.int .u64 0), .lit (.int .u64 0), .lit (.int .u64 0), .lit (.int .u64 0), .lit (.int .u64 0), .lit (.int .u64 0), .lit (.int .u64 0), .lit (.int .u64 0), .lit (.int .u64 0), .lit (.int .u64 0), .lit (.int .u64 0), .lit (.int .u64 0), .lit (.int .u64 0)]], [], places) :=
  ⟨[], by kernel_rfl⟩

set_option maxRecDepth 100000 in
theorem lifted (os : Os) (started : os.Started) (H : Type) (enc : TypeId × Value → H) (F : Stop.Interp) :
    ReturnsInHanded {} Tryd.checked os 3 .any ((OpenSpec.ofChange Rows.graphNilSpec).preRow enc Tryd.prog Tryd.f3 Rows.graphNilRow.domain false Rows.graphNilRow.laid) (((OpenSpec.ofChange Rows.graphNilSpec).at F).post enc Tryd.prog Tryd.f3 false true false false) := by
  obtain ⟨places, hx⟩ := reads os enc
  refine returnsInHanded_of_row (C := Tryd.checked) (s := OpenSpec.ofChange Rows.graphNilSpec) own started (by kernel_rfl) Tryd.func3
    (witness_row_at (enc := enc) (C := Tryd.checked) false (laidWorld os) #[.agg #[.int .i64 0, .int .i64 0, .int .i64 0, .int .u8 0, .int .i64 0], .int .i64 0, .agg #[.int .u64 0, .int .u64 0, .int .u64 0, .int .u64 0, .int .u64 0, .int .u64 0, .int .u64 0, .int .u64 0, .int .u64 0, .int .u64 0, .int .u64 0, .int .u64 0, .int .u64 0, .int .u64 0, .int .u64 0, .int .u64 0]] rfl (by kernel_rfl) (by kernel_rfl) (by kernel_rfl)
      (OpenSpec.preRow_of_cond 8 hx (by kernel_rfl) (fun k hk => by cases hk) (by kernel_rfl) (laid_met os))) ?_
  intro W base args ds gs before hval hW _ _ _ hL _ _
  exact contract H enc W base args ds gs before hval hW hL

theorem said : Rows.GraphNilSaid :=
  OpenClaim.holds_of_cond 3 Tryd.f3 rfl rfl rfl rfl rfl rfl rfl ⟨rfl, rfl, rfl, rfl, rfl⟩ rfl rfl rfl rfl rfl (by kernel_rfl) Tryd.func3 (by kernel_rfl)
    (of_decide_eq_true (by kernel_rfl)) (by unfold Func.isWrapper; first | (rw [if_pos (by decide +kernel)]; kernel_rfl) | (rw [if_neg (by decide +kernel)]; exact ⟨rfl, rfl⟩))
    (fun os started H enc _ F => by rw [OpenClaim.pre_eq_preRow]; exact lifted os started H enc F)

theorem plain (f : FuncId) (fn : Func) (hf : Tryd.pinned.checked.prog.funcNamed "palmette/palmettelaw05.GraphNil" = some f) (hfn : Tryd.pinned.checked.prog.funcs[f]? = some fn) :
    true = Tryd.pinned.checked.prog.looks [] ∧ ∀ (j : Nat) t, fn.params[j]? = some t → Tryd.pinned.checked.prog.wantsStandIn t = false := by
  obtain rfl : f = 3 := Option.some.inj ((show Tryd.prog.funcNamed "palmette/palmettelaw05.GraphNil" = some 3 by kernel_rfl).symm.trans hf) |>.symm
  obtain rfl : fn = Tryd.f3 := (Option.some.inj (Tryd.func3.symm.trans hfn)).symm
  exact ⟨by kernel_rfl, fun j t ht => Can.wants_of (P := Tryd.pinned.checked.prog) (by kernel_rfl) j t ht⟩

theorem card : Rows.GraphNilCardSaid :=
  Claim7.holds_tied_plain_at .later [] _ _ _ _ said (fun _ h => by cases h) (by kernel_rfl) (fun _ h => by cases h) graphNil_row_tie rfl ⟨rfl, rfl⟩ (by kernel_rfl) rfl plain (by kernel_rfl)
end Go.Proofs.YtebophkgkdhjcaaDoor.graphNil
