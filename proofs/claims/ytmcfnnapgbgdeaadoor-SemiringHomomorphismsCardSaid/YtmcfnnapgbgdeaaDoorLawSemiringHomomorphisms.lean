/-
  SemiringHomomorphisms: the call answers true whatever its arguments: the frame.
-/
import Derived.Test.YtmcfnnapgbgdeaaDoorWalkSemiringHomomorphisms
set_option linter.unusedSimpArgs false
set_option linter.unusedVariables false
namespace Go.Proofs.YtmcfnnapgbgdeaaDoor.semiringHomomorphisms
open Go.ChangeShapes Go.WideShapes Go.ChangeAt Go.RowKit Go.Joins Go.Own

set_option maxRecDepth 100000 in
theorem contract (H : Type) (enc : TypeId × Value → H) (W : World) (base : Nat) (args : Array Value) (ds gs : List (DataW H)) (before : List MemPlace)
    (hval : ∀ (j : Nat) t v, Tryd.f3.params[j]? = some t → args[j]? = some v → Value.okWide Tryd.prog W .any base t v)
    (hW : DataW.Whole enc Tryd.prog Tryd.f3.params.toList Rows.semiringHomomorphismsSpec.vars false W args.toList ds gs before) (hL : laidMetH Tryd.prog Rows.semiringHomomorphismsRow.laid W) :
    Calls Tryd.prog 3 args W fun e W' => ∃ v, e = .returned v ∧ Rows.semiringHomomorphismsSpec.post enc Tryd.prog Tryd.f3 false true false false W args v W' := by
  have hW' := hW
  obtain ⟨ha, hn⟩ := Can.whole_args (ks := [.one (.int .u64), .one (.int .u64), .row [.bool, .int .i64], .row [.bool, .int .i64]]) (by kernel_rfl) hval hW
  have hn : ds.length = 4 := hn.trans (by kernel_rfl)
  generalize ea : args.toList = al at ha
  obtain ⟨v0, al0, rfl, k0, ha0⟩ := Can.hasArgs_cons ha
  obtain ⟨x0_0, rfl, w0_0⟩ := k0
  obtain ⟨v1, al1, rfl, k1, ha1⟩ := Can.hasArgs_cons ha0
  obtain ⟨x1_0, rfl, w1_0⟩ := k1
  obtain ⟨v2, al2, rfl, k2, ha2⟩ := Can.hasArgs_cons ha1
  obtain ⟨r2_, rfl, k2_⟩ := k2
  obtain ⟨_, r2_0, rfl, ⟨x2_0, rfl⟩, k2_0⟩ := Can.hasAll_cons k2_
  obtain ⟨_, r2_1, rfl, ⟨x2_1, rfl, w2_1⟩, k2_1⟩ := Can.hasAll_cons k2_0
  obtain rfl := Can.hasAll_nil k2_1
  obtain ⟨v3, al3, rfl, k3, ha3⟩ := Can.hasArgs_cons ha2
  obtain ⟨r3_, rfl, k3_⟩ := k3
  obtain ⟨_, r3_0, rfl, ⟨x3_0, rfl⟩, k3_0⟩ := Can.hasAll_cons k3_
  obtain ⟨_, r3_1, rfl, ⟨x3_1, rfl, w3_1⟩, k3_1⟩ := Can.hasAll_cons k3_0
  obtain rfl := Can.hasAll_nil k3_1
  obtain rfl := Can.hasArgs_nil ha3
  obtain rfl := Can.arr_of ea
  obtain ⟨d0, ds0, rfl, hn0⟩ := Can.list_cons hn
  obtain ⟨d1, ds1, rfl, hn1⟩ := Can.list_cons hn0
  obtain ⟨d2, ds2, rfl, hn2⟩ := Can.list_cons hn1
  obtain ⟨d3, ds3, rfl, hn3⟩ := Can.list_cons hn2
  obtain rfl := Can.list_nil hn3
  refine ((walk hL x0_0 x1_0 x2_0 x2_1 x3_0 x3_1 w0_0 w1_0 w2_1 w3_1)).mono fun e W' ⟨he, x, hx⟩ => ?_
  subst he; subst hx
  exact ⟨_, rfl, law_post hW' rfl rfl (below_beyond _ _) rfl Tryd.underlying4 (by kernel_rfl) (by kernel_rfl)⟩

noncomputable def laid1 (cs : Array Value) : Obj → Obj
  | .cells _ t frozen => .cells cs t frozen
  | o => o
/-- A world for the witness: the settled one, the tables holding what their initialisers lay. -/
noncomputable def laidWorld (os : Os) : World := { World.holding Tryd.prog os ⟨#[], #[], []⟩ with heap := ((((World.holding Tryd.prog os ⟨#[], #[], []⟩).heap.modify 2 (laid1 (Can.tabCells Rows.laid_math_bits_deBruijn32tab))).modify 3 (laid1 (Can.tabCells Rows.laid_math_bits_deBruijn64tab))).modify 1 (laid1 (Can.tabCells Rows.laid_internal_strconv_uint64pow10))) }
theorem laid_met (os : Os) : laidMet Tryd.prog Rows.semiringHomomorphismsRow.laid ((laidWorld os).forCall (fun _ _ => 0) ⟨#[], #[.int .u64 0, .int .u64 0, .agg #[.bool false, .int .i64 0], .agg #[.bool false, .int .i64 0]], []⟩).memory :=
  laidMet_of_run' 8 (by kernel_rfl) (by kernel_rfl)
theorem reads (os : Os) {H : Type} (enc : TypeId × Value → H) : ∃ places, DataW.whole enc Tryd.prog ((laidWorld os).forCall (fun _ _ => 0) ⟨#[], #[.int .u64 0, .int .u64 0, .agg #[.bool false, .int .i64 0], .agg #[.bool false, .int .i64 0]], []⟩).memory Tryd.f3.params.toList Rows.semiringHomomorphismsSpec.vars false (#[.int .u64 0, .int .u64 0, .agg #[.bool false, .int .i64 0], .agg #[.bool false, .int .i64 0]] : Array Value).toList 8 = some ([.lit (.int .u64 0), .lit (.int .u64 0), .agg [.lit (.bool false), .lit (.int .i64 0)], .agg [.lit (.bool false), .lit (.int .i64 0)]], [], places) :=
  ⟨[], by kernel_rfl⟩

set_option maxRecDepth 100000 in
theorem lifted (os : Os) (started : os.Started) (H : Type) (enc : TypeId × Value → H) (F : Stop.Interp) :
    ReturnsInHanded {} Tryd.checked os 3 .any ((OpenSpec.ofChange Rows.semiringHomomorphismsSpec).preRow enc Tryd.prog Tryd.f3 Rows.semiringHomomorphismsRow.domain false Rows.semiringHomomorphismsRow.laid) (((OpenSpec.ofChange Rows.semiringHomomorphismsSpec).at F).post enc Tryd.prog Tryd.f3 false true false false) := by
  obtain ⟨places, hx⟩ := reads os enc
  refine returnsInHanded_of_row (C := Tryd.checked) (s := OpenSpec.ofChange Rows.semiringHomomorphismsSpec) own started (by kernel_rfl) Tryd.func3
    (witness_row_at (enc := enc) (C := Tryd.checked) false (laidWorld os) #[.int .u64 0, .int .u64 0, .agg #[.bool false, .int .i64 0], .agg #[.bool false, .int .i64 0]] rfl (by kernel_rfl) (by kernel_rfl) (by kernel_rfl)
      (OpenSpec.preRow_of_cond 8 hx (by kernel_rfl) (fun k hk => by cases hk) (by kernel_rfl) (laid_met os))) ?_
  intro W base args ds gs before hval hW _ _ _ hL _ _
  exact contract H enc W base args ds gs before hval hW hL

theorem said : Rows.SemiringHomomorphismsSaid :=
  OpenClaim.holds_of_cond 3 Tryd.f3 rfl rfl rfl rfl rfl rfl rfl ⟨rfl, rfl, rfl, rfl, rfl⟩ rfl rfl rfl rfl rfl (by kernel_rfl) Tryd.func3 (by kernel_rfl)
    (of_decide_eq_true (by kernel_rfl)) (by unfold Func.isWrapper; first | (rw [if_pos (by decide +kernel)]; kernel_rfl) | (rw [if_neg (by decide +kernel)]; exact ⟨rfl, rfl⟩))
    (fun os started H enc _ F => by rw [OpenClaim.pre_eq_preRow]; exact lifted os started H enc F)

theorem plain (f : FuncId) (fn : Func) (hf : Tryd.pinned.checked.prog.funcNamed "palmette/palmettelaw39.SemiringHomomorphisms" = some f) (hfn : Tryd.pinned.checked.prog.funcs[f]? = some fn) :
    false = Tryd.pinned.checked.prog.looks [] ∧ ∀ (j : Nat) t, fn.params[j]? = some t → Tryd.pinned.checked.prog.wantsStandIn t = false := by
  obtain rfl : f = 3 := Option.some.inj ((show Tryd.prog.funcNamed "palmette/palmettelaw39.SemiringHomomorphisms" = some 3 by kernel_rfl).symm.trans hf) |>.symm
  obtain rfl : fn = Tryd.f3 := (Option.some.inj (Tryd.func3.symm.trans hfn)).symm
  exact ⟨by kernel_rfl, fun j t ht => Can.wants_of (P := Tryd.pinned.checked.prog) (by kernel_rfl) j t ht⟩

theorem card : Rows.SemiringHomomorphismsCardSaid :=
  Claim7.holds_tied_plain_at .later [] _ _ _ _ said (fun _ h => by cases h) (by kernel_rfl) (fun _ h => by cases h) semiringHomomorphisms_row_tie rfl ⟨rfl, rfl⟩ (by kernel_rfl) rfl plain (by kernel_rfl)
end Go.Proofs.YtmcfnnapgbgdeaaDoor.semiringHomomorphisms
