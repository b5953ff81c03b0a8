/-
  SemiringTropical: the call answers true whatever its arguments: the frame.
-/
import Derived.Test.YtkpdkkeblipfdaaDoorWalkSemiringTropical
set_option linter.unusedSimpArgs false
set_option linter.unusedVariables false
namespace Go.Proofs.YtkpdkkeblipfdaaDoor.semiringTropical
open Go.ChangeShapes Go.WideShapes Go.ChangeAt Go.RowKit Go.Joins Go.Own

set_option maxRecDepth 100000 in
theorem contract (H : Type) (enc : TypeId × Value → H) (W : World) (base : Nat) (args : Array Value) (ds gs : List (DataW H)) (before : List MemPlace)
    (hval : ∀ (j : Nat) t v, Tryd.f5.params[j]? = some t → args[j]? = some v → Value.okWide Tryd.prog W .any base t v)
    (hW : DataW.Whole enc Tryd.prog Tryd.f5.params.toList Rows.semiringTropicalSpec.vars false W args.toList ds gs before) (hL : laidMetH Tryd.prog Rows.semiringTropicalRow.laid W) :
    Calls Tryd.prog 5 args W fun e W' => ∃ v, e = .returned v ∧ Rows.semiringTropicalSpec.post enc Tryd.prog Tryd.f5 false true false false W args v W' := by
  have hW' := hW
  obtain ⟨ha, hn⟩ := Can.whole_args (ks := [.row [.bool, .int .i64], .row [.bool, .int .i64]]) (by kernel_rfl) hval hW
  have hn : ds.length = 2 := hn.trans (by kernel_rfl)
  generalize ea : args.toList = al at ha
  obtain ⟨v0, al0, rfl, k0, ha0⟩ := Can.hasArgs_cons ha
  obtain ⟨r0_, rfl, k0_⟩ := k0
  obtain ⟨_, r0_0, rfl, ⟨x0_0, rfl⟩, k0_0⟩ := Can.hasAll_cons k0_
  obtain ⟨_, r0_1, rfl, ⟨x0_1, rfl, w0_1⟩, k0_1⟩ := Can.hasAll_cons k0_0
  obtain rfl := Can.hasAll_nil k0_1
  obtain ⟨v1, al1, rfl, k1, ha1⟩ := Can.hasArgs_cons ha0
  obtain ⟨r1_, rfl, k1_⟩ := k1
  obtain ⟨_, r1_0, rfl, ⟨x1_0, rfl⟩, k1_0⟩ := Can.hasAll_cons k1_
  obtain ⟨_, r1_1, rfl, ⟨x1_1, rfl, w1_1⟩, k1_1⟩ := Can.hasAll_cons k1_0
  obtain rfl := Can.hasAll_nil k1_1
  obtain rfl := Can.hasArgs_nil ha1
  obtain rfl := Can.arr_of ea
  obtain ⟨d0, ds0, rfl, hn0⟩ := Can.list_cons hn
  obtain ⟨d1, ds1, rfl, hn1⟩ := Can.list_cons hn0
  obtain rfl := Can.list_nil hn1
  refine ((walk hL x0_0 x0_1 x1_0 x1_1 w0_1 w1_1)).mono fun e W' ⟨he, x, hx⟩ => ?_
  subst he; subst hx
  exact ⟨_, rfl, law_post hW' rfl rfl (below_beyond _ _) rfl Tryd.underlying4 (by kernel_rfl) (by kernel_rfl)⟩

noncomputable def laid1 (cs : Array Value) : Obj → Obj
  | .cells _ t frozen => .cells cs t frozen
  | o => o
/-- A world for the witness: the settled one, the tables holding what their initialisers lay. -/
noncomputable def laidWorld (os : Os) : World := { World.holding Tryd.prog os ⟨#[], #[], []⟩ with heap := ((((World.holding Tryd.prog os ⟨#[], #[], []⟩).heap.modify 2 (laid1 (Can.tabCells Rows.laid_math_bits_deBruijn32tab))).modify 3 (laid1 (Can.tabCells Rows.laid_math_bits_deBruijn64tab))).modify 1 (laid1 (Can.tabCells Rows.laid_internal_strconv_uint64pow10))) }
theorem laid_met (os : Os) : laidMet Tryd.prog Rows.semiringTropicalRow.laid ((laidWorld os).forCall (fun _ _ => 0) ⟨#[], #[.agg #[.bool false, .int .i64 0], .agg #[.bool false, .int .i64 0]], []⟩).memory :=
  laidMet_of_run' 8 (by kernel_rfl) (by kernel_rfl)
theorem reads (os : Os) {H : Type} (enc : TypeId × Value → H) : ∃ places, DataW.whole enc Tryd.prog ((laidWorld os).forCall (fun _ _ => 0) ⟨#[], #[.agg #[.bool false, .int .i64 0], .agg #[.bool false, .int .i64 0]], []⟩).memory Tryd.f5.params.toList Rows.semiringTropicalSpec.vars false (#[.agg #[.bool false, .int .i64 0], .agg #[.bool false, .int .i64 0]] : Array Value).toList 8 = some ([.agg [.lit (.bool false), .lit (.int .i64 0)], .agg [.lit (.bool false), .lit (.int .i64 0)]], [], places) :=
  ⟨[], by kernel_rfl⟩

set_option maxRecDepth 100000 in
theorem lifted (os : Os) (started : os.Started) (H : Type) (enc : TypeId × Value → H) (F : Stop.Interp) :
    ReturnsInHanded {} Tryd.checked os 5 .any ((OpenSpec.ofChange Rows.semiringTropicalSpec).preRow enc Tryd.prog Tryd.f5 Rows.semiringTropicalRow.domain false Rows.semiringTropicalRow.laid) (((OpenSpec.ofChange Rows.semiringTropicalSpec).at F).post enc Tryd.prog Tryd.f5 false true false false) := by
  obtain ⟨places, hx⟩ := reads os enc
  refine returnsInHanded_of_row (C := Tryd.checked) (s := OpenSpec.ofChange Rows.semiringTropicalSpec) own started (by kernel_rfl) Tryd.func5
    (witness_row_at (enc := enc) (C := Tryd.checked) false (laidWorld os) #[.agg #[.bool false, .int .i64 0], .agg #[.bool false, .int .i64 0]] rfl (by kernel_rfl) (by kernel_rfl) (by kernel_rfl)
      (OpenSpec.preRow_of_cond 8 hx (by kernel_rfl) (fun k hk => by cases hk) (by kernel_rfl) (laid_met os))) ?_
  intro W base args ds gs before hval hW _ _ _ hL _ _
  exact contract H enc W base args ds gs before hval hW hL

theorem said : Rows.SemiringTropicalSaid :=
  OpenClaim.holds_of_cond 5 Tryd.f5 rfl rfl rfl rfl rfl rfl rfl ⟨rfl, rfl, rfl, rfl, rfl⟩ rfl rfl rfl rfl rfl (by kernel_rfl) Tryd.func5 (by kernel_rfl)
    (of_decide_eq_true (by kernel_rfl)) (by unfold Func.isWrapper; first | (rw [if_pos (by decide +kernel)]; kernel_rfl) | (rw [if_neg (by decide +kernel)]; exact ⟨rfl, rfl⟩))
    (fun os started H enc _ F => by rw [OpenClaim.pre_eq_preRow]; exact lifted os started H enc F)

theorem plain (f : FuncId) (fn : Func) (hf : Tryd.pinned.checked.prog.funcNamed "palmette/palmettelaw39.SemiringTropical" = some f) (hfn : Tryd.pinned.checked.prog.funcs[f]? = some fn) :
    false = Tryd.pinned.checked.prog.looks [] ∧ ∀ (j : Nat) t, fn.params[j]? = some t → Tryd.pinned.checked.prog.wantsStandIn t = false := by
  obtain rfl : f = 5 := Option.some.inj ((show Tryd.prog.funcNamed "palmette/palmettelaw39.SemiringTropical" = some 5 by kernel_rfl).symm.trans hf) |>.symm
  obtain rfl : fn = Tryd.f5 := (Option.some.inj (Tryd.func5.symm.trans hfn)).symm
  exact ⟨by kernel_rfl, fun j t ht => Can.wants_of (P := Tryd.pinned.checked.prog) (by kernel_rfl) j t ht⟩

theorem card : Rows.SemiringTropicalCardSaid :=
  Claim7.holds_tied_plain_at .later [] _ _ _ _ said (fun _ h => by cases h) (by kernel_rfl) (fun _ h => by cases h) semiringTropical_row_tie rfl ⟨rfl, rfl⟩ (by kernel_rfl) rfl plain (by kernel_rfl)
end Go.Proofs.YtkpdkkeblipfdaaDoor.semiringTropical
