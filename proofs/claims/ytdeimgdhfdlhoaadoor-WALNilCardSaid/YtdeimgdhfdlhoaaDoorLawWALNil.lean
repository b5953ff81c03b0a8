/-
  WALNil: the call answers true whatever its arguments: found by the evaluator of canonical runs.
-/
import Derived.Test.YtdeimgdhfdlhoaaDoorCards
import Derived.Test.YtdeimgdhfdlhoaaDoorTie
import Derived.Test.YtdeimgdhfdlhoaaDoorCanY
import Derived.WalkKit
import Derived.ProofKit
import Derived.OpenShut
import Derived.Deep.DeepHandedRow
set_option linter.unusedSimpArgs false
set_option linter.unusedVariables false
namespace Go.Proofs.YtdeimgdhfdlhoaaDoor.wALNil
open Go.ChangeShapes Go.WideShapes Go.ChangeAt Go.RowKit Go.Joins Go.Own

theorem own : ownKnob Tryd.prog.godebug = none := by kernel_rfl
theorem pc : Can.PC2 Tryd.prog := .of_bool (by kernel_rfl)
noncomputable def H0 (T : Nat → TypeId) : Array Obj := #[.cells (Can.tabCells Rows.laid_internal_strconv_uint64pow10) (T 0), .cells (Can.tabCells Rows.laid_math_bits_deBruijn32tab) (T 1), .cells (Can.tabCells Rows.laid_math_bits_deBruijn64tab) (T 2)]
set_option maxRecDepth 100000 in
theorem found (T : Nat → TypeId) (x0_0 : ByteArray) (x0_1 : ByteArray) (x1_0 : ByteArray) : Can.evTrue (Can.ev Tryd.prog [0, 1, 2] 3000 (.call 3 #[.agg #[.string x0_0, .string x0_1], .string x1_0]) (Can.AW.start (H0 T))) = true := by kernel_rfl
theorem known {W : World} (hL : laidMetH Tryd.prog Rows.wALNilRow.laid W) : Can.Known (H0 (Can.tyAt W)) (Can.onG [0, 1, 2]) W := by
  refine Can.known_onG fun g hg => ?_
  simp only [List.mem_cons, List.not_mem_nil, or_false] at hg
  rcases hg with rfl | rfl | rfl
  · exact ⟨Can.tabCells Rows.laid_internal_strconv_uint64pow10, Can.tyAt W 0, rfl, Can.laid_tab hL (by kernel_rfl) (List.mem_of_getElem? (i := 2) rfl) (by kernel_rfl) (by kernel_rfl) (by decide +kernel), by kernel_rfl⟩
  · exact ⟨Can.tabCells Rows.laid_math_bits_deBruijn32tab, Can.tyAt W 1, rfl, Can.laid_tab hL (by kernel_rfl) (List.mem_of_getElem? (i := 0) rfl) (by kernel_rfl) (by kernel_rfl) (by decide +kernel), by kernel_rfl⟩
  · exact ⟨Can.tabCells Rows.laid_math_bits_deBruijn64tab, Can.tyAt W 2, rfl, Can.laid_tab hL (by kernel_rfl) (List.mem_of_getElem? (i := 1) rfl) (by kernel_rfl) (by kernel_rfl) (by decide +kernel), by kernel_rfl⟩

set_option maxRecDepth 100000 in
theorem contract (H : Type) (enc : TypeId × Value → H) (W : World) (base : Nat) (args : Array Value) (ds gs : List (DataW H)) (before : List MemPlace)
    (hval : ∀ (j : Nat) t v, Tryd.f3.params[j]? = some t → args[j]? = some v → Value.okWide Tryd.prog W .any base t v)
    (hW : DataW.Whole enc Tryd.prog Tryd.f3.params.toList Rows.wALNilSpec.vars false W args.toList ds gs before) (hL : laidMetH Tryd.prog Rows.wALNilRow.laid W) :
    Calls Tryd.prog 3 args W fun e W' => ∃ v, e = .returned v ∧ Rows.wALNilSpec.post enc Tryd.prog Tryd.f3 false true false false W args v W' := by
  have hW' := hW
  obtain ⟨ha, hn⟩ := Can.whole_args (ks := [.row [.str, .str], .one (.str)]) (by kernel_rfl) hval hW
  have hn : ds.length = 2 := hn.trans (by kernel_rfl)
  generalize ea : args.toList = al at ha
  obtain ⟨v0, al0, rfl, k0, ha0⟩ := Can.hasArgs_cons ha
  obtain ⟨r0_, rfl, k0_⟩ := k0
  obtain ⟨_, r0_0, rfl, ⟨x0_0, rfl⟩, k0_0⟩ := Can.hasAll_cons k0_
  obtain ⟨_, r0_1, rfl, ⟨x0_1, rfl⟩, k0_1⟩ := Can.hasAll_cons k0_0
  obtain rfl := Can.hasAll_nil k0_1
  obtain ⟨v1, al1, rfl, k1, ha1⟩ := Can.hasArgs_cons ha0
  obtain ⟨x1_0, rfl⟩ := k1
  obtain rfl := Can.hasArgs_nil ha1
  obtain rfl := Can.arr_of ea
  obtain ⟨d0, ds0, rfl, hn0⟩ := Can.list_cons hn
  obtain ⟨d1, ds1, rfl, hn1⟩ := Can.list_cons hn0
  obtain rfl := Can.list_nil hn1
  refine ((Can.true_calls pc (found (Can.tyAt W) x0_0 x0_1 x1_0) (known hL) (Can.gl_onG _) (Can.plain_args (by kernel_rfl)))).mono fun e W' ⟨he, x, hx⟩ => ?_
  subst he; subst hx
  exact ⟨_, rfl, law_post hW' rfl rfl (below_beyond _ _) rfl Tryd.underlying4 (by kernel_rfl) (by kernel_rfl)⟩

noncomputable def laid1 (cs : Array Value) : Obj → Obj
  | .cells _ t frozen => .cells cs t frozen
  | o => o
/-- A world for the witness: the settled one, the tables holding what their initialisers lay. -/
noncomputable def laidWorld (os : Os) : World := { World.holding Tryd.prog os ⟨#[], #[], []⟩ with heap := ((((World.holding Tryd.prog os ⟨#[], #[], []⟩).heap.modify 1 (laid1 (Can.tabCells Rows.laid_math_bits_deBruijn32tab))).modify 2 (laid1 (Can.tabCells Rows.laid_math_bits_deBruijn64tab))).modify 0 (laid1 (Can.tabCells Rows.laid_internal_strconv_uint64pow10))) }
theorem laid_met (os : Os) : laidMet Tryd.prog Rows.wALNilRow.laid ((laidWorld os).forCall (fun _ _ => 0) ⟨#[], #[.agg #[.string ⟨#[]⟩, .string ⟨#[]⟩], .string ⟨#[]⟩], []⟩).memory :=
  laidMet_of_run' 8 (by kernel_rfl) (by kernel_rfl)
theorem reads (os : Os) {H : Type} (enc : TypeId × Value → H) : ∃ places, DataW.whole enc Tryd.prog ((laidWorld os).forCall (fun _ _ => 0) ⟨#[], #[.agg #[.string ⟨#[]⟩, .string ⟨#[]⟩], .string ⟨#[]⟩], []⟩).memory Tryd.f3.params.toList Rows.wALNilSpec.vars false (#[.agg #[.string ⟨#[]⟩, .string ⟨#[]⟩], .string ⟨#[]⟩] : Array Value).toList 8 = some ([.agg [.lit (.string []), .lit (.string [])], .lit (.string [])], [], places) :=
  ⟨[], by kernel_rfl⟩

set_option maxRecDepth 100000 in
theorem lifted (os : Os) (started : os.Started) (H : Type) (enc : TypeId × Value → H) (F : Stop.Interp) :
    ReturnsInHanded {} Tryd.checked os 3 .any ((OpenSpec.ofChange Rows.wALNilSpec).preRow enc Tryd.prog Tryd.f3 Rows.wALNilRow.domain false Rows.wALNilRow.laid) (((OpenSpec.ofChange Rows.wALNilSpec).at F).post enc Tryd.prog Tryd.f3 false true false false) := by
  obtain ⟨places, hx⟩ := reads os enc
  refine returnsInHanded_of_row (C := Tryd.checked) (s := OpenSpec.ofChange Rows.wALNilSpec) own started (by kernel_rfl) Tryd.func3
    (witness_row_at (enc := enc) (C := Tryd.checked) false (laidWorld os) #[.agg #[.string ⟨#[]⟩, .string ⟨#[]⟩], .string ⟨#[]⟩] rfl (by kernel_rfl) (by kernel_rfl) (by kernel_rfl)
      (OpenSpec.preRow_of_cond 8 hx (by kernel_rfl) (fun k hk => by cases hk) (by kernel_rfl) (laid_met os))) ?_
  intro W base args ds gs before hval hW _ _ _ hL _ _
  exact contract H enc W base args ds gs before hval hW hL

theorem said : Rows.WALNilSaid :=
  OpenClaim.holds_of_cond 3 Tryd.f3 rfl rfl rfl rfl rfl rfl rfl ⟨rfl, rfl, rfl, rfl, rfl⟩ rfl rfl rfl rfl rfl (by kernel_rfl) Tryd.func3 (by kernel_rfl)
    (of_decide_eq_true (by kernel_rfl)) (by unfold Func.isWrapper; first | (rw [if_pos (by decide +kernel)]; kernel_rfl) | (rw [if_neg (by decide +kernel)]; exact ⟨rfl, rfl⟩))
    (fun os started H enc _ F => by rw [OpenClaim.pre_eq_preRow]; exact lifted os started H enc F)

theorem plain (f : FuncId) (fn : Func) (hf : Tryd.pinned.checked.prog.funcNamed "palmette/palmettelaw53.WALNil" = some f) (hfn : Tryd.pinned.checked.prog.funcs[f]? = some fn) :
    false = Tryd.pinned.checked.prog.looks [] ∧ ∀ (j : Nat) t, fn.params[j]? = some t → Tryd.pinned.checked.prog.wantsStandIn t = false := by
  obtain rfl : f = 3 := Option.some.inj ((show Tryd.prog.funcNamed "palmette/palmettelaw53.WALNil" = some 3 by kernel_rfl).symm.trans hf) |>.symm
  obtain rfl : fn = Tryd.f3 := (Option.some.inj (Tryd.func3.symm.trans hfn)).symm
  exact ⟨by kernel_rfl, fun j t ht => Can.wants_of (P := Tryd.pinned.checked.prog) (by kernel_rfl) j t ht⟩

theorem card : Rows.WALNilCardSaid :=
  Claim7.holds_tied_plain_at .later [] _ _ _ _ said (fun _ h => by cases h) (by kernel_rfl) (fun _ h => by cases h) wALNil_row_tie rfl ⟨rfl, rfl⟩ (by kernel_rfl) rfl plain (by kernel_rfl)
end Go.Proofs.YtdeimgdhfdlhoaaDoor.wALNil
