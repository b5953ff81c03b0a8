/-
  BitsetFormatParse: the call answers true whatever its arguments: the frame.
-/
import Derived.Test.YtjneboajbmabbaaDoorMB1
import Derived.Test.YtjneboajbmabbaaDoorMB2
import Derived.Test.YtjneboajbmabbaaDoorMLF1
import Derived.Test.YtjneboajbmabbaaDoorMLF2
import Derived.Test.YtjneboajbmabbaaDoorMLF3
import Derived.Test.YtjneboajbmabbaaDoorMLF4
import Derived.Test.YtjneboajbmabbaaDoorMLF5
import Derived.Test.YtjneboajbmabbaaDoorMLF6
import Derived.Test.YtjneboajbmabbaaDoorMLF7
import Derived.Test.YtjneboajbmabbaaDoorMLF8
import Derived.Test.YtjneboajbmabbaaDoorMLF9
import Derived.Test.YtjneboajbmabbaaDoorMLF10
set_option linter.unusedSimpArgs false
set_option linter.unusedVariables false
namespace Go.Proofs.YtjneboajbmabbaaDoor.bitsetFormatParse
open Go.ChangeShapes Go.WideShapes Go.ChangeAt Go.RowKit Go.Joins Go.Own

set_option maxRecDepth 100000 in
theorem contract (H : Type) (enc : TypeId × Value → H) (W : World) (base : Nat) (args : Array Value) (ds gs : List (DataW H)) (before : List MemPlace)
    (hval : ∀ (j : Nat) t v, Tryd.f10.params[j]? = some t → args[j]? = some v → Value.okWide Tryd.prog W .any base t v)
    (hW : DataW.Whole enc Tryd.prog Tryd.f10.params.toList Rows.bitsetFormatParseSpec.vars false W args.toList ds gs before) (hL : laidMetH Tryd.prog Rows.bitsetFormatParseRow.laid W) :
    Calls Tryd.prog 10 args W fun e W' => ∃ v, e = .returned v ∧ Rows.bitsetFormatParseSpec.post enc Tryd.prog Tryd.f10 false true false false W args v W' := by
  have hW' := hW
  obtain ⟨ha, hn⟩ := Can.whole_args (ks := [.row [.int .u64, .int .u64, .int .u64, .int .u64, .int .u64, .int .u64, .int .u64, .int .u64, .int .u64, .int .u64, .int .u64, .int .u64, .int .u64, .int .u64, .int .u64, .int .u64]]) (by kernel_rfl) hval hW
  have hn : ds.length = 1 := hn.trans (by kernel_rfl)
  generalize ea : args.toList = al at ha
  obtain ⟨v0, al0, rfl, k0, ha0⟩ := Can.hasArgs_cons ha
  obtain ⟨r0_, rfl, k0_⟩ := k0
  obtain ⟨_, r0_0, rfl, ⟨x0_0, rfl, w0_0⟩, k0_0⟩ := Can.hasAll_cons k0_
  obtain ⟨_, r0_1, rfl, ⟨x0_1, rfl, w0_1⟩, k0_1⟩ := Can.hasAll_cons k0_0
  obtain ⟨_, r0_2, rfl, ⟨x0_2, rfl, w0_2⟩, k0_2⟩ := Can.hasAll_cons k0_1
  obtain ⟨_, r0_3, rfl, ⟨x0_3, rfl, w0_3⟩, k0_3⟩ := Can.hasAll_cons k0_2
  obtain ⟨_, r0_4, rfl, ⟨x0_4, rfl, w0_4⟩, k0_4⟩ := Can.hasAll_cons k0_3
  obtain ⟨_, r0_5, rfl, ⟨x0_5, rfl, w0_5⟩, k0_5⟩ := Can.hasAll_cons k0_4
  obtain ⟨_, r0_6, rfl, ⟨x0_6, rfl, w0_6⟩, k0_6⟩ := Can.hasAll_cons k0_5
  obtain ⟨_, r0_7, rfl, ⟨x0_7, rfl, w0_7⟩, k0_7⟩ := Can.hasAll_cons k0_6
  obtain ⟨_, r0_8, rfl, ⟨x0_8, rfl, w0_8⟩, k0_8⟩ := Can.hasAll_cons k0_7
  obtain ⟨_, r0_9, rfl, ⟨x0_9, rfl, w0_9⟩, k0_9⟩ := Can.hasAll_cons k0_8
  obtain ⟨_, r0_10, rfl, ⟨x0_10, rfl, w0_10⟩, k0_10⟩ := Can.hasAll_cons k0_9
  obtain ⟨_, r0_11, rfl, ⟨x0_11, rfl, w0_11⟩, k0_11⟩ := Can.hasAll_cons k0_10
  obtain ⟨_, r0_12, rfl, ⟨x0_12, rfl, w0_12⟩, k0_12⟩ := Can.hasAll_cons k0_11
  obtain ⟨_, r0_13, rfl, ⟨x0_13, rfl, w0_13⟩, k0_13⟩ := Can.hasAll_cons k0_12
  obtain ⟨_, r0_14, rfl, ⟨x0_14, rfl, w0_14⟩, k0_14⟩ := Can.hasAll_cons k0_13
  obtain ⟨_, r0_15, rfl, ⟨x0_15, rfl, w0_15⟩, k0_15⟩ := Can.hasAll_cons k0_14
  obtain rfl := Can.hasAll_nil k0_15
  obtain rfl := Can.hasArgs_nil ha0
  obtain rfl := Can.arr_of ea
  obtain ⟨d0, ds0, rfl, hn0⟩ := Can.list_cons hn
  obtain rfl := Can.list_nil hn0
  refine ((walk hL x0_0 x0_1 x0_2 x0_3 x0_4 x0_5 x0_6 x0_7 x0_8 x0_9 x0_10 x0_11 x0_12 x0_13 x0_14 x0_15 w0_0 w0_1 w0_2 w0_3 w0_4 w0_5 w0_6 w0_7 w0_8 w0_9 w0_10 w0_11 w0_12 w0_13 w0_14 w0_15)).mono fun e W' ⟨he, x, hx⟩ => ?_
  subst he; subst hx
  exact ⟨_, rfl, law_post hW' rfl rfl (below_beyond _ _) rfl Tryd.underlying4 (by kernel_rfl) (by kernel_rfl)⟩

noncomputable def laid1 (cs : Array Value) : Obj → Obj
  | .cells _ t frozen => .cells cs t frozen
  | o => o
/-- A world for the witness: the settled one, the tables holding what their initialisers lay. -/
noncomputable def laidWorld (os : Os) : World := { World.holding Tryd.prog os ⟨#[], #[], []⟩ with heap := ((((World.holding Tryd.prog os ⟨#[], #[], []⟩).heap.modify 2 (laid1 (Can.tabCells Rows.laid_math_bits_deBruijn32tab))).modify 0 (laid1 (Can.tabCells Rows.laid_math_bits_deBruijn64tab))).modify 1 (laid1 (Can.tabCells Rows.laid_internal_strconv_uint64pow10))) }
theorem laid_met (os : Os) : laidMet Tryd.prog Rows.bitsetFormatParseRow.laid ((laidWorld os).forCall (fun _ _ => 0) ⟨#[], #[.agg #[.int .u64 0, .int .u64 0, .int .u64 0, .int .u64 0, .int .u64 0, .int .u64 0, .int .u64 0, .int .u64 0, .int .u64 0, .int .u64 0, .int .u64 0, .int .u64 0, .int .u64 0, .int .u64 0, .int .u64 0, .int .u64 0]], []⟩).memory :=
  laidMet_of_run' 8 (by kernel_rfl) (by kernel_rfl)
theorem reads (os : Os) {H : Type} (enc : TypeId × Value → H) : ∃ places, DataW.whole enc Tryd.prog ((laidWorld os).forCall (fun _ _ => 0) ⟨#[], #[.agg #[.int .u64 0, .int .u64 0, .int .u64 0, .int .u64 0, .int .u64 0, .int .u64 0, .int .u64 0, .int .u64 0, .int .u64 0, .int .u64 0, .int .u64 0, .int .u64 0, .int .u64 0, .int .u64 0, .int .u64 0, .int .u64 0]], []⟩).memory Tryd.f10.params.toList Rows.bitsetFormatParseSpec.vars false (#[.agg #[.int .u64 0, .int .u64 0, .int .u64 0, .int .u64 0, .int .u64 0, .int .u64 0, .int .u64 0, .int .u64 0, .int .u64 0, .int .u64 0, .int .u64 0, .int .u64 0, .int .u64 0, .int .u64 0, .int .u64 0, .int .u64 0]] : Array Value).toList 8 = some ([.agg [.lit (.int .u64 0), .lit (.int .u64 0), .lit (.int .u64 0), .lit (.int .u64 0), .lit (.int .u64 0), .lit (.int .u64 0), .lit (.int .u64 0), .lit (.int .u64 0), .lit (.int .u64 0), .lit (.int .u64 0), .lit (.int .u64 0), .lit (.int .u64 0), .lit (.int .u64 0), .lit (.int .u64 0), .lit (.int .u64 0), .lit (.int .u64 0)]], [], places) :=
  ⟨[], by kernel_rfl⟩

set_option maxRecDepth 100000 in
theorem lifted (os : Os) (started : os.Started) (H : Type) (enc : TypeId × Value → H) (F : Stop.Interp) :
    ReturnsInHanded {} Tryd.checked os 10 .any ((OpenSpec.ofChange Rows.bitsetFormatParseSpec).preRow enc Tryd.prog Tryd.f10 Rows.bitsetFormatParseRow.domain false Rows.bitsetFormatParseRow.laid) (((OpenSpec.ofChange Rows.bitsetFormatParseSpec).at F).post enc Tryd.prog Tryd.f10 false true false false) := by
  obtain ⟨places, hx⟩ := reads os enc
  refine returnsInHanded_of_row (C := Tryd.checked) (s := OpenSpec.ofChange Rows.bitsetFormatParseSpec) own started (by kernel_rfl) Tryd.func10
    (witness_row_at (enc := enc) (C := Tryd.checked) false (laidWorld os) #[.agg #[.int .u64 0, .int .u64 0, .int .u64 0, .int .u64 0, .int .u64 0, .int .u64 0, .int .u64 0, .int .u64 0, .int .u64 0, .int .u64 0, .int .u64 0, .int .u64 0, .int .u64 0, .int .u64 0, .int .u64 0, .int .u64 0]] rfl (by kernel_rfl) (by kernel_rfl) (by kernel_rfl)
      (OpenSpec.preRow_of_cond 8 hx (by kernel_rfl) (fun k hk => by cases hk) (by kernel_rfl) (laid_met os))) ?_
  intro W base args ds gs before hval hW _ _ _ hL _ _
  exact contract H enc W base args ds gs before hval hW hL

theorem said : Rows.BitsetFormatParseSaid :=
  OpenClaim.holds_of_cond 10 Tryd.f10 rfl rfl rfl rfl rfl rfl rfl ⟨rfl, rfl, rfl, rfl, rfl⟩ rfl rfl rfl rfl rfl (by kernel_rfl) Tryd.func10 (by kernel_rfl)
    (of_decide_eq_true (by kernel_rfl)) (by unfold Func.isWrapper; first | (rw [if_pos (by decide +kernel)]; kernel_rfl) | (rw [if_neg (by decide +kernel)]; exact ⟨rfl, rfl⟩))
    (fun os started H enc _ F => by rw [OpenClaim.pre_eq_preRow]; exact lifted os started H enc F)

theorem plain (f : FuncId) (fn : Func) (hf : Tryd.pinned.checked.prog.funcNamed "palmette/palmettelaw01.BitsetFormatParse" = some f) (hfn : Tryd.pinned.checked.prog.funcs[f]? = some fn) :
    false = Tryd.pinned.checked.prog.looks [] ∧ ∀ (j : Nat) t, fn.params[j]? = some t → Tryd.pinned.checked.prog.wantsStandIn t = false := by
  obtain rfl : f = 10 := Option.some.inj ((show Tryd.prog.funcNamed "palmette/palmettelaw01.BitsetFormatParse" = some 10 by kernel_rfl).symm.trans hf) |>.symm
  obtain rfl : fn = Tryd.f10 := (Option.some.inj (Tryd.func10.symm.trans hfn)).symm
  exact ⟨by kernel_rfl, fun j t ht => Can.wants_of (P := Tryd.pinned.checked.prog) (by kernel_rfl) j t ht⟩

theorem card : Rows.BitsetFormatParseCardSaid :=
  Claim7.holds_tied_plain_at .later [] _ _ _ _ said (fun _ h => by cases h) (by kernel_rfl) (fun _ h => by cases h) bitsetFormatParse_row_tie rfl ⟨rfl, rfl⟩ (by kernel_rfl) rfl plain (by kernel_rfl)
end Go.Proofs.YtjneboajbmabbaaDoor.bitsetFormatParse
