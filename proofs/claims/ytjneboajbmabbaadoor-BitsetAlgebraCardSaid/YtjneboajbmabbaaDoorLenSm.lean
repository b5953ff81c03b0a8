/-
  The number of elements of a set, on any row of words, as a contract that is looked up.
-/
import Derived.Test.YtjneboajbmabbaaDoorCmpSm
import Derived.Test.YtjneboajbmabbaaDoorPopI
set_option linter.unusedSimpArgs false
set_option linter.unusedVariables false
namespace Go.Proofs.YtjneboajbmabbaaDoor.bits
open Go.Can Go.RowKit Go.Bits Go.Own
set_option maxRecDepth 100000
theorem pop_ev (x : Int) : intOut .i64 (evS Tryd.prog [] noSm 300 (.call 56 #[.int .u64 x]) (AW.start #[])) = some (popI x) := by kernel_rfl
noncomputable def popF (x : Array Value) : Option Value := match x.toList with
  | [.int .u64 n] => some (.int .i64 (popI n))
  | _ => none
noncomputable def popSm : Rec := fnSm 56 popF
theorem popSm_ok (G : List Nat) : RecOk Tryd.prog G popSm := fnSm_ok fun x v h => by
  unfold popF at h
  split at h
  case h_2 => cases h
  rename_i n hx
  cases h
  obtain rfl : x = #[.int .u64 n] := by cases x; simp_all
  exact ⟨by kernel_rfl, rfl, fun w => int_callsS pc noSm_ok (pop_ev n) (by kernel_rfl) w⟩
theorem len_ev (a0 a1 a2 a3 a4 a5 a6 a7 a8 a9 a10 a11 a12 a13 a14 a15 : Int) : intOut .i64 (evS Tryd.prog [] popSm 300 (.call 19 #[.agg #[.int .u64 a0, .int .u64 a1, .int .u64 a2, .int .u64 a3, .int .u64 a4, .int .u64 a5, .int .u64 a6, .int .u64 a7, .int .u64 a8, .int .u64 a9, .int .u64 a10, .int .u64 a11, .int .u64 a12, .int .u64 a13, .int .u64 a14, .int .u64 a15]]) (AW.start #[])) = some (lenV [a0, a1, a2, a3, a4, a5, a6, a7, a8, a9, a10, a11, a12, a13, a14, a15]) := by kernel_rfl
theorem len_calls {l : List Int} (h : l.length = 16) (w : World) : Calls Tryd.prog 19 #[rowV .u64 l] w fun e w' => e = .returned (.int .i64 (lenV l)) ∧ ∃ y, w' = beyond w y := by
  obtain ⟨a0, a1, a2, a3, a4, a5, a6, a7, a8, a9, a10, a11, a12, a13, a14, a15, rfl⟩ := len16 h
  exact int_callsS pc (popSm_ok []) (len_ev a0 a1 a2 a3 a4 a5 a6 a7 a8 a9 a10 a11 a12 a13 a14 a15) (by kernel_rfl) w
noncomputable def lenF (x : Array Value) : Option Value := match x.toList with
  | [.agg xs] => match intsOf .u64 xs.toList with
    | some l => if Nat.beq l.length 16 then some (.int .i64 (lenV l)) else none
    | none => none
  | _ => none
noncomputable def lenSm : Rec := fnSm 19 lenF
theorem lenSm_ok (G : List Nat) : RecOk Tryd.prog G lenSm := fnSm_ok fun x v h => by
  unfold lenF at h
  split at h
  case h_2 => cases h
  rename_i xs hx
  split at h
  case h_2 => cases h
  rename_i l hl
  split at h
  case isFalse => cases h
  rename_i hc
  cases h
  have h1 := intsOf_some hl
  obtain ⟨x⟩ := x
  obtain ⟨xs⟩ := xs
  simp only at hx h1
  subst h1; subst hx
  exact ⟨show (#[rowV .u64 l] : Array Value).all (plainV 60) = true by simp [plain_rowV], rfl, fun w => len_calls (Nat.eq_of_beq_eq_true hc) w⟩
noncomputable def setSm2 : Rec := orSm setSm (orSm lenSm popSm)
theorem setSm2_ok (G : List Nat) : RecOk Tryd.prog G setSm2 := orSm_ok (setSm_ok G) (orSm_ok (lenSm_ok G) (popSm_ok G))
end Go.Proofs.YtjneboajbmabbaaDoor.bits
