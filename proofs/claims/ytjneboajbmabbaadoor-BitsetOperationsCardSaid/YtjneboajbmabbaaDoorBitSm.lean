/-
  Union, intersection and difference of sets, on any rows of words: contracts that are looked up.
-/
import Derived.Test.YtjneboajbmabbaaDoorProg
import Derived.Test.YtjneboajbmabbaaDoorCanAF
import Derived.Test.YtjneboajbmabbaaDoorBitMath
set_option linter.unusedSimpArgs false
set_option linter.unusedVariables false
namespace Go.Proofs.YtjneboajbmabbaaDoor.bits
open Go.Can Go.RowKit Go.Bits Go.Own
set_option maxRecDepth 100000
theorem pc : PC2 Tryd.prog := .of_bool (by kernel_rfl)
theorem len16 {l : List Int} (h : l.length = 16) : ∃ a0 a1 a2 a3 a4 a5 a6 a7 a8 a9 a10 a11 a12 a13 a14 a15, l = [a0, a1, a2, a3, a4, a5, a6, a7, a8, a9, a10, a11, a12, a13, a14, a15] := by
  obtain ⟨a0, l0, rfl, h0⟩ := list_cons h
  obtain ⟨a1, l1, rfl, h1⟩ := list_cons h0
  obtain ⟨a2, l2, rfl, h2⟩ := list_cons h1
  obtain ⟨a3, l3, rfl, h3⟩ := list_cons h2
  obtain ⟨a4, l4, rfl, h4⟩ := list_cons h3
  obtain ⟨a5, l5, rfl, h5⟩ := list_cons h4
  obtain ⟨a6, l6, rfl, h6⟩ := list_cons h5
  obtain ⟨a7, l7, rfl, h7⟩ := list_cons h6
  obtain ⟨a8, l8, rfl, h8⟩ := list_cons h7
  obtain ⟨a9, l9, rfl, h9⟩ := list_cons h8
  obtain ⟨a10, l10, rfl, h10⟩ := list_cons h9
  obtain ⟨a11, l11, rfl, h11⟩ := list_cons h10
  obtain ⟨a12, l12, rfl, h12⟩ := list_cons h11
  obtain ⟨a13, l13, rfl, h13⟩ := list_cons h12
  obtain ⟨a14, l14, rfl, h14⟩ := list_cons h13
  obtain ⟨a15, l15, rfl, h15⟩ := list_cons h14
  obtain rfl := list_nil h15
  exact ⟨a0, a1, a2, a3, a4, a5, a6, a7, a8, a9, a10, a11, a12, a13, a14, a15, rfl⟩
/-- two rows of 16 words -/
noncomputable def two (F : List Int → List Int → Value) (x : Array Value) : Option Value := match x.toList with
  | [.agg xs, .agg ys] => match intsOf .u64 xs.toList, intsOf .u64 ys.toList with
    | some ps, some qs => if Nat.beq ps.length 16 && Nat.beq qs.length 16 then some (F ps qs) else none
    | _, _ => none
  | _ => none
theorem two_some {F : List Int → List Int → Value} {x : Array Value} {v : Value} (h : two F x = some v) : ∃ ps qs : List Int, ps.length = 16 ∧ qs.length = 16 ∧ x = #[rowV .u64 ps, rowV .u64 qs] ∧ v = F ps qs := by
  unfold two at h
  split at h
  case h_2 => cases h
  rename_i xs ys hx
  split at h
  case h_2 => cases h
  rename_i ps qs ha hb
  split at h
  case isFalse => cases h
  rename_i hc
  cases h
  simp only [Bool.and_eq_true] at hc
  refine ⟨ps, qs, Nat.eq_of_beq_eq_true hc.1, Nat.eq_of_beq_eq_true hc.2, ?_, rfl⟩
  have h1 := intsOf_some ha
  have h2 := intsOf_some hb
  obtain ⟨l⟩ := x
  obtain ⟨l1⟩ := xs
  obtain ⟨l2⟩ := ys
  simp only at hx h1 h2
  subst h1; subst h2; subst hx
  rfl
theorem plain2 (ps qs : List Int) : (#[rowV .u64 ps, rowV .u64 qs] : Array Value).all (plainV 60) = true := by
  simp [plain_rowV]
theorem union_ev (a0 a1 a2 a3 a4 a5 a6 a7 a8 a9 a10 a11 a12 a13 a14 a15 b0 b1 b2 b3 b4 b5 b6 b7 b8 b9 b10 b11 b12 b13 b14 b15 : Int) : rowOut .u64 (evS Tryd.prog [] noSm 300 (.call 31 #[.agg #[.int .u64 a0, .int .u64 a1, .int .u64 a2, .int .u64 a3, .int .u64 a4, .int .u64 a5, .int .u64 a6, .int .u64 a7, .int .u64 a8, .int .u64 a9, .int .u64 a10, .int .u64 a11, .int .u64 a12, .int .u64 a13, .int .u64 a14, .int .u64 a15], .agg #[.int .u64 b0, .int .u64 b1, .int .u64 b2, .int .u64 b3, .int .u64 b4, .int .u64 b5, .int .u64 b6, .int .u64 b7, .int .u64 b8, .int .u64 b9, .int .u64 b10, .int .u64 b11, .int .u64 b12, .int .u64 b13, .int .u64 b14, .int .u64 b15]]) (AW.start #[])) = some (List.zipWith orI [a0, a1, a2, a3, a4, a5, a6, a7, a8, a9, a10, a11, a12, a13, a14, a15] [b0, b1, b2, b3, b4, b5, b6, b7, b8, b9, b10, b11, b12, b13, b14, b15]) := by kernel_rfl
theorem union_calls {ps qs : List Int} (ha : ps.length = 16) (hb : qs.length = 16) (w : World) : Calls Tryd.prog 31 #[rowV .u64 ps, rowV .u64 qs] w fun e w' => e = .returned (rowV .u64 (List.zipWith orI ps qs)) ∧ ∃ y, w' = beyond w y := by
  obtain ⟨a0, a1, a2, a3, a4, a5, a6, a7, a8, a9, a10, a11, a12, a13, a14, a15, rfl⟩ := len16 ha
  obtain ⟨b0, b1, b2, b3, b4, b5, b6, b7, b8, b9, b10, b11, b12, b13, b14, b15, rfl⟩ := len16 hb
  exact row_callsS pc noSm_ok (union_ev a0 a1 a2 a3 a4 a5 a6 a7 a8 a9 a10 a11 a12 a13 a14 a15 b0 b1 b2 b3 b4 b5 b6 b7 b8 b9 b10 b11 b12 b13 b14 b15) (by kernel_rfl) w
noncomputable def unionSm : Rec := fnSm 31 (two fun ps qs => rowV .u64 (List.zipWith orI ps qs))
theorem unionSm_ok (G : List Nat) : RecOk Tryd.prog G unionSm := fnSm_ok fun x v h => by
  obtain ⟨ps, qs, ha, hb, rfl, rfl⟩ := two_some h
  exact ⟨plain2 ps qs, plain_rowV _ _, fun w => union_calls ha hb w⟩
theorem inter_ev (a0 a1 a2 a3 a4 a5 a6 a7 a8 a9 a10 a11 a12 a13 a14 a15 b0 b1 b2 b3 b4 b5 b6 b7 b8 b9 b10 b11 b12 b13 b14 b15 : Int) : rowOut .u64 (evS Tryd.prog [] noSm 300 (.call 29 #[.agg #[.int .u64 a0, .int .u64 a1, .int .u64 a2, .int .u64 a3, .int .u64 a4, .int .u64 a5, .int .u64 a6, .int .u64 a7, .int .u64 a8, .int .u64 a9, .int .u64 a10, .int .u64 a11, .int .u64 a12, .int .u64 a13, .int .u64 a14, .int .u64 a15], .agg #[.int .u64 b0, .int .u64 b1, .int .u64 b2, .int .u64 b3, .int .u64 b4, .int .u64 b5, .int .u64 b6, .int .u64 b7, .int .u64 b8, .int .u64 b9, .int .u64 b10, .int .u64 b11, .int .u64 b12, .int .u64 b13, .int .u64 b14, .int .u64 b15]]) (AW.start #[])) = some (List.zipWith andI [a0, a1, a2, a3, a4, a5, a6, a7, a8, a9, a10, a11, a12, a13, a14, a15] [b0, b1, b2, b3, b4, b5, b6, b7, b8, b9, b10, b11, b12, b13, b14, b15]) := by kernel_rfl
theorem inter_calls {ps qs : List Int} (ha : ps.length = 16) (hb : qs.length = 16) (w : World) : Calls Tryd.prog 29 #[rowV .u64 ps, rowV .u64 qs] w fun e w' => e = .returned (rowV .u64 (List.zipWith andI ps qs)) ∧ ∃ y, w' = beyond w y := by
  obtain ⟨a0, a1, a2, a3, a4, a5, a6, a7, a8, a9, a10, a11, a12, a13, a14, a15, rfl⟩ := len16 ha
  obtain ⟨b0, b1, b2, b3, b4, b5, b6, b7, b8, b9, b10, b11, b12, b13, b14, b15, rfl⟩ := len16 hb
  exact row_callsS pc noSm_ok (inter_ev a0 a1 a2 a3 a4 a5 a6 a7 a8 a9 a10 a11 a12 a13 a14 a15 b0 b1 b2 b3 b4 b5 b6 b7 b8 b9 b10 b11 b12 b13 b14 b15) (by kernel_rfl) w
noncomputable def interSm : Rec := fnSm 29 (two fun ps qs => rowV .u64 (List.zipWith andI ps qs))
theorem interSm_ok (G : List Nat) : RecOk Tryd.prog G interSm := fnSm_ok fun x v h => by
  obtain ⟨ps, qs, ha, hb, rfl, rfl⟩ := two_some h
  exact ⟨plain2 ps qs, plain_rowV _ _, fun w => inter_calls ha hb w⟩
theorem minus_ev (a0 a1 a2 a3 a4 a5 a6 a7 a8 a9 a10 a11 a12 a13 a14 a15 b0 b1 b2 b3 b4 b5 b6 b7 b8 b9 b10 b11 b12 b13 b14 b15 : Int) : rowOut .u64 (evS Tryd.prog [] noSm 300 (.call 33 #[.agg #[.int .u64 a0, .int .u64 a1, .int .u64 a2, .int .u64 a3, .int .u64 a4, .int .u64 a5, .int .u64 a6, .int .u64 a7, .int .u64 a8, .int .u64 a9, .int .u64 a10, .int .u64 a11, .int .u64 a12, .int .u64 a13, .int .u64 a14, .int .u64 a15], .agg #[.int .u64 b0, .int .u64 b1, .int .u64 b2, .int .u64 b3, .int .u64 b4, .int .u64 b5, .int .u64 b6, .int .u64 b7, .int .u64 b8, .int .u64 b9, .int .u64 b10, .int .u64 b11, .int .u64 b12, .int .u64 b13, .int .u64 b14, .int .u64 b15]]) (AW.start #[])) = some (List.zipWith subI [a0, a1, a2, a3, a4, a5, a6, a7, a8, a9, a10, a11, a12, a13, a14, a15] [b0, b1, b2, b3, b4, b5, b6, b7, b8, b9, b10, b11, b12, b13, b14, b15]) := by kernel_rfl
theorem minus_calls {ps qs : List Int} (ha : ps.length = 16) (hb : qs.length = 16) (w : World) : Calls Tryd.prog 33 #[rowV .u64 ps, rowV .u64 qs] w fun e w' => e = .returned (rowV .u64 (List.zipWith subI ps qs)) ∧ ∃ y, w' = beyond w y := by
  obtain ⟨a0, a1, a2, a3, a4, a5, a6, a7, a8, a9, a10, a11, a12, a13, a14, a15, rfl⟩ := len16 ha
  obtain ⟨b0, b1, b2, b3, b4, b5, b6, b7, b8, b9, b10, b11, b12, b13, b14, b15, rfl⟩ := len16 hb
  exact row_callsS pc noSm_ok (minus_ev a0 a1 a2 a3 a4 a5 a6 a7 a8 a9 a10 a11 a12 a13 a14 a15 b0 b1 b2 b3 b4 b5 b6 b7 b8 b9 b10 b11 b12 b13 b14 b15) (by kernel_rfl) w
noncomputable def minusSm : Rec := fnSm 33 (two fun ps qs => rowV .u64 (List.zipWith subI ps qs))
theorem minusSm_ok (G : List Nat) : RecOk Tryd.prog G minusSm := fnSm_ok fun x v h => by
  obtain ⟨ps, qs, ha, hb, rfl, rfl⟩ := two_some h
  exact ⟨plain2 ps qs, plain_rowV _ _, fun w => minus_calls ha hb w⟩
end Go.Proofs.YtjneboajbmabbaaDoor.bits
