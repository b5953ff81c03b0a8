/-
  What a call returns, found by the evaluator with symbolic arguments: an integer, a truth value, a row of integers.
-/
import Derived.Test.YtjneboajbmabbaaDoorCanAE
set_option linter.unusedSimpArgs false
set_option linter.unusedVariables false
namespace Go.Can
variable {P : Program} {G : List Nat}

theorem known_nothing (w : World) : Known #[] (onG []) w := known_onG fun g h => by cases h
noncomputable def intOut (q : IntKind) : Option (Value × AW) → Option Int
  | some (.int k n, _) => if k = q then some n else none
  | _ => none
noncomputable def boolOut : Option (Value × AW) → Option Bool
  | some (.bool b, _) => some b
  | _ => none
noncomputable def rowOut (q : IntKind) : Option (Value × AW) → Option (List Int)
  | some (.agg xs, _) => intsOf q xs.toList
  | _ => none
def rowV (q : IntKind) (l : List Int) : Value := .agg (l.map (Value.int q)).toArray
theorem plain_rowV (q : IntKind) (l : List Int) : plainV 60 (rowV q l) = true := plain_ints (q := q) (as := l) (by simp)
theorem val_callsS (hP : PC2 P) {sm : Rec} (hs : RecOk P [] sm) {n : Nat} {f : FuncId} {args : Array Value} {v : Value} {A1 : AW} (he : evS P [] sm n (.call f args) (AW.start #[]) = some (v, A1)) (hv : plainV 60 v = true) (ha : args.all (plainV 60) = true) (w : World) :
    Calls P f args w fun e w' => e = .returned v ∧ ∃ y, w' = Own.beyond w y := by
  refine (evS_calls hP (G := []) hs he (known_nothing w) (fun g h => by cases h) (plain_args ha)).mono fun e w' h => ?_
  obtain ⟨R', v', rfl, h1, _, h2⟩ := h
  obtain rfl := VR.plain_eq 60 _ _ hv h2
  exact ⟨rfl, Own.beyond_of (ext_below (known_nothing w) h1)⟩
theorem int_callsS (hP : PC2 P) {sm : Rec} (hs : RecOk P [] sm) {n : Nat} {f : FuncId} {args : Array Value} {q : IntKind} {r : Int} (he : intOut q (evS P [] sm n (.call f args) (AW.start #[])) = some r) (ha : args.all (plainV 60) = true) (w : World) :
    Calls P f args w fun e w' => e = .returned (.int q r) ∧ ∃ y, w' = Own.beyond w y := by
  unfold intOut at he
  split at he
  case h_2 => cases he
  rename_i k m A1 hx
  split at he
  case isFalse => cases he
  rename_i hk
  subst hk
  cases he
  exact val_callsS hP hs hx rfl ha w
theorem bool_callsS (hP : PC2 P) {sm : Rec} (hs : RecOk P [] sm) {n : Nat} {f : FuncId} {args : Array Value} {r : Bool} (he : boolOut (evS P [] sm n (.call f args) (AW.start #[])) = some r) (ha : args.all (plainV 60) = true) (w : World) :
    Calls P f args w fun e w' => e = .returned (.bool r) ∧ ∃ y, w' = Own.beyond w y := by
  unfold boolOut at he
  split at he
  case h_2 => cases he
  rename_i b A1 hx
  cases he
  exact val_callsS hP hs hx rfl ha w
theorem row_callsS (hP : PC2 P) {sm : Rec} (hs : RecOk P [] sm) {n : Nat} {f : FuncId} {args : Array Value} {q : IntKind} {r : List Int} (he : rowOut q (evS P [] sm n (.call f args) (AW.start #[])) = some r) (ha : args.all (plainV 60) = true) (w : World) :
    Calls P f args w fun e w' => e = .returned (rowV q r) ∧ ∃ y, w' = Own.beyond w y := by
  unfold rowOut at he
  split at he
  case h_2 => cases he
  rename_i xs A1 hx
  have h := intsOf_some he
  have e : Value.agg xs = rowV q r := by
    cases xs
    simp only at h
    rw [h]; rfl
  rw [e] at hx
  exact val_callsS hP hs hx (plain_rowV q r) ha w
/-- an integer, under conditions -/
noncomputable def evDInt (q : IntKind) (m : Int) : Option (Obl × (Value × AW)) → Option Obl
  | some (ob, (.int k n, _)) => if k = q then some (ob ++ [(0, decide (n = m), true)]) else none
  | _ => none
theorem int_callsD (hP : PC2 P) {sm : RecD} (hs : RecOkD P [] sm) {orc : List Site → FuncId → Orc} {n : Nat} {f : FuncId} {args : Array Value} {q : IntKind} {m : Int} {o : Obl} (he : evDInt q m (evD P [] sm orc n [] (.call f args) (AW.start #[])) = some o) (ho : o.Ok) (ha : args.all (plainV 60) = true) (w : World) :
    Calls P f args w fun e w' => e = .returned (.int q m) ∧ ∃ y, w' = Own.beyond w y := by
  unfold evDInt at he
  split at he
  case h_2 => cases he
  rename_i ob k n' A1 hx
  split at he
  case isFalse => cases he
  rename_i hk
  subst hk
  cases he
  obtain ⟨q1, q2⟩ := Obl.ok_append ho
  have hb := q2 _ (List.mem_singleton.2 rfl)
  simp only [decide_eq_true_eq] at hb
  subst hb
  exact val_callsS hP (clSm_ok hs) (evD_fol sm orc n [] _ _ _ _ hx q1) rfl ha w
end Go.Can
