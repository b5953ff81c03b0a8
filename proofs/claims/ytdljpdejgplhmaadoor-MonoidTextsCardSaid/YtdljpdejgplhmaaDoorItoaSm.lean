/-
  The decimal text of a number below 64, as a contract that is looked up under a condition.
-/
import Derived.Test.YtdljpdejgplhmaaDoorMonK
set_option linter.unusedSimpArgs false
set_option linter.unusedVariables false
namespace Go.Proofs.YtdljpdejgplhmaaDoor.mono
open Go.Can Go.RowKit
def byt (n : Int) : UInt8 := UInt8.ofNat n.toNat
def b0 (a : Int) : Int := IntKind.u8.wrap (IntKind.i64.wrap (48 + a.tmod 10))
def b1 (a : Int) : Int := IntKind.u8.wrap (IntKind.i64.wrap (48 + IntKind.i64.wrap (a.tdiv 10)))
def itoaS (a : Int) : ByteArray := if a < 10 then ⟨#[byt (b0 a)]⟩ else ⟨#[byt (b1 a), byt (b0 a)]⟩
theorem itoaAll : (List.range 64).all (fun i => evIs (.string (itoaS (i : Nat))) (evS Tryd.prog [] noSm 300 (.call 26 #[.int .i64 (i : Nat)]) (AW.start #[]))) = true := by kernel_rfl
def inR (a : Int) : Bool := decide (0 ≤ a) && decide (a < 64)
theorem itoa_calls {a : Int} (h : inR a = true) (w : World) : Calls Tryd.prog 26 #[.int .i64 a] w fun e w' => e = .returned (.string (itoaS a)) ∧ ∃ y, w' = Own.beyond w y := by
  simp only [inR, Bool.and_eq_true, decide_eq_true_eq] at h
  obtain ⟨k, rfl⟩ : ∃ k : Nat, a = (k : Int) := ⟨a.toNat, by omega⟩
  have hk := List.all_eq_true.1 itoaAll k (List.mem_range.2 (by omega))
  unfold evIs at hk
  split at hk
  case h_2 => cases hk
  rename_i u A1 hev
  obtain rfl := eqV_eq 60 _ _ hk
  refine (evS_calls pc (G := []) noSm_ok hev (known_none w) (fun g h => by cases h) (plain_args (by kernel_rfl))).mono fun e w' h => ?_
  obtain ⟨R', v', rfl, h1, _, h2⟩ := h
  obtain rfl := VR.plain_eq 60 _ _ (by kernel_rfl) h2
  exact ⟨rfl, Own.beyond_of (ext_below (known_none w) h1)⟩
noncomputable def itoaSm : RecD := fun j A => match j with
  | .call g x => if Nat.beq g 26 then (match x.toList with
      | [.int .i64 a] => some ([(900, inR a, true)], (.string (itoaS a), A))
      | _ => none) else none
  | _ => none
theorem itoaSm_ok (G : List Nat) : RecOkD Tryd.prog G itoaSm := by
  intro j A o v A' h ho R w hw hg
  unfold itoaSm at h
  split at h
  case h_2 => cases h
  rename_i g x
  split at h
  case isFalse => cases h
  rename_i hgf
  obtain rfl := Nat.eq_of_beq_eq_true hgf
  split at h
  case h_2 => cases h
  rename_i a hx
  cases h
  obtain rfl : x = #[.int .i64 a] := by cases x; simp_all
  exact job_of_calls (by kernel_rfl) (by kernel_rfl) hw (itoa_calls (ho _ (List.mem_singleton.2 rfl)) w)
/-- what the law computes -/
def n1 (N : Int) : Int := IntKind.i64.wrap ((IntKind.u64.wrap N).tmod 63)
def m1 (M : Int) : Int := IntKind.i64.wrap (1 + IntKind.i64.wrap ((IntKind.u64.wrap M).tmod 64))
def n3 (N M : Int) : Int := IntKind.i64.wrap ((IntKind.u64.wrap N).tmod (IntKind.u64.wrap (m1 M)))
def sz2 (N : Int) : Int := IntKind.i64.wrap (n1 N + 2)
def pickV (v s : Int) : Int := IntKind.i64.wrap ((IntKind.u64.wrap v).tmod (IntKind.u64.wrap s))
def word (k : Nat) : ByteArray := match k with
  | 0 => ⟨#[97, 108, 108]⟩
  | 1 => ⟨#[115, 111, 109, 101]⟩
  | 2 => ⟨#[106, 117, 115, 116]⟩
  | _ => ⟨#[114, 101, 115, 116]⟩
def wordS (k : Nat) : ByteArray := match k with
  | 0 => ⟨#[97, 108, 108, 32]⟩
  | 1 => ⟨#[115, 111, 109, 101, 32]⟩
  | 2 => ⟨#[106, 117, 115, 116, 32]⟩
  | _ => ⟨#[114, 101, 115, 116, 32]⟩
def txt (k : Nat) (v : Int) : ByteArray := (word k ++ ⟨#[32]⟩) ++ itoaS v
def wrdLo (k : Nat) (v : Int) : ByteArray := wordS k ++ ByteArray.empty.push (byt (b0 v))
def wrdHi (k : Nat) (v : Int) : ByteArray := wordS k ++ (ByteArray.empty.push (byt (b1 v)) ++ ByteArray.empty.push (byt (b0 v)))
def pre (k : Nat) : List UInt8 := match k with
  | 0 => [97, 108, 108, 32]
  | 1 => [115, 111, 109, 101, 32]
  | 2 => [106, 117, 115, 116, 32]
  | _ => [114, 101, 115, 116, 32]
noncomputable def textSm : RecD := orSmD (liftSm kindsSm) itoaSm
theorem textSm_ok (G : List Nat) : RecOkD Tryd.prog G textSm := orSmD_ok (liftSm_ok (kindsSm_ok G)) (itoaSm_ok G)
end Go.Proofs.YtdljpdejgplhmaaDoor.mono
