/-
  Contracts of math/bits: Add32, Div32.
-/
import Derived.Test.YtogjobmekjighaaDoorBnF
import Derived.Laws.Bits64b
set_option linter.unusedSimpArgs false
set_option linter.unusedVariables false
namespace Go.Proofs.YtogjobmekjighaaDoor.bn
open Go.RowKit Go.Own Go.Bn
set_option maxHeartbeats 4000000
set_option maxRecDepth 100000

theorem add32_calls (x y c : Nat) (hx : x < 4294967296) (hy : y < 4294967296) (hc : c < 4294967296) (w : World) :
    Calls Tryd.prog 51 #[.int .u32 (x : Int), .int .u32 (y : Int), .int .u32 (c : Int)] w fun e w' => e = .returned (.tuple #[.int .u32 (((x + y + c) % B : Nat) : Int), .int .u32 (((x + y + c) / B : Nat) : Int)]) ∧ w' = w := by
  have e1 : ((x : Int) + (y : Int) + (c : Int)) % 4294967296 = (((x + y + c) % B : Nat) : Int) := by unfold B; omega
  have e2 : ((x : Int) + (y : Int) + (c : Int)) / 4294967296 = (((x + y + c) / B : Nat) : Int) := by unfold B; omega
  have E1 := Lib.hid e1
  have E2 := Lib.hid e2
  clear e1 e2
  rw [← E1.out, ← E2.out]
  have hs : (x : Int) + y + c < 18446744073709551616 := by omega
  go_enter Tryd.func51, Tryd.ntmps51
  go_wp2
  go_ret2
  exact ⟨rfl, rfl⟩
theorem or_words (a b : Nat) (ha : a < 4294967296) (hb : b < 4294967296) : bits BinOp.or IntKind.u64 ((a : Int) * 4294967296) (b : Int) = ((a * B + b : Nat) : Int) := by
  have h := bits_or_u64_nat (a * B) b (by unfold B; omega) (by omega)
  have e : ((a : Int) * 4294967296) = ((a * B : Nat) : Int) := by unfold B; omega
  rw [e, h]
  congr 1
  rw [show a * B = a <<< 32 by rw [Nat.shiftLeft_eq]; rfl]
  exact (Nat.shiftLeft_add_eq_or_of_lt (show b < 2 ^ 32 by omega) a).symm
theorem div32_calls (h l by_ : Nat) (hh : h < by_) (hl : l < 4294967296) (hb : by_ < 4294967296) (w : World) :
    Calls Tryd.prog 66 #[.int .u32 (h : Int), .int .u32 (l : Int), .int .u32 (by_ : Int)] w fun e w' => e = .returned (.tuple #[.int .u32 (((h * B + l) / by_ : Nat) : Int), .int .u32 (((h * B + l) % by_ : Nat) : Int)]) ∧ ∃ x, w' = beyond w x := by
  have EO := or_words h l (by omega) hl
  have hn0 : (0 : Int) < (by_ : Int) := by omega
  have hne : (by_ : Int) ≠ 0 := by omega
  have hle : ¬ (by_ : Int) ≤ (h : Int) := by omega
  have hd1 : ((by_ : Int) != 0) = true := by simpa using hne
  have hsh : (h : Int) * 4294967296 < 18446744073709551616 := by omega
  have hq : (h * B + l) / by_ < 4294967296 := div_fit hh hl
  have hr : (h * B + l) % by_ < by_ := Nat.mod_lt _ (by omega)
  have hz : h * B + l < 18446744073709551616 := by unfold B; omega
  generalize h * B + l = z at EO hq hr hz ⊢
  have ed : Int.tdiv (z : Int) (by_ : Int) = ((z / by_ : Nat) : Int) := by rw [Int.tdiv_eq_ediv_of_nonneg (by omega)]; rfl
  have em : Int.tmod (z : Int) (by_ : Int) = ((z % by_ : Nat) : Int) := by rw [Int.tmod_eq_emod_of_nonneg (by omega)]; rfl
  generalize z / by_ = qq at hq ed ⊢
  generalize z % by_ = rr at hr em ⊢
  go_enter Tryd.func66, Tryd.ntmps66
  go_wp2
  go_quiet (fail)
  go_wp2
  go_ret2
  exact ⟨rfl, beyond_of (by repeat (first | assumption | exact Below.refl _ _ | exact below_beyond _ _ | refine Below.beyond ?_ (by (try simp [size_beyond]) <;> omega) _ | refine Below.drew ?_ | refine Go.Rw.below_drewN ?_ _ | refine Go.Rw.below_setRow ?_ (by (try simp [size_beyond]) <;> omega) _ | refine Below.alloc ?_ (by (try simp [size_beyond]) <;> omega) _ | refine Below.setCell ?_ (by (try simp [size_beyond]) <;> omega) _))⟩
end Go.Proofs.YtogjobmekjighaaDoor.bn
