/-
  Comparing two digits, as a contract that is looked up; what a sum and a product of numbers below 2^32 are, digit by digit.
-/
import Derived.Test.YtmcfnnapgbgdeaaDoorProg
import Derived.Test.YtmcfnnapgbgdeaaDoorCanAE
import Derived.Test.YtmcfnnapgbgdeaaDoorTail
set_option linter.unusedSimpArgs false
set_option linter.unusedVariables false
namespace Go.Proofs.YtmcfnnapgbgdeaaDoor.nat32
open Go.Can Go.RowKit Go.Own
set_option maxHeartbeats 400000
def cmpV (x y : Int) : Int := if x < y then -1 else if y < x then 1 else 0
theorem nan_calls (x : Int) (w : World) :
    Calls Tryd.prog 75 #[.int .u32 x] w fun e w' => e = .returned (.bool false) ∧ ∃ x, w' = beyond w x := by
  go_enter Tryd.func75, Tryd.ntmps75
  go_wp2
  go_ret
  exact ⟨ret_bool (by simp), beyond_of (by repeat (first | assumption | exact Below.refl _ _ | exact below_beyond _ _ | refine Below.beyond ?_ (by (try simp [size_beyond]) <;> omega) _ | refine Below.drew ?_ | refine Below.alloc ?_ (by (try simp [size_beyond]) <;> omega) _ | refine Below.setCell ?_ (by (try simp [size_beyond]) <;> omega) _))⟩
theorem cmp_calls (x y : Int) (w : World) :
    Calls Tryd.prog 73 #[.int .u32 x, .int .u32 y] w fun e w' => e = .returned (.int .i64 (cmpV x y)) ∧ ∃ x, w' = beyond w x := by
  rcases Int.lt_trichotomy x y with h | h | h
  · rw [show cmpV x y = -1 by simp [cmpV, h]]
    go_enter Tryd.func73, Tryd.ntmps73
    go_wp2_with ((go_at_call 75; refine (nan_calls _ _).mono ?_; rintro e w1 ⟨rfl, x1, rfl⟩))
    go_ret
    exact ⟨rfl, beyond_of (by repeat (first | assumption | exact Below.refl _ _ | exact below_beyond _ _ | refine Below.beyond ?_ (by (try simp [size_beyond]) <;> omega) _ | refine Below.drew ?_ | refine Below.alloc ?_ (by (try simp [size_beyond]) <;> omega) _ | refine Below.setCell ?_ (by (try simp [size_beyond]) <;> omega) _))⟩
  · subst h
    rw [show cmpV x x = 0 by simp [cmpV]]
    go_enter Tryd.func73, Tryd.ntmps73
    go_wp2_with ((go_at_call 75; refine (nan_calls _ _).mono ?_; rintro e w1 ⟨rfl, x1, rfl⟩))
    go_ret
    exact ⟨rfl, beyond_of (by repeat (first | assumption | exact Below.refl _ _ | exact below_beyond _ _ | refine Below.beyond ?_ (by (try simp [size_beyond]) <;> omega) _ | refine Below.drew ?_ | refine Below.alloc ?_ (by (try simp [size_beyond]) <;> omega) _ | refine Below.setCell ?_ (by (try simp [size_beyond]) <;> omega) _))⟩
  · rw [show cmpV x y = 1 by simp [cmpV, h]; omega]
    have h2 : ¬ x < y := by omega
    go_enter Tryd.func73, Tryd.ntmps73
    go_wp2_with ((go_at_call 75; refine (nan_calls _ _).mono ?_; rintro e w1 ⟨rfl, x1, rfl⟩))
    go_ret
    exact ⟨rfl, beyond_of (by repeat (first | assumption | exact Below.refl _ _ | exact below_beyond _ _ | refine Below.beyond ?_ (by (try simp [size_beyond]) <;> omega) _ | refine Below.drew ?_ | refine Below.alloc ?_ (by (try simp [size_beyond]) <;> omega) _ | refine Below.setCell ?_ (by (try simp [size_beyond]) <;> omega) _))⟩
noncomputable def cmpF (x : Array Value) : Option Value := match x.toList with
  | [.int .u32 a, .int .u32 b] => some (.int .i64 (cmpV a b))
  | _ => none
noncomputable def cmpSm : Rec := fnSm 73 cmpF
theorem cmpSm_ok (G : List Nat) : RecOk Tryd.prog G cmpSm := fnSm_ok fun x v h => by
  unfold cmpF at h
  split at h
  case h_2 => cases h
  rename_i a b hx
  cases h
  obtain rfl : x = #[.int .u32 a, .int .u32 b] := by cases x; simp_all
  exact ⟨by kernel_rfl, by kernel_rfl, fun w => cmp_calls a b w⟩

def u32 (x : Int) : Int := IntKind.u32.wrap x
def u64 (x : Int) : Int := IntKind.u64.wrap x
theorem u32_eq (x : Int) : u32 x = x % 4294967296 := rfl
theorem u64_eq (x : Int) : u64 x = x % 18446744073709551616 := rfl
def hi (x : Int) : Int := x.fdiv (2 ^ 32)
theorem hi_eq (x : Int) : hi x = x / 4294967296 := Int.fdiv_eq_ediv_of_nonneg _ (by decide)
/-- the digits of a number that is made of an integer -/
def d0 (n : Int) : Int := u32 n
def d1 (n : Int) : Int := u32 (hi n)
/-- a sum's digits -/
def s0 (x y : Int) : Int := u64 (u64 (u64 x + u64 y) + u64 0)
def s1 (x y : Int) : Int := u64 (u64 (u64 0 + u64 0) + u64 (u32 (hi (s0 x y))))
/-- a product's carry -/
def mulC (x y : Int) : Int := u64 (0 + u64 (u64 (u64 x * u64 y) + u64 0))
def sumOf (a b : Int) : Int := u64 (u64 a + u64 b)
def mulOf (a b : Int) : Int := u64 (u64 a * u64 b)
theorem d0_id {a : Int} (h0 : 0 ≤ a) (h1 : a < 4294967296) : d0 (u64 a) = a := by rw [d0, u32_eq, u64_eq]; omega
theorem d1_zero {a : Int} (h0 : 0 ≤ a) (h1 : a < 4294967296) : d1 (u64 a) = 0 := by rw [d1, u32_eq, hi_eq, u64_eq]; omega
theorem s0_id {a b : Int} (h0 : 0 ≤ a) (h1 : a < 4294967296) (h2 : 0 ≤ b) (h3 : b < 4294967296) : s0 a b = a + b := by simp only [s0, u64_eq]; omega
theorem sumOf_id {a b : Int} (h0 : 0 ≤ a) (h1 : a < 4294967296) (h2 : 0 ≤ b) (h3 : b < 4294967296) : sumOf a b = a + b := by simp only [sumOf, u64_eq]; omega
theorem s1_id {a b : Int} (h0 : 0 ≤ a) (h1 : a < 4294967296) (h2 : 0 ≤ b) (h3 : b < 4294967296) : s1 a b = (a + b) / 4294967296 := by simp only [s1, s0_id h0 h1 h2 h3, u64_eq, u32_eq, hi_eq]; omega
theorem mul_lt {a b : Int} (h0 : 0 ≤ a) (h1 : a < 4294967296) (h2 : 0 ≤ b) (h3 : b < 4294967296) : 0 ≤ a * b ∧ a * b < 18446744073709551616 := by
  refine ⟨Int.mul_nonneg h0 h2, ?_⟩
  have e1 : a * b ≤ 4294967295 * b := Int.mul_le_mul_of_nonneg_right (by omega) h2
  omega
theorem mulC_id {a b : Int} (h0 : 0 ≤ a) (h1 : a < 4294967296) (h2 : 0 ≤ b) (h3 : b < 4294967296) : mulC a b = a * b := by
  obtain ⟨q1, q2⟩ := mul_lt h0 h1 h2 h3
  have ea : u64 a = a := by rw [u64_eq]; omega
  have eb : u64 b = b := by rw [u64_eq]; omega
  simp only [mulC, ea, eb]
  generalize a * b = m at q1 q2 ⊢
  simp only [u64_eq]; omega
theorem mulOf_id {a b : Int} (h0 : 0 ≤ a) (h1 : a < 4294967296) (h2 : 0 ≤ b) (h3 : b < 4294967296) : mulOf a b = a * b := by
  obtain ⟨q1, q2⟩ := mul_lt h0 h1 h2 h3
  have ea : u64 a = a := by rw [u64_eq]; omega
  have eb : u64 b = b := by rw [u64_eq]; omega
  simp only [mulOf, ea, eb]
  rw [u64_eq]; omega
theorem cmpV_self (x : Int) : cmpV x x = 0 := by simp [cmpV]
theorem cmpV_zero {x y : Int} : cmpV x y = 0 ↔ x = y := by unfold cmpV; split <;> (try split) <;> omega
end Go.Proofs.YtmcfnnapgbgdeaaDoor.nat32
