/-
  The tropical sums and the range check that the homomorphisms need, as contracts.
-/
import Derived.Test.YtmcfnnapgbgdeaaDoorCanAE
import Derived.Test.YtmcfnnapgbgdeaaDoorTrop
set_option linter.unusedSimpArgs false
set_option linter.unusedVariables false
namespace Go.Proofs.YtmcfnnapgbgdeaaDoor.semi
open Go.RowKit Go.Own
set_option maxHeartbeats 400000

def addV (c : Int → Int → Bool) (fa : Bool) (x : Int) (fb : Bool) (y : Int) : Int := if fa = true then (if fb = true then (if c y x = true then y else x) else x) else if fb = true then y else 0
def mulV (fa : Bool) (x : Int) (fb : Bool) (y : Int) : Int := if (fa && fb) = true then wrap64 (x + y) else 0
def lt' (a b : Int) : Bool := decide (a < b)
def gt' (a b : Int) : Bool := decide (b < a)
def same (fa : Bool) (x : Int) (fb : Bool) (y : Int) : Bool := (fa == fb) && (!fa || (x == y))

theorem better_min (fa fb : Bool) (x y : Int) (w : World) :
    Calls Tryd.prog 30 #[.agg #[.bool fa, .int .i64 x], .agg #[.bool fb, .int .i64 y], .func (.func 31) #[] #[]] w fun e w' => e = .returned (.agg #[.bool (fa || fb), .int .i64 (addV lt' fa x fb y)]) ∧ ∃ x, w' = beyond w x := by
  cases fa <;> cases fb
  · exact better_min_ff x y w
  · exact better_min_ft x y w
  · exact better_min_tf x y w
  · by_cases h : y < x
    · rw [show addV lt' true x true y = y by simp [addV, lt', gt', h]]
      exact better_min_b x y w h
    · rw [show addV lt' true x true y = x by simp [addV, lt', gt', h]]
      exact better_min_a x y w h

theorem better_max (fa fb : Bool) (x y : Int) (w : World) :
    Calls Tryd.prog 30 #[.agg #[.bool fa, .int .i64 x], .agg #[.bool fb, .int .i64 y], .func (.func 32) #[] #[]] w fun e w' => e = .returned (.agg #[.bool (fa || fb), .int .i64 (addV gt' fa x fb y)]) ∧ ∃ x, w' = beyond w x := by
  cases fa <;> cases fb
  · exact better_max_ff x y w
  · exact better_max_ft x y w
  · exact better_max_tf x y w
  · by_cases h : x < y
    · rw [show addV gt' true x true y = y by simp [addV, lt', gt', h]]
      exact better_max_b x y w h
    · rw [show addV gt' true x true y = x by simp [addV, lt', gt', h]]
      exact better_max_a x y w h

theorem sum_calls (fa fb : Bool) (x y : Int) (w : World) :
    Calls Tryd.prog 34 #[.agg #[.bool fa, .int .i64 x], .agg #[.bool fb, .int .i64 y]] w fun e w' => e = .returned (.agg #[.bool (fa && fb), .int .i64 (mulV fa x fb y)]) ∧ ∃ x, w' = beyond w x := by
  cases fa
  · exact sum_f fb x y w
  · cases fb
    · exact sum_tf x y w
    · exact sum_tt x y w

theorem minAdd_calls (fa fb : Bool) (x y : Int) (w : World) :
    Calls Tryd.prog 13 #[.agg #[], .agg #[.bool fa, .int .i64 x], .agg #[.bool fb, .int .i64 y]] w fun e w' => e = .returned (.agg #[.bool (fa || fb), .int .i64 (addV lt' fa x fb y)]) ∧ ∃ x, w' = beyond w x := by
  go_enter Tryd.func13, Tryd.ntmps13
  go_wp2_with ((go_at_call 30; refine (better_min fa fb x y _).mono ?_; rintro e w1 ⟨rfl, x1, rfl⟩))
  refine bodyPost_ret (results_block rfl _ _ _ 37 _ _ rfl (by simp [go_sem] <;> rfl) Tryd.underlying37 rfl (by kernel_rfl)) rfl ?_
  exact ⟨rfl, beyond_of (by repeat (first | assumption | exact Below.refl _ _ | exact below_beyond _ _ | refine Below.beyond ?_ (by (try simp [size_beyond]) <;> omega) _ | refine Below.drew ?_ | refine Below.alloc ?_ (by (try simp [size_beyond]) <;> omega) _ | refine Below.setCell ?_ (by (try simp [size_beyond]) <;> omega) _))⟩

theorem minMul_calls (fa fb : Bool) (x y : Int) (w : World) :
    Calls Tryd.prog 24 #[.agg #[], .agg #[.bool fa, .int .i64 x], .agg #[.bool fb, .int .i64 y]] w fun e w' => e = .returned (.agg #[.bool (fa && fb), .int .i64 (mulV fa x fb y)]) ∧ ∃ x, w' = beyond w x := by
  go_enter Tryd.func24, Tryd.ntmps24
  go_wp2_with ((go_at_call 34; refine (sum_calls fa fb x y _).mono ?_; rintro e w1 ⟨rfl, x1, rfl⟩))
  refine bodyPost_ret (results_block rfl _ _ _ 37 _ _ rfl (by simp [go_sem] <;> rfl) Tryd.underlying37 rfl (by kernel_rfl)) rfl ?_
  exact ⟨rfl, beyond_of (by repeat (first | assumption | exact Below.refl _ _ | exact below_beyond _ _ | refine Below.beyond ?_ (by (try simp [size_beyond]) <;> omega) _ | refine Below.drew ?_ | refine Below.alloc ?_ (by (try simp [size_beyond]) <;> omega) _ | refine Below.setCell ?_ (by (try simp [size_beyond]) <;> omega) _))⟩

theorem minZero_calls  (w : World) :
    Calls Tryd.prog 82 #[.agg #[]] w fun e w' => e = .returned (.agg #[.bool false, .int .i64 0]) ∧ ∃ x, w' = beyond w x := by
  go_enter Tryd.func82, Tryd.ntmps82
  go_wp2
  refine bodyPost_ret (results_block rfl _ _ _ 37 _ _ rfl (by simp [go_sem] <;> rfl) Tryd.underlying37 rfl (by kernel_rfl)) rfl ?_
  exact ⟨rfl, beyond_of (by repeat (first | assumption | exact Below.refl _ _ | exact below_beyond _ _ | refine Below.beyond ?_ (by (try simp [size_beyond]) <;> omega) _ | refine Below.drew ?_ | refine Below.alloc ?_ (by (try simp [size_beyond]) <;> omega) _ | refine Below.setCell ?_ (by (try simp [size_beyond]) <;> omega) _))⟩

theorem minOne_calls  (w : World) :
    Calls Tryd.prog 80 #[.agg #[]] w fun e w' => e = .returned (.agg #[.bool true, .int .i64 0]) ∧ ∃ x, w' = beyond w x := by
  go_enter Tryd.func80, Tryd.ntmps80
  go_wp2
  refine bodyPost_ret (results_block rfl _ _ _ 37 _ _ rfl (by simp [go_sem] <;> rfl) Tryd.underlying37 rfl (by kernel_rfl)) rfl ?_
  exact ⟨rfl, beyond_of (by repeat (first | assumption | exact Below.refl _ _ | exact below_beyond _ _ | refine Below.beyond ?_ (by (try simp [size_beyond]) <;> omega) _ | refine Below.drew ?_ | refine Below.alloc ?_ (by (try simp [size_beyond]) <;> omega) _ | refine Below.setCell ?_ (by (try simp [size_beyond]) <;> omega) _))⟩

theorem maxAdd_calls (fa fb : Bool) (x y : Int) (w : World) :
    Calls Tryd.prog 15 #[.agg #[], .agg #[.bool fa, .int .i64 x], .agg #[.bool fb, .int .i64 y]] w fun e w' => e = .returned (.agg #[.bool (fa || fb), .int .i64 (addV gt' fa x fb y)]) ∧ ∃ x, w' = beyond w x := by
  go_enter Tryd.func15, Tryd.ntmps15
  go_wp2_with ((go_at_call 30; refine (better_max fa fb x y _).mono ?_; rintro e w1 ⟨rfl, x1, rfl⟩))
  refine bodyPost_ret (results_block rfl _ _ _ 37 _ _ rfl (by simp [go_sem] <;> rfl) Tryd.underlying37 rfl (by kernel_rfl)) rfl ?_
  exact ⟨rfl, beyond_of (by repeat (first | assumption | exact Below.refl _ _ | exact below_beyond _ _ | refine Below.beyond ?_ (by (try simp [size_beyond]) <;> omega) _ | refine Below.drew ?_ | refine Below.alloc ?_ (by (try simp [size_beyond]) <;> omega) _ | refine Below.setCell ?_ (by (try simp [size_beyond]) <;> omega) _))⟩

theorem maxMul_calls (fa fb : Bool) (x y : Int) (w : World) :
    Calls Tryd.prog 84 #[.agg #[], .agg #[.bool fa, .int .i64 x], .agg #[.bool fb, .int .i64 y]] w fun e w' => e = .returned (.agg #[.bool (fa && fb), .int .i64 (mulV fa x fb y)]) ∧ ∃ x, w' = beyond w x := by
  go_enter Tryd.func84, Tryd.ntmps84
  go_wp2_with ((go_at_call 34; refine (sum_calls fa fb x y _).mono ?_; rintro e w1 ⟨rfl, x1, rfl⟩))
  refine bodyPost_ret (results_block rfl _ _ _ 37 _ _ rfl (by simp [go_sem] <;> rfl) Tryd.underlying37 rfl (by kernel_rfl)) rfl ?_
  exact ⟨rfl, beyond_of (by repeat (first | assumption | exact Below.refl _ _ | exact below_beyond _ _ | refine Below.beyond ?_ (by (try simp [size_beyond]) <;> omega) _ | refine Below.drew ?_ | refine Below.alloc ?_ (by (try simp [size_beyond]) <;> omega) _ | refine Below.setCell ?_ (by (try simp [size_beyond]) <;> omega) _))⟩

theorem maxZero_calls  (w : World) :
    Calls Tryd.prog 87 #[.agg #[]] w fun e w' => e = .returned (.agg #[.bool false, .int .i64 0]) ∧ ∃ x, w' = beyond w x := by
  go_enter Tryd.func87, Tryd.ntmps87
  go_wp2
  refine bodyPost_ret (results_block rfl _ _ _ 37 _ _ rfl (by simp [go_sem] <;> rfl) Tryd.underlying37 rfl (by kernel_rfl)) rfl ?_
  exact ⟨rfl, beyond_of (by repeat (first | assumption | exact Below.refl _ _ | exact below_beyond _ _ | refine Below.beyond ?_ (by (try simp [size_beyond]) <;> omega) _ | refine Below.drew ?_ | refine Below.alloc ?_ (by (try simp [size_beyond]) <;> omega) _ | refine Below.setCell ?_ (by (try simp [size_beyond]) <;> omega) _))⟩

theorem maxOne_calls  (w : World) :
    Calls Tryd.prog 85 #[.agg #[]] w fun e w' => e = .returned (.agg #[.bool true, .int .i64 0]) ∧ ∃ x, w' = beyond w x := by
  go_enter Tryd.func85, Tryd.ntmps85
  go_wp2
  refine bodyPost_ret (results_block rfl _ _ _ 37 _ _ rfl (by simp [go_sem] <;> rfl) Tryd.underlying37 rfl (by kernel_rfl)) rfl ?_
  exact ⟨rfl, beyond_of (by repeat (first | assumption | exact Below.refl _ _ | exact below_beyond _ _ | refine Below.beyond ?_ (by (try simp [size_beyond]) <;> omega) _ | refine Below.drew ?_ | refine Below.alloc ?_ (by (try simp [size_beyond]) <;> omega) _ | refine Below.setCell ?_ (by (try simp [size_beyond]) <;> omega) _))⟩

theorem sameCost_calls (fa fb : Bool) (x y : Int) (w : World) :
    Calls Tryd.prog 83 #[.agg #[.bool fa, .int .i64 x], .agg #[.bool fb, .int .i64 y]] w fun e w' => e = .returned (.bool (same fa x fb y)) ∧ ∃ x, w' = beyond w x := by
  cases fa <;> cases fb
  all_goals (
    go_enter Tryd.func83, Tryd.ntmps83
    go_wp2
    all_goals (try go_ret)
    all_goals exact ⟨by simp [same], beyond_of (by repeat (first | assumption | exact Below.refl _ _ | exact below_beyond _ _ | refine Below.beyond ?_ (by (try simp [size_beyond]) <;> omega) _ | refine Below.drew ?_ | refine Below.alloc ?_ (by (try simp [size_beyond]) <;> omega) _ | refine Below.setCell ?_ (by (try simp [size_beyond]) <;> omega) _))⟩)

theorem minSame_calls (fa fb : Bool) (x y : Int) (w : World) :
    Calls Tryd.prog 81 #[.agg #[], .agg #[.bool fa, .int .i64 x], .agg #[.bool fb, .int .i64 y]] w fun e w' => e = .returned (.bool (same fa x fb y)) ∧ ∃ x, w' = beyond w x := by
  go_enter Tryd.func81, Tryd.ntmps81
  go_wp2_with ((go_at_call 83; refine (sameCost_calls fa fb x y _).mono ?_; rintro e w1 ⟨rfl, x1, rfl⟩))
  go_ret
  exact ⟨rfl, beyond_of (by repeat (first | assumption | exact Below.refl _ _ | exact below_beyond _ _ | refine Below.beyond ?_ (by (try simp [size_beyond]) <;> omega) _ | refine Below.drew ?_ | refine Below.alloc ?_ (by (try simp [size_beyond]) <;> omega) _ | refine Below.setCell ?_ (by (try simp [size_beyond]) <;> omega) _))⟩

theorem maxSame_calls (fa fb : Bool) (x y : Int) (w : World) :
    Calls Tryd.prog 86 #[.agg #[], .agg #[.bool fa, .int .i64 x], .agg #[.bool fb, .int .i64 y]] w fun e w' => e = .returned (.bool (same fa x fb y)) ∧ ∃ x, w' = beyond w x := by
  go_enter Tryd.func86, Tryd.ntmps86
  go_wp2_with ((go_at_call 83; refine (sameCost_calls fa fb x y _).mono ?_; rintro e w1 ⟨rfl, x1, rfl⟩))
  go_ret
  exact ⟨rfl, beyond_of (by repeat (first | assumption | exact Below.refl _ _ | exact below_beyond _ _ | refine Below.beyond ?_ (by (try simp [size_beyond]) <;> omega) _ | refine Below.drew ?_ | refine Below.alloc ?_ (by (try simp [size_beyond]) <;> omega) _ | refine Below.setCell ?_ (by (try simp [size_beyond]) <;> omega) _))⟩

theorem own_calls (fa : Bool) (x : Int) (w : World) :
    Calls Tryd.prog 14 #[.agg #[.bool fa, .int .i64 x]] w fun e w' => e = .returned (.agg #[.bool fa, .int .i64 x]) ∧ ∃ x, w' = beyond w x := by
  go_enter Tryd.func14, Tryd.ntmps14
  go_wp2
  refine bodyPost_ret (results_block rfl _ _ _ 37 _ _ rfl (by simp [go_sem] <;> rfl) Tryd.underlying37 rfl (by kernel_rfl)) rfl ?_
  exact ⟨rfl, beyond_of (by repeat (first | assumption | exact Below.refl _ _ | exact below_beyond _ _ | refine Below.beyond ?_ (by (try simp [size_beyond]) <;> omega) _ | refine Below.drew ?_ | refine Below.alloc ?_ (by (try simp [size_beyond]) <;> omega) _ | refine Below.setCell ?_ (by (try simp [size_beyond]) <;> omega) _))⟩

def rgt (fa : Bool) (x : Int) : Bool := !fa || (decide (-1099511627776 ≤ x) && decide (x ≤ 1099511627776))
def lt2 (dear : Bool) (a b : Int) : Bool := (decide (a < b) != dear)

theorem right_calls (fa : Bool) (x : Int) (w : World) :
    Calls Tryd.prog 5 #[.agg #[.bool fa, .int .i64 x]] w fun e w' => e = .returned (.bool (rgt fa x)) ∧ ∃ x, w' = beyond w x := by
  cases fa
  all_goals (
    go_enter Tryd.func5, Tryd.ntmps5
    go_wp2
    all_goals (try go_ret)
    all_goals exact ⟨by simp [rgt] <;> omega, beyond_of (by repeat (first | assumption | exact Below.refl _ _ | exact below_beyond _ _ | refine Below.beyond ?_ (by (try simp [size_beyond]) <;> omega) _ | refine Below.drew ?_ | refine Below.alloc ?_ (by (try simp [size_beyond]) <;> omega) _ | refine Below.setCell ?_ (by (try simp [size_beyond]) <;> omega) _))⟩)
open Go.Can
noncomputable def rightF (x : Array Value) : Option Value := match x.toList with
  | [.agg c] => match c.toList with
    | [.bool f, .int .i64 n] => some (.bool (rgt f n))
    | _ => none
  | _ => none
noncomputable def rightSm : Rec := fnSm 5 rightF
theorem rightSm_ok (G : List Nat) : RecOk Tryd.prog G rightSm := fnSm_ok fun x v h => by
  unfold rightF at h
  split at h
  case h_2 => cases h
  rename_i c hx
  split at h
  case h_2 => cases h
  rename_i f n hc
  cases h
  obtain rfl : x = #[.agg c] := by cases x; simp_all
  obtain rfl : c = #[.bool f, .int .i64 n] := by cases c; simp_all
  exact ⟨by kernel_rfl, by kernel_rfl, fun w => right_calls f n w⟩
end Go.Proofs.YtmcfnnapgbgdeaaDoor.semi
