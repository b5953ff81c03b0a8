/-
  Sums and products of copies of one truth value, over the truth values or over no semiring at all.
-/
import Derived.Test.YtmcfnnapgbgdeaaDoorRep
import Derived.Test.YtmcfnnapgbgdeaaDoorCanAF
set_option linter.unusedSimpArgs false
set_option linter.unusedVariables false
namespace Go.Proofs.YtmcfnnapgbgdeaaDoor.rep
open Go.RowKit Go.Own
set_option maxHeartbeats 1000000
set_option maxRecDepth 100000

theorem upon_call {P : Program} {o : Oper} {a : Act} {K : Act → World → Prop} {Q : Exit → Act → World → Prop} {r : Result Next} {f : FuncId} {args : Array Value} {w : World} {v : Value} (h : r = .ok (.enter f args) w)
    (hc : Calls P f args w fun e w' => e = .returned v ∧ ∃ x, w' = beyond w x) (hk : ∀ x, K (a.put o.dst v) (beyond w x)) : o.upon P a K Q r := by
  subst h
  refine hc.mono ?_
  rintro e w' ⟨rfl, x, rfl⟩
  exact hk x
theorem pc : Can.PC2 Tryd.prog := .of_bool (by kernel_rfl)
theorem zero_calls (w : World) : Calls Tryd.prog 78 #[.agg #[]] w fun e w' => e = .returned (.bool false) ∧ ∃ x, w' = beyond w x := Can.bool_callsS pc Can.noSm_ok (n := 20) (by kernel_rfl) (by kernel_rfl) w
theorem one_calls (w : World) : Calls Tryd.prog 76 #[.agg #[]] w fun e w' => e = .returned (.bool true) ∧ ∃ x, w' = beyond w x := Can.bool_callsS pc Can.noSm_ok (n := 20) (by kernel_rfl) (by kernel_rfl) w
theorem add_calls (x y : Bool) (w : World) : Calls Tryd.prog 10 #[.agg #[], .bool x, .bool y] w fun e w' => e = .returned (.bool (x || y)) ∧ ∃ x, w' = beyond w x := by
  cases x <;> cases y <;> exact Can.bool_callsS pc Can.noSm_ok (n := 20) (by kernel_rfl) (by kernel_rfl) w
theorem mul_calls (x y : Bool) (w : World) : Calls Tryd.prog 12 #[.agg #[], .bool x, .bool y] w fun e w' => e = .returned (.bool (x && y)) ∧ ∃ x, w' = beyond w x := by
  cases x <;> cases y <;> exact Can.bool_callsS pc Can.noSm_ok (n := 20) (by kernel_rfl) (by kernel_rfl) w
theorem sum_none (q : Option Addr) (k c : Nat) (w : World) :
    Calls Tryd.prog 20 #[.nilIface, .slice q k c] w fun e w' => e = .returned (.bool false) ∧ ∃ x, w' = beyond w x := by
  go_enter Tryd.func20, Tryd.ntmps20
  go_wp2
  go_ret
  exact ⟨rfl, beyond_of (by repeat (first | assumption | exact Below.refl _ _ | exact below_beyond _ _ | refine Below.beyond ?_ (by (try simp [size_beyond]) <;> omega) _ | refine Below.drew ?_ | refine Below.alloc ?_ (by (try simp [size_beyond]) <;> omega) _ | refine Below.setCell ?_ (by (try simp [size_beyond]) <;> omega) _))⟩
theorem product_none (q : Option Addr) (k c : Nat) (w : World) :
    Calls Tryd.prog 21 #[.nilIface, .slice q k c] w fun e w' => e = .returned (.bool false) ∧ ∃ x, w' = beyond w x := by
  go_enter Tryd.func21, Tryd.ntmps21
  go_wp2
  go_ret
  exact ⟨rfl, beyond_of (by repeat (first | assumption | exact Below.refl _ _ | exact below_beyond _ _ | refine Below.beyond ?_ (by (try simp [size_beyond]) <;> omega) _ | refine Below.drew ?_ | refine Below.alloc ?_ (by (try simp [size_beyond]) <;> omega) _ | refine Below.setCell ?_ (by (try simp [size_beyond]) <;> omega) _))⟩
theorem sum_bool (a : Bool) (g k c : Nat) (w : World) (hk : k ≤ 65536) (hf : filled w g k k a) :
    Calls Tryd.prog 20 #[.iface 29 (.agg #[]), .slice (some ⟨g, 0, none⟩) k c] w fun e w' => e = .returned (.bool (a && decide (0 < k))) ∧ ∃ x, w' = beyond w x := by
  have HF := Lib.hid hf; clear hf
  go_enter Tryd.func20, Tryd.ntmps20
  go_wp2
  refine upon_call (w := w) (f := 78) (args := #[.agg #[]]) (by kernel_rfl) (zero_calls _) ?_
  intro x1
  go_wp2
  go_loopw [5, 7, 15] (fun t _ i wr => ∃ j : Nat, i = .int .i64 j ∧ t = .bool (a && decide (0 < j)) ∧ j ≤ k ∧ ∃ y, wr = beyond w y)
    (fun _ _ i _ => k - (intOf i).toNat)
  case atStart => exact ⟨0, rfl, by simp, by omega, beyond_of (by repeat (first | assumption | exact Below.refl _ _ | exact below_beyond _ _ | refine Below.beyond ?_ (by (try simp [size_beyond]) <;> omega) _ | refine Below.drew ?_ | refine Below.alloc ?_ (by (try simp [size_beyond]) <;> omega) _ | refine Below.setCell ?_ (by (try simp [size_beyond]) <;> omega) _))⟩
  case round =>
    obtain ⟨j, rfl, rfl, hj, y, rfl⟩ := hrel
    by_cases hlt : j < k
    · obtain ⟨b0, hc, hb⟩ := filled_cell (filled_below (below_beyond w y) HF.out) hlt
      obtain rfl := hb hlt
      go_wp2
      refine upon_call (w := beyond w y) (f := 10) (args := #[.agg #[], .bool (b0 && decide (0 < j)), .bool b0]) (by kernel_rfl) (add_calls _ _ _) ?_
      intro x1
      go_wp2
      all_goals
        go_roundw
        case rel => exact ⟨j + 1, by go_num, by cases b0 <;> simp, by omega, beyond_of (by repeat (first | assumption | exact Below.refl _ _ | exact below_beyond _ _ | refine Below.beyond ?_ (by (try simp [size_beyond]) <;> omega) _ | refine Below.drew ?_ | refine Below.alloc ?_ (by (try simp [size_beyond]) <;> omega) _ | refine Below.setCell ?_ (by (try simp [size_beyond]) <;> omega) _))⟩
        case measure => simp [intOf] <;> omega
    · obtain rfl : j = k := by omega
      go_wp2
      go_ret
      exact ⟨rfl, beyond_of (by repeat (first | assumption | exact Below.refl _ _ | exact below_beyond _ _ | refine Below.beyond ?_ (by (try simp [size_beyond]) <;> omega) _ | refine Below.drew ?_ | refine Below.alloc ?_ (by (try simp [size_beyond]) <;> omega) _ | refine Below.setCell ?_ (by (try simp [size_beyond]) <;> omega) _))⟩
theorem product_bool (a : Bool) (g k c : Nat) (w : World) (hk : k ≤ 65536) (hf : filled w g k k a) :
    Calls Tryd.prog 21 #[.iface 29 (.agg #[]), .slice (some ⟨g, 0, none⟩) k c] w fun e w' => e = .returned (.bool (a || decide (k = 0))) ∧ ∃ x, w' = beyond w x := by
  have HF := Lib.hid hf; clear hf
  go_enter Tryd.func21, Tryd.ntmps21
  go_wp2
  refine upon_call (w := w) (f := 76) (args := #[.agg #[]]) (by kernel_rfl) (one_calls _) ?_
  intro x1
  go_wp2
  go_loopw [5, 7, 15] (fun t _ i wr => ∃ j : Nat, i = .int .i64 j ∧ t = .bool (a || decide (j = 0)) ∧ j ≤ k ∧ ∃ y, wr = beyond w y)
    (fun _ _ i _ => k - (intOf i).toNat)
  case atStart => exact ⟨0, rfl, by simp, by omega, beyond_of (by repeat (first | assumption | exact Below.refl _ _ | exact below_beyond _ _ | refine Below.beyond ?_ (by (try simp [size_beyond]) <;> omega) _ | refine Below.drew ?_ | refine Below.alloc ?_ (by (try simp [size_beyond]) <;> omega) _ | refine Below.setCell ?_ (by (try simp [size_beyond]) <;> omega) _))⟩
  case round =>
    obtain ⟨j, rfl, rfl, hj, y, rfl⟩ := hrel
    by_cases hlt : j < k
    · obtain ⟨b0, hc, hb⟩ := filled_cell (filled_below (below_beyond w y) HF.out) hlt
      obtain rfl := hb hlt
      go_wp2
      refine upon_call (w := beyond w y) (f := 12) (args := #[.agg #[], .bool (b0 || decide (j = 0)), .bool b0]) (by kernel_rfl) (mul_calls _ _ _) ?_
      intro x1
      go_wp2
      all_goals
        go_roundw
        case rel => exact ⟨j + 1, by go_num, by cases b0 <;> simp, by omega, beyond_of (by repeat (first | assumption | exact Below.refl _ _ | exact below_beyond _ _ | refine Below.beyond ?_ (by (try simp [size_beyond]) <;> omega) _ | refine Below.drew ?_ | refine Below.alloc ?_ (by (try simp [size_beyond]) <;> omega) _ | refine Below.setCell ?_ (by (try simp [size_beyond]) <;> omega) _))⟩
        case measure => simp [intOf] <;> omega
    · obtain rfl : j = k := by omega
      go_wp2
      go_ret
      exact ⟨rfl, beyond_of (by repeat (first | assumption | exact Below.refl _ _ | exact below_beyond _ _ | refine Below.beyond ?_ (by (try simp [size_beyond]) <;> omega) _ | refine Below.drew ?_ | refine Below.alloc ?_ (by (try simp [size_beyond]) <;> omega) _ | refine Below.setCell ?_ (by (try simp [size_beyond]) <;> omega) _))⟩

/-- the digits of a number that is made of an integer -/
def d0 (n : Int) : Int := IntKind.u32.wrap n
def d1 (n : Int) : Int := IntKind.u32.wrap (n.fdiv (2 ^ 32))
def lenOf (n most : Int) : Nat := (min (max n 0) most).toNat
theorem lenOf_eq (n most : Int) (h : 0 < most) : (lenOf n most : Int) = min (max n 0) most := by unfold lenOf; omega
theorem multiple_none (a : Bool) (n : Int) (w : World) :
    Calls Tryd.prog 22 #[.nilIface, .bool a, .int .i64 n] w fun e w' => e = .returned (.bool false) ∧ ∃ x, w' = beyond w x := by
  go_enter Tryd.func22, Tryd.ntmps22
  go_wp2_with (first | (go_at_call 33; refine (repeat_calls a n 65536 (lenOf n 65536) (lenOf_eq n _ (by decide)) (by decide) (by decide) _).mono ?_; rintro e w1 ⟨g, rfl, hf, y, rfl⟩) | (go_at_call 20; refine (sum_none _ _ _ _).mono ?_; rintro e w2 ⟨rfl, x, rfl⟩))
  go_ret
  exact ⟨rfl, beyond_of (by repeat (first | assumption | exact Below.refl _ _ | exact below_beyond _ _ | refine Below.beyond ?_ (by (try simp [size_beyond]) <;> omega) _ | refine Below.drew ?_ | refine Below.alloc ?_ (by (try simp [size_beyond]) <;> omega) _ | refine Below.setCell ?_ (by (try simp [size_beyond]) <;> omega) _))⟩
theorem power_none (a : Bool) (n : Int) (w : World) :
    Calls Tryd.prog 23 #[.nilIface, .bool a, .int .i64 n] w fun e w' => e = .returned (.bool false) ∧ ∃ x, w' = beyond w x := by
  go_enter Tryd.func23, Tryd.ntmps23
  go_wp2_with (first | (go_at_call 33; refine (repeat_calls a n 256 (lenOf n 256) (lenOf_eq n _ (by decide)) (by decide) (by decide) _).mono ?_; rintro e w1 ⟨g, rfl, hf, y, rfl⟩) | (go_at_call 21; refine (product_none _ _ _ _).mono ?_; rintro e w2 ⟨rfl, x, rfl⟩))
  go_ret
  exact ⟨rfl, beyond_of (by repeat (first | assumption | exact Below.refl _ _ | exact below_beyond _ _ | refine Below.beyond ?_ (by (try simp [size_beyond]) <;> omega) _ | refine Below.drew ?_ | refine Below.alloc ?_ (by (try simp [size_beyond]) <;> omega) _ | refine Below.setCell ?_ (by (try simp [size_beyond]) <;> omega) _))⟩
theorem multiple_bool (a : Bool) (n : Int) (w : World) :
    Calls Tryd.prog 22 #[.iface 29 (.agg #[]), .bool a, .int .i64 n] w fun e w' => e = .returned (.bool (a && decide (0 < n))) ∧ ∃ x, w' = beyond w x := by
  have hl := lenOf_eq n 65536 (by decide)
  have hd : decide (0 < lenOf n 65536) = decide (0 < n) := by apply decide_eq_decide.2; omega
  go_enter Tryd.func22, Tryd.ntmps22
  go_wp2_with (first | (go_at_call 33; refine (repeat_calls a n 65536 (lenOf n 65536) hl (by decide) (by decide) _).mono ?_; rintro e w1 ⟨g, rfl, hf, y, rfl⟩) | (go_at_call 20; refine (sum_bool a _ _ _ _ (by omega) hf).mono ?_; rintro e w2 ⟨rfl, x, rfl⟩))
  go_ret
  exact ⟨rfl, beyond_of (by repeat (first | assumption | exact Below.refl _ _ | exact below_beyond _ _ | refine Below.beyond ?_ (by (try simp [size_beyond]) <;> omega) _ | refine Below.drew ?_ | refine Below.alloc ?_ (by (try simp [size_beyond]) <;> omega) _ | refine Below.setCell ?_ (by (try simp [size_beyond]) <;> omega) _))⟩
theorem power_bool (a : Bool) (n : Int) (w : World) :
    Calls Tryd.prog 23 #[.iface 29 (.agg #[]), .bool a, .int .i64 n] w fun e w' => e = .returned (.bool (a || decide (n < 1))) ∧ ∃ x, w' = beyond w x := by
  have hl := lenOf_eq n 256 (by decide)
  have hd : decide (lenOf n 256 = 0) = decide (n < 1) := by apply decide_eq_decide.2; omega
  go_enter Tryd.func23, Tryd.ntmps23
  go_wp2_with (first | (go_at_call 33; refine (repeat_calls a n 256 (lenOf n 256) hl (by decide) (by decide) _).mono ?_; rintro e w1 ⟨g, rfl, hf, y, rfl⟩) | (go_at_call 21; refine (product_bool a _ _ _ _ (by omega) hf).mono ?_; rintro e w2 ⟨rfl, x, rfl⟩))
  go_ret
  exact ⟨rfl, beyond_of (by repeat (first | assumption | exact Below.refl _ _ | exact below_beyond _ _ | refine Below.beyond ?_ (by (try simp [size_beyond]) <;> omega) _ | refine Below.drew ?_ | refine Below.alloc ?_ (by (try simp [size_beyond]) <;> omega) _ | refine Below.setCell ?_ (by (try simp [size_beyond]) <;> omega) _))⟩
open Go.Can
noncomputable def foldF (none : Value) (F : Bool → Int → Bool) (x : Array Value) : Option Value := match x.toList with
  | [.nilIface, .bool _, .int .i64 _] => some none
  | [.iface t (.agg c), .bool a, .int .i64 n] => if Nat.beq t 29 && Nat.beq c.size 0 then some (.bool (F a n)) else Option.none
  | _ => Option.none
noncomputable def foldsSm : Rec := orSm (fnSm 22 (foldF (.bool false) fun a n => a && decide (0 < n))) (fnSm 23 (foldF (.bool false) fun a n => a || decide (n < 1)))
theorem foldF_some {none : Value} {F : Bool → Int → Bool} {x : Array Value} {v : Value} (h : foldF none F x = some v) : ∃ a n, (x = #[.nilIface, .bool a, .int .i64 n] ∧ v = none) ∨ (x = #[.iface 29 (.agg #[]), .bool a, .int .i64 n] ∧ v = .bool (F a n)) := by
  unfold foldF at h
  split at h
  · rename_i a n hx
    cases h
    exact ⟨a, n, .inl ⟨by cases x; simp_all, rfl⟩⟩
  · rename_i t c a n hx
    split at h
    case isFalse => cases h
    rename_i hc
    cases h
    simp only [Bool.and_eq_true] at hc
    obtain rfl := Nat.eq_of_beq_eq_true hc.1
    obtain rfl : c = #[] := Array.eq_empty_of_size_eq_zero (Nat.eq_of_beq_eq_true hc.2)
    exact ⟨a, n, .inr ⟨by cases x; simp_all, rfl⟩⟩
  · cases h
theorem foldsSm_ok (G : List Nat) : RecOk Tryd.prog G foldsSm := by
  refine orSm_ok (fnSm_ok fun x v h => ?_) (fnSm_ok fun x v h => ?_)
  · obtain ⟨a, n, ⟨rfl, rfl⟩ | ⟨rfl, rfl⟩⟩ := foldF_some h
    · exact ⟨by kernel_rfl, rfl, fun w => multiple_none a n w⟩
    · exact ⟨by kernel_rfl, rfl, fun w => multiple_bool a n w⟩
  · obtain ⟨a, n, ⟨rfl, rfl⟩ | ⟨rfl, rfl⟩⟩ := foldF_some h
    · exact ⟨by kernel_rfl, rfl, fun w => power_none a n w⟩
    · exact ⟨by kernel_rfl, rfl, fun w => power_bool a n w⟩
end Go.Proofs.YtmcfnnapgbgdeaaDoor.rep
