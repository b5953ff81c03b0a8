/-
  Natural numbers as rows of digits to the base 2^32: the contracts of the functions that make and read them.
-/
import Derived.Test.YtkpdkkeblipfdaaDoorProg
import Derived.Test.YtkpdkkeblipfdaaDoorTail
import Derived.Test.YtkpdkkeblipfdaaDoorPlan
set_option linter.unusedSimpArgs false
set_option linter.unusedVariables false
namespace Go.Proofs.YtkpdkkeblipfdaaDoor.nat
open Go.RowKit Go.Own
set_option maxHeartbeats 400000

def val (D : Nat → Nat) : Nat → Nat
  | 0 => 0
  | k + 1 => val D k + D k * 2 ^ (32 * k)

def digitsAt (w : World) (q : Option Addr) (k c : Nat) (D : Nat → Nat) : Prop :=
  ∃ b off, k ≤ c ∧ c ≤ maxLen ∧ (0 < k → q = some ⟨b, off, none⟩ ∧ b < w.heap.size) ∧ ∀ i, i < k → w.cell? ⟨b, off + i, none⟩ = some (.int .u32 (D i)) ∧ D i < 4294967296

def isNat (w : World) (v : Value) (n : Nat) : Prop :=
  ∃ q k c D, v = .agg #[.slice q k c] ∧ digitsAt w q k c D ∧ (0 < k → D (k - 1) ≠ 0) ∧ n = val D k

theorem digitsAt.beyond {w : World} {q : Option Addr} {k c : Nat} {D : Nat → Nat} (h : digitsAt w q k c D) (x : World) : digitsAt (beyond w x) q k c D := by
  obtain ⟨b, off, h1, h2, h3, h4⟩ := h
  refine ⟨b, off, h1, h2, fun hk => ⟨(h3 hk).1, Nat.lt_of_lt_of_le (h3 hk).2 (below_beyond w x).size⟩, fun i hi => ⟨?_, (h4 i hi).2⟩⟩
  exact ((below_beyond w x).cell (h3 (by omega)).2).trans (h4 i hi).1
theorem isNat.beyond {w : World} {v : Value} {n : Nat} (h : isNat w v n) (x : World) : isNat (beyond w x) v n := by
  obtain ⟨q, k, c, D, h1, h2, h3, h4⟩ := h
  exact ⟨q, k, c, D, h1, h2.beyond x, h3, h4⟩

theorem digitsAt.nil (w : World) (D : Nat → Nat) : digitsAt w none 0 0 D := ⟨0, 0, by omega, by decide, by omega, by omega⟩
theorem digitsAt.take {w : World} {q : Option Addr} {k c : Nat} {D : Nat → Nat} (h : digitsAt w q k c D) {j : Nat} (hj : j ≤ k) : digitsAt w q j j D := by
  obtain ⟨b, off, h1, h2, h3, h4⟩ := h
  exact ⟨b, off, Nat.le_refl _, by omega, fun hk => h3 (by omega), fun i hi => h4 i (by omega)⟩

theorem trimmed_calls (q : Option Addr) (k c : Nat) (D : Nat → Nat) (w : World) (h : digitsAt w q k c D) :
    Calls Tryd.prog 65 #[.slice q k c] w fun e w' => ∃ j q', e = .returned (.agg #[.slice q' j j]) ∧ j ≤ k ∧ (0 < j → q' = q) ∧ (j = 0 → q' = none) ∧ (0 < j → D (j - 1) ≠ 0) ∧ val D j = val D k ∧ ∃ x, w' = beyond w x := by
  obtain ⟨b, off, h1, h2, h3, h4⟩ := h
  have H3 := Lib.hid h3; clear h3
  have H4 := Lib.hid h4; clear h4
  unfold maxLen at h2
  go_enter Tryd.func65, Tryd.ntmps65
  go_wp2
  go_loopw [3] (fun i wr => ∃ j : Nat, i = .int .i64 j ∧ j ≤ k ∧ Hid (val D j = val D k) ∧ wr = w.alloc (.cells #[.slice none 0 0] 30))
    (fun i _ => (intOf i).toNat)
  case atStart => exact ⟨k, rfl, by omega, Lib.hid rfl, rfl⟩
  case round =>
    obtain ⟨j, rfl, hj, HV, rfl⟩ := hrel
    by_cases hj0 : 0 < j
    · obtain ⟨rfl, hb⟩ := H3.out (by omega)
      have hin : inW b w = true := inW_iff.2 hb
      obtain ⟨m, rfl⟩ : ∃ m, j = m + 1 := ⟨j - 1, by omega⟩
      have hxk := (H4.out m (by omega)).1
      by_cases hz : D m = 0
      · rw [hz] at hxk
        have HZ := Lib.hid hz; clear hz
        go_wp2
        go_roundw
        case rel => exact ⟨m, by go_num, by omega, Lib.hid (by rw [← HV.out]; show _ = val D m + D m * _; rw [HZ.out]; omega), trivial⟩
        case measure => simp [intOf] <;> omega
      · go_wp2
        refine bodyPost_ret (results_block rfl _ _ _ 30 _ _ rfl (by simp [go_sem] <;> rfl) Tryd.underlying30 rfl (by kernel_rfl)) rfl ?_
        exact ⟨m + 1, _, rfl, hj, fun _ => rfl, by omega, fun _ => hz, HV.out, beyond_of (by repeat (first | assumption | exact Below.refl _ _ | exact below_beyond _ _ | refine Below.beyond ?_ (by (try simp [size_beyond]) <;> omega) _ | refine Below.drew ?_ | refine Below.alloc ?_ (by (try simp [size_beyond]) <;> omega) _ | refine Below.setCell ?_ (by (try simp [size_beyond]) <;> omega) _))⟩
    · obtain rfl : j = 0 := by omega
      go_wp2
      refine bodyPost_ret (results_block rfl _ _ _ 30 _ _ rfl (by simp [go_sem] <;> rfl) Tryd.underlying30 rfl (by kernel_rfl)) rfl ?_
      exact ⟨0, none, rfl, hj, by omega, fun _ => rfl, by omega, HV.out, beyond_of (by repeat (first | assumption | exact Below.refl _ _ | exact below_beyond _ _ | refine Below.beyond ?_ (by (try simp [size_beyond]) <;> omega) _ | refine Below.drew ?_ | refine Below.alloc ?_ (by (try simp [size_beyond]) <;> omega) _ | refine Below.setCell ?_ (by (try simp [size_beyond]) <;> omega) _))⟩

theorem isNat_of {w : World} {q q' : Option Addr} {k c j : Nat} {D : Nat → Nat} (h : digitsAt w q k c D) (h1 : j ≤ k) (h2 : 0 < j → q' = q) (h3 : 0 < j → D (j - 1) ≠ 0) (h4 : val D j = val D k) :
    isNat w (.agg #[.slice q' j j]) (val D k) := by
  by_cases hj : 0 < j
  · obtain rfl := h2 hj
    exact ⟨q', j, j, D, rfl, h.take h1, h3, h4.symm⟩
  · obtain rfl : j = 0 := by omega
    exact ⟨q', 0, 0, D, rfl, ⟨0, 0, by omega, by decide, by omega, by omega⟩, by omega, h4.symm⟩

theorem fromUint64_calls (n : Nat) (hn : n < 18446744073709551616) (w : World) :
    Calls Tryd.prog 17 #[.int .u64 n] w fun e w' => ∃ v, e = .returned v ∧ isNat w' v n ∧ ∃ x, w' = beyond w x := by
  go_enter Tryd.func17, Tryd.ntmps17
  have hs : val (fun i => if i = 0 then n % 4294967296 else n / 4294967296) 2 = n := by simp [val]; omega
  have HS := Lib.hid hs; clear hs
  go_wp2_with fail
  refine (trimmed_calls _ 2 2 (fun i => if i = 0 then n % 4294967296 else n / 4294967296) _ ?dig).mono ?_
  case dig =>
    refine ⟨w.heap.size + 1, 0, by omega, by decide, fun _ => ⟨rfl, by simp⟩, fun i hi => ?_⟩
    match i, hi with
    | 0, _ => exact ⟨by simp [go_sem], by simp; omega⟩
    | 1, _ => exact ⟨by simp [go_sem], by simp; omega⟩
  rintro e w1 ⟨j, q', rfl, h1, h2, -, h3, h4, x, rfl⟩
  go_wp2
  refine bodyPost_ret (results_block rfl _ _ _ 30 _ _ rfl (by simp [go_sem] <;> rfl) Tryd.underlying30 rfl (by kernel_rfl)) rfl ?_
  refine ⟨_, rfl, ?_, beyond_of (by repeat (first | assumption | exact Below.refl _ _ | exact below_beyond _ _ | refine Below.beyond ?_ (by (try simp [size_beyond]) <;> omega) _ | refine Below.drew ?_ | refine Below.alloc ?_ (by (try simp [size_beyond]) <;> omega) _ | refine Below.setCell ?_ (by (try simp [size_beyond]) <;> omega) _))⟩
  refine (congrArg (isNat _ _) HS.out).mp (isNat_of (c := 2) ?_ h1 h2 h3 h4)
  refine ⟨w.heap.size + 1, 0, by omega, by decide, fun _ => ⟨rfl, by simp [size_beyond]; omega⟩, fun i hi => ?_⟩
  match i, hi with
  | 0, _ => exact ⟨by simp [go_sem], by simp; omega⟩
  | 1, _ => exact ⟨by simp [go_sem], by simp; omega⟩

theorem isZero_calls {v : Value} {n : Nat} {w : World} (h : isNat w v n) :
    Calls Tryd.prog 19 #[v] w fun e w' => e = .returned (.bool (decide (n = 0))) ∧ ∃ x, w' = beyond w x := by
  obtain ⟨q, k, c, D, rfl, hd, ht, rfl⟩ := h
  have e : decide (val D k = 0) = (k == 0) := by
    cases k with
    | zero => rfl
    | succ k =>
      have := ht (by omega)
      simp only [Nat.add_sub_cancel] at this
      have p : 0 < D k * 2 ^ (32 * k) := Nat.mul_pos (by omega) (Nat.pow_pos (by omega))
      simp [val]; omega
  rw [e]
  have HE := Lib.hid e; clear e
  clear hd ht
  go_enter Tryd.func19, Tryd.ntmps19
  by_cases hk : k = 0
  · subst hk
    go_wp2
    go_ret
    exact ⟨rfl, beyond_of (by repeat (first | assumption | exact Below.refl _ _ | exact below_beyond _ _ | refine Below.beyond ?_ (by (try simp [size_beyond]) <;> omega) _ | refine Below.drew ?_ | refine Below.alloc ?_ (by (try simp [size_beyond]) <;> omega) _ | refine Below.setCell ?_ (by (try simp [size_beyond]) <;> omega) _))⟩
  · go_wp2
    go_ret
    exact ⟨ret_bool (a := ((k : Int) == 0)) (by rw [Bool.eq_iff_iff]; simp), beyond_of (by repeat (first | assumption | exact Below.refl _ _ | exact below_beyond _ _ | refine Below.beyond ?_ (by (try simp [size_beyond]) <;> omega) _ | refine Below.drew ?_ | refine Below.alloc ?_ (by (try simp [size_beyond]) <;> omega) _ | refine Below.setCell ?_ (by (try simp [size_beyond]) <;> omega) _))⟩
end Go.Proofs.YtkpdkkeblipfdaaDoor.nat
