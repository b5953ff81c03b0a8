/-
  Contracts of bignat: Bit.
-/
import Derived.Test.YtogjobmekjighaaDoorBnP
set_option linter.unusedSimpArgs false
set_option linter.unusedVariables false
namespace Go.Proofs.YtogjobmekjighaaDoor.bn
open Go.RowKit Go.Own Go.Bn
set_option maxHeartbeats 4000000
set_option maxRecDepth 100000

theorem hi_over {ds : List Nat} {k : Nat} (h : ds.length ≤ k) : hi ds k = 0 := by unfold hi; rw [List.drop_eq_nil_of_le h, val_nil]
theorem hi_more {ds : List Nat} (k : Nat) : hi ds k = dg ds k + B * hi ds (k + 1) := by
  by_cases h : k < ds.length
  · exact hi_step h
  · rw [hi_over (by omega), hi_over (by omega), dg_over (by omega), Nat.mul_zero]
theorem val_split (ds : List Nat) (k : Nat) : val ds = valTo ds k + B ^ k * hi ds k := by
  induction k with
  | zero => rw [valTo_zero, hi_all, Nat.pow_zero, Nat.one_mul, Nat.zero_add]
  | succ k ih =>
    rw [valTo_succ, ih, hi_more k, Nat.pow_succ, Nat.mul_add, Nat.mul_assoc, Nat.add_assoc]
theorem hi_mod {ds : List Nat} (hD : Dig ds) (k : Nat) : hi ds k % B = dg ds k := by
  by_cases h : k < ds.length
  · rw [hi_step h, Nat.add_mul_mod_self_left, Nat.mod_eq_of_lt (dg_lt hD k)]
  · rw [hi_over (by omega), dg_over (by omega), Nat.zero_mod]
theorem hi_div {ds : List Nat} (hD : Dig ds) (k : Nat) : hi ds k = val ds / B ^ k := by
  have hp : 0 < B ^ k := Nat.pow_pos (by decide)
  rw [val_split ds k, Nat.add_comm, Nat.mul_add_div hp, Nat.div_eq_of_lt (valTo_lt hD k), Nat.add_zero]
theorem bit_dg {ds : List Nat} (hD : Dig ds) (k s : Nat) (hs : s < 32) : (val ds).testBit (32 * k + s) = decide (dg ds k / 2 ^ s % 2 = 1) := by
  rw [Nat.testBit_eq_decide_div_mod_eq, Nat.pow_add, ← B_pow, ← Nat.div_div_eq_div_mul, ← hi_div hD, ← hi_mod hD k]
  congr 2
  have e : B = 2 ^ s * (2 * 2 ^ (31 - s)) := by rw [← Nat.pow_succ', ← Nat.pow_add, show s + (31 - s).succ = 32 by omega]; rfl
  have h := Nat.div_add_mod (hi ds k) B
  generalize hi ds k / B = t at h
  generalize hi ds k % B = r at h
  rw [← h, e, Nat.mul_assoc, Nat.mul_add_div (Nat.pow_pos (by decide)), Nat.mul_assoc, Nat.mul_add_mod]
theorem bit_no {v : Value} {n : Nat} {W : World} (h : NatAt v n W) (i : Int) (hi : i < 0) :
    Calls Tryd.prog 33 #[v, .int .i64 i] W fun e w' => e = .returned (.bool false) ∧ Below W.heap.size W w' := by
  obtain ⟨q, m, c, rfl⟩ := h.shape
  clear h
  have hd : decide ((0 : Int) ≤ i) = false := decide_eq_false (by omega)
  go_enter Tryd.func33, Tryd.ntmps33
  go_wp2
  go_ret
  exact ⟨rfl, (by repeat (first | assumption | exact Below.refl _ _ | exact below_beyond _ _ | refine Below.beyond ?_ (by (try simp [size_beyond]) <;> omega) _ | refine Below.drew ?_ | refine Go.Rw.below_drewN ?_ _ | refine Go.Rw.below_setRow ?_ (by (try simp [size_beyond]) <;> omega) _ | refine Below.alloc ?_ (by (try simp [size_beyond]) <;> omega) _ | refine Below.setCell ?_ (by (try simp [size_beyond]) <;> omega) _))⟩
theorem bit_yes {v : Value} {n : Nat} {W : World} (h : NatAt v n W) (i : Nat) (hi : (i : Int) ≤ 9223372036854775807) :
    Calls Tryd.prog 33 #[v, .int .i64 (i : Int)] W fun e w' => e = .returned (.bool (n.testBit i)) ∧ Below W.heap.size W w' := by
  obtain ⟨q, m, c, ds, rfl, hA, hN, rfl⟩ := h.ex
  have hD := hA.all.2.2.2.2.1
  obtain ⟨k, s, hs, rfl⟩ : ∃ k s, s < 32 ∧ i = 32 * k + s := ⟨i / 32, i % 32, by omega, by omega⟩
  rw [bit_dg hD k s hs]
  have HG := Lib.hid (fun w (hb : Below W.heap.size W w) => digit_calls (hA.below hb) k (by omega))
  have hx : (dg ds k : Int) ≤ 4294967295 := by have := dg_lt hD k; unfold B at this; omega
  generalize hN : (((32 * k + s : Nat)) : Int) = N
  have hq : Int.tdiv N 32 = (k : Int) := by rw [← hN, Int.tdiv_eq_ediv_of_nonneg (by omega)]; omega
  have hr : Int.tmod N 32 = (s : Int) := by rw [← hN, Int.tmod_eq_emod_of_nonneg (by omega)]; omega
  have hN0 : 0 ≤ N := by omega
  clear hN hA hD h
  generalize dg ds k = x at HG hx ⊢
  have hz : x / 2 ^ s < 4294967296 := Nat.lt_of_le_of_lt (Nat.div_le_self _ _) (by omega)
  have hEV := Lib.hid (show (bits BinOp.and IntKind.u32 ((x : Int) / 2 ^ s) 1 == 1) = decide (x / 2 ^ s % 2 = 1) from by
    have e : ((x : Int) / 2 ^ s) = ((x / 2 ^ s : Nat) : Int) := by simp
    have h1 : x / 2 ^ s &&& 1 = x / 2 ^ s % 2 := Nat.and_one_is_mod _
    rw [e, show (1 : Int) = ((1 : Nat) : Int) from rfl, and_u32 _ _ hz (by decide), h1]
    by_cases h2 : x / 2 ^ s % 2 = 1
    · rw [h2]; rfl
    · rw [decide_eq_false h2]; simp; omega)
  rw [← hEV.out]
  clear hz
  go_enter Tryd.func33, Tryd.ntmps33
  go_wp2_with (go_at_call 59; refine (HG.out _ (by repeat (first | assumption | exact Below.refl _ _ | exact below_beyond _ _ | refine Below.beyond ?_ (by (try simp [size_beyond]) <;> omega) _ | refine Below.drew ?_ | refine Go.Rw.below_drewN ?_ _ | refine Go.Rw.below_setRow ?_ (by (try simp [size_beyond]) <;> omega) _ | refine Below.alloc ?_ (by (try simp [size_beyond]) <;> omega) _ | refine Below.setCell ?_ (by (try simp [size_beyond]) <;> omega) _))).mono ?_; rintro e w1 ⟨rfl, hb⟩)
  go_ret
  exact ⟨rfl, below_step hb (by repeat (first | assumption | exact Below.refl _ _ | exact below_beyond _ _ | refine Below.beyond ?_ (by (try simp [size_beyond]) <;> omega) _ | refine Below.drew ?_ | refine Go.Rw.below_drewN ?_ _ | refine Go.Rw.below_setRow ?_ (by (try simp [size_beyond]) <;> omega) _ | refine Below.alloc ?_ (by (try simp [size_beyond]) <;> omega) _ | refine Below.setCell ?_ (by (try simp [size_beyond]) <;> omega) _))⟩
end Go.Proofs.YtogjobmekjighaaDoor.bn
