/-
  Contracts of bignat: BitLen, Uint64, Bit.
-/
import Derived.Test.YtogjobmekjighaaDoorBnO
import Derived.Test.YtogjobmekjighaaDoorShelf
import Derived.Lib.Bits
set_option linter.unusedSimpArgs false
set_option linter.unusedVariables false
namespace Go.Proofs.YtogjobmekjighaaDoor.bn
open Go.RowKit Go.Own Go.Bn
set_option maxHeartbeats 4000000
set_option maxRecDepth 100000

theorem below_step {w X w3 : World} (hb : Below X.heap.size X w3) (h : Below w.heap.size w X) : Below w.heap.size w w3 := h.trans (hb.mono h.size)
def U64 : Nat := 18446744073709551616
theorem Uint64_calls {v : Value} {n : Nat} {W : World} (h : NatAt v n W) :
    Calls Tryd.prog 37 #[v] W fun e w' => e = .returned (.tuple #[.int .u64 (((if n < U64 then n else 0) : Nat) : Int), .bool (decide (n < U64))]) ∧ Below W.heap.size W w' := by
  obtain ⟨q, m, c, ds, rfl, hA, hN, rfl⟩ := h.ex
  have hD := hA.all.2.2.2.2.1
  have hm : m = ds.length := hA.all.1
  have hm2 : m ≤ 999000 := hA.all.2.1
  by_cases hl : 2 < m
  · have hb : ¬ val ds < U64 := by
      unfold U64
      have h1 := val_ge hN (by rintro rfl; simp at hm; omega)
      have h2 : B ^ 2 ≤ B ^ (ds.length - 1) := Nat.pow_le_pow_right (by decide) (by omega)
      have h3 : B ^ 2 = 18446744073709551616 := by decide
      omega
    rw [if_neg hb, decide_eq_false hb]
    clear hA hN hD hb h hm
    go_enter Tryd.func37, Tryd.ntmps37
    go_wp2
    go_ret2
    exact ⟨rfl, (by repeat (first | assumption | exact Below.refl _ _ | exact below_beyond _ _ | refine Below.beyond ?_ (by (try simp [size_beyond]) <;> omega) _ | refine Below.drew ?_ | refine Go.Rw.below_drewN ?_ _ | refine Go.Rw.below_setRow ?_ (by (try simp [size_beyond]) <;> omega) _ | refine Below.alloc ?_ (by (try simp [size_beyond]) <;> omega) _ | refine Below.setCell ?_ (by (try simp [size_beyond]) <;> omega) _))⟩
  · have hv : val ds = dg ds 1 * B + dg ds 0 := by
      rw [← valTo_all (ds := ds) 2 (by omega), valTo_succ, valTo_succ, valTo_zero]
      simp; rw [Nat.mul_comm]; omega
    have hx := dg_lt hD 1
    have hy := dg_lt hD 0
    have hb : val ds < U64 := by rw [hv]; unfold U64; unfold B at *; omega
    rw [if_pos hb, decide_eq_true hb, hv]
    have HO := Lib.hid (or_words (dg ds 1) (dg ds 0) hx hy)
    rw [← HO.out]
    have HD1 := Lib.hid (fun w (hb : Below W.heap.size W w) => digit_calls (hA.below hb) 1 (by omega))
    have HD0 := Lib.hid (fun w (hb : Below W.heap.size W w) => digit_calls (hA.below hb) 0 (by omega))
    clear hA hN hD hb h hm hv HO
    generalize dg ds 1 = x at *
    generalize dg ds 0 = y at *
    have hx2 : (x : Int) ≤ 4294967295 := by unfold B at hx; omega
    have hy2 : (y : Int) ≤ 4294967295 := by unfold B at hy; omega
    clear hx hy
    go_enter Tryd.func37, Tryd.ntmps37
    go_wp2
    refine wp_region_beyond (by kernel_rfl) (by kernel_rfl) ?_
    refine wpQuiet_load_row (by kernel_rfl) 27 (.tmp 1) rfl W.heap.size #[.slice q m c] 27 _ rfl (by rintro w ⟨x, rfl⟩; exact ((below_beyond _ _).block _ (by simp)).trans (heap_alloc_new _ _)) Tryd.underlying27 rfl nInfo ?_
    simp only [Act.put, List.setIfInBounds_toArray, List.set_cons_succ, List.set_cons_zero]
    go_big_quiet_step ((go_at_call 59; exact quiet_beyond ((HD1.out _ (by repeat (first | assumption | exact Below.refl _ _ | exact below_beyond _ _ | refine Below.beyond ?_ (by (try simp [size_beyond]) <;> omega) _ | refine Below.drew ?_ | refine Go.Rw.below_drewN ?_ _ | refine Go.Rw.below_setRow ?_ (by (try simp [size_beyond]) <;> omega) _ | refine Below.alloc ?_ (by (try simp [size_beyond]) <;> omega) _ | refine Below.setCell ?_ (by (try simp [size_beyond]) <;> omega) _))).mono fun e w' h => ⟨h.1, beyond_of h.2⟩)))
    go_big_quiet_step (fail)
    go_big_quiet_step (fail)
    refine wpQuiet_load_row (by kernel_rfl) 27 (.tmp 1) rfl W.heap.size #[.slice q m c] 27 _ rfl (by rintro w ⟨x, rfl⟩; exact ((below_beyond _ _).block _ (by simp)).trans (heap_alloc_new _ _)) Tryd.underlying27 rfl nInfo ?_
    simp only [Act.put, List.setIfInBounds_toArray, List.set_cons_succ, List.set_cons_zero]
    go_big_quiet_step ((go_at_call 59; exact quiet_beyond ((HD0.out _ (by repeat (first | assumption | exact Below.refl _ _ | exact below_beyond _ _ | refine Below.beyond ?_ (by (try simp [size_beyond]) <;> omega) _ | refine Below.drew ?_ | refine Go.Rw.below_drewN ?_ _ | refine Go.Rw.below_setRow ?_ (by (try simp [size_beyond]) <;> omega) _ | refine Below.alloc ?_ (by (try simp [size_beyond]) <;> omega) _ | refine Below.setCell ?_ (by (try simp [size_beyond]) <;> omega) _))).mono fun e w' h => ⟨h.1, beyond_of h.2⟩)))
    repeat (go_big_quiet_step (fail))
    refine wpQuiet_nil ?_
    rintro _ ⟨x5, rfl⟩
    go_wp2
    go_ret2
    exact ⟨rfl, (by repeat (first | assumption | exact Below.refl _ _ | exact below_beyond _ _ | refine Below.beyond ?_ (by (try simp [size_beyond]) <;> omega) _ | refine Below.drew ?_ | refine Go.Rw.below_drewN ?_ _ | refine Go.Rw.below_setRow ?_ (by (try simp [size_beyond]) <;> omega) _ | refine Below.alloc ?_ (by (try simp [size_beyond]) <;> omega) _ | refine Below.setCell ?_ (by (try simp [size_beyond]) <;> omega) _))⟩
/-- the number of binary digits -/
def nb (n : Nat) : Nat := if n = 0 then 0 else n.log2 + 1
theorem nb_le {n k : Nat} : nb n ≤ k ↔ n < 2 ^ k := by
  unfold nb
  by_cases h : n = 0
  · subst h; simp [Nat.pow_pos]
  · rw [if_neg h, ← Nat.log2_lt h]; omega
theorem nb_lt {n k : Nat} : k < nb n ↔ 2 ^ k ≤ n := by
  have := @nb_le n k; omega
theorem nb_eq {n k : Nat} (h1 : n < 2 ^ (k + 1)) (h2 : 2 ^ k ≤ n) : nb n = k + 1 := by
  have := nb_le.2 h1; have := nb_lt.2 h2; omega
theorem nb_lib {x : Nat} (h : x < 2 ^ 64) : Lib.bitLen x = nb x := by
  have h1 : Lib.bitLen x ≤ nb x := by
    by_cases hk : nb x ≤ 64
    · exact Lib.bitLen_le x (nb x) hk (nb_le.1 (Nat.le_refl _))
    · exact Nat.le_trans (Lib.bitLen_le x 64 (Nat.le_refl _) h) (by omega)
  rcases Nat.eq_zero_or_pos (nb x) with h0 | h0
  · omega
  · have h2 : 2 ^ (nb x - 1) ≤ x := nb_lt.1 (by omega)
    have h3 := Lib.bitLen_shift (nb x - 1) x h2 h
    have h4 : x / 2 ^ (nb x - 1) ≠ 0 := by
      have := (Nat.le_div_iff_mul_le (Nat.pow_pos (n := nb x - 1) (by decide : 0 < 2))).2 (by rw [Nat.one_mul]; exact h2)
      omega
    have h5 := Lib.bitLen_half _ h4 (Nat.lt_of_le_of_lt (Nat.div_le_self _ _) h)
    omega
theorem B_pow (k : Nat) : B ^ k = 2 ^ (32 * k) := by rw [Nat.pow_mul]; rfl
/-- the length of the number by its top digit -/
theorem nb_top {ds : List Nat} {k : Nat} (hD : Dig ds) (hN : Nrm ds) (hk : ds.length = k + 1) : nb (val ds) = 32 * k + nb (dg ds k) := by
  have hv : val ds = valTo ds k + B ^ k * dg ds k := by rw [← valTo_succ, valTo_all _ (by omega)]
  have hl := valTo_lt hD k
  have ht : dg ds k ≠ 0 := by
    have hne : ds ≠ [] := by rintro rfl; simp at hk
    have := hN hne
    rw [List.getLast_eq_getElem] at this
    have e := dg_some (ds := ds) (i := k) (by omega)
    rw [List.getElem?_eq_getElem (by omega)] at e
    injection e with e
    rw [← e]
    simpa [hk] using this
  obtain ⟨j, hj⟩ : ∃ j, nb (dg ds k) = j + 1 := ⟨nb (dg ds k) - 1, by have : nb (dg ds k) ≠ 0 := (by unfold nb; rw [if_neg ht]; omega); omega⟩
  have h1 : dg ds k < 2 ^ (j + 1) := nb_le.1 (by omega)
  have h2 : 2 ^ j ≤ dg ds k := nb_lt.1 (by omega)
  rw [hj]
  refine nb_eq (k := 32 * k + j) ?_ ?_
  · have e : 2 ^ (32 * k + j + 1) = B ^ k * 2 ^ (j + 1) := by rw [Nat.add_assoc, Nat.pow_add, B_pow]
    have : B ^ k * (dg ds k + 1) ≤ B ^ k * 2 ^ (j + 1) := Nat.mul_le_mul_left _ h1
    rw [Nat.mul_add, Nat.mul_one] at this
    omega
  · have e : 2 ^ (32 * k + j) = B ^ k * 2 ^ j := by rw [Nat.pow_add, B_pow]
    have : B ^ k * 2 ^ j ≤ B ^ k * dg ds k := Nat.mul_le_mul_left _ h2
    omega
theorem len32_calls (x : Nat) (hx : x < 4294967296) (w : World) : Calls Tryd.prog 58 #[.int .u32 (x : Int)] w fun e w' => e = .returned (.int .i64 (nb x : Int)) ∧ w' = w := by
  have := Tryd.bits_Len32 (x : Int) w (by omega) (by omega)
  rw [Int.toNat_natCast, nb_lib (by omega)] at this
  exact this
theorem BitLen_calls {v : Value} {n : Nat} {W : World} (h : NatAt v n W) :
    Calls Tryd.prog 32 #[v] W fun e w' => e = .returned (.int .i64 (nb n : Int)) ∧ Below W.heap.size W w' := by
  have HZ := Lib.hid (fun w (hb : Below W.heap.size W w) => isZero_calls (h.below hb))
  obtain ⟨q, m, c, ds, rfl, hA, hN, rfl⟩ := h.ex
  have hD := hA.all.2.2.2.2.1
  have hm : m = ds.length := hA.all.1
  have hm2 : m ≤ 999000 := hA.all.2.1
  by_cases h0 : m = 0
  · obtain rfl : ds = [] := List.eq_nil_of_length_eq_zero (by omega)
    subst h0
    have HZ0 := Lib.hid (fun w (hb : Below W.heap.size W w) => by have := HZ.out w hb; rw [decide_eq_true (show val [] = 0 from rfl)] at this; exact this)
    have hn : nb (val []) = 0 := rfl
    rw [hn]
    clear hA hN hD h hm HZ
    go_enter Tryd.func32, Tryd.ntmps32
    go_wp2_with (go_at_call 21; refine (HZ0.out _ (by repeat (first | assumption | exact Below.refl _ _ | exact below_beyond _ _ | refine Below.beyond ?_ (by (try simp [size_beyond]) <;> omega) _ | refine Below.drew ?_ | refine Go.Rw.below_drewN ?_ _ | refine Go.Rw.below_setRow ?_ (by (try simp [size_beyond]) <;> omega) _ | refine Below.alloc ?_ (by (try simp [size_beyond]) <;> omega) _ | refine Below.setCell ?_ (by (try simp [size_beyond]) <;> omega) _))).mono ?_; rintro e w1 ⟨rfl, hb⟩)
    go_ret
    exact ⟨rfl, below_step hb (by repeat (first | assumption | exact Below.refl _ _ | exact below_beyond _ _ | refine Below.beyond ?_ (by (try simp [size_beyond]) <;> omega) _ | refine Below.drew ?_ | refine Go.Rw.below_drewN ?_ _ | refine Go.Rw.below_setRow ?_ (by (try simp [size_beyond]) <;> omega) _ | refine Below.alloc ?_ (by (try simp [size_beyond]) <;> omega) _ | refine Below.setCell ?_ (by (try simp [size_beyond]) <;> omega) _))⟩
  · obtain ⟨k, rfl⟩ : ∃ k, m = k + 1 := ⟨m - 1, by omega⟩
    have hne : ds ≠ [] := by rintro rfl; simp at hm
    have hpos := val_pos hN hne
    have HZ2 := Lib.hid (fun w (hb : Below W.heap.size W w) => by have := HZ.out w hb; rw [decide_eq_false (by omega)] at this; exact this)
    obtain ⟨p, off, rfl, hp, hcs⟩ := hA.cell (k := k) (by omega)
    have hck := hcs k (by omega)
    have hdk := dg_lt hD k
    rw [nb_top hD hN hm.symm]
    have HL := Lib.hid (len32_calls (dg ds k) hdk)
    have hnl : nb (dg ds k) ≤ 32 := nb_le.2 hdk
    clear hA hN hD h hm hcs hne hpos HZ h0 hdk
    generalize dg ds k = t at *
    generalize nb t = l at *
    go_enter Tryd.func32, Tryd.ntmps32
    go_wp2_with (go_at_call 21
                 refine (HZ2.out _ (by repeat (first | assumption | exact Below.refl _ _ | exact below_beyond _ _ | refine Below.beyond ?_ (by (try simp [size_beyond]) <;> omega) _ | refine Below.drew ?_ | refine Go.Rw.below_drewN ?_ _ | refine Go.Rw.below_setRow ?_ (by (try simp [size_beyond]) <;> omega) _ | refine Below.alloc ?_ (by (try simp [size_beyond]) <;> omega) _ | refine Below.setCell ?_ (by (try simp [size_beyond]) <;> omega) _))).mono ?_
                 rintro e w1 ⟨rfl, hb⟩
                 have hc1 : w1.cell? ⟨W.heap.size, 0, none⟩ = some (.slice (some ⟨p, off, none⟩) (k + 1) c) := (hb.cell (by simp)).trans (by simp [go_sem])
                 have hB1 := Lib.hid (show Below W.heap.size W w1 from (show Below W.heap.size W (W.alloc (.cells #[.slice (some ⟨p, off, none⟩) (k + 1) c] 27)) from (by repeat (first | assumption | exact Below.refl _ _ | exact below_beyond _ _ | refine Below.beyond ?_ (by (try simp [size_beyond]) <;> omega) _ | refine Below.drew ?_ | refine Go.Rw.below_drewN ?_ _ | refine Go.Rw.below_setRow ?_ (by (try simp [size_beyond]) <;> omega) _ | refine Below.alloc ?_ (by (try simp [size_beyond]) <;> omega) _ | refine Below.setCell ?_ (by (try simp [size_beyond]) <;> omega) _))).trans (hb.mono (by simp)))
                 have hc2 := (hB1.out.cell (p := ⟨p, off + k, none⟩) hp).trans hck
                 clear hb hck)
    have hbd1 : (0 : Int) ≤ (k : Int) := by omega
    have hbd2 : (k : Int) < ((k + 1 : Nat) : Int) := by omega
    go_quiet ((go_at_call 58; refine Calls.quiet_of_same (HL.out _)))
    go_wp2
    go_ret
    have hB2 := hB1.out
    exact ⟨ret_int (by omega), (by repeat (first | assumption | exact Below.refl _ _ | exact below_beyond _ _ | refine Below.beyond ?_ (by (try simp [size_beyond]) <;> omega) _ | refine Below.drew ?_ | refine Go.Rw.below_drewN ?_ _ | refine Go.Rw.below_setRow ?_ (by (try simp [size_beyond]) <;> omega) _ | refine Below.alloc ?_ (by (try simp [size_beyond]) <;> omega) _ | refine Below.setCell ?_ (by (try simp [size_beyond]) <;> omega) _))⟩
end Go.Proofs.YtogjobmekjighaaDoor.bn
