/-
  Contracts of bignat: Pow.
-/
import Derived.Test.YtogjobmekjighaaDoorBnPc
set_option linter.unusedSimpArgs false
set_option linter.unusedVariables false
namespace Go.Proofs.YtogjobmekjighaaDoor.bn
open Go.RowKit Go.Own Go.Bn Go.PlainAid
set_option maxHeartbeats 4000000
set_option maxRecDepth 100000

def NoR (W : World) (e : Ending) (w' : World) : Prop := e = .returned (.tuple #[.agg #[.slice none 0 0], .int .i64 2]) ∧ Below W.heap.size W w'
def YesR (W : World) (n : Nat) (e : Ending) (w' : World) : Prop := ∃ v, e = .returned (.tuple #[v, .int .i64 0]) ∧ NatAt v n w' ∧ Below W.heap.size W w'
theorem pow_neg {v : Value} {a : Nat} {W : World} (h : NatAt v a W) (n : Int) (hn : n < 0) : Calls Tryd.prog 34 #[v, .int .i64 n] W (NoR W) := by
  obtain ⟨q, m, c, rfl⟩ := h.shape
  clear h
  go_enter Tryd.func34, Tryd.ntmps34
  go_wp2
  refine bodyPost_ret (results_block2 rfl _ _ (W.heap.size + 1) 27 #[.slice none 0 0] _ (.int .i64 2) rfl rfl (by simp [go_sem]) Tryd.underlying27 rfl nInfo) rfl ?_
  exact ⟨rfl, (by repeat (first | assumption | exact Below.refl _ _ | exact below_beyond _ _ | refine Below.beyond ?_ (by (try simp [size_beyond]) <;> omega) _ | refine Below.drew ?_ | refine Go.Rw.below_drewN ?_ _ | refine Go.Rw.below_setRow ?_ (by (try simp [size_beyond]) <;> omega) _ | refine Below.alloc ?_ (by (try simp [size_beyond]) <;> omega) _ | refine Below.setCell ?_ (by (try simp [size_beyond]) <;> omega) _))⟩
theorem pow_zero {v : Value} {a : Nat} {W : World} (h : NatAt v a W) : Calls Tryd.prog 34 #[v, .int .i64 0] W (YesR W 1) := by
  obtain ⟨q, m, c, rfl⟩ := h.shape
  clear h
  have HF := Lib.hid (fun w => from_calls 1 (by decide) w)
  have h2 := two_blocks W (.slice q m c) (.slice none 0 0)
  have hB0 : Below W.heap.size W ((W.alloc (.cells #[.slice q m c] 27)).alloc (.cells #[.slice none 0 0] 27)) := (by repeat (first | assumption | exact Below.refl _ _ | exact below_beyond _ _ | refine Below.beyond ?_ (by (try simp [size_beyond]) <;> omega) _ | refine Below.drew ?_ | refine Go.Rw.below_drewN ?_ _ | refine Go.Rw.below_setRow ?_ (by (try simp [size_beyond]) <;> omega) _ | refine Below.alloc ?_ (by (try simp [size_beyond]) <;> omega) _ | refine Below.setCell ?_ (by (try simp [size_beyond]) <;> omega) _))
  have H0 := Lib.hid (And.intro h2 hB0)
  clear h2 hB0
  go_enter Tryd.func34, Tryd.ntmps34
  go_wp2_with (fail)
  go_at_call 42
  refine (HF.out _).mono ?_
  rintro e w2 ⟨v, rfl, hv, hb⟩
  obtain ⟨q5, m5, c5, rfl⟩ := hv.shape
  have HV := Lib.hid hv
  have HR := Lib.hid (H0.out.1.2.below hb)
  have HW := Lib.hid (below_step hb H0.out.2)
  clear hb hv
  obtain ⟨hx1, hf1⟩ := HR.out.cell
  go_wp2
  obtain ⟨w5, hw5, L1, L2, L3, L4⟩ := laid1 HW.out HR.out (by omega) q5 m5 c5
  rw [hw5]
  exact bodyPost_ret (results_block2 rfl _ _ (W.heap.size + 1) 27 #[.slice q5 m5 c5] _ (.int .i64 0) rfl rfl L1.blk Tryd.underlying27 rfl nInfo) rfl ⟨_, rfl, L3 _ _ HV.out, L2⟩
theorem pow_one {v : Value} {a : Nat} {W : World} (h : NatAt v a W) (ha : nb a < 2) (n : Int) (hn : 0 < n) : Calls Tryd.prog 34 #[v, .int .i64 n] W (YesR W a) := by
  have HBL := Lib.hid (fun w (hb : Below W.heap.size W w) => BitLen_calls (h.below hb))
  have HC := Lib.hid (fun w (hb : Below W.heap.size W w) => clone_calls (h.below hb))
  obtain ⟨q, m, c, rfl⟩ := h.shape
  have hd : decide ((nb a : Int) < 2) = true := decide_eq_true (by omega)
  clear h ha
  generalize nb a = l at *
  have h2 := two_blocks W (.slice q m c) (.slice none 0 0)
  have hB0 : Below W.heap.size W ((W.alloc (.cells #[.slice q m c] 27)).alloc (.cells #[.slice none 0 0] 27)) := (by repeat (first | assumption | exact Below.refl _ _ | exact below_beyond _ _ | refine Below.beyond ?_ (by (try simp [size_beyond]) <;> omega) _ | refine Below.drew ?_ | refine Go.Rw.below_drewN ?_ _ | refine Go.Rw.below_setRow ?_ (by (try simp [size_beyond]) <;> omega) _ | refine Below.alloc ?_ (by (try simp [size_beyond]) <;> omega) _ | refine Below.setCell ?_ (by (try simp [size_beyond]) <;> omega) _))
  have H0 := Lib.hid (And.intro h2 hB0)
  have hn1 : (n == 0) = false := by simp; omega
  have hn2 : decide (n < 0) = false := decide_eq_false (by omega)
  clear h2 hB0
  go_enter Tryd.func34, Tryd.ntmps34
  go_wp2_with (fail)
  go_at_call 32
  refine (HBL.out _ H0.out.2).mono ?_
  rintro e w2 ⟨rfl, hb⟩
  have HA := Lib.hid (H0.out.1.1.below hb)
  have HR := Lib.hid (H0.out.1.2.below hb)
  have HW := Lib.hid (below_step hb H0.out.2)
  clear hb
  obtain ⟨hx1, hf1⟩ := HA.out.cell
  go_wp2_with (fail)
  go_at_call 53
  refine (HC.out _ HW.out).mono ?_
  rintro e w3 ⟨v, rfl, hv, hb⟩
  obtain ⟨q5, m5, c5, rfl⟩ := hv.shape
  have HV := Lib.hid hv
  have HR3 := Lib.hid (HR.out.below hb)
  have HW3 := Lib.hid (below_step hb HW.out)
  clear hb hv hx1 hf1
  obtain ⟨hx1, hf1⟩ := HR3.out.cell
  go_wp2
  obtain ⟨w5, hw5, L1, L2, L3, L4⟩ := laid1 HW3.out HR3.out (by omega) q5 m5 c5
  rw [hw5]
  exact bodyPost_ret (results_block2 rfl _ _ (W.heap.size + 1) 27 #[.slice q5 m5 c5] _ (.int .i64 0) rfl rfl L1.blk Tryd.underlying27 rfl nInfo) rfl ⟨_, rfl, L3 _ _ HV.out, L2⟩
theorem nb_max {v : Value} {a : Nat} {W : World} (h : NatAt v a W) : nb a ≤ 31968000 := by
  obtain ⟨q, m, c, ds, rfl, hA, hN, rfl⟩ := h.ex
  have h1 := val_lt hA.all.2.2.2.2.1
  have h2 : ds.length ≤ 999000 := by rw [← hA.all.1]; exact hA.all.2.1
  rw [B_pow] at h1
  exact Nat.le_trans (nb_le.2 h1) (by omega)
theorem pow_big {v : Value} {a : Nat} {W : World} (h : NatAt v a W) (ha : 2 ≤ nb a) (n : Int) (hn : 0 < n) (hbig : 65536 ≤ n ∨ (n < 65536 ∧ 65536 ≤ ((nb a : Int) - 1) * n)) : Calls Tryd.prog 34 #[v, .int .i64 n] W (NoR W) := by
  have HBL := Lib.hid (fun w (hb : Below W.heap.size W w) => BitLen_calls (h.below hb))
  have hmx := nb_max h
  obtain ⟨q, m, c, rfl⟩ := h.shape
  have hd : decide ((nb a : Int) < 2) = false := decide_eq_false (by omega)
  clear h
  generalize nb a = l at *
  have h2 := two_blocks W (.slice q m c) (.slice none 0 0)
  have hB0 : Below W.heap.size W ((W.alloc (.cells #[.slice q m c] 27)).alloc (.cells #[.slice none 0 0] 27)) := (by repeat (first | assumption | exact Below.refl _ _ | exact below_beyond _ _ | refine Below.beyond ?_ (by (try simp [size_beyond]) <;> omega) _ | refine Below.drew ?_ | refine Go.Rw.below_drewN ?_ _ | refine Go.Rw.below_setRow ?_ (by (try simp [size_beyond]) <;> omega) _ | refine Below.alloc ?_ (by (try simp [size_beyond]) <;> omega) _ | refine Below.setCell ?_ (by (try simp [size_beyond]) <;> omega) _))
  have H0 := Lib.hid (And.intro h2 hB0)
  have hn1 : (n == 0) = false := by simp; omega
  have hn2 : decide (n < 0) = false := decide_eq_false (by omega)
  clear h2 hB0
  rcases hbig with hb1 | ⟨hb1, hb2⟩
  · have hd1 : decide (65536 ≤ n) = true := decide_eq_true hb1
    go_enter Tryd.func34, Tryd.ntmps34
    go_wp2_with (fail)
    go_at_call 32
    refine (HBL.out _ H0.out.2).mono ?_
    rintro e w2 ⟨rfl, hb⟩
    have HR := Lib.hid (H0.out.1.2.below hb)
    have HW := Lib.hid (below_step hb H0.out.2)
    clear hb
    obtain ⟨hx1, hf1⟩ := HR.out.cell
    go_wp2
    obtain ⟨w5, hw5, L1, L2, L3, L4⟩ := laid1 HW.out HR.out (by omega) none 0 0
    rw [hw5]
    exact bodyPost_ret (results_block2 rfl _ _ (W.heap.size + 1) 27 #[.slice none 0 0] _ (.int .i64 2) rfl rfl L1.blk Tryd.underlying27 rfl nInfo) rfl ⟨rfl, L2⟩
  · have hd1 : decide (65536 ≤ n) = false := decide_eq_false (by omega)
    have hmul : ((l : Int) - 1) * n ≤ 31968000 * 65536 := Int.mul_le_mul (by omega) (by omega) (by omega) (by decide)
    obtain ⟨z, hz⟩ : ∃ z, z = ((l : Int) - 1) * n := ⟨_, rfl⟩
    rw [← hz] at hb2 hmul
    have hz1 : ((l : Int) - 1) * n = z := hz.symm
    clear hz
    go_enter Tryd.func34, Tryd.ntmps34
    go_wp2_with (fail)
    go_at_call 32
    refine (HBL.out _ H0.out.2).mono ?_
    rintro e w2 ⟨rfl, hb⟩
    have HA := Lib.hid (H0.out.1.1.below hb)
    have HR := Lib.hid (H0.out.1.2.below hb)
    have HW := Lib.hid (below_step hb H0.out.2)
    clear hb
    obtain ⟨hx1, hf1⟩ := HA.out.cell
    go_wp2_with (fail)
    go_at_call 32
    refine (HBL.out _ HW.out).mono ?_
    rintro e w3 ⟨rfl, hb⟩
    have HR3 := Lib.hid (HR.out.below hb)
    have HW3 := Lib.hid (below_step hb HW.out)
    clear hb hx1 hf1
    obtain ⟨hx1, hf1⟩ := HR3.out.cell
    go_wp2
    obtain ⟨w5, hw5, L1, L2, L3, L4⟩ := laid1 HW3.out HR3.out (by omega) none 0 0
    rw [hw5]
    exact bodyPost_ret (results_block2 rfl _ _ (W.heap.size + 1) 27 #[.slice none 0 0] _ (.int .i64 2) rfl rfl L1.blk Tryd.underlying27 rfl nInfo) rfl ⟨rfl, L2⟩
end Go.Proofs.YtogjobmekjighaaDoor.bn
