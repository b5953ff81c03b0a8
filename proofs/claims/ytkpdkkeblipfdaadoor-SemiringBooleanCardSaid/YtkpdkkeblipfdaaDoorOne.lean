/-
  The number 1 and its decimal text.
-/
import Derived.Test.YtkpdkkeblipfdaaDoorNat
import Derived.LoopN
import Derived.Test.YtkpdkkeblipfdaaDoorMake
import Derived.Lib.EndianBits
set_option linter.unusedSimpArgs false
set_option linter.unusedVariables false
namespace Go.Proofs.YtkpdkkeblipfdaaDoor.nat
open Go.RowKit Go.Own
set_option maxHeartbeats 400000
set_option maxRecDepth 100000

theorem val_ge (D : Nat → Nat) (k : Nat) (h : D k ≠ 0) : 2 ^ (32 * k) ≤ val D (k + 1) := by
  have p : 2 ^ (32 * k) ≤ D k * 2 ^ (32 * k) := Nat.le_mul_of_pos_left _ (by omega)
  exact Nat.le_trans p (Nat.le_add_left _ _)

/-- a row with the one digit 1 -/
theorem isNat_one {w : World} {v : Value} (h : isNat w v 1) : ∃ b off c, v = .agg #[.slice (some ⟨b, off, none⟩) 1 c] ∧ 1 ≤ c ∧ c ≤ maxLen ∧ b < w.heap.size ∧ w.cell? ⟨b, off, none⟩ = some (.int .u32 1) := by
  obtain ⟨q, k, c, D, rfl, ⟨b, off, h1, h2, h3, h4⟩, ht, hn⟩ := h
  rcases k with _ | k
  · simp [val] at hn
  · have hk := ht (by omega)
    simp only [Nat.add_sub_cancel] at hk
    have hg := val_ge D k hk
    have hk0 : k = 0 := by
      rcases k with _ | k
      · rfl
      · exfalso
        have e : 2 ^ 32 ≤ 2 ^ (32 * (k + 1)) := Nat.pow_le_pow_right (by omega) (by omega)
        have e2 : (2 : Nat) ^ 32 = 4294967296 := by decide
        omega
    subst hk0
    have hd : D 0 = 1 := by simp [val] at hn; omega
    obtain ⟨rfl, hb⟩ := h3 (by omega)
    have := (h4 0 (by omega)).1
    rw [hd] at this
    exact ⟨b, off, c, rfl, h1, h2, hb, by simpa using this⟩

theorem or_swap (a b : Int) : bits .or .u64 a b = bits .or .u64 b a := by
  show IntKind.u64.wrap ((BitVec.ofInt 64 a ||| BitVec.ofInt 64 b).toNat : Nat) = IntKind.u64.wrap ((BitVec.ofInt 64 b ||| BitVec.ofInt 64 a).toNat : Nat)
  rw [BitVec.or_comm]

theorem div32_calls (hi lo y : Nat) (h1 : hi < y) (h2 : y < 4294967296) (h3 : lo < 4294967296) (w : World) :
    Calls Tryd.prog 81 #[.int .u32 hi, .int .u32 lo, .int .u32 y] w fun e w' => e = .returned (.tuple #[.int .u32 (((hi * 4294967296 + lo) / y : Nat)), .int .u32 (((hi * 4294967296 + lo) % y : Nat))]) ∧ ∃ x, w' = beyond w x := by
  have hq : (hi * 4294967296 + lo) / y < 4294967296 := Nat.div_lt_of_lt_mul (by omega)
  have hr : (hi * 4294967296 + lo) % y < y := Nat.mod_lt _ (by omega)
  have hy0 : ((y : Int) == 0) = false := by simp; omega
  have hy1 : ((y : Int) != 0) = true := by simp; omega
  have hb : decide (y ≤ hi) = false := by simp; omega
  have ho : bits BinOp.or IntKind.u64 ((hi : Int) * 4294967296) lo = ((hi * 4294967296 + lo : Nat) : Int) := by
    rw [or_swap]
    exact (u64_or32 (lo : Int) ((hi : Int) * 4294967296) (by omega) (by omega) (by omega) (by omega) (by omega)).trans (by omega)
  have HO := Lib.hid ho; clear ho
  have HY0 := Lib.hid hy0; clear hy0
  go_enter Tryd.func81, Tryd.ntmps81
  go_wp2
  rw [HO.out]
  have e0 : ((hi : Int) * 4294967296 + lo) = ((hi * 4294967296 + lo : Nat) : Int) := by omega
  have r1 : Hid (((hi : Int) * 4294967296 + lo) / y % 4294967296 = (((hi * 4294967296 + lo) / y : Nat) : Int)) := Lib.hid (by rw [e0, ← Int.natCast_ediv]; generalize (hi * 4294967296 + lo) / y = t at hq ⊢; omega)
  have r2 : Hid (((hi : Int) * 4294967296 + lo) % y % 4294967296 = (((hi * 4294967296 + lo) % y : Nat) : Int)) := Lib.hid (by rw [e0, ← Int.natCast_emod]; generalize (hi * 4294967296 + lo) % y = t at hr ⊢; omega)
  clear e0 hq hr
  have hy0 := HY0.out
  refine wp_region_beyond (by kernel_rfl) (by kernel_rfl) ?_
  repeat (go_big_quiet_step (fail))
  refine wpQuiet_nil ?_
  rintro _ ⟨x5, rfl⟩
  go_wp2
  go_ret2
  refine ⟨?_, beyond_of (by repeat (first | assumption | exact Below.refl _ _ | exact below_beyond _ _ | refine Below.beyond ?_ (by (try simp [size_beyond]) <;> omega) _ | refine Below.drew ?_ | refine Below.alloc ?_ (by (try simp [size_beyond]) <;> omega) _ | refine Below.setCell ?_ (by (try simp [size_beyond]) <;> omega) _))⟩
  have q1 := r1.out
  have q2 := r2.out
  simp only [q1, q2]
  rfl

theorem u32Info : (Tryd.prog.info? 26).map (fun i => (i.zero, i.size, i.bytes)) = some (some (.int .u32 0), 1, 4) := by kernel_rfl

theorem divSmall_one {w : World} {b off c : Nat} (hc : 1 ≤ c) (hc2 : c ≤ maxLen) (hb : b < w.heap.size) (hx : w.cell? ⟨b, off, none⟩ = some (.int .u32 1)) :
    Calls Tryd.prog 76 #[.agg #[.slice (some ⟨b, off, none⟩) 1 c], .int .u32 1000000000] w fun e w' => e = .returned (.tuple #[.agg #[.slice none 0 0], .int .u32 1]) ∧ ∃ x, w' = beyond w x := by
  have hin : inW b w = true := inW_iff.2 hb
  unfold maxLen at hc2
  obtain ⟨i0, hi, hz0, hz1, hz2⟩ := info_parts u32Info
  have Hi := Lib.hid hi; clear hi
  go_enter Tryd.func76, Tryd.ntmps76
  go_wp2_with (first | (at_make; refine wpList_make_full _ rfl _ _ 28 rfl w.heap.size 26 i0 (.int .u32 0) 1 Tryd.underlying28 Hi.out hz0 hz1 _ _ _ _ 1 rfl rfl rfl rfl (by rw [hz2]; decide) (by decide) (by simp; omega) ?_))
  intro w1 hown hgr
  obtain ⟨x1, rfl⟩ := make_is hgr hown (by simp) #[.int .u32 0] (by simp [madeCells])
  clear hown hgr
  go_wp2
  refine wp_loop_rounds 2 ?_
  simp only [Code.rounds]
  go_wp2_with (first | (go_at_call 81; refine (div32_calls 0 1 1000000000 (by omega) (by omega) (by omega) _).mono ?_; rintro e w2 ⟨rfl, x2, rfl⟩) | (go_at_call 65; refine (trimmed_calls _ 1 1 (fun _ => 0) _ ?_).mono ?_))
  · refine ⟨w.heap.size + 1 + 1, 0, by omega, by decide, fun _ => ⟨rfl, by simp [size_beyond]; omega⟩, fun i hi => ?_⟩
    obtain rfl : i = 0 := by omega
    exact ⟨by simp [go_sem], by simp⟩
  · rintro e w2 ⟨j, q', rfl, h1, h2, h3, h4, -, x3, rfl⟩
    obtain rfl : j = 0 := by
      rcases j with _ | j
      · rfl
      · exact absurd rfl (h4 (by omega))
    obtain rfl := h3 rfl
    clear h1 h2 h3 h4
    go_wp2
    refine bodyPost_ret (results_block2 rfl _ _ _ 30 _ _ _ rfl rfl (by simp [go_sem] <;> rfl) Tryd.underlying30 rfl (by kernel_rfl)) rfl ?_
    exact ⟨rfl, beyond_of (by repeat (first | assumption | exact Below.refl _ _ | exact below_beyond _ _ | refine Below.beyond ?_ (by (try simp [size_beyond]) <;> omega) _ | refine Below.drew ?_ | refine Below.alloc ?_ (by (try simp [size_beyond]) <;> omega) _ | refine Below.setCell ?_ (by (try simp [size_beyond]) <;> omega) _))⟩
end Go.Proofs.YtkpdkkeblipfdaaDoor.nat
