/-
  Contracts of bignat: PowerOfTwo.
-/
import Derived.Test.YtogjobmekjighaaDoorBnE
set_option linter.unusedSimpArgs false
set_option linter.unusedVariables false
namespace Go.Proofs.YtogjobmekjighaaDoor.bn
open Go.RowKit Go.Own Go.Bn
set_option maxHeartbeats 4000000
set_option maxRecDepth 100000

theorem pow_val (k s : Nat) : val ((List.replicate (k + 1) 0).set k (2 ^ s)) = 2 ^ (32 * k + s) := by
  have h := val_set (d := List.replicate (k + 1) 0) (j := k) (2 ^ s) (by simp)
  rw [dg_zeros, val_zeros, Nat.mul_zero, Nat.add_zero, Nat.zero_add] at h
  rw [h, Nat.pow_add, Nat.pow_mul]
  rfl
theorem pow_nrm (k s : Nat) : Nrm ((List.replicate (k + 1) 0).set k (2 ^ s)) := by
  have e : (List.replicate (k + 1) 0).set k (2 ^ s) = List.replicate k 0 ++ [2 ^ s] := by
    rw [List.replicate_succ', List.set_append]; simp
  rw [e]
  intro hne
  rw [List.getLast_append]
  simp
theorem pow_no (n : Int) (hn : n < 0 ∨ 65536 ≤ n) (W : World) :
    Calls Tryd.prog 31 #[.int .i64 n] W fun e w' => e = .returned (.tuple #[.agg #[.slice none 0 0], .int .i64 2]) ∧ Below W.heap.size W w' := by
  by_cases h0 : n < 0
  · clear hn
    go_enter Tryd.func31, Tryd.ntmps31
    go_wp2
    refine bodyPost_ret (results_block2 rfl _ _ W.heap.size 27 #[.slice none 0 0] _ (.int .i64 2) rfl rfl (by simp [go_sem]) Tryd.underlying27 rfl nInfo) rfl ?_
    exact ⟨rfl, (by repeat (first | assumption | exact Below.refl _ _ | exact below_beyond _ _ | refine Below.beyond ?_ (by (try simp [size_beyond]) <;> omega) _ | refine Below.drew ?_ | refine Go.Rw.below_drewN ?_ _ | refine Go.Rw.below_setRow ?_ (by (try simp [size_beyond]) <;> omega) _ | refine Below.alloc ?_ (by (try simp [size_beyond]) <;> omega) _ | refine Below.setCell ?_ (by (try simp [size_beyond]) <;> omega) _))⟩
  · have h1 : 65536 ≤ n := by omega
    clear hn
    go_enter Tryd.func31, Tryd.ntmps31
    go_wp2
    refine bodyPost_ret (results_block2 rfl _ _ W.heap.size 27 #[.slice none 0 0] _ (.int .i64 2) rfl rfl (by simp [go_sem]) Tryd.underlying27 rfl nInfo) rfl ?_
    exact ⟨rfl, (by repeat (first | assumption | exact Below.refl _ _ | exact below_beyond _ _ | refine Below.beyond ?_ (by (try simp [size_beyond]) <;> omega) _ | refine Below.drew ?_ | refine Go.Rw.below_drewN ?_ _ | refine Go.Rw.below_setRow ?_ (by (try simp [size_beyond]) <;> omega) _ | refine Below.alloc ?_ (by (try simp [size_beyond]) <;> omega) _ | refine Below.setCell ?_ (by (try simp [size_beyond]) <;> omega) _))⟩
theorem pow_yes (n : Nat) (hn : n < 65536) (W : World) :
    Calls Tryd.prog 31 #[.int .i64 (n : Int)] W fun e w' => ∃ v, e = .returned (.tuple #[v, .int .i64 0]) ∧ NatAt v (2 ^ n) w' ∧ Below W.heap.size W w' := by
  obtain ⟨k, s, hk, hs, rfl⟩ : ∃ k s, k < 2048 ∧ s < 32 ∧ n = 32 * k + s := ⟨n / 32, n % 32, by omega, by omega, by omega⟩
  generalize hN : (((32 * k + s : Nat)) : Int) = N
  have hq : Int.tdiv N 32 = (k : Int) := by rw [← hN, Int.tdiv_eq_ediv_of_nonneg (by omega)]; omega
  have hr : Int.tmod N 32 = (s : Int) := by rw [← hN, Int.tmod_eq_emod_of_nonneg (by omega)]; omega
  have hN0 : 0 ≤ N := by omega
  have hN1 : N < 65536 := by omega
  clear hN hn
  obtain ⟨i0, hi, hz0, hz1, hz2⟩ := info_parts uI
  have Hi := Lib.hid hi; clear hi
  go_enter Tryd.func31, Tryd.ntmps31
  go_wp2_with (first | (at_make; refine wpList_make_full _ rfl _ _ 25 rfl (W.heap.size + 1) 68 i0 (.int .u32 0) 1 uU Hi.out hz0 hz1 _ _ _ _ (k + 1) rfl rfl ?_ ?_ (by rw [hz2]; omega) (by unfold maxLen; omega) (by simp) ?_))
  all_goals first
    | omega
    | skip
  intro w1 hown hgr
  have HR0 := Lib.hid (Mrow.made hown (k + 1))
  have hlt1 : W.heap.size + 1 < w1.heap.size := HR0.out.1.lt
  have hw0 : (W.alloc (.cells #[.slice none 0 0] 27)).heap.size = W.heap.size + 1 := by show (W.heap.push _).size = _; simp
  have hbl : Below (W.heap.size + 1) (W.alloc (.cells #[.slice none 0 0] 27)) w1 := ⟨hgr.os, hgr.tape, hgr.output, hgr.size, fun k hk => hgr.block k (by rw [hw0]; exact hk) (by simp)⟩
  have hcR : w1.heap[W.heap.size]? = some (.cells #[.slice none 0 0] 27 (0, 0)) := (hbl.block _ (by omega)).trans (by
    show (W.heap.push _)[_]? = _
    rw [Array.getElem?_push, if_pos (by simp)])
  have HB0 := Lib.hid (show Below W.heap.size W w1 from (show Below W.heap.size W (W.alloc (.cells #[.slice none 0 0] 27)) from (by repeat (first | assumption | exact Below.refl _ _ | exact below_beyond _ _ | refine Below.beyond ?_ (by (try simp [size_beyond]) <;> omega) _ | refine Below.drew ?_ | refine Go.Rw.below_drewN ?_ _ | refine Go.Rw.below_setRow ?_ (by (try simp [size_beyond]) <;> omega) _ | refine Below.alloc ?_ (by (try simp [size_beyond]) <;> omega) _ | refine Below.setCell ?_ (by (try simp [size_beyond]) <;> omega) _))).trans (hbl.mono (by omega)))
  have hcd := HR0.out.1.cell (a := k) (by rw [HR0.out.2.1]; omega)
  have hfd := HR0.out.1.frozen k
  rw [dg_zeros] at hcd
  obtain ⟨hcA, hfA⟩ := cell_of_row hcR
  have hp : 2 ^ s < B := by unfold B; exact Nat.lt_of_le_of_lt (Nat.pow_le_pow_right (by decide) (show s ≤ 31 by omega)) (by decide)
  have HS := Lib.hid (HR0.out.set (i := k) (x := 2 ^ s) (by omega) (by omega) hp)
  clear hown hgr hbl hw0 hp
  have hp2 : 2 ^ s < 4294967296 := Nat.lt_of_le_of_lt (Nat.pow_le_pow_right (by decide) (show s ≤ 31 by omega)) (by decide)
  have ev : ((2 : Int) ^ s % 4294967296) = ((2 ^ s : Nat) : Int) := by
    rw [show (2 : Int) ^ s = ((2 ^ s : Nat) : Int) by simp]
    exact Int.emod_eq_of_lt (Int.natCast_nonneg _) (Int.ofNat_lt.2 hp2)
  have EV := Lib.hid ev
  clear ev hp2
  go_wp2
  rw [EV.out]
  have hg2 := (Below.heap_setCell w1 ⟨W.heap.size + 1, k, none⟩ (.int .u32 ((2 ^ s : Nat) : Int)) W.heap.size (by show W.heap.size ≠ W.heap.size + 1; omega)).trans hcR
  have hA := HS.out.1.at_ (c := k + 1) (by rw [HS.out.2.1]; omega) HS.out.2.2.1 (by rw [HS.out.2.1]; exact Nat.le_refl _) (by unfold maxLen; omega)
  rw [HS.out.2.1] at hA
  have hN : NatAt (.agg #[.slice (some ⟨W.heap.size + 1, 0, none⟩) (k + 1) (k + 1)]) (2 ^ (32 * k + s)) (w1.setCell ⟨W.heap.size + 1, k, none⟩ (.int .u32 ((2 ^ s : Nat) : Int))) := ⟨_, _, _, _, rfl, hA, pow_nrm k s, pow_val k s⟩
  have hR := RetN.laid (W := W) hN (HB0.out.setCell (show W.heap.size ≤ W.heap.size + 1 by omega) _) hg2 (fun _ h => by cases h) (Nat.le_refl _)
  rw [setCell_row hg2]
  refine bodyPost_ret (results_block2 rfl _ _ W.heap.size 27 #[.slice (some ⟨W.heap.size + 1, 0, none⟩) (k + 1) (k + 1)] _ (.int .i64 0) rfl rfl (setRow_heap _ _ _ _ _ _ hg2) Tryd.underlying27 rfl nInfo) rfl ?_
  obtain ⟨v, e, h1, h2⟩ := hR
  cases e
  exact ⟨_, rfl, h1, h2⟩
end Go.Proofs.YtogjobmekjighaaDoor.bn
