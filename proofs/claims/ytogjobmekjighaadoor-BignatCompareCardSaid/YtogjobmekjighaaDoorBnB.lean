/-
  Contracts of the small functions of bignat: digit, IsZero, trimmed, FromUint64.
-/
import Derived.Test.YtogjobmekjighaaDoorBnA
set_option linter.unusedSimpArgs false
set_option linter.unusedVariables false
namespace Go.Proofs.YtogjobmekjighaaDoor.bn
open Go.RowKit Go.Own Go.Bn
set_option maxHeartbeats 4000000
set_option maxRecDepth 100000

theorem isZero_calls {v : Value} {n : Nat} {W : World} (h : NatAt v n W) :
    Calls Tryd.prog 21 #[v] W fun e w' => e = .returned (.bool (decide (n = 0))) ∧ Below W.heap.size W w' := by
  obtain ⟨q, m, c, ds, rfl, hA, hN, hv⟩ := h.ex
  have hm : m = ds.length := hA.all.1
  have hm2 : m ≤ 999000 := hA.all.2.1
  have HD := Lib.hid (show (((m : Int) == 0) = decide (n = 0)) by
    rcases ds with _ | ⟨d, r⟩
    · simp only [List.length_nil] at hm; subst hm; rw [← hv]; rfl
    · have := val_pos hN (by simp)
      simp only [List.length_cons] at hm
      rw [decide_eq_false (by omega)]; simp; omega)
  rw [← HD.out]
  clear hA hN hv HD hm
  go_enter Tryd.func21, Tryd.ntmps21
  go_wp2
  go_ret
  exact ⟨rfl, (by repeat (first | assumption | exact Below.refl _ _ | exact below_beyond _ _ | refine Below.beyond ?_ (by (try simp [size_beyond]) <;> omega) _ | refine Below.drew ?_ | refine Go.Rw.below_drewN ?_ _ | refine Go.Rw.below_setRow ?_ (by (try simp [size_beyond]) <;> omega) _ | refine Below.alloc ?_ (by (try simp [size_beyond]) <;> omega) _ | refine Below.setCell ?_ (by (try simp [size_beyond]) <;> omega) _))⟩
theorem digit_calls {q : Option Addr} {m c : Nat} {ds : List Nat} {W : World} (h : DgAt q m c ds W) (i : Nat) (hi : (i : Int) ≤ 9223372036854775807) :
    Calls Tryd.prog 59 #[.agg #[.slice q m c], .int .i64 (i : Int)] W fun e w' => e = .returned (.int .u32 (dg ds i : Int)) ∧ Below W.heap.size W w' := by
  have hm : m = ds.length := h.all.1
  have hm2 : m ≤ 999000 := h.all.2.1
  by_cases hlt : i < m
  · obtain ⟨p, off, rfl, hpw, hcs⟩ := h.cell hlt
    have hc := hcs i hlt
    generalize dg ds i = x at hc ⊢
    clear h hcs hm
    go_enter Tryd.func59, Tryd.ntmps59
    go_wp2
    go_ret
    exact ⟨rfl, (by repeat (first | assumption | exact Below.refl _ _ | exact below_beyond _ _ | refine Below.beyond ?_ (by (try simp [size_beyond]) <;> omega) _ | refine Below.drew ?_ | refine Go.Rw.below_drewN ?_ _ | refine Go.Rw.below_setRow ?_ (by (try simp [size_beyond]) <;> omega) _ | refine Below.alloc ?_ (by (try simp [size_beyond]) <;> omega) _ | refine Below.setCell ?_ (by (try simp [size_beyond]) <;> omega) _))⟩
  · rw [dg_over (by omega)]
    clear h hm
    go_enter Tryd.func59, Tryd.ntmps59
    go_wp2
    go_ret
    exact ⟨rfl, (by repeat (first | assumption | exact Below.refl _ _ | exact below_beyond _ _ | refine Below.beyond ?_ (by (try simp [size_beyond]) <;> omega) _ | refine Below.drew ?_ | refine Go.Rw.below_drewN ?_ _ | refine Go.Rw.below_setRow ?_ (by (try simp [size_beyond]) <;> omega) _ | refine Below.alloc ?_ (by (try simp [size_beyond]) <;> omega) _ | refine Below.setCell ?_ (by (try simp [size_beyond]) <;> omega) _))⟩
theorem nInfo : (Tryd.prog.info? 27).map (·.size) = some 1 := by kernel_rfl
def nblk : Value → Option Nat
  | .agg #[.slice (some a) _ _] => some a.block
  | _ => none
/-- hands back this number, in this slice's block -/
def RetF (q : Option Addr) (W : World) (n : Nat) (e : Ending) (w' : World) : Prop := ∃ v, e = .returned v ∧ NatAt v n w' ∧ Below W.heap.size W w' ∧ ∀ b, nblk v = some b → q.map (·.block) = some b
theorem trimmed_callsF {q : Option Addr} {m c : Nat} {ds : List Nat} {W : World} (h : DgAt q m c ds W) :
    Calls Tryd.prog 52 #[.slice q m c] W (RetF q W (val ds)) := by
  have HM := Lib.hid (show m = ds.length from h.all.1)
  have hm2 : m ≤ 999000 := h.all.2.1
  have hmc : m ≤ c := h.all.2.2.1
  have hcx : c ≤ maxLen := h.all.2.2.2.1
  have HA := Lib.hid h; clear h
  go_enter Tryd.func52, Tryd.ntmps52
  go_wp2
  go_loopw [3] (fun i wr => ∃ k : Nat, k ≤ m ∧ i = .int .i64 k ∧ Hid (val (ds.take k) = val ds) ∧ wr = W.alloc (.cells #[.slice none 0 0] 27)) (fun i _ => (intOf i).toNat)
  case atStart => exact ⟨m, Nat.le_refl _, rfl, Lib.hid (by rw [HM.out, List.take_length]), rfl⟩
  case round =>
    obtain ⟨k, hk, rfl, HV, rfl⟩ := hrel
    by_cases hk0 : 0 < k
    · obtain ⟨p, off, rfl, hpw, hcs⟩ := HA.out.cell (k := k - 1) (by omega)
      have hc := hcs (k - 1) (by omega)
      clear hcs
      obtain ⟨k, rfl⟩ : ∃ j, k = j + 1 := ⟨k - 1, by omega⟩
      simp only [Nat.add_sub_cancel] at hc
      have hc2 : (W.alloc (.cells #[.slice none 0 0] 27)).cell? ⟨p, off + k, none⟩ = some (.int .u32 (dg ds k : Int)) := (Below.cell (show Below W.heap.size W (W.alloc (.cells #[.slice none 0 0] 27)) from (by repeat (first | assumption | exact Below.refl _ _ | exact below_beyond _ _ | refine Below.beyond ?_ (by (try simp [size_beyond]) <;> omega) _ | refine Below.drew ?_ | refine Go.Rw.below_drewN ?_ _ | refine Go.Rw.below_setRow ?_ (by (try simp [size_beyond]) <;> omega) _ | refine Below.alloc ?_ (by (try simp [size_beyond]) <;> omega) _ | refine Below.setCell ?_ (by (try simp [size_beyond]) <;> omega) _))) hpw).trans hc
      clear hc
      have hd : decide ((0:Int) < ((k + 1 : Nat) : Int)) = true := by simp
      have HD := Lib.hid (show dg ds k = 0 → val (ds.take k) = val ds from fun h => by rw [← HV.out, ← val_take_zero (by rw [← HM.out]; omega) (by rw [dg_some (by rw [← HM.out]; omega), h])])
      have HR := Lib.hid (show dg ds k ≠ 0 → RetF (some ⟨p, off, none⟩) W (val ds) (.returned (.agg #[.slice (some ⟨p, off, none⟩) (k + 1) (k + 1)])) (W.alloc (.cells #[.slice (some ⟨p, off, none⟩) (k + 1) (k + 1)] 27)) from fun h => by
        have hA2 := HA.out.take (k := k + 1) (c' := k + 1) hk (Nat.succ_pos _) (Nat.le_refl _) (by omega)
        have hB : Below W.heap.size W (W.alloc (.cells #[.slice (some ⟨p, off, none⟩) (k + 1) (k + 1)] 27)) := (by repeat (first | assumption | exact Below.refl _ _ | exact below_beyond _ _ | refine Below.beyond ?_ (by (try simp [size_beyond]) <;> omega) _ | refine Below.drew ?_ | refine Go.Rw.below_drewN ?_ _ | refine Go.Rw.below_setRow ?_ (by (try simp [size_beyond]) <;> omega) _ | refine Below.alloc ?_ (by (try simp [size_beyond]) <;> omega) _ | refine Below.setCell ?_ (by (try simp [size_beyond]) <;> omega) _))
        refine ⟨_, rfl, ⟨_, _, _, _, rfl, hA2.below hB, nrm_take (by rw [← HM.out]; omega) (by rw [dg_some (by rw [← HM.out]; omega)]; simpa using h), HV.out⟩, hB, fun b h => h⟩)
      by_cases hz : dg ds k = 0
      · rw [hz] at hc2
        have HV2 := Lib.hid (HD.out hz)
        clear HD HR hz
        go_wp2
        exact ⟨⟨k, by omega, rfl, HV2, trivial⟩, by show ((k : Nat) : Int).toNat < ((k + 1 : Nat) : Int).toNat; omega⟩
      · have HRR := Lib.hid (HR.out hz)
        clear HD HR
        generalize dg ds k = x at hc2 hz
        have hxb : (((x : Nat) : Int) == 0) = false := by simp; omega
        go_wp2
        refine bodyPost_ret (results_block rfl _ _ W.heap.size 27 #[.slice (some ⟨p, off, none⟩) (k + 1) (k + 1)] _ rfl (by simp [go_sem]) Tryd.underlying27 rfl nInfo) rfl ?_
        exact HRR.out
    · obtain rfl : k = 0 := by omega
      have hd : decide ((0:Int) < ((0 : Nat) : Int)) = false := by simp
      have HR := Lib.hid (show RetF q W (val ds) (.returned (.agg #[.slice none 0 0])) (W.alloc (.cells #[.slice none 0 0] 27)) from by
        have hB : Below W.heap.size W (W.alloc (.cells #[.slice none 0 0] 27)) := (by repeat (first | assumption | exact Below.refl _ _ | exact below_beyond _ _ | refine Below.beyond ?_ (by (try simp [size_beyond]) <;> omega) _ | refine Below.drew ?_ | refine Go.Rw.below_drewN ?_ _ | refine Go.Rw.below_setRow ?_ (by (try simp [size_beyond]) <;> omega) _ | refine Below.alloc ?_ (by (try simp [size_beyond]) <;> omega) _ | refine Below.setCell ?_ (by (try simp [size_beyond]) <;> omega) _))
        exact ⟨_, rfl, ⟨_, _, _, _, rfl, dg_nil _, fun h => absurd rfl h, by rw [← HV.out]; rfl⟩, hB, fun b h => by cases h⟩)
      go_wp2
      refine bodyPost_ret (results_block rfl _ _ W.heap.size 27 #[.slice none 0 0] _ rfl (by simp [go_sem]) Tryd.underlying27 rfl nInfo) rfl ?_
      exact HR.out
theorem trimmed_calls {q : Option Addr} {m c : Nat} {ds : List Nat} {W : World} (h : DgAt q m c ds W) :
    Calls Tryd.prog 52 #[.slice q m c] W (RetN W (val ds)) := (trimmed_callsF h).mono fun _ _ ⟨v, h1, h2, h3, _⟩ => ⟨v, h1, h2, h3⟩
end Go.Proofs.YtogjobmekjighaaDoor.bn
