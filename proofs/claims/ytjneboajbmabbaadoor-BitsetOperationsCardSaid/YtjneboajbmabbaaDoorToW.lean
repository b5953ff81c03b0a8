/-
  The set of a row of words as a sorted list: the law's own conversion.
-/
import Derived.Test.YtjneboajbmabbaaDoorRef1D
import Derived.Test.YtjneboajbmabbaaDoorBitAt
set_option linter.unusedSimpArgs false
set_option linter.unusedVariables false
namespace Go.Proofs.YtjneboajbmabbaaDoor.ref1
open Go.RowKit Go.Own Go.Rw Go.SetL Go.Bits
set_option maxHeartbeats 1000000
set_option maxRecDepth 100000

theorem to_calls {xs : List W} (hx : xs.length = 16) (w : World) :
    Calls Tryd.prog 18 #[.agg (rowW xs)] w (Gives w (elems xs)) := by
  have HX := Lib.hid hx; clear hx
  have hz : (rowW xs).size = 16 := by rw [rowW_size, HX.out]
  have HA := Lib.hid (fun (k : Nat) (h : k < 1024) => rowW_at (xs := xs) (k := k / 64) (by rw [HX.out]; omega))
  have HE := Lib.hid (show elems xs = ofN (bitAt xs) 1024 from rfl)
  rw [HE.out]
  generalize rowW xs = cs at hz HA ⊢
  have HZ := Lib.hid hz; clear hz
  go_enter Tryd.func18, Tryd.ntmps18
  go_wp2
  go_loopw [3, 4] (fun v i wr => ∃ k : Nat, k ≤ 1024 ∧ i = .int .i64 k ∧ Hid (Own wr (w.heap.size + 1) 3 v (ofN (bitAt xs) k)) ∧ Hid (Below (w.heap.size + 1) (w.alloc (.cells cs 25)) wr))
    (fun _ i _ => 1024 - (intOf i).toNat)
  case atStart => exact ⟨0, Nat.zero_le _, rfl, Lib.hid (by have := Own.made (w := w.alloc (.cells cs 25)) (B := w.heap.size + 1) 3 (by simp); rw [ofN_zero]; simpa using this), Lib.hid (by repeat (first | assumption | exact Below.refl _ _ | exact below_beyond _ _ | refine Below.beyond ?_ (by (try simp [size_beyond]) <;> omega) _ | refine Below.drew ?_ | refine Go.Rw.below_drewN ?_ _ | refine Go.Rw.below_setRow ?_ (by (try simp [size_beyond]) <;> omega) _ | refine Below.alloc ?_ (by (try simp [size_beyond]) <;> omega) _ | refine Below.setCell ?_ (by (try simp [size_beyond]) <;> omega) _))⟩
  case round =>
    obtain ⟨k, hk, rfl, HO, HB⟩ := hrel
    have hB : w.heap.size + 1 ≤ wr.heap.size := by have := HB.out.size; simpa using this
    have HL : (ofN (bitAt xs) k).length ≤ 1000000 := Nat.le_trans (ofN_len _ _) (by omega)
    by_cases hlt : k < 1024
    · have hc : wr.cell? ⟨w.heap.size, k / 64, none⟩ = some (.int .u64 (toI (xs.getD (k / 64) 0))) := by
        rw [HB.out.cell (p := ⟨w.heap.size, k / 64, none⟩) (by simp)]
        simp only [go_sem]; exact HA.out k hlt
      have ht := test_eq (xs.getD (k / 64) 0) (k % 64)
      rw [show (xs.getD (k / 64) 0).getLsbD (k % 64) = bitAt xs k from rfl] at ht
      have hu0 := toI_nonneg (xs.getD (k / 64) 0)
      have hu1 := toI_lt (xs.getD (k / 64) 0)
      generalize toI (xs.getD (k / 64) 0) = u at hc ht hu0 hu1
      cases hp : bitAt xs k
      all_goals
        rw [hp] at ht
        have HP := Lib.hid hp; clear hp
      · go_wp2
        go_roundw
        case rel => exact ⟨k + 1, by omega, by go_num, Lib.hid (by rw [ofN_no HP.out]; exact HO.out), HB⟩
        case measure => simp [intOf]; omega
      · go_wp2_with (at_builtin; refine wpList_app wr rfl _ _ _ rfl uI tI HO.out hB HL k rfl rfl ?_)
        intro v' w' hown hbel
        have HO2 := Lib.hid hown; clear hown
        have HB2 := Lib.hid (HB.out.trans hbel); clear hbel
        go_wp2
        go_roundw
        case rel => exact ⟨k + 1, by omega, by go_num, Lib.hid (by rw [ofN_yes HP.out]; exact HO2.out), HB2⟩
        case measure => simp [intOf]; omega
    · obtain rfl : k = 1024 := by omega
      go_wp2
      go_ret
      exact HO.out.gives (((Below.refl _ _).alloc (Nat.le_refl _) _).trans (HB.out.mono (by omega)))
end Go.Proofs.YtjneboajbmabbaaDoor.ref1
