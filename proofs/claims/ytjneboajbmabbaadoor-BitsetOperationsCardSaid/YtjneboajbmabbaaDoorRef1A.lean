/-
  The reference's functions on sorted lists: what each answers: membership.
-/
import Derived.Test.YtjneboajbmabbaaDoorProg
import Derived.Test.YtjneboajbmabbaaDoorRow
import Derived.Test.YtjneboajbmabbaaDoorSetMath
set_option linter.unusedSimpArgs false
set_option linter.unusedVariables false
namespace Go.Proofs.YtjneboajbmabbaaDoor.ref1
open Go.RowKit Go.Own Go.Rw Go.SetL
set_option maxHeartbeats 1000000
set_option maxRecDepth 100000

theorem has_calls {q : Option Addr} {m c : Nat} {l : List Int} {w : World} (n : Int) (hm : m = l.length) (hb : m ≤ 1000000) (h : Reads w q l) :
    Calls Tryd.prog 22 #[.slice q m c, .int .i64 n] w fun e w' => e = .returned (.bool (l.contains n)) ∧ w = w' := by
  have HR := Lib.hid h; clear h
  have HM := Lib.hid hm; clear hm
  go_enter Tryd.func22, Tryd.ntmps22
  go_wp2
  go_loop [5] (fun i => ∃ k : Nat, k ≤ m ∧ i = .int .i64 k ∧ Hid (n ∉ l.take k)) (fun i => m - (intOf i).toNat)
  case atStart => exact ⟨0, Nat.zero_le _, rfl, Lib.hid (by simp)⟩
  case round =>
    obtain ⟨k, hk, rfl, HN⟩ := hrel
    by_cases hlt : k < m
    · obtain ⟨b, off, x, rfl, hx, hbw, hc⟩ := HR.out.at (k := k) (by rw [← HM.out]; exact hlt)
      have HX := Lib.hid hx; clear hx
      by_cases hxn : x = n
      · go_wp2
        go_ret
        refine ⟨ret_bool ?_, rfl⟩
        subst hxn
        have := List.mem_of_getElem? HX.out
        simpa using this
      · go_wp2
        go_round
        case rel => exact ⟨k + 1, by omega, by go_num, Lib.hid (by rw [List.take_add_one, HX.out]; have := HN.out; simp; exact ⟨this, fun h => hxn h.symm⟩)⟩
        case measure => simp [intOf]; omega
    · obtain rfl : k = m := by omega
      go_wp2
      go_ret
      refine ⟨ret_bool ?_, rfl⟩
      have := HN.out
      rw [List.take_of_length_le (by rw [← HM.out]; exact Nat.le_refl _)] at this
      simpa using this
end Go.Proofs.YtjneboajbmabbaaDoor.ref1
