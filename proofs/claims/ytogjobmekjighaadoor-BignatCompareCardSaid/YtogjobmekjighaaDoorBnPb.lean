/-
  Contracts of bignat: isDecimal, Parse's step.
-/
import Derived.Test.YtogjobmekjighaaDoorBnPa
import Derived.Test.YtogjobmekjighaaDoorBnY
set_option linter.unusedSimpArgs false
set_option linter.unusedVariables false
namespace Go.Proofs.YtogjobmekjighaaDoor.bn
open Go.RowKit Go.Own Go.Bn Go.PlainAid
set_option maxHeartbeats 4000000
set_option maxRecDepth 100000

theorem head_bt (s : ByteArray) (h : 0 < s.size) : (s.data.toList.head? = some 48) ↔ bt s 0 = 48 := by
  obtain ⟨c, h1, h2⟩ := bt_list s 0 h
  rw [List.head?_eq_getElem?, h1, h2]
  constructor
  · intro e; injection e with e; rw [e]; rfl
  · intro e; congr 1; exact UInt8.toNat_inj.1 (by show c.toNat = 48; omega)
theorem len_list (s : ByteArray) : s.data.toList.length = s.size := rfl
theorem all_bt (s : ByteArray) : s.data.toList.all isDg = true ↔ ∀ k, k < s.size → 48 ≤ bt s k ∧ bt s k ≤ 57 := by
  rw [List.all_eq_true]
  constructor
  · intro h k hk
    obtain ⟨c, h1, h2⟩ := bt_list s k hk
    have := of_decide_eq_true (h c (List.mem_of_getElem? h1))
    omega
  · intro h c hc
    obtain ⟨k, hk, e⟩ := List.mem_iff_getElem.1 hc
    obtain ⟨c', h1, h2⟩ := bt_list s k hk
    rw [List.getElem?_eq_getElem hk, e] at h1
    injection h1 with h1
    subst h1
    have := h k hk
    exact decide_eq_true (by omega)
theorem isDec_calls (s : ByteArray) (hs : s.size ≤ 100000000) (w : World) :
    Calls Tryd.prog 63 #[.string s] w fun e w' => e = .returned (.bool (isD s.data.toList)) ∧ w = w' := by
  have hb := get_bt s
  by_cases h0 : s.size = 0
  · have hn : s.toList = [] := by rw [ByteArray.toList_eq]; exact List.length_eq_zero_iff.1 h0
    have hr : isD s.data.toList = false := by rw [← ByteArray.toList_eq, hn]; rfl
    rw [hr]
    go_enter Tryd.func63, Tryd.ntmps63
    go_wp2
    go_ret
    exact ⟨rfl, rfl⟩
  · have hp : 0 < s.size := by omega
    have hn : ¬ s.toList = [] := by rw [ByteArray.toList_eq]; intro h; exact h0 (by rw [← len_list, h]; rfl)
    have hn2 : s.toList.isEmpty = false := by simpa using hn
    have HNE := Lib.hid (show s.data.toList ≠ [] by intro h; exact h0 (by rw [← len_list, h]; rfl))
    have HHD := Lib.hid (head_bt s hp)
    have hp2 : (0 : Int) < (s.size : Int) := by omega
    by_cases hz : bt s 0 = 48 ∧ 1 < s.size
    · obtain ⟨hz1, hz2⟩ := hz
      have hr : isD s.data.toList = false := by
        rw [Bool.eq_false_iff]; intro h
        exact (isD_iff.1 h).2.1 ⟨HHD.out.2 hz1, hz2⟩
      rw [hr]
      have hz3 : (bt s 0 == 48) = true := by simpa using hz1
      have hz4 : (1 : Int) < (s.size : Int) := by omega
      clear hz1
      go_enter Tryd.func63, Tryd.ntmps63
      go_wp2
      go_ret
      exact ⟨rfl, rfl⟩
    · have HZ := Lib.hid (show ¬ (s.data.toList.head? = some 48 ∧ 1 < s.data.toList.length) from fun h => hz ⟨HHD.out.1 h.1, h.2⟩)
      have HALL := Lib.hid (all_bt s)
      have hzz : (bt s 0 == 48) = false ∨ ((bt s 0 == 48) = true ∧ ¬ (1 : Int) < (s.size : Int)) := by
        by_cases h : bt s 0 = 48
        · exact .inr ⟨by simpa using h, by omega⟩
        · exact .inl (by simpa using h)
      clear hz
      rcases hzz with hzz | ⟨hzz, hzy⟩
      all_goals
        go_enter Tryd.func63, Tryd.ntmps63
        go_wp2
        go_loopg [18] s.size (fun g s18 wr => ∃ k : Nat, k + g = s.size ∧ s18 = .int .i64 k ∧ Hid (∀ j, j < k → 48 ≤ bt s j ∧ bt s j ≤ 57) ∧ w = wr)
        case atStart => exact ⟨0, by omega, rfl, Lib.hid (fun j hj => absurd hj (by omega)), rfl⟩
        case round =>
          obtain ⟨k, hkg, rfl, HK, rfl⟩ := hrel
          by_cases hlt : k < s.size
          · by_cases hd : 48 ≤ bt s k ∧ bt s k ≤ 57
            · obtain ⟨hd1, hd2⟩ := hd
              have HK2 := Lib.hid (show ∀ j, j < k + 1 → 48 ≤ bt s j ∧ bt s j ≤ 57 from fun j hj => by
                rcases Nat.lt_or_eq_of_le (Nat.le_of_lt_succ hj) with h | rfl
                · exact HK.out j h
                · exact ⟨hd1, hd2⟩)
              clear hzz
              go_wp2
              go_roundg (gk - 1)
              case measure => omega
              case rel => exact ⟨k + 1, by omega, by go_num, HK2, rfl⟩
            · have hr : isD s.data.toList = false := by
                rw [Bool.eq_false_iff]; intro h
                exact hd (HALL.out.1 (isD_iff.1 h).2.2 k hlt)
              have HR := Lib.hid hr; clear hr
              have hd' : bt s k < 48 ∨ (48 ≤ bt s k ∧ 57 < bt s k) := by omega
              clear hd hzz
              rcases hd' with hd1 | ⟨hd1, hd2⟩
              all_goals (go_wp2; go_ret; exact ⟨by rw [HR.out]; rfl, rfl⟩)
          · obtain rfl : gk = 0 := by omega
            obtain rfl : k = s.size := by omega
            have hr : isD s.data.toList = true := isD_iff.2 ⟨HNE.out, HZ.out, HALL.out.2 HK.out⟩
            have HR := Lib.hid hr; clear hr
            clear hzz
            go_wp2
            go_ret
            exact ⟨by rw [HR.out]; rfl, rfl⟩
theorem wide_calls (x y c : Nat) (hx : x < B) (hy : y < B) (hc : c ≤ 1000000000) (w : World) :
    Calls Tryd.prog 65 #[.int .u32 (x : Int), .int .u32 (y : Int), .int .u32 (c : Int)] w fun e w' => e = .returned (.tuple #[.int .u32 (((x * 1000000000 + y + c) % B : Nat) : Int), .int .u32 (((x * 1000000000 + y + c) / B : Nat) : Int)]) ∧ w' = w := by
  have hq := mad_carry hx hy hc
  have e1 : ((x : Int) * 1000000000 + (y : Int) + (c : Int)) % 4294967296 = (((x * 1000000000 + y + c) % B : Nat) : Int) := by unfold B; omega
  have e2 : ((x : Int) * 1000000000 + (y : Int) + (c : Int)) / 4294967296 = (((x * 1000000000 + y + c) / B : Nat) : Int) := by unfold B; omega
  generalize (x * 1000000000 + y + c) / B = qq at hq e2 ⊢
  have E1 := Lib.hid e1
  have E2 := Lib.hid e2
  have hx2 : (x : Int) ≤ 4294967295 := by unfold B at hx; omega
  have hy2 : (y : Int) ≤ 4294967295 := by unfold B at hy; omega
  have hc2 : (c : Int) ≤ 1000000000 := by omega
  have hz : ((x : Int) * 1000000000 + (y : Int) + (c : Int)) / 4294967296 ≤ 4294967295 := by rw [e2]; omega
  rw [← E1.out, ← E2.out]
  clear e1 e2 hx hy hc hq
  go_enter Tryd.func65, Tryd.ntmps65
  go_wp2
  go_ret2
  trace_state
  exact ⟨rfl, rfl⟩
end Go.Proofs.YtogjobmekjighaaDoor.bn
