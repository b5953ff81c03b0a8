/-
  Contracts of bignat: Parse.
-/
import Derived.Test.YtogjobmekjighaaDoorBnPb
import Derived.Lib.SmallJoins
set_option linter.unusedSimpArgs false
set_option linter.unusedVariables false
namespace Go.Proofs.YtogjobmekjighaaDoor.bn
open Go.RowKit Go.Own Go.Bn Go.PlainAid
set_option maxHeartbeats 4000000
set_option maxRecDepth 100000

theorem stepMad (a b : List Nat) (ha : Dig a) (hb : Dig b) (N : Nat) : StepOk 65 a b N (fun k s c => c ≤ 1000000000 ∧ s + B ^ k * c = 1000000000 * valTo a k + valTo b k) := by
  intro k s c hk hc hI
  refine ⟨(dg a k * 1000000000 + dg b k + c) % B, (dg a k * 1000000000 + dg b k + c) / B, Nat.mod_lt _ (by decide), Nat.lt_of_le_of_lt (mad_carry (dg_lt ha k) (dg_lt hb k) hI.1) (by decide), ⟨mad_carry (dg_lt ha k) (dg_lt hb k) hI.1, mad_step 1000000000 a b hI.2⟩, fun w => (wide_calls _ _ _ (dg_lt ha k) (dg_lt hb k) hI.1 w).mono fun e w' h => ⟨h.1, beyond_of (h.2 ▸ Below.refl _ _)⟩⟩
theorem mad_end {a b : List Nat} {m N n c : Nat} (ha : val a < B ^ m) (hb : val b < B ^ m) (hN : m < N) (h1 : a.length ≤ N) (h2 : b.length ≤ N) (h : n + B ^ N * c = 1000000000 * valTo a N + valTo b N) : n = 1000000000 * val a + val b := by
  rw [valTo_all N h1, valTo_all N h2] at h
  have hp : B ^ m * 1000000001 ≤ B ^ N := Nat.le_trans (Nat.mul_le_mul_left _ (by decide : 1000000001 ≤ B)) (by rw [← Nat.pow_succ]; exact Nat.pow_le_pow_right (by decide) hN)
  rcases Nat.eq_zero_or_pos c with rfl | hc
  · omega
  · have : B ^ N * 1 ≤ B ^ N * c := Nat.mul_le_mul_left _ hc
    omega
theorem isMad : IsFn 65 := by unfold IsFn; kernel_rfl
/-- r * 10^9 + chunk -/
theorem mad_calls {v v2 : Value} {n n2 : Nat} {W : World} (h : NatAt v n W) (h2 : NatAt v2 n2 W) (M : Nat) (ha : n < B ^ M) (hb : n2 < B ^ M) (hM : M ≤ 900000) :
    Calls Tryd.prog 46 #[v, v2, .func (.func 65) #[] #[]] W (RetN W (1000000000 * n + n2)) := by
  obtain ⟨q, m, c, a, rfl, hA, hN, rfl, hD, hL, hm⟩ := h.digits ha
  obtain ⟨q2, m2, c2, b, rfl, hA2, hN2, rfl, hD2, hL2, hm2⟩ := h2.digits hb
  refine (combine_calls hA hA2 (by omega) (by omega) _ rfl _ ?_ (stepMad a b hD hD2 _) isMad).mono ?_
  · simp [valTo_zero, val_nil]
  · rintro e w' ⟨v, n, c, h1, h2, h3, h4, h5, h6⟩
    have h7 := mad_end (a := a) (b := b) (m := max m m2) (Nat.lt_of_lt_of_le (val_lt hD) (Nat.pow_le_pow_right (by decide) (by omega))) (Nat.lt_of_lt_of_le (val_lt hD2) (Nat.pow_le_pow_right (by decide) (by omega))) (Nat.lt_succ_self _) (by omega) (by omega) h6
    subst h7
    exact ⟨v, h1, h2, h3⟩
theorem parse_no (s : ByteArray) (hs : s.size ≤ 100000000) (h : isD s.data.toList = false) (W : World) :
    Calls Tryd.prog 40 #[.string s] W fun e w' => e = .returned (.tuple #[.agg #[.slice none 0 0], .int .i64 3]) ∧ Below W.heap.size W w' := by
  have HC := Lib.hid (fun w => by have := isDec_calls s hs w; rw [h] at this; exact this)
  clear h hs
  go_enter Tryd.func40, Tryd.ntmps40
  go_wp2_with (go_at_call 63; refine (HC.out _).mono ?_; rintro e w1 ⟨rfl, rfl⟩)
  refine bodyPost_ret (results_block2 rfl _ _ W.heap.size 27 #[.slice none 0 0] _ (.int .i64 3) rfl rfl (by simp [go_sem]) Tryd.underlying27 rfl nInfo) rfl ?_
  exact ⟨rfl, (by repeat (first | assumption | exact Below.refl _ _ | exact below_beyond _ _ | refine Below.beyond ?_ (by (try simp [size_beyond]) <;> omega) _ | refine Below.drew ?_ | refine Go.Rw.below_drewN ?_ _ | refine Go.Rw.below_setRow ?_ (by (try simp [size_beyond]) <;> omega) _ | refine Below.alloc ?_ (by (try simp [size_beyond]) <;> omega) _ | refine Below.setCell ?_ (by (try simp [size_beyond]) <;> omega) _))⟩
theorem parse_long (s : ByteArray) (hs : s.size ≤ 100000000) (h : isD s.data.toList = true) (hl : 21845 < s.size) (W : World) :
    Calls Tryd.prog 40 #[.string s] W fun e w' => e = .returned (.tuple #[.agg #[.slice none 0 0], .int .i64 2]) ∧ Below W.heap.size W w' := by
  have HC := Lib.hid (fun w => by have := isDec_calls s hs w; rw [h] at this; exact this)
  clear h
  go_enter Tryd.func40, Tryd.ntmps40
  go_wp2_with (go_at_call 63; refine (HC.out _).mono ?_; rintro e w1 ⟨rfl, rfl⟩)
  refine bodyPost_ret (results_block2 rfl _ _ W.heap.size 27 #[.slice none 0 0] _ (.int .i64 2) rfl rfl (by simp [go_sem]) Tryd.underlying27 rfl nInfo) rfl ?_
  exact ⟨rfl, (by repeat (first | assumption | exact Below.refl _ _ | exact below_beyond _ _ | refine Below.beyond ?_ (by (try simp [size_beyond]) <;> omega) _ | refine Below.drew ?_ | refine Go.Rw.below_drewN ?_ _ | refine Go.Rw.below_setRow ?_ (by (try simp [size_beyond]) <;> omega) _ | refine Below.alloc ?_ (by (try simp [size_beyond]) <;> omega) _ | refine Below.setCell ?_ (by (try simp [size_beyond]) <;> omega) _))⟩
theorem ext_list (x : ByteArray) (a b : Nat) : (x.extract a b).data.toList = (x.data.toList.drop a).take (b - a) := by
  rw [ByteArray.data_extract, Array.toList_extract, List.extract_eq_take_drop]
theorem two_blocks (W : World) (a b : Value) : NB W.heap.size a ((W.alloc (.cells #[a] 27)).alloc (.cells #[b] 27)) ∧ NB (W.heap.size + 1) b ((W.alloc (.cells #[a] 27)).alloc (.cells #[b] 27)) := ⟨⟨(two_allocs W _ _).2.1⟩, ⟨(two_allocs W _ _).2.2⟩⟩
/-- what Parse hands back -/
def ParseR (W : World) (n : Nat) (e : Ending) (w' : World) : Prop := (∃ v, nb n ≤ 65536 ∧ e = .returned (.tuple #[v, .int .i64 0]) ∧ NatAt v n w' ∧ Below W.heap.size W w') ∨ (65536 < nb n ∧ e = .returned (.tuple #[.agg #[.slice none 0 0], .int .i64 2]) ∧ Below W.heap.size W w')
/-- where the loop stands -/
structure ParL (W : World) (l : List UInt8) (x : ByteArray) (k : Nat) (q : Option Addr) (m c : Nat) (w : World) : Prop where
  below : Below W.heap.size W w
  res : NB W.heap.size (.slice none 0 0) w
  box : NB (W.heap.size + 1) (.slice q m c) w
  num : NatAt (.agg #[.slice q m c]) (dval (l.take k)) w
  rest : x.data.toList = l.drop k
  nine : k = 0 ∨ x.size % 9 = 0
theorem parse_yes (s : ByteArray) (hs : s.size ≤ 21845) (h : isD s.data.toList = true) (W : World) :
    Calls Tryd.prog 40 #[.string s] W (ParseR W (dval s.data.toList)) := by
  have HC := Lib.hid (fun w => by have := isDec_calls s (by omega) w; rw [h] at this; exact this)
  have HAL := Lib.hid (isD_iff.1 h).2.2
  clear h
  go_enter Tryd.func40, Tryd.ntmps40
  go_wp2_with (go_at_call 63; refine (HC.out _).mono ?_; rintro e w1 ⟨rfl, rfl⟩)
  have HI := Lib.hid (show ParL W s.data.toList s 0 none 0 0 ((W.alloc (.cells #[.slice none 0 0] 27)).alloc (.cells #[.slice none 0 0] 27)) from ⟨(by repeat (first | assumption | exact Below.refl _ _ | exact below_beyond _ _ | refine Below.beyond ?_ (by (try simp [size_beyond]) <;> omega) _ | refine Below.drew ?_ | refine Go.Rw.below_drewN ?_ _ | refine Go.Rw.below_setRow ?_ (by (try simp [size_beyond]) <;> omega) _ | refine Below.alloc ?_ (by (try simp [size_beyond]) <;> omega) _ | refine Below.setCell ?_ (by (try simp [size_beyond]) <;> omega) _)), (two_blocks W _ _).1, (two_blocks W _ _).2, nat_zero _, rfl, .inl rfl⟩)
  go_loopg [0] s.size (fun g s0 wr => ∃ (x : ByteArray) (k : Nat) (q : Option Addr) (m c : Nat), s0 = .string x ∧ x.size = g ∧ Hid (k + g = s.size ∧ ParL W s.data.toList x k q m c wr))
  case atStart => exact ⟨s, 0, none, 0, 0, rfl, rfl, Lib.hid ⟨by omega, HI.out⟩⟩
  case round =>
    clear HI
    obtain ⟨x, k, q, m, c, rfl, rfl, HS⟩ := hrel
    have hxs : x.size ≤ 21845 := by have := HS.out.1; omega
    by_cases h0 : 0 < x.size
    · obtain ⟨n, hn⟩ : ∃ n, n = (x.size - 1) % 9 + 1 := ⟨_, rfl⟩
      have hn9 : n ≤ 9 := by omega
      have hnx : n ≤ x.size := by omega
      have hn0 : 0 < n := by omega
      have hT : ((x.size : Int) - 1) % 9 + 1 = (n : Int) := by omega
      have hpx : (0 : Int) < (x.size : Int) := by omega
      have HN9 := Lib.hid (show k = 0 ∨ n = 9 from by rcases HS.out.2.nine with h | h; exact .inl h; right; omega)
      have HM9 := Lib.hid (show (x.size - n) % 9 = 0 from by omega)
      clear hn
      have hx1 : (x.extract 0 n).data.toList = (s.data.toList.drop k).take n := by rw [ext_list, HS.out.2.rest, List.drop_zero, Nat.sub_zero]
      have hsl : s.data.toList.length = s.size := rfl
      have hk1 := HS.out.1
      have hl1 : ((s.data.toList.drop k).take n).length = n := by rw [List.length_take, List.length_drop, hsl]; omega
      have hp32 := parse32 (l := (s.data.toList.drop k).take n) (all_take (all_drop HAL.out k) n) (by intro h; rw [h] at hl1; simp at hl1; omega) (by omega)
      have hdc := dval_chunk (l := s.data.toList) (k := k) (n := n) HN9.out (by rw [hsl]; omega)
      have hd9 := dval_lt (all_take (all_drop HAL.out k) n)
      rw [hl1] at hd9
      have hd10 : 10 ^ n ≤ 10 ^ 9 := Nat.pow_le_pow_right (by decide) hn9
      have HX2 := Lib.hid (show (x.extract n x.size).data.toList = s.data.toList.drop (k + n) ∧ (x.extract n x.size).size = x.size - n from by
        have e : (x.extract n x.size).data.toList = s.data.toList.drop (k + n) := by
          rw [ext_list, HS.out.2.rest, List.drop_drop, List.take_of_length_le]
          rw [List.length_drop, hsl]; omega
        refine ⟨e, ?_⟩
        rw [← len_list, e, List.length_drop, hsl]; omega)
      have HPU := Lib.hid (fun w => Tryd.strconv_ParseUint_10_at32_ok (x.extract 0 n) (by rw [← len_list, hx1, hl1]; omega) (dval ((s.data.toList.drop k).take n)) (by rw [hx1]; exact hp32) w)
      have hy : dval ((s.data.toList.drop k).take n) < 1000000000 := by omega
      have HDC := Lib.hid hdc
      obtain ⟨E, hE⟩ : ∃ E, 21845 ≤ E ∧ E ≤ 900000 := ⟨21845, by decide, by decide⟩
      have HLT := Lib.hid (show dval (s.data.toList.take k) < B ^ E from by
        have h1 := dval_lt (all_take HAL.out k)
        rw [List.length_take, hsl] at h1
        refine Nat.lt_of_lt_of_le h1 (Nat.le_trans (Nat.pow_le_pow_left (show 10 ≤ B by decide) _) (Nat.pow_le_pow_right (by decide) (by omega))))
      clear hx1 hsl hk1 hl1 hp32 hdc hd9 hd10
      generalize dval ((s.data.toList.drop k).take n) = y at HPU hy HDC
      have HF := Lib.hid (fun w => from_calls y (by omega) w)
      have HB := Lib.hid HS.out.2.box
      go_wp2_with (fail)
      go_at_call 64
      refine (HPU.out _).mono ?_
      rintro e w2 ⟨rfl, hw2⟩
      have hb2 : Below wr.heap.size wr w2 := by
        rcases hw2 with rfl | rfl
        · exact Below.refl _ _
        · exact Go.Joins.below_bytesWorld _ _ _ _ (Nat.le_refl _)
      have HB2 := Lib.hid (HB.out.below hb2)
      have HR2 := Lib.hid (HS.out.2.res.below hb2)
      have HN2 := Lib.hid (HS.out.2.num.below hb2)
      have HW2 := Lib.hid (below_step hb2 HS.out.2.below)
      clear hb2 hw2 HB
      go_wp2_with (fail)
      obtain ⟨hx4, hf4⟩ := HB2.out.cell
      have hb0 : Below w2.heap.size w2 w2.drew := (by repeat (first | assumption | exact Below.refl _ _ | exact below_beyond _ _ | refine Below.beyond ?_ (by (try simp [size_beyond]) <;> omega) _ | refine Below.drew ?_ | refine Go.Rw.below_drewN ?_ _ | refine Go.Rw.below_setRow ?_ (by (try simp [size_beyond]) <;> omega) _ | refine Below.alloc ?_ (by (try simp [size_beyond]) <;> omega) _ | refine Below.setCell ?_ (by (try simp [size_beyond]) <;> omega) _))
      go_region_with (first
        | (go_at_call 42
           refine (HF.out _).mono ?_
           rintro e w3 ⟨v, rfl, hv, hb⟩
           obtain ⟨q3, m3, c3, rfl⟩ := hv.shape
           have hb3 := below_step hb hb0
           have HB3 := Lib.hid (HB2.out.below hb3)
           obtain ⟨hx5, hf5⟩ := HB3.out.cell
           have HM := Lib.hid (mad_calls (HN2.out.below hb3) hv E HLT.out (Nat.lt_of_lt_of_le (Nat.lt_trans hy (show 1000000000 < B ^ 1 by decide)) (Nat.pow_le_pow_right (by decide) (by omega))) hE.2)
           have HB3B := Lib.hid hb3
           clear hv hb hb3)
        | (go_at_call 46
           refine HM.out.mono ?_
           rintro e w4 ⟨v, rfl, hv, hb⟩
           obtain ⟨q4, m4, c4, rfl⟩ := hv.shape
           have HB4 := Lib.hid (HB3.out.below hb)
           obtain ⟨hx6, hf6⟩ := HB4.out.cell
           have H4 := Lib.hid (And.intro hv (below_step hb HB3B.out))
           clear hv hb))
      all_goals
        obtain ⟨w5, hw5, L1, L2, L3, L4⟩ := laid1 (below_step H4.out.2 HW2.out) HB4.out (by omega) q4 m4 c4
        rw [hw5]
        have HS5 := Lib.hid (show ParL W s.data.toList (x.extract n x.size) (k + n) q4 m4 c4 w5 from ⟨L2, (HR2.out.below H4.out.2).kept L4 (by omega), L1, by rw [HDC.out]; exact L3 _ _ H4.out.1, HX2.out.1, .inr (by rw [HX2.out.2]; exact HM9.out)⟩)
        clear hx4 hf4 hx5 hf5 hx6 hf6 hb0 hw5 L1 L2 L3 L4
        go_wp2
        go_roundg (x.size - n)
        case measure => omega
        case rel => exact ⟨_, k + n, q4, m4, c4, rfl, HX2.out.2, Lib.hid ⟨by have := HS.out.1; omega, HS5.out⟩⟩
    · have hk : k = s.size := by have := HS.out.1; omega
      subst hk
      have HT := Lib.hid (show s.data.toList.take s.size = s.data.toList from List.take_of_length_le (Nat.le_refl _))
      have HN := Lib.hid (by have := HS.out.2.num; rw [HT.out] at this; exact this)
      have HB := Lib.hid HS.out.2.box
      have HR := Lib.hid HS.out.2.res
      have HW := Lib.hid HS.out.2.below
      have HBL := Lib.hid (BitLen_calls HN.out)
      clear HS HT HAL HC
      generalize dval s.data.toList = n at *
      obtain ⟨hx1, hf1⟩ := HB.out.cell
      generalize hnb : nb n = l at HBL
      have HNB := Lib.hid hnb; clear hnb
      go_wp2_with (fail)
      go_at_call 32
      refine HBL.out.mono ?_
      rintro e w2 ⟨rfl, hb⟩
      have HB2 := Lib.hid (HB.out.below hb)
      have HR2 := Lib.hid (HR.out.below hb)
      have HN2 := Lib.hid (HN.out.below hb)
      have HW2 := Lib.hid (below_step hb HW.out)
      clear hb hx1 hf1
      obtain ⟨hx1, hf1⟩ := HB2.out.cell
      obtain ⟨hx2, hf2⟩ := HR2.out.cell
      by_cases hl : 65536 < l
      · have HQ := Lib.hid (show 65536 < nb n from by rw [HNB.out]; exact hl)
        go_wp2
        obtain ⟨w5, hw5, L1, L2, L3, L4⟩ := laid1 HW2.out HR2.out (Nat.le_refl _) none 0 0
        rw [hw5]
        exact bodyPost_ret (results_block2 rfl _ _ W.heap.size 27 #[.slice none 0 0] _ (.int .i64 2) rfl rfl L1.blk Tryd.underlying27 rfl nInfo) rfl (.inr ⟨HQ.out, rfl, L2⟩)
      · have HQ := Lib.hid (show nb n ≤ 65536 from by rw [HNB.out]; omega)
        go_wp2
        obtain ⟨w5, hw5, L1, L2, L3, L4⟩ := laid1 HW2.out HR2.out (Nat.le_refl _) q m c
        rw [hw5]
        exact bodyPost_ret (results_block2 rfl _ _ W.heap.size 27 #[.slice q m c] _ (.int .i64 0) rfl rfl L1.blk Tryd.underlying27 rfl nInfo) rfl (.inl ⟨_, HQ.out, rfl, L3 _ _ HN2.out, L2⟩)
end Go.Proofs.YtogjobmekjighaaDoor.bn
