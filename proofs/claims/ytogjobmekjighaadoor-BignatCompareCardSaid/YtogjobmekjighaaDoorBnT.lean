/-
  Contracts of the law's few and Of; bounds.
-/
import Derived.Test.YtogjobmekjighaaDoorBdB
set_option linter.unusedSimpArgs false
set_option linter.unusedVariables false
namespace Go.Proofs.YtogjobmekjighaaDoor.bn
open Go.RowKit Go.Own Go.Bn
open bd (U8At RefN RefR dnum Digits_calls Text_calls)
set_option maxHeartbeats 4000000
set_option maxRecDepth 100000

theorem lt_up {n k M : Nat} (h : n < B ^ k) (hk : k ≤ M) : n < B ^ M := Nat.lt_of_lt_of_le h (Nat.pow_le_pow_right (by decide) hk)
theorem add_lt {n n2 k k2 M : Nat} (h : n < B ^ k) (h2 : n2 < B ^ k2) (hk : k < M) (hk2 : k2 < M) : n + n2 < B ^ M := by
  obtain ⟨j, rfl⟩ : ∃ j, M = j + 1 := ⟨M - 1, by omega⟩
  have h3 := lt_up h (show k ≤ j by omega)
  have h4 := lt_up h2 (show k2 ≤ j by omega)
  have h5 : B ^ j * 2 ≤ B ^ (j + 1) := by rw [Nat.pow_succ]; exact Nat.mul_le_mul_left _ (by decide)
  omega
theorem mul_lt {n n2 k k2 M : Nat} (h : n < B ^ k) (h2 : n2 < B ^ k2) (hM : k + k2 ≤ M) : n * n2 < B ^ M := by
  refine lt_up (k := k + k2) ?_ hM
  rw [Nat.pow_add]
  exact Nat.mul_lt_mul'' h h2
theorem sub_lt {n n2 k : Nat} (h : n < B ^ k) : n - n2 < B ^ k := Nat.lt_of_le_of_lt (Nat.sub_le _ _) h
/-- a slice of slices, by their lengths -/
structure SsAt (q : Option Addr) (m c : Nat) (ls : List Nat) (w : World) : Prop where
  mk' :: (all : m = ls.length ∧ m ≤ 1000 ∧ m ≤ c ∧ c ≤ maxLen ∧ (ls = [] ∨ ∃ b off, q = some ⟨b, off, none⟩ ∧ b < w.heap.size ∧ ∀ (i x : Nat), ls[i]? = some x → ∃ q' c', w.cell? ⟨b, off + i, none⟩ = some (.slice q' x c') ∧ (x : Int) ≤ 9223372036854775807))
theorem few_calls {q : Option Addr} {m c : Nat} {ls : List Nat} {W : World} (h : SsAt q m c ls W) : Calls Tryd.prog 13 #[.slice q m c] W fun e w' => e = .returned (.bool (ls.all (· ≤ 150))) ∧ W = w' := by
  have HM := Lib.hid h.all.1
  have hm := h.all.2.1
  have HL := Lib.hid h
  clear h
  go_enter Tryd.func13, Tryd.ntmps13
  go_wp2
  go_loopg [3] m (fun g s3 wr => ∃ k : Nat, k + g = m ∧ s3 = .int .i64 (k : Int) ∧ Hid (∀ x ∈ ls.take k, x ≤ 150) ∧ W = wr)
  case atStart => exact ⟨0, by omega, rfl, Lib.hid (by simp), rfl⟩
  case round =>
    obtain ⟨k, hkg, rfl, HK, rfl⟩ := hrel
    by_cases hlt : k < m
    · rcases HL.out.all.2.2.2.2 with h | ⟨b, off, rfl, hb, hcs⟩
      · exfalso; have := HM.out; rw [h] at this; simp at this; omega
      obtain ⟨x, hx⟩ : ∃ x, ls[k]? = some x := ⟨_, List.getElem?_eq_getElem (by rw [← HM.out]; exact hlt)⟩
      obtain ⟨q3, c3, hc3, hx9⟩ := hcs k x hx
      clear hcs
      by_cases h150 : x ≤ 150
      · have HK2 := Lib.hid (show ∀ y ∈ ls.take (k + 1), y ≤ 150 from fun y hy => by
          rw [List.take_add_one, hx] at hy
          rcases List.mem_append.1 hy with h | h
          · exact HK.out y h
          · simp at h; omega)
        clear hx
        go_wp2
        go_roundg (gk - 1)
        case measure => omega
        case rel => exact ⟨k + 1, by omega, by go_num, HK2, rfl⟩
      · have HR := Lib.hid (show ls.all (· ≤ 150) = false from by
          rw [Bool.eq_false_iff]; intro h
          rw [List.all_eq_true] at h
          exact h150 (by simpa using h x (List.mem_of_getElem? hx)))
        clear hx
        go_wp2
        go_ret
        exact ⟨by rw [HR.out]; rfl, rfl⟩
    · obtain rfl : k = m := by omega
      have HR := Lib.hid (show ls.all (· ≤ 150) = true from by
        have h := HK.out
        rw [HM.out, List.take_length] at h
        rw [List.all_eq_true]
        intro x hx; simpa using h x hx)
      go_wp2
      go_ret
      exact ⟨by rw [HR.out]; rfl, rfl⟩
/-- the text of a number is a decimal form -/
theorem dec_all : ∀ (n : Nat), (Lib.decDigits n).all isDg = true := by
  intro n
  induction n using Nat.strongRecOn with
  | _ n ih =>
    by_cases h : n < 10
    · rw [dec_small h]; simp [isDg]; omega
    · rw [dec_big h, List.all_append, ih _ (by omega)]
      simp [isDg]; omega
theorem dec_dval : ∀ (n : Nat), dval (Lib.decDigits n) = n := by
  intro n
  induction n using Nat.strongRecOn with
  | _ n ih =>
    by_cases h : n < 10
    · rw [dec_small h]; simp [dval]; omega
    · rw [dec_big h, dval_append, ih _ (by omega)]
      simp [dval]; omega
theorem dec_head : ∀ (n : Nat), 0 < n → (Lib.decDigits n).head? ≠ some 48 := by
  intro n
  induction n using Nat.strongRecOn with
  | _ n ih =>
    intro hn
    by_cases h : n < 10
    · rw [dec_small h]
      simp
      intro e
      have := congrArg UInt8.toNat e
      simp at this
      omega
    · have h1 := ih (n / 10) (by omega) (by omega)
      rw [dec_big h]
      obtain ⟨c, r, e⟩ : ∃ c r, Lib.decDigits (n / 10) = c :: r := by
        have := dec_pos (n / 10)
        cases hl : Lib.decDigits (n / 10) with
        | nil => rw [hl] at this; simp at this
        | cons c r => exact ⟨c, r, rfl⟩
      rw [e] at h1 ⊢
      simpa using h1
theorem dec_isD (n : Nat) : isD (Lib.decDigits n) = true := by
  refine isD_iff.2 ⟨fun h => by have := dec_pos n; rw [h] at this; simp at this, fun h => ?_, dec_all n⟩
  rcases Nat.eq_zero_or_pos n with rfl | hn
  · rw [dec_small (by decide)] at h; simp at h
  · exact dec_head n hn h.1
theorem dec_len_le {n k : Nat} (h : n < 10 ^ (k + 1)) : (Lib.decDigits n).length ≤ k + 1 := dec_len k n h
/-- Parse reads back what was written -/
theorem parse_dec (n k : Nat) (hn : n < 10 ^ (k + 1)) (hk : k < 21845) (W : World) : Calls Tryd.prog 40 #[.string ⟨(Lib.decDigits n).toArray⟩] W (ParseR W n) := by
  have h1 := parse_yes ⟨(Lib.decDigits n).toArray⟩ (by have := dec_len_le hn; show (Lib.decDigits n).length ≤ _; omega) (dec_isD n) W
  have h2 : dval (ByteArray.mk (Lib.decDigits n).toArray).data.toList = n := dec_dval n
  rw [h2] at h1
  exact h1
theorem dnum_lt : ∀ (xs : List Nat), dnum xs < 10 ^ xs.length
  | [] => by simp [dnum]
  | x :: r => by
    rw [bd.dnum_cons, List.length_cons, Nat.pow_succ, Nat.mul_comm (10 ^ r.length) 10]
    have h1 := dnum_lt r
    have h2 : x % 10 * 10 ^ r.length ≤ 9 * 10 ^ r.length := Nat.mul_le_mul_right _ (by omega)
    omega
theorem dnum_B (xs : List Nat) (M : Nat) (h : xs.length ≤ 9 * M) : dnum xs < B ^ M := by
  refine Nat.lt_of_lt_of_le (dnum_lt xs) (Nat.le_trans (Nat.pow_le_pow_right (by decide) h) ?_)
  rw [Nat.pow_mul]
  exact Nat.pow_le_pow_left (by decide) M
theorem nb_small {n k K : Nat} (h : n < 10 ^ k) (hk : 4 * k ≤ K) : nb n ≤ K := by
  refine nb_le.2 (Nat.lt_of_lt_of_le h (Nat.le_trans (Nat.pow_le_pow_left (show 10 ≤ 2 ^ 4 by decide) k) ?_))
  rw [← Nat.pow_mul]
  exact Nat.pow_le_pow_right (by decide) (by omega)
theorem Of_calls {q : Option Addr} {m c : Nat} {xs : List Nat} {W : World} (h : U8At q m c xs W) (hm : m ≤ 1000) : Calls Tryd.prog 14 #[.slice q m c] W (RetN W (dnum xs)) := by
  have HM := Lib.hid h.all.1
  have HD := Lib.hid (fun w (hb : Below W.heap.size W w) => Digits_calls (h.below hb))
  obtain ⟨d, hd⟩ : ∃ d, d = 1000 := ⟨_, rfl⟩
  have hlt : dnum xs < 10 ^ (d + 1) := Nat.lt_of_lt_of_le (dnum_lt xs) (Nat.pow_le_pow_right (by decide) (by rw [← HM.out]; omega))
  have HP := Lib.hid (fun w => parse_dec (dnum xs) d hlt (by omega) w)
  have HNB := Lib.hid (nb_small (K := 65536) hlt (by omega))
  clear h hlt hd
  generalize dnum xs = n at *
  generalize htx : (ByteArray.mk (Lib.decDigits n).toArray) = tx at HP
  have HTX := Lib.hid htx; clear htx
  go_enter Tryd.func14, Tryd.ntmps14
  have hB0 : Below W.heap.size W (W.alloc (.cells #[.slice none 0 0] 27)) := (by repeat (first | assumption | exact Below.refl _ _ | exact below_beyond _ _ | refine Below.beyond ?_ (by (try simp [size_beyond]) <;> omega) _ | refine Below.drew ?_ | refine Go.Rw.below_drewN ?_ _ | refine Go.Rw.below_setRow ?_ (by (try simp [size_beyond]) <;> omega) _ | refine Below.alloc ?_ (by (try simp [size_beyond]) <;> omega) _ | refine Below.setCell ?_ (by (try simp [size_beyond]) <;> omega) _))
  have H0 := Lib.hid (And.intro (NB.new W (.slice none 0 0)) hB0)
  clear hB0
  go_wp2_with (fail)
  go_at_call 15
  refine (HD.out _ H0.out.2).mono ?_
  rintro e w2 ⟨q2, m2, c2, rfl, hn, hb⟩
  have HR2 := Lib.hid (H0.out.1.below hb)
  have HW2 := Lib.hid (below_step hb H0.out.2)
  have HT := Lib.hid (by have := Text_calls hn; rw [HTX.out] at this; exact this)
  clear hn hb
  go_wp2_with (fail)
  go_at_call 19
  refine HT.out.mono ?_
  rintro e w3 ⟨rfl, hb⟩
  have HR3 := Lib.hid (HR2.out.below hb)
  have HW3 := Lib.hid (below_step hb HW2.out)
  clear hb
  go_wp2_with (fail)
  go_at_call 40
  refine (HP.out _).mono ?_
  rintro e w4 (⟨v, -, rfl, hv, hb⟩ | ⟨hbig, -⟩)
  case inr => exact absurd HNB.out (by omega)
  obtain ⟨q5, m5, c5, rfl⟩ := hv.shape
  have hba : Below w4.heap.size w4 (w4.alloc (.cells #[.slice q5 m5 c5] 27)) := (by repeat (first | assumption | exact Below.refl _ _ | exact below_beyond _ _ | refine Below.beyond ?_ (by (try simp [size_beyond]) <;> omega) _ | refine Below.drew ?_ | refine Go.Rw.below_drewN ?_ _ | refine Go.Rw.below_setRow ?_ (by (try simp [size_beyond]) <;> omega) _ | refine Below.alloc ?_ (by (try simp [size_beyond]) <;> omega) _ | refine Below.setCell ?_ (by (try simp [size_beyond]) <;> omega) _))
  have HR4 := Lib.hid ((HR3.out.below hb).below hba)
  have HW4 := Lib.hid (below_step hba (below_step hb HW3.out))
  have HV4 := Lib.hid (hv.below hba)
  have HX4 := Lib.hid (NB.new w4 (.slice q5 m5 c5))
  clear hb hv hba
  go_upto_region 2 with (fail)
  generalize w4.alloc (.cells #[.slice q5 m5 c5] 27) = w5 at *
  generalize w4.heap.size = g at *
  obtain ⟨hx1, hf1⟩ := HR4.out.cell
  obtain ⟨hx2, hf2⟩ := HX4.out.cell
  go_wp2
  obtain ⟨w9, hw9, L1, L2, L3, L4⟩ := laid1 HW4.out HR4.out (Nat.le_refl _) q5 m5 c5
  rw [hw9]
  exact bodyPost_ret (results_block rfl _ _ W.heap.size 27 #[.slice q5 m5 c5] _ rfl L1.blk Tryd.underlying27 rfl nInfo) rfl ⟨_, rfl, L3 _ _ HV4.out, L2⟩
end Go.Proofs.YtogjobmekjighaaDoor.bn
