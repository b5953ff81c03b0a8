/-
  Contracts of bignat: Pow, the loop.
-/
import Derived.Test.YtogjobmekjighaaDoorBnPd
set_option linter.unusedSimpArgs false
set_option linter.unusedVariables false
namespace Go.Proofs.YtogjobmekjighaaDoor.bn
open Go.RowKit Go.Own Go.Bn Go.PlainAid
set_option maxHeartbeats 4000000
set_option maxRecDepth 100000

/-- a power that is not too long -/
structure PowOk (a n : Nat) : Prop where
  two : 2 ≤ nb a
  pos : 0 < n
  fit : (nb a - 1) * n < 65536
theorem PowOk.lt {a n : Nat} (h : PowOk a n) {j M : Nat} (hj : j ≤ n) (hM : 4096 ≤ M) : a ^ j < B ^ M := by
  have h1 : a < 2 ^ nb a := nb_le.1 (Nat.le_refl _)
  have h2 : a ^ j ≤ (2 ^ nb a) ^ j := Nat.pow_le_pow_left (Nat.le_of_lt h1) j
  have h3 : nb a * n ≤ 131070 := by
    have h4 : nb a * n ≤ (2 * (nb a - 1)) * n := Nat.mul_le_mul_right _ (by have := h.two; omega)
    rw [Nat.mul_assoc] at h4
    have := h.fit
    omega
  have h5 : nb a * j ≤ nb a * n := Nat.mul_le_mul_left _ hj
  rw [← Nat.pow_mul] at h2
  rw [B_pow]
  exact Nat.lt_of_le_of_lt h2 (Nat.pow_lt_pow_right (by decide) (by omega))
theorem pow_half (a n j : Nat) : a ^ (n / 2 ^ j) = a ^ (n / 2 ^ (j + 1)) * a ^ (n / 2 ^ (j + 1)) * a ^ (n / 2 ^ j % 2) := by
  rw [← Nat.pow_add, ← Nat.pow_add]
  congr 1
  rw [Nat.pow_succ, ← Nat.div_div_eq_div_mul]
  omega
structure PowL (W : World) (a n : Nat) (k : Nat) (q : Option Addr) (m c : Nat) (qa : Option Addr) (ma ca g : Nat) (w : World) : Prop where
  below : Below W.heap.size W w
  res : NB (W.heap.size + 1) (.slice none 0 0) w
  arg : NB W.heap.size (.slice qa ma ca) w
  box : NB g (.slice q m c) w
  new : W.heap.size + 1 < g
  num : NatAt (.agg #[.slice q m c]) (a ^ (n / 2 ^ k)) w
  argN : NatAt (.agg #[.slice qa ma ca]) a w
theorem pow_go {v : Value} {a : Nat} {W : World} (h : NatAt v a W) (n : Nat) (hn : n < 65536) (hp : PowOk a n) : Calls Tryd.prog 34 #[v, .int .i64 (n : Int)] W (ParseR W (a ^ n)) := by
  have HBL := Lib.hid (fun w (hb : Below W.heap.size W w) => BitLen_calls (h.below hb))
  have hmx := nb_max h
  have HN := Lib.hid h
  have HPO := Lib.hid hp
  obtain ⟨qa, ma, ca, rfl⟩ := h.shape
  have hd : decide ((nb a : Int) < 2) = false := decide_eq_false (by have := hp.two; omega)
  have hfit : ((nb a : Int) - 1) * (n : Int) < 65536 ∧ 0 ≤ ((nb a : Int) - 1) * (n : Int) := by
    have h1 := hp.fit
    have h2 := hp.two
    obtain ⟨j, hj⟩ : ∃ j, nb a = j + 1 := ⟨nb a - 1, by omega⟩
    rw [hj] at h1 ⊢
    simp only [Nat.add_sub_cancel] at h1
    have e : (((j + 1 : Nat) : Int) - 1) * (n : Int) = ((j * n : Nat) : Int) := by simp
    rw [e]; omega
  have hpos := hp.pos
  clear h hp
  generalize nb a = l at *
  obtain ⟨z, hz⟩ : ∃ z, z = ((l : Int) - 1) * (n : Int) := ⟨_, rfl⟩
  rw [← hz] at hfit
  obtain ⟨hz1, hz2⟩ := hfit
  have hz3 : ((l : Int) - 1) * (n : Int) = z := hz.symm
  clear hz
  have h2 := two_blocks W (.slice qa ma ca) (.slice none 0 0)
  have hB0 : Below W.heap.size W ((W.alloc (.cells #[.slice qa ma ca] 27)).alloc (.cells #[.slice none 0 0] 27)) := (by repeat (first | assumption | exact Below.refl _ _ | exact below_beyond _ _ | refine Below.beyond ?_ (by (try simp [size_beyond]) <;> omega) _ | refine Below.drew ?_ | refine Go.Rw.below_drewN ?_ _ | refine Go.Rw.below_setRow ?_ (by (try simp [size_beyond]) <;> omega) _ | refine Below.alloc ?_ (by (try simp [size_beyond]) <;> omega) _ | refine Below.setCell ?_ (by (try simp [size_beyond]) <;> omega) _))
  have H0 := Lib.hid (And.intro h2 hB0)
  have hn1 : ((n : Int) == 0) = false := by simp; omega
  have hn2 : decide ((n : Int) < 0) = false := decide_eq_false (by omega)
  have hd1 : decide (65536 ≤ (n : Int)) = false := decide_eq_false (by omega)
  have HF := Lib.hid (fun w => from_calls 1 (by decide) w)
  have HLEN := Lib.hid (show ∀ w, Calls Tryd.prog 60 #[.int .u64 (n : Int)] w (fun e w' => e = .returned (.int .i64 (nb n : Int)) ∧ w' = w) from fun w => by
    have := Tryd.bits_Len (n : Int) w (by omega) (by omega)
    rw [Int.toNat_natCast, nb_lib (by omega)] at this
    exact this)
  clear h2 hB0
  go_enter Tryd.func34, Tryd.ntmps34
  go_wp2_with (fail)
  go_at_call 32
  refine (HBL.out _ H0.out.2).mono ?_
  rintro e w2 ⟨rfl, hb⟩
  have HA := Lib.hid (H0.out.1.1.below hb)
  have HR := Lib.hid (H0.out.1.2.below hb)
  have HW := Lib.hid (below_step hb H0.out.2)
  clear hb
  obtain ⟨hx1, hf1⟩ := HA.out.cell
  go_wp2_with (fail)
  go_at_call 32
  refine (HBL.out _ HW.out).mono ?_
  rintro e w3 ⟨rfl, hb⟩
  have HA3 := Lib.hid (HA.out.below hb)
  have HR3 := Lib.hid (HR.out.below hb)
  have HW3 := Lib.hid (below_step hb HW.out)
  clear hb hx1 hf1 HA HR HW
  go_wp2_with (fail)
  go_at_call 42
  refine (HF.out _).mono ?_
  rintro e w4 ⟨v, rfl, hv, hb⟩
  obtain ⟨q, m, c, rfl⟩ := hv.shape
  have hba : Below w4.heap.size w4 (w4.alloc (.cells #[.slice q m c] 27)) := (by repeat (first | assumption | exact Below.refl _ _ | exact below_beyond _ _ | refine Below.beyond ?_ (by (try simp [size_beyond]) <;> omega) _ | refine Below.drew ?_ | refine Go.Rw.below_drewN ?_ _ | refine Go.Rw.below_setRow ?_ (by (try simp [size_beyond]) <;> omega) _ | refine Below.alloc ?_ (by (try simp [size_beyond]) <;> omega) _ | refine Below.setCell ?_ (by (try simp [size_beyond]) <;> omega) _))
  have HI := Lib.hid (show PowL W a n (nb n) q m c qa ma ca w4.heap.size (w4.alloc (.cells #[.slice q m c] 27)) from ⟨below_step hba (below_step hb HW3.out), (HR3.out.below hb).below hba, (HA3.out.below hb).below hba, NB.new _ _, (HR3.out.below hb).lt, by rw [Nat.div_eq_of_lt (nb_le.1 (Nat.le_refl _)), Nat.pow_zero]; exact hv.below hba, ((HN.out.below HW3.out).below hb).below hba⟩)
  clear hb hv hba HA3 HR3 HW3
  go_wp2_with (fail)
  generalize hL : nb n = L at *
  have HL := Lib.hid hL; clear hL
  go_at_call 60
  refine (HLEN.out _).mono ?_
  rintro e w5 ⟨rfl, rfl⟩
  generalize w4.alloc (.cells #[.slice q m c] 27) = w5 at *
  generalize w4.heap.size = g at *
  have hL16 : L ≤ 16 := by rw [← HL.out]; exact nb_le.2 hn
  go_wp2
  go_loopg [7] L (fun k s7 wr => ∃ (q : Option Addr) (m c : Nat), k ≤ L ∧ s7 = .int .i64 ((k : Int) - 1) ∧ Hid (PowL W a n k q m c qa ma ca g wr))
  case atStart => exact ⟨q, m, c, Nat.le_refl _, rfl, HI⟩
  case round =>
    clear HI
    obtain ⟨q, m, c, hkL, rfl, HS⟩ := hrel
    by_cases hk : 0 < gk
    · obtain ⟨j, rfl⟩ : ∃ j, gk = j + 1 := ⟨gk - 1, by omega⟩
      have ej : ((j + 1 : Nat) : Int) - 1 = (j : Int) := by omega
      rw [ej]
      have hle1 : n / 2 ^ (j + 1) + n / 2 ^ (j + 1) ≤ n := by
        have h1 := Nat.div_mul_le_self n (2 ^ (j + 1))
        have h2 : n / 2 ^ (j + 1) * 2 ≤ n / 2 ^ (j + 1) * 2 ^ (j + 1) := Nat.mul_le_mul_left _ (by rw [Nat.pow_succ]; have := Nat.pow_pos (n := j) (show 0 < 2 by decide); omega)
        omega
      obtain ⟨E, hE⟩ : ∃ E, 4096 ≤ E ∧ E + E ≤ 999000 := ⟨4096, by decide, by decide⟩
      have HM1 := Lib.hid (fun (w : World) (v : Value) (hv : NatAt v (a ^ (n / 2 ^ (j + 1))) w) => Mul_calls hv hv E E (HPO.out.lt (by omega) hE.1) (HPO.out.lt (by omega) hE.1) hE.2)
      have HM2 := Lib.hid (fun (w : World) (v v2 : Value) (hv : NatAt v (a ^ (n / 2 ^ (j + 1)) * a ^ (n / 2 ^ (j + 1))) w) (hv2 : NatAt v2 a w) => Mul_calls hv hv2 E E (by rw [← Nat.pow_add]; exact HPO.out.lt hle1 hE.1) (by have := HPO.out.lt (j := 1) HPO.out.pos hE.1; rw [Nat.pow_one] at this; exact this) hE.2)
      have HH := Lib.hid (pow_half a n j)
      clear hle1 hE
      have HB := Lib.hid HS.out.box
      obtain ⟨hx1, hf1⟩ := HB.out.cell
      have hgn := HS.out.new
      go_wp2_with (fail)
      go_at_call 24
      refine (HM1.out _ _ HS.out.num).mono ?_
      rintro e w6 ⟨v, rfl, hv, hb⟩
      obtain ⟨q6, m6, c6, rfl⟩ := hv.shape
      have HB6 := Lib.hid (HB.out.below hb)
      have HV6 := Lib.hid hv
      have HR6 := Lib.hid (HS.out.res.below hb)
      have HA6 := Lib.hid (HS.out.arg.below hb)
      have HN6 := Lib.hid (HS.out.argN.below hb)
      have HW6 := Lib.hid (below_step hb HS.out.below)
      clear hb hv hx1 hf1 HB HS
      obtain ⟨hx1, hf1⟩ := HB6.out.cell
      go_upto_region 14 with (fail)
      obtain ⟨w7, hw7, L1, L2, L3, L4⟩ := laid1 HW6.out HB6.out (by omega) q6 m6 c6
      rw [hw7]
      have HB7 := Lib.hid L1
      have HW7 := Lib.hid L2
      have HV7 := Lib.hid (L3 _ _ HV6.out)
      have HN7 := Lib.hid (L3 _ _ HN6.out)
      have HR7 := Lib.hid (HR6.out.kept L4 (by omega))
      have HA7 := Lib.hid (HA6.out.kept L4 (by omega))
      clear hw7 L1 L2 L3 L4 hx1 hf1 HB6 HW6 HV6 HN6 HR6 HA6
      have HBT := Lib.hid (show bits BinOp.and IntKind.i64 ((n : Int) / 2 ^ j) 1 = ((n / 2 ^ j % 2 : Nat) : Int) from by
        have e : ((n : Int) / 2 ^ j) = ((n / 2 ^ j : Nat) : Int) := by simp
        have hle := Nat.div_le_self n (2 ^ j)
        rw [e, show (1 : Int) = 2 ^ 1 - 1 from rfl]
        generalize n / 2 ^ j = t at *
        rw [bits_mask .i64 63 (by decide) (fun n h0 h1 => by rw [IntKind.wrap_i64]; omega) 1 (by decide) (t : Int) (by omega) (by omega)]
        omega)
      obtain ⟨hx1, hf1⟩ := HB7.out.cell
      obtain ⟨hx2, hf2⟩ := HA7.out.cell
      by_cases hbit : n / 2 ^ j % 2 = 1
      · have hbt : bits BinOp.and IntKind.i64 ((n : Int) / 2 ^ j) 1 = 1 := by rw [HBT.out, hbit]; rfl
        have HE := Lib.hid (show a ^ (n / 2 ^ j) = a ^ (n / 2 ^ (j + 1)) * a ^ (n / 2 ^ (j + 1)) * a from by rw [HH.out, hbit, Nat.pow_one])
        clear hbit
        go_wp2_with (fail)
        go_at_call 24
        refine (HM2.out _ _ _ HV7.out HN7.out).mono ?_
        rintro e w8 ⟨v, rfl, hv, hb⟩
        obtain ⟨q8, m8, c8, rfl⟩ := hv.shape
        have HB8 := Lib.hid (HB7.out.below hb)
        have HV8 := Lib.hid hv
        have HR8 := Lib.hid (HR7.out.below hb)
        have HA8 := Lib.hid (HA7.out.below hb)
        have HN8 := Lib.hid (HN7.out.below hb)
        have HW8 := Lib.hid (below_step hb HW7.out)
        clear hb hv hx1 hf1 hx2 hf2 hbt
        obtain ⟨hx1, hf1⟩ := HB8.out.cell
        go_upto_region 12 with (fail)
        obtain ⟨w9, hw9, L1, L2, L3, L4⟩ := laid1 HW8.out HB8.out (by omega) q8 m8 c8
        rw [hw9]
        have HP9 := Lib.hid (show PowL W a n j q8 m8 c8 qa ma ca g w9 from ⟨L2, HR8.out.kept L4 (by omega), HA8.out.kept L4 (by omega), L1, hgn, by rw [HE.out]; exact L3 _ _ HV8.out, L3 _ _ HN8.out⟩)
        clear hw9 L1 L2 L3 L4 hx1 hf1
        go_wp2
        go_roundg j
        case measure => omega
        case rel => exact ⟨q8, m8, c8, by omega, rfl, HP9⟩
      · have hbt : bits BinOp.and IntKind.i64 ((n : Int) / 2 ^ j) 1 = 0 := by rw [HBT.out, show n / 2 ^ j % 2 = 0 by omega]; rfl
        have HE := Lib.hid (show a ^ (n / 2 ^ j) = a ^ (n / 2 ^ (j + 1)) * a ^ (n / 2 ^ (j + 1)) from by rw [HH.out, show n / 2 ^ j % 2 = 0 by omega, Nat.pow_zero, Nat.mul_one])
        have HP9 := Lib.hid (show PowL W a n j q6 m6 c6 qa ma ca g w7 from ⟨HW7.out, HR7.out, HA7.out, HB7.out, hgn, by rw [HE.out]; exact HV7.out, HN7.out⟩)
        clear hbit
        go_wp2
        go_roundg j
        case measure => omega
        case rel => exact ⟨q6, m6, c6, by omega, rfl, HP9⟩
    · obtain rfl : gk = 0 := by omega
      have HN := Lib.hid (by have := HS.out.num; rw [Nat.pow_zero, Nat.div_one] at this; exact this)
      have HB := Lib.hid HS.out.box
      have HR := Lib.hid HS.out.res
      have HW := Lib.hid HS.out.below
      have HBB := Lib.hid (BitLen_calls HN.out)
      clear HS
      generalize hnn : a ^ n = x at HBB HN
      have HX := Lib.hid hnn; clear hnn
      obtain ⟨hx1, hf1⟩ := HB.out.cell
      generalize hnb : nb x = y at HBB
      have HNB := Lib.hid hnb; clear hnb
      go_wp2_with (fail)
      go_at_call 32
      refine HBB.out.mono ?_
      rintro e w6 ⟨rfl, hb⟩
      have HB2 := Lib.hid (HB.out.below hb)
      have HR2 := Lib.hid (HR.out.below hb)
      have HN2 := Lib.hid (HN.out.below hb)
      have HW2 := Lib.hid (below_step hb HW.out)
      clear hb hx1 hf1
      obtain ⟨hx1, hf1⟩ := HB2.out.cell
      obtain ⟨hx2, hf2⟩ := HR2.out.cell
      by_cases hl : 65536 < y
      · have HQ := Lib.hid (show 65536 < nb x from by rw [HNB.out]; exact hl)
        go_wp2
        obtain ⟨w9, hw9, L1, L2, L3, L4⟩ := laid1 HW2.out HR2.out (by omega) none 0 0
        rw [hw9]
        exact bodyPost_ret (results_block2 rfl _ _ (W.heap.size + 1) 27 #[.slice none 0 0] _ (.int .i64 2) rfl rfl L1.blk Tryd.underlying27 rfl nInfo) rfl (.inr ⟨by rw [HX.out]; exact HQ.out, rfl, L2⟩)
      · have HQ := Lib.hid (show nb x ≤ 65536 from by rw [HNB.out]; omega)
        go_wp2
        obtain ⟨w9, hw9, L1, L2, L3, L4⟩ := laid1 HW2.out HR2.out (by omega) q m c
        rw [hw9]
        exact bodyPost_ret (results_block2 rfl _ _ (W.heap.size + 1) 27 #[.slice q m c] _ (.int .i64 0) rfl rfl L1.blk Tryd.underlying27 rfl nInfo) rfl (.inl ⟨_, by rw [HX.out]; exact HQ.out, rfl, by rw [HX.out]; exact L3 _ _ HN2.out, L2⟩)
end Go.Proofs.YtogjobmekjighaaDoor.bn
