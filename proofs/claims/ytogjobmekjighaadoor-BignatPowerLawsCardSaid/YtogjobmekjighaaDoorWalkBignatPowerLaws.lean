/-
  BignatPowerLaws: the walk.
-/
import Derived.Test.YtogjobmekjighaaDoorBnTd
set_option linter.unusedSimpArgs false
set_option linter.unusedVariables false
namespace Go.Proofs.YtogjobmekjighaaDoor.bn
open Go.RowKit Go.Own Go.Bn
open bd (U8At RefN RefR dnum Digits_calls Text_calls)
set_option maxHeartbeats 4000000
set_option maxRecDepth 100000
theorem powerlaws_walk {W : World} (hD : DecW W) (ht : tabB ≤ W.heap.size) {qa : Option Addr} {ma ca : Nat} {xsa : List Nat} (m n : Int) (ha : (ma : Int) ≤ 9223372036854775807) (hla : xsa.length = ma) (hua : ma ≤ 999000 → U8At qa ma ca xsa W) (hm0 : 0 ≤ m) (hm1 : m ≤ 255) (hn0 : 0 ≤ n) (hn1 : n ≤ 255) :
    Calls Tryd.prog 10 #[.slice qa ma ca, .int .u8 m, .int .u8 n] W fun e w' => e = .returned (.bool true) ∧ ∃ x, w' = beyond W x := by
  have HDW := Lib.hid (And.intro hD ht)
  clear hD ht
  by_cases hfew : ma ≤ 20
  · have hma : ma ≤ 20 := hfew
    clear hfew
    have HB0 := Lib.hid (Below.refl W.heap.size W)
    have HUa := Lib.hid (hua (by omega))
    clear hua
    obtain ⟨i, hi⟩ : ∃ i : Nat, m % 40 = (i : Int) := ⟨(m % 40).toNat, by omega⟩
    obtain ⟨k, hk⟩ : ∃ k : Nat, n % 40 = (k : Int) := ⟨(n % 40).toNat, by omega⟩
    have hi40 : i ≤ 39 := by omega
    have hk40 : k ≤ 39 := by omega
    go_enter Tryd.func10, Tryd.ntmps10
    go_wp2_with (fail)
    go_at_call 12
    refine (known_calls (HDW.out.1.below HDW.out.2 HB0.out) (Nat.le_trans HDW.out.2 HB0.out.size)).mono ?_
    rintro e w1 ⟨rfl, hb⟩
    have H2 := Lib.hid (HUa.out.below hb)
    have HB3 := Lib.hid (below_step hb HB0.out)
    clear HUa HB0
    clear hb
    have HOa := Lib.hid (Of_calls H2.out (by omega))
    go_wp2_with (fail)
    go_at_call 14
    refine (HOa.out).mono ?_
    rintro e w4 ⟨v, rfl, hv, hb⟩
    obtain ⟨q5, m6, c7, rfl⟩ := hv.shape
    have HN8 := Lib.hid hv
    clear hv
    have HL9 := Lib.hid (show dnum xsa < B ^ 3 from dnum_B xsa 3 (by omega))
    have H10 := Lib.hid (H2.out.below hb)
    have HB11 := Lib.hid (below_step hb HB3.out)
    clear H2 HB3
    clear hb
    go_wp2_with (fail)
    go_at_call 34
    refine (pow_any (HN8.out.below (show Below w4.heap.size w4 (w4.alloc (.cells #[.slice q5 m6 c7] 27)) from (by repeat (first | assumption | exact Below.refl _ _ | exact below_beyond _ _ | refine Below.beyond ?_ (by (try simp [size_beyond]) <;> omega) _ | refine Below.drew ?_ | refine Go.Rw.below_drewN ?_ _ | refine Go.Rw.below_setRow ?_ (by (try simp [size_beyond]) <;> omega) _ | refine Below.alloc ?_ (by (try simp [size_beyond]) <;> omega) _ | refine Below.setCell ?_ (by (try simp [size_beyond]) <;> omega) _)))) HL9.out _ i (by first | rfl | omega) (by omega)).mono ?_
    rintro e w12 ⟨v, rfl, hv, hb⟩
    obtain ⟨q13, m14, c15, rfl⟩ := hv.shape
    have HN16 := Lib.hid hv
    clear hv
    have HL17 := Lib.hid (show (dnum xsa ^ i) < B ^ 117 from pow_lt HL9.out (by omega) (by decide))
    have hA18 : Below w4.heap.size w4 (w4.alloc (.cells #[.slice q5 m6 c7] 27)) := (by repeat (first | assumption | exact Below.refl _ _ | exact below_beyond _ _ | refine Below.beyond ?_ (by (try simp [size_beyond]) <;> omega) _ | refine Below.drew ?_ | refine Go.Rw.below_drewN ?_ _ | refine Go.Rw.below_setRow ?_ (by (try simp [size_beyond]) <;> omega) _ | refine Below.alloc ?_ (by (try simp [size_beyond]) <;> omega) _ | refine Below.setCell ?_ (by (try simp [size_beyond]) <;> omega) _))
    have hs19 := below_step hb hA18
    have HX20 := Lib.hid ((NB.new w4 (.slice q5 m6 c7)).below hb)
    have H21 := Lib.hid (HN8.out.below hs19)
    have HB22 := Lib.hid (below_step hs19 HB11.out)
    clear HN8 HB11
    clear hs19 hA18
    clear hb
    obtain ⟨hx23, hf24⟩ := HX20.out.cell
    have hl25 := HX20.out.lt
    go_wp2_with (fail)
    go_at_call 34
    refine (pow_any (H21.out.below (show Below w12.heap.size w12 (w12.alloc (.cells #[.slice q13 m14 c15] 27)) from (by repeat (first | assumption | exact Below.refl _ _ | exact below_beyond _ _ | refine Below.beyond ?_ (by (try simp [size_beyond]) <;> omega) _ | refine Below.drew ?_ | refine Go.Rw.below_drewN ?_ _ | refine Go.Rw.below_setRow ?_ (by (try simp [size_beyond]) <;> omega) _ | refine Below.alloc ?_ (by (try simp [size_beyond]) <;> omega) _ | refine Below.setCell ?_ (by (try simp [size_beyond]) <;> omega) _)))) HL9.out _ k (by first | rfl | omega) (by omega)).mono ?_
    rintro e w26 ⟨v, rfl, hv, hb⟩
    obtain ⟨q27, m28, c29, rfl⟩ := hv.shape
    have HN30 := Lib.hid hv
    clear hv
    have HL31 := Lib.hid (show (dnum xsa ^ k) < B ^ 117 from pow_lt HL9.out (by omega) (by decide))
    have hA32 : Below w12.heap.size w12 (w12.alloc (.cells #[.slice q13 m14 c15] 27)) := (by repeat (first | assumption | exact Below.refl _ _ | exact below_beyond _ _ | refine Below.beyond ?_ (by (try simp [size_beyond]) <;> omega) _ | refine Below.drew ?_ | refine Go.Rw.below_drewN ?_ _ | refine Go.Rw.below_setRow ?_ (by (try simp [size_beyond]) <;> omega) _ | refine Below.alloc ?_ (by (try simp [size_beyond]) <;> omega) _ | refine Below.setCell ?_ (by (try simp [size_beyond]) <;> omega) _))
    have hs33 := below_step hb hA32
    have HX34 := Lib.hid ((NB.new w12 (.slice q13 m14 c15)).below hb)
    clear hx23 hf24 hl25
    have H35 := Lib.hid (H21.out.below hs33)
    have H36 := Lib.hid (HN16.out.below hs33)
    have H37 := Lib.hid (HX20.out.below hs33)
    have HB38 := Lib.hid (below_step hs33 HB22.out)
    clear H21 HN16 HX20 HB22
    clear hs33 hA32
    clear hb
    obtain ⟨hx39, hf40⟩ := H37.out.cell
    have hl41 := H37.out.lt
    obtain ⟨hx42, hf43⟩ := HX34.out.cell
    have hl44 := HX34.out.lt
    go_wp2_with (fail)
    go_at_call 34
    refine (pow_any (H35.out.below (show Below w26.heap.size w26 (w26.alloc (.cells #[.slice q27 m28 c29] 27)) from (by repeat (first | assumption | exact Below.refl _ _ | exact below_beyond _ _ | refine Below.beyond ?_ (by (try simp [size_beyond]) <;> omega) _ | refine Below.drew ?_ | refine Go.Rw.below_drewN ?_ _ | refine Go.Rw.below_setRow ?_ (by (try simp [size_beyond]) <;> omega) _ | refine Below.alloc ?_ (by (try simp [size_beyond]) <;> omega) _ | refine Below.setCell ?_ (by (try simp [size_beyond]) <;> omega) _)))) HL9.out _ (i + k) (by first | rfl | omega) (by omega)).mono ?_
    rintro e w45 ⟨v, rfl, hv, hb⟩
    obtain ⟨q46, m47, c48, rfl⟩ := hv.shape
    have HN49 := Lib.hid hv
    clear hv
    have HL50 := Lib.hid (show (dnum xsa ^ (i + k)) < B ^ 234 from pow_lt HL9.out (by omega) (by decide))
    have hA51 : Below w26.heap.size w26 (w26.alloc (.cells #[.slice q27 m28 c29] 27)) := (by repeat (first | assumption | exact Below.refl _ _ | exact below_beyond _ _ | refine Below.beyond ?_ (by (try simp [size_beyond]) <;> omega) _ | refine Below.drew ?_ | refine Go.Rw.below_drewN ?_ _ | refine Go.Rw.below_setRow ?_ (by (try simp [size_beyond]) <;> omega) _ | refine Below.alloc ?_ (by (try simp [size_beyond]) <;> omega) _ | refine Below.setCell ?_ (by (try simp [size_beyond]) <;> omega) _))
    have hs52 := below_step hb hA51
    have HX53 := Lib.hid ((NB.new w26 (.slice q27 m28 c29)).below hb)
    clear hx39 hf40 hl41 hx42 hf43 hl44
    have H54 := Lib.hid (H35.out.below hs52)
    have H55 := Lib.hid (H36.out.below hs52)
    have H56 := Lib.hid (HN30.out.below hs52)
    have H57 := Lib.hid (H37.out.below hs52)
    have H58 := Lib.hid (HX34.out.below hs52)
    have HB59 := Lib.hid (below_step hs52 HB38.out)
    clear H35 H36 HN30 H37 HX34 HB38
    clear hs52 hA51
    clear hb
    obtain ⟨hx60, hf61⟩ := H57.out.cell
    have hl62 := H57.out.lt
    obtain ⟨hx63, hf64⟩ := H58.out.cell
    have hl65 := H58.out.lt
    obtain ⟨hx66, hf67⟩ := HX53.out.cell
    have hl68 := HX53.out.lt
    go_upto_region 8 with (fail)
    have hA69 : Below w45.heap.size w45 (w45.alloc (.cells #[.slice q46 m47 c48] 27)) := (by repeat (first | assumption | exact Below.refl _ _ | exact below_beyond _ _ | refine Below.beyond ?_ (by (try simp [size_beyond]) <;> omega) _ | refine Below.drew ?_ | refine Go.Rw.below_drewN ?_ _ | refine Go.Rw.below_setRow ?_ (by (try simp [size_beyond]) <;> omega) _ | refine Below.alloc ?_ (by (try simp [size_beyond]) <;> omega) _ | refine Below.setCell ?_ (by (try simp [size_beyond]) <;> omega) _))
    have HX71 := Lib.hid (NB.new w45 (.slice q46 m47 c48))
    clear hx60 hf61 hl62 hx63 hf64 hl65 hx66 hf67 hl68
    have H72 := Lib.hid (H54.out.below hA69)
    have H73 := Lib.hid (H55.out.below hA69)
    have H74 := Lib.hid (H56.out.below hA69)
    have H75 := Lib.hid (HN49.out.below hA69)
    have H76 := Lib.hid (H57.out.below hA69)
    have H77 := Lib.hid (H58.out.below hA69)
    have H78 := Lib.hid (HX53.out.below hA69)
    have HB79 := Lib.hid (below_step hA69 HB59.out)
    clear H54 H55 H56 HN49 H57 H58 HX53 HB59
    clear hA69
    generalize (w45.alloc (.cells #[.slice q46 m47 c48] 27)) = w70 at *
    obtain ⟨hx80, hf81⟩ := H76.out.cell
    have hl82 := H76.out.lt
    obtain ⟨hx83, hf84⟩ := H77.out.cell
    have hl85 := H77.out.lt
    obtain ⟨hx86, hf87⟩ := H78.out.cell
    have hl88 := H78.out.lt
    obtain ⟨hx89, hf90⟩ := HX71.out.cell
    have hl91 := HX71.out.lt
    clear hi hk
    have HMU := Lib.hid (show (dnum xsa ^ i) * (dnum xsa ^ k) = dnum xsa ^ (i + k) from (Nat.pow_add _ _ _).symm)
    generalize dnum xsa ^ i = P at *
    generalize dnum xsa ^ k = Q at *
    generalize dnum xsa ^ (i + k) = R at *
    generalize dnum xsa = X at *
    clear hx80 hf81 hl82 hx83 hf84 hl85 hx86 hf87 hl88 hx89 hf90 hl91
    have hD92 : Below w70.heap.size w70 w70.drew := (by repeat (first | assumption | exact Below.refl _ _ | exact below_beyond _ _ | refine Below.beyond ?_ (by (try simp [size_beyond]) <;> omega) _ | refine Below.drew ?_ | refine Go.Rw.below_drewN ?_ _ | refine Go.Rw.below_setRow ?_ (by (try simp [size_beyond]) <;> omega) _ | refine Below.alloc ?_ (by (try simp [size_beyond]) <;> omega) _ | refine Below.setCell ?_ (by (try simp [size_beyond]) <;> omega) _))
    refine wp_region_treeK (Below w70.heap.size w70) (.one [0, 1, 2, 3, 4, 5, 6, 7, 8, 9, 10, 11, 12, 14] 13 (.one [] 15 (.last [16, 17]))) (by kernel_rfl) (by kernel_rfl) (by intro _ _ d _ _ h; cases d <;> exact h) hD92 ?_
    intro OPS94 hOPS94
    generalize w70.drew = w93 at *
    have H95 := Lib.hid (H72.out.below hD92)
    have H96 := Lib.hid (H73.out.below hD92)
    have H97 := Lib.hid (H74.out.below hD92)
    have H98 := Lib.hid (H75.out.below hD92)
    have H99 := Lib.hid (H76.out.below hD92)
    have H100 := Lib.hid (H77.out.below hD92)
    have H101 := Lib.hid (H78.out.below hD92)
    have H102 := Lib.hid (HX71.out.below hD92)
    have HB103 := Lib.hid (below_step hD92 HB79.out)
    have HR104 := Lib.hid hD92
    clear hD92
    refine pt_one ?_
    intro K105 hK105
    refine quiet_op (i := 0) ⟨some 57, Op.move (Operand.tmp 11), 32, "law.go:184", #[], none⟩ (by rw [hOPS94]; kernel_rfl) (by rw [hOPS94]; kernel_rfl) ?_
    intro KQ hKQ; go_big_quiet_op; first | go_big_quiet_on | go_big_quiet_call (exact fun _ => rfl)
    refine quiet_op (i := 1) ⟨some 58, Op.binOp BinOp.neq 32 (Operand.tmp 57) (Operand.const (Value.int IntKind.i64 0)) 32, 4, "law.go:184", #[], none⟩ (by rw [hOPS94]; kernel_rfl) (by rw [hOPS94]; kernel_rfl) ?_
    intro KQ hKQ; go_big_quiet_op; first | go_big_quiet_on | go_big_quiet_call (exact fun _ => rfl)
    refine quiet_op (i := 2) ⟨some 59, Op.move (Operand.tmp 58), 4, "law.go:184", #[], none⟩ (by rw [hOPS94]; kernel_rfl) (by rw [hOPS94]; kernel_rfl) ?_
    intro KQ hKQ; go_big_quiet_op; first | go_big_quiet_on | go_big_quiet_call (exact fun _ => rfl)
    refine quiet_op (i := 3) ⟨some 60, Op.move (Operand.tmp 13), 32, "law.go:184", #[], none⟩ (by rw [hOPS94]; kernel_rfl) (by rw [hOPS94]; kernel_rfl) ?_
    intro KQ hKQ; go_big_quiet_op; first | go_big_quiet_on | go_big_quiet_call (exact fun _ => rfl)
    refine quiet_op (i := 4) ⟨some 61, Op.binOp BinOp.neq 32 (Operand.tmp 60) (Operand.const (Value.int IntKind.i64 0)) 32, 4, "law.go:184", #[], none⟩ (by rw [hOPS94]; kernel_rfl) (by rw [hOPS94]; kernel_rfl) ?_
    intro KQ hKQ; go_big_quiet_op; first | go_big_quiet_on | go_big_quiet_call (exact fun _ => rfl)
    refine quiet_op (i := 5) ⟨some 62, Op.pick (Operand.tmp 59) (Operand.const (Value.bool true)) (Operand.tmp 61), 4, "law.go:184", #[], none⟩ (by rw [hOPS94]; kernel_rfl) (by rw [hOPS94]; kernel_rfl) ?_
    intro KQ hKQ; go_big_quiet_op; first | go_big_quiet_on | go_big_quiet_call (exact fun _ => rfl)
    refine quiet_op (i := 6) ⟨some 63, Op.move (Operand.tmp 62), 4, "law.go:184", #[], none⟩ (by rw [hOPS94]; kernel_rfl) (by rw [hOPS94]; kernel_rfl) ?_
    intro KQ hKQ; go_big_quiet_op; first | go_big_quiet_on | go_big_quiet_call (exact fun _ => rfl)
    refine quiet_op (i := 7) ⟨some 64, Op.move (Operand.tmp 15), 32, "law.go:184", #[], none⟩ (by rw [hOPS94]; kernel_rfl) (by rw [hOPS94]; kernel_rfl) ?_
    intro KQ hKQ; go_big_quiet_op; first | go_big_quiet_on | go_big_quiet_call (exact fun _ => rfl)
    refine quiet_op (i := 8) ⟨some 65, Op.binOp BinOp.neq 32 (Operand.tmp 64) (Operand.const (Value.int IntKind.i64 0)) 32, 4, "law.go:184", #[], none⟩ (by rw [hOPS94]; kernel_rfl) (by rw [hOPS94]; kernel_rfl) ?_
    intro KQ hKQ; go_big_quiet_op; first | go_big_quiet_on | go_big_quiet_call (exact fun _ => rfl)
    refine quiet_op (i := 9) ⟨some 66, Op.pick (Operand.tmp 63) (Operand.const (Value.bool true)) (Operand.tmp 65), 4, "law.go:184", #[], none⟩ (by rw [hOPS94]; kernel_rfl) (by rw [hOPS94]; kernel_rfl) ?_
    intro KQ hKQ; go_big_quiet_op; first | go_big_quiet_on | go_big_quiet_call (exact fun _ => rfl)
    refine quiet_op (i := 10) ⟨some 67, Op.move (Operand.tmp 66), 4, "law.go:184", #[], none⟩ (by rw [hOPS94]; kernel_rfl) (by rw [hOPS94]; kernel_rfl) ?_
    intro KQ hKQ; go_big_quiet_op; first | go_big_quiet_on | go_big_quiet_call (exact fun _ => rfl)
    refine quiet_at (i := 11) ⟨some 68, Op.load 27 (Operand.tmp 10), 27, "law.go:184", #[], none⟩ (by rw [hOPS94]; kernel_rfl) (by rw [hOPS94]; kernel_rfl) ?_
    refine wpQuiet_load_row (by kernel_rfl) 27 (.tmp 10) rfl (w12.heap.size) #[.slice q13 m14 c15] 27 _ rfl (fun w hw => (H77.out.below hw).blk) Tryd.underlying27 rfl nInfo ?_
    simp only [Act.put, List.setIfInBounds_toArray, List.set_cons_succ, List.set_cons_zero]
    refine quiet_at (i := 12) ⟨some 69, Op.load 27 (Operand.tmp 12), 27, "law.go:184", #[], none⟩ (by rw [hOPS94]; kernel_rfl) (by rw [hOPS94]; kernel_rfl) ?_
    refine wpQuiet_load_row (by kernel_rfl) 27 (.tmp 12) rfl (w26.heap.size) #[.slice q27 m28 c29] 27 _ rfl (fun w hw => (H78.out.below hw).blk) Tryd.underlying27 rfl nInfo ?_
    simp only [Act.put, List.setIfInBounds_toArray, List.set_cons_succ, List.set_cons_zero]
    refine quiet_at (i := 14) ⟨some 71, Op.load 27 (Operand.tmp 14), 27, "law.go:184", #[], none⟩ (by rw [hOPS94]; kernel_rfl) (by rw [hOPS94]; kernel_rfl) ?_
    refine wpQuiet_load_row (by kernel_rfl) 27 (.tmp 14) rfl (w45.heap.size) #[.slice q46 m47 c48] 27 _ rfl (fun w hw => (HX71.out.below hw).blk) Tryd.underlying27 rfl nInfo ?_
    simp only [Act.put, List.setIfInBounds_toArray, List.set_cons_succ, List.set_cons_zero]
    refine quiet_done ?_
    refine event_at (i := 13) ⟨some 70, Op.call { callee := Callee.value (Operand.func 24), args := #[Operand.tmp 68, Operand.tmp 69], argTypes := #[27, 27] }, 27, "law.go:184", #[], none⟩ (by rw [hOPS94]; kernel_rfl) (by rw [hOPS94]; kernel_rfl) ?_
    go_wp2_with (go_at_call 24; refine (Mul_calls H96.out H97.out 117 117 HL17.out HL31.out (by decide)).mono ?_; rintro e w106 ⟨v, rfl, hv, hb⟩)
    obtain ⟨q107, m108, c109, rfl⟩ := hv.shape
    have HN110 := Lib.hid hv
    clear hv
    have HL111 := Lib.hid (show (P * Q) < B ^ 234 from mul_lt HL17.out HL31.out (by decide))
    have HR112 := Lib.hid (Below.trans HR104.out (Below.mono hb HR104.out.size))
    clear HR104
    have H113 := Lib.hid (H95.out.below hb)
    have H114 := Lib.hid (H96.out.below hb)
    have H115 := Lib.hid (H97.out.below hb)
    have H116 := Lib.hid (H98.out.below hb)
    have H117 := Lib.hid (H99.out.below hb)
    have H118 := Lib.hid (H100.out.below hb)
    have H119 := Lib.hid (H101.out.below hb)
    have H120 := Lib.hid (H102.out.below hb)
    have HB121 := Lib.hid (below_step hb HB103.out)
    clear H95 H96 H97 H98 H99 H100 H101 H102 HB103
    clear hb
    refine hK105 _ _ HR112.out ?_
    refine pt_one ?_
    intro K122 hK122
    refine quiet_done ?_
    refine event_at (i := 15) ⟨some 72, Op.call { callee := Callee.value (Operand.func 28), args := #[Operand.tmp 70, Operand.tmp 71], argTypes := #[27, 27] }, 4, "law.go:184", #[], none⟩ (by rw [hOPS94]; kernel_rfl) (by rw [hOPS94]; kernel_rfl) ?_
    go_wp2_with (go_at_call 28; refine (Equal_t HN110.out H116.out (show (P * Q) = R from HMU.out)).mono ?_; rintro e w123 ⟨rfl, hb⟩)
    have HR124 := Lib.hid (Below.trans HR112.out (Below.mono hb HR112.out.size))
    clear HR112
    have H125 := Lib.hid (H113.out.below hb)
    have H126 := Lib.hid (H114.out.below hb)
    have H127 := Lib.hid (H115.out.below hb)
    have H128 := Lib.hid (H116.out.below hb)
    have H129 := Lib.hid (H117.out.below hb)
    have H130 := Lib.hid (H118.out.below hb)
    have H131 := Lib.hid (H119.out.below hb)
    have H132 := Lib.hid (H120.out.below hb)
    have HB133 := Lib.hid (below_step hb HB121.out)
    clear H113 H114 H115 H116 H117 H118 H119 H120 HB121
    clear hb
    refine hK122 _ _ HR124.out ?_
    refine pt_last ?_
    refine quiet_op (i := 16) ⟨some 73, Op.unOp UnOp.not 4 (Operand.tmp 72), 4, "law.go:184", #[], none⟩ (by rw [hOPS94]; kernel_rfl) (by rw [hOPS94]; kernel_rfl) ?_
    intro KQ hKQ; go_big_quiet_op; first | go_big_quiet_on | go_big_quiet_call (exact fun _ => rfl)
    refine quiet_op (i := 17) ⟨some 74, Op.pick (Operand.tmp 67) (Operand.const (Value.bool true)) (Operand.tmp 73), 4, "law.go:184", #[], none⟩ (by rw [hOPS94]; kernel_rfl) (by rw [hOPS94]; kernel_rfl) ?_
    intro KQ hKQ; go_big_quiet_op; first | go_big_quiet_on | go_big_quiet_call (exact fun _ => rfl)
    refine quiet_done ?_
    clear H72 H73 H74 H75 H76 H77 H78 HX71 HB79 HR124
    obtain ⟨hx134, hf135⟩ := H129.out.cell
    have hl136 := H129.out.lt
    obtain ⟨hx137, hf138⟩ := H130.out.cell
    have hl139 := H130.out.lt
    obtain ⟨hx140, hf141⟩ := H131.out.cell
    have hl142 := H131.out.lt
    obtain ⟨hx143, hf144⟩ := H132.out.cell
    have hl145 := H132.out.lt
    obtain ⟨b, hb⟩ : ∃ b, nb R = b := ⟨_, rfl⟩
    have HNB := Lib.hid hb
    have hb234 : b ≤ 7488 := by have := nb_B HL50.out; omega
    clear hb
    go_wp2_with (fail)
    go_at_call 32
    refine (BitLen_eq H128.out HNB.out).mono ?_
    rintro e w146 ⟨rfl, hb⟩
    clear hx134 hf135 hl136 hx137 hf138 hl139 hx140 hf141 hl142 hx143 hf144 hl145
    have H147 := Lib.hid (H125.out.below hb)
    have H148 := Lib.hid (H126.out.below hb)
    have H149 := Lib.hid (H127.out.below hb)
    have H150 := Lib.hid (H128.out.below hb)
    have H151 := Lib.hid (H129.out.below hb)
    have H152 := Lib.hid (H130.out.below hb)
    have H153 := Lib.hid (H131.out.below hb)
    have H154 := Lib.hid (H132.out.below hb)
    have HB155 := Lib.hid (below_step hb HB133.out)
    clear H125 H126 H127 H128 H129 H130 H131 H132 HB133
    clear hb
    obtain ⟨hx156, hf157⟩ := H151.out.cell
    have hl158 := H151.out.lt
    obtain ⟨hx159, hf160⟩ := H152.out.cell
    have hl161 := H152.out.lt
    obtain ⟨hx162, hf163⟩ := H153.out.cell
    have hl164 := H153.out.lt
    obtain ⟨hx165, hf166⟩ := H154.out.cell
    have hl167 := H154.out.lt
    go_wp2_with (fail)
    go_at_call 31
    refine (pow2_any (b := _) (n := b) rfl (by omega) _).mono ?_
    rintro e w168 ⟨v, rfl, hv, hb⟩
    obtain ⟨q169, m170, c171, rfl⟩ := hv.shape
    have HN172 := Lib.hid hv
    clear hv
    have HL173 := Lib.hid (show (2 ^ b) < B ^ 235 from two_lt (by omega))
    clear hx156 hf157 hl158 hx159 hf160 hl161 hx162 hf163 hl164 hx165 hf166 hl167
    have H174 := Lib.hid (H147.out.below hb)
    have H175 := Lib.hid (H148.out.below hb)
    have H176 := Lib.hid (H149.out.below hb)
    have H177 := Lib.hid (H150.out.below hb)
    have H178 := Lib.hid (H151.out.below hb)
    have H179 := Lib.hid (H152.out.below hb)
    have H180 := Lib.hid (H153.out.below hb)
    have H181 := Lib.hid (H154.out.below hb)
    have HB182 := Lib.hid (below_step hb HB155.out)
    clear H147 H148 H149 H150 H151 H152 H153 H154 HB155
    clear hb
    obtain ⟨hx183, hf184⟩ := H178.out.cell
    have hl185 := H178.out.lt
    obtain ⟨hx186, hf187⟩ := H179.out.cell
    have hl188 := H179.out.lt
    obtain ⟨hx189, hf190⟩ := H180.out.cell
    have hl191 := H180.out.lt
    obtain ⟨hx192, hf193⟩ := H181.out.cell
    have hl194 := H181.out.lt
    go_wp2_with (fail)
    go_at_call 39
    refine (Cmp_lt (H177.out.below (show Below w168.heap.size w168 (w168.alloc (.cells #[.slice q169 m170 c171] 27)) from (by repeat (first | assumption | exact Below.refl _ _ | exact below_beyond _ _ | refine Below.beyond ?_ (by (try simp [size_beyond]) <;> omega) _ | refine Below.drew ?_ | refine Go.Rw.below_drewN ?_ _ | refine Go.Rw.below_setRow ?_ (by (try simp [size_beyond]) <;> omega) _ | refine Below.alloc ?_ (by (try simp [size_beyond]) <;> omega) _ | refine Below.setCell ?_ (by (try simp [size_beyond]) <;> omega) _)))) (HN172.out.below (show Below w168.heap.size w168 (w168.alloc (.cells #[.slice q169 m170 c171] 27)) from (by repeat (first | assumption | exact Below.refl _ _ | exact below_beyond _ _ | refine Below.beyond ?_ (by (try simp [size_beyond]) <;> omega) _ | refine Below.drew ?_ | refine Go.Rw.below_drewN ?_ _ | refine Go.Rw.below_setRow ?_ (by (try simp [size_beyond]) <;> omega) _ | refine Below.alloc ?_ (by (try simp [size_beyond]) <;> omega) _ | refine Below.setCell ?_ (by (try simp [size_beyond]) <;> omega) _)))) (show R < 2 ^ b from nb_le.1 (by rw [HNB.out]; exact Nat.le_refl _))).mono ?_
    rintro e w195 ⟨rfl, hb⟩
    have hA196 : Below w168.heap.size w168 (w168.alloc (.cells #[.slice q169 m170 c171] 27)) := (by repeat (first | assumption | exact Below.refl _ _ | exact below_beyond _ _ | refine Below.beyond ?_ (by (try simp [size_beyond]) <;> omega) _ | refine Below.drew ?_ | refine Go.Rw.below_drewN ?_ _ | refine Go.Rw.below_setRow ?_ (by (try simp [size_beyond]) <;> omega) _ | refine Below.alloc ?_ (by (try simp [size_beyond]) <;> omega) _ | refine Below.setCell ?_ (by (try simp [size_beyond]) <;> omega) _))
    have hs197 := below_step hb hA196
    have HX198 := Lib.hid ((NB.new w168 (.slice q169 m170 c171)).below hb)
    clear hx183 hf184 hl185 hx186 hf187 hl188 hx189 hf190 hl191 hx192 hf193 hl194
    have H199 := Lib.hid (H174.out.below hs197)
    have H200 := Lib.hid (H175.out.below hs197)
    have H201 := Lib.hid (H176.out.below hs197)
    have H202 := Lib.hid (H177.out.below hs197)
    have H203 := Lib.hid (HN172.out.below hs197)
    have H204 := Lib.hid (H178.out.below hs197)
    have H205 := Lib.hid (H179.out.below hs197)
    have H206 := Lib.hid (H180.out.below hs197)
    have H207 := Lib.hid (H181.out.below hs197)
    have HB208 := Lib.hid (below_step hs197 HB182.out)
    clear H174 H175 H176 H177 HN172 H178 H179 H180 H181 HB182
    clear hs197 hA196
    clear hb
    obtain ⟨hx209, hf210⟩ := H204.out.cell
    have hl211 := H204.out.lt
    obtain ⟨hx212, hf213⟩ := H205.out.cell
    have hl214 := H205.out.lt
    obtain ⟨hx215, hf216⟩ := H206.out.cell
    have hl217 := H206.out.lt
    obtain ⟨hx218, hf219⟩ := H207.out.cell
    have hl220 := H207.out.lt
    obtain ⟨hx221, hf222⟩ := HX198.out.cell
    have hl223 := HX198.out.lt
    go_wp2_with (fail)
    go_at_call 33
    refine (Bit_eq H202.out (k := b) rfl (by omega) (bit_top HNB.out)).mono ?_
    rintro e w224 ⟨rfl, hb⟩
    clear hx209 hf210 hl211 hx212 hf213 hl214 hx215 hf216 hl217 hx218 hf219 hl220 hx221 hf222 hl223
    have H225 := Lib.hid (H199.out.below hb)
    have H226 := Lib.hid (H200.out.below hb)
    have H227 := Lib.hid (H201.out.below hb)
    have H228 := Lib.hid (H202.out.below hb)
    have H229 := Lib.hid (H203.out.below hb)
    have H230 := Lib.hid (H204.out.below hb)
    have H231 := Lib.hid (H205.out.below hb)
    have H232 := Lib.hid (H206.out.below hb)
    have H233 := Lib.hid (H207.out.below hb)
    have H234 := Lib.hid (HX198.out.below hb)
    have HB235 := Lib.hid (below_step hb HB208.out)
    clear H199 H200 H201 H202 H203 H204 H205 H206 H207 HX198 HB208
    clear hb
    obtain ⟨hx236, hf237⟩ := H230.out.cell
    have hl238 := H230.out.lt
    obtain ⟨hx239, hf240⟩ := H231.out.cell
    have hl241 := H231.out.lt
    obtain ⟨hx242, hf243⟩ := H232.out.cell
    have hl244 := H232.out.lt
    obtain ⟨hx245, hf246⟩ := H233.out.cell
    have hl247 := H233.out.lt
    obtain ⟨hx248, hf249⟩ := H234.out.cell
    have hl250 := H234.out.lt
    go_wp2_with (fail)
    go_at_call 33
    refine (bit_no H228.out (-1) (by decide)).mono ?_
    rintro e w251 ⟨rfl, hb⟩
    clear hx236 hf237 hl238 hx239 hf240 hl241 hx242 hf243 hl244 hx245 hf246 hl247 hx248 hf249 hl250
    have H252 := Lib.hid (H225.out.below hb)
    have H253 := Lib.hid (H226.out.below hb)
    have H254 := Lib.hid (H227.out.below hb)
    have H255 := Lib.hid (H228.out.below hb)
    have H256 := Lib.hid (H229.out.below hb)
    have H257 := Lib.hid (H230.out.below hb)
    have H258 := Lib.hid (H231.out.below hb)
    have H259 := Lib.hid (H232.out.below hb)
    have H260 := Lib.hid (H233.out.below hb)
    have H261 := Lib.hid (H234.out.below hb)
    have HB262 := Lib.hid (below_step hb HB235.out)
    clear H225 H226 H227 H228 H229 H230 H231 H232 H233 H234 HB235
    clear hb
    obtain ⟨hx263, hf264⟩ := H257.out.cell
    have hl265 := H257.out.lt
    obtain ⟨hx266, hf267⟩ := H258.out.cell
    have hl268 := H258.out.lt
    obtain ⟨hx269, hf270⟩ := H259.out.cell
    have hl271 := H259.out.lt
    obtain ⟨hx272, hf273⟩ := H260.out.cell
    have hl274 := H260.out.lt
    obtain ⟨hx275, hf276⟩ := H261.out.cell
    have hl277 := H261.out.lt
    by_cases hb0 : b = 0
    · have HR0 := Lib.hid (show R = 0 from by have h := nb_le.1 (Nat.le_of_eq HNB.out); rw [hb0] at h; omega)
      subst hb0
      go_wp2_with (fail)
      go_at_call 21
      refine (IsZero_t H255.out HR0.out).mono ?_
      rintro e w278 ⟨rfl, hb⟩
      clear hx263 hf264 hl265 hx266 hf267 hl268 hx269 hf270 hl271 hx272 hf273 hl274 hx275 hf276 hl277
      have H279 := Lib.hid (H252.out.below hb)
      have H280 := Lib.hid (H253.out.below hb)
      have H281 := Lib.hid (H254.out.below hb)
      have H282 := Lib.hid (H255.out.below hb)
      have H283 := Lib.hid (H257.out.below hb)
      have H284 := Lib.hid (H258.out.below hb)
      have H285 := Lib.hid (H259.out.below hb)
      have H286 := Lib.hid (H260.out.below hb)
      have H287 := Lib.hid (H261.out.below hb)
      have HB288 := Lib.hid (below_step hb HB262.out)
      clear H252 H253 H254 H255 H257 H258 H259 H260 H261 HB262
      clear hb
      obtain ⟨hx289, hf290⟩ := H283.out.cell
      have hl291 := H283.out.lt
      obtain ⟨hx292, hf293⟩ := H284.out.cell
      have hl294 := H284.out.lt
      obtain ⟨hx295, hf296⟩ := H285.out.cell
      have hl297 := H285.out.lt
      obtain ⟨hx298, hf299⟩ := H286.out.cell
      have hl300 := H286.out.lt
      obtain ⟨hx301, hf302⟩ := H287.out.cell
      have hl303 := H287.out.lt
      go_wp2
      go_ret
      exact ⟨rfl, beyond_of HB288.out⟩
    · obtain ⟨j, rfl⟩ : ∃ j, b = j + 1 := ⟨b - 1, by omega⟩
      have hj0 : ((j + 1 : Nat) : Int) - 1 = (j : Int) := by omega
      have hb0i : (((j + 1 : Nat) : Int) == 0) = false := by simp; omega
      clear hb0
      go_wp2_with (fail)
      go_at_call 31
      refine (pow2_any (n := j) (by first | rfl | omega) (by omega) _).mono ?_
      rintro e w304 ⟨v, rfl, hv, hb⟩
      obtain ⟨q305, m306, c307, rfl⟩ := hv.shape
      have HN308 := Lib.hid hv
      clear hv
      have HL309 := Lib.hid (show (2 ^ j) < B ^ 235 from two_lt (by omega))
      clear hx263 hf264 hl265 hx266 hf267 hl268 hx269 hf270 hl271 hx272 hf273 hl274 hx275 hf276 hl277
      have H310 := Lib.hid (H252.out.below hb)
      have H311 := Lib.hid (H253.out.below hb)
      have H312 := Lib.hid (H254.out.below hb)
      have H313 := Lib.hid (H255.out.below hb)
      have H314 := Lib.hid (H257.out.below hb)
      have H315 := Lib.hid (H258.out.below hb)
      have H316 := Lib.hid (H259.out.below hb)
      have H317 := Lib.hid (H260.out.below hb)
      have H318 := Lib.hid (H261.out.below hb)
      have HB319 := Lib.hid (below_step hb HB262.out)
      clear H252 H253 H254 H255 H257 H258 H259 H260 H261 HB262
      clear hb
      obtain ⟨hx320, hf321⟩ := H314.out.cell
      have hl322 := H314.out.lt
      obtain ⟨hx323, hf324⟩ := H315.out.cell
      have hl325 := H315.out.lt
      obtain ⟨hx326, hf327⟩ := H316.out.cell
      have hl328 := H316.out.lt
      obtain ⟨hx329, hf330⟩ := H317.out.cell
      have hl331 := H317.out.lt
      obtain ⟨hx332, hf333⟩ := H318.out.cell
      have hl334 := H318.out.lt
      go_wp2_with (fail)
      go_at_call 39
      refine (Cmp_ge (H313.out.below (show Below w304.heap.size w304 (w304.alloc (.cells #[.slice q305 m306 c307] 27)) from (by repeat (first | assumption | exact Below.refl _ _ | exact below_beyond _ _ | refine Below.beyond ?_ (by (try simp [size_beyond]) <;> omega) _ | refine Below.drew ?_ | refine Go.Rw.below_drewN ?_ _ | refine Go.Rw.below_setRow ?_ (by (try simp [size_beyond]) <;> omega) _ | refine Below.alloc ?_ (by (try simp [size_beyond]) <;> omega) _ | refine Below.setCell ?_ (by (try simp [size_beyond]) <;> omega) _)))) (HN308.out.below (show Below w304.heap.size w304 (w304.alloc (.cells #[.slice q305 m306 c307] 27)) from (by repeat (first | assumption | exact Below.refl _ _ | exact below_beyond _ _ | refine Below.beyond ?_ (by (try simp [size_beyond]) <;> omega) _ | refine Below.drew ?_ | refine Go.Rw.below_drewN ?_ _ | refine Go.Rw.below_setRow ?_ (by (try simp [size_beyond]) <;> omega) _ | refine Below.alloc ?_ (by (try simp [size_beyond]) <;> omega) _ | refine Below.setCell ?_ (by (try simp [size_beyond]) <;> omega) _)))) (show 2 ^ j ≤ R from nb_lt.1 (by rw [HNB.out]; exact Nat.lt_succ_self _))).mono ?_
      rintro e w335 ⟨z, rfl, hz0, hb⟩
      have hA336 : Below w304.heap.size w304 (w304.alloc (.cells #[.slice q305 m306 c307] 27)) := (by repeat (first | assumption | exact Below.refl _ _ | exact below_beyond _ _ | refine Below.beyond ?_ (by (try simp [size_beyond]) <;> omega) _ | refine Below.drew ?_ | refine Go.Rw.below_drewN ?_ _ | refine Go.Rw.below_setRow ?_ (by (try simp [size_beyond]) <;> omega) _ | refine Below.alloc ?_ (by (try simp [size_beyond]) <;> omega) _ | refine Below.setCell ?_ (by (try simp [size_beyond]) <;> omega) _))
      have hs337 := below_step hb hA336
      have HX338 := Lib.hid ((NB.new w304 (.slice q305 m306 c307)).below hb)
      clear hx320 hf321 hl322 hx323 hf324 hl325 hx326 hf327 hl328 hx329 hf330 hl331 hx332 hf333 hl334
      have H339 := Lib.hid (H310.out.below hs337)
      have H340 := Lib.hid (H311.out.below hs337)
      have H341 := Lib.hid (H312.out.below hs337)
      have H342 := Lib.hid (H313.out.below hs337)
      have H343 := Lib.hid (HN308.out.below hs337)
      have H344 := Lib.hid (H314.out.below hs337)
      have H345 := Lib.hid (H315.out.below hs337)
      have H346 := Lib.hid (H316.out.below hs337)
      have H347 := Lib.hid (H317.out.below hs337)
      have H348 := Lib.hid (H318.out.below hs337)
      have HB349 := Lib.hid (below_step hs337 HB319.out)
      clear H310 H311 H312 H313 HN308 H314 H315 H316 H317 H318 HB319
      clear hs337 hA336
      clear hb
      obtain ⟨hx350, hf351⟩ := H344.out.cell
      have hl352 := H344.out.lt
      obtain ⟨hx353, hf354⟩ := H345.out.cell
      have hl355 := H345.out.lt
      obtain ⟨hx356, hf357⟩ := H346.out.cell
      have hl358 := H346.out.lt
      obtain ⟨hx359, hf360⟩ := H347.out.cell
      have hl361 := H347.out.lt
      obtain ⟨hx362, hf363⟩ := H348.out.cell
      have hl364 := H348.out.lt
      obtain ⟨hx365, hf366⟩ := HX338.out.cell
      have hl367 := HX338.out.lt
      go_wp2_with (fail)
      go_at_call 33
      refine (Bit_eq H342.out (k := j) (by first | rfl | omega) (by omega) (bit_last HNB.out)).mono ?_
      rintro e w368 ⟨rfl, hb⟩
      clear hx350 hf351 hl352 hx353 hf354 hl355 hx356 hf357 hl358 hx359 hf360 hl361 hx362 hf363 hl364 hx365 hf366 hl367
      have H369 := Lib.hid (H339.out.below hb)
      have H370 := Lib.hid (H340.out.below hb)
      have H371 := Lib.hid (H341.out.below hb)
      have H372 := Lib.hid (H342.out.below hb)
      have H373 := Lib.hid (H343.out.below hb)
      have H374 := Lib.hid (H344.out.below hb)
      have H375 := Lib.hid (H345.out.below hb)
      have H376 := Lib.hid (H346.out.below hb)
      have H377 := Lib.hid (H347.out.below hb)
      have H378 := Lib.hid (H348.out.below hb)
      have H379 := Lib.hid (HX338.out.below hb)
      have HB380 := Lib.hid (below_step hb HB349.out)
      clear H339 H340 H341 H342 H343 H344 H345 H346 H347 H348 HX338 HB349
      clear hb
      obtain ⟨hx381, hf382⟩ := H374.out.cell
      have hl383 := H374.out.lt
      obtain ⟨hx384, hf385⟩ := H375.out.cell
      have hl386 := H375.out.lt
      obtain ⟨hx387, hf388⟩ := H376.out.cell
      have hl389 := H376.out.lt
      obtain ⟨hx390, hf391⟩ := H377.out.cell
      have hl392 := H377.out.lt
      obtain ⟨hx393, hf394⟩ := H378.out.cell
      have hl395 := H378.out.lt
      obtain ⟨hx396, hf397⟩ := H379.out.cell
      have hl398 := H379.out.lt
      go_wp2
      go_ret
      exact ⟨rfl, beyond_of HB380.out⟩
  · have hbig : 20 < ma := by omega
    clear hua hfew
    have HB0 := Lib.hid (Below.refl W.heap.size W)
    go_enter Tryd.func10, Tryd.ntmps10
    go_wp2_with (fail)
    go_at_call 12
    refine (known_calls (HDW.out.1.below HDW.out.2 HB0.out) (Nat.le_trans HDW.out.2 HB0.out.size)).mono ?_
    rintro e w1 ⟨rfl, hb⟩
    have HB2 := Lib.hid (below_step hb HB0.out)
    clear HB0
    clear hb
    go_wp2_with (fail)
    go_at_call 12
    refine (known_calls (HDW.out.1.below HDW.out.2 HB2.out) (Nat.le_trans HDW.out.2 HB2.out.size)).mono ?_
    rintro e w3 ⟨rfl, hb⟩
    have HB4 := Lib.hid (below_step hb HB2.out)
    clear HB2
    clear hb
    go_wp2
    go_ret
    exact ⟨rfl, beyond_of HB4.out⟩
end Go.Proofs.YtogjobmekjighaaDoor.bn
