/-
  BignatSemiringLaws: the walk.
-/
import Derived.Test.YtogjobmekjighaaDoorBnTc
set_option linter.unusedSimpArgs false
set_option linter.unusedVariables false
namespace Go.Proofs.YtogjobmekjighaaDoor.bn
open Go.RowKit Go.Own Go.Bn
open bd (U8At RefN RefR dnum Digits_calls Text_calls)
set_option maxHeartbeats 4000000
set_option maxRecDepth 100000
theorem semiring_walk {W : World} (hD : DecW W) (ht : tabB ≤ W.heap.size) {qa qb qc : Option Addr} {ma mb mc ca cb cc : Nat} {xsa xsb xsc : List Nat} (ha : (ma : Int) ≤ 9223372036854775807) (hb : (mb : Int) ≤ 9223372036854775807) (hc : (mc : Int) ≤ 9223372036854775807) (hla : xsa.length = ma) (hlb : xsb.length = mb) (hlc : xsc.length = mc) (hua : ma ≤ 999000 → U8At qa ma ca xsa W) (hub : mb ≤ 999000 → U8At qb mb cb xsb W) (huc : mc ≤ 999000 → U8At qc mc cc xsc W) :
    Calls Tryd.prog 8 #[.slice qa ma ca, .slice qb mb cb, .slice qc mc cc] W fun e w' => e = .returned (.bool true) ∧ ∃ x, w' = beyond W x := by
  have HDW := Lib.hid (And.intro hD ht)
  clear hD ht
  by_cases hfew : ma ≤ 150 ∧ mb ≤ 150 ∧ mc ≤ 150
  · have hsz : ma ≤ 150 ∧ mb ≤ 150 ∧ mc ≤ 150 := hfew
    obtain ⟨hma, hmb, hmc⟩ := hfew
    have HB0 := Lib.hid (Below.refl W.heap.size W)
    have HUa := Lib.hid (hua (by omega))
    have HUb := Lib.hid (hub (by omega))
    have HUc := Lib.hid (huc (by omega))
    clear hua hub huc hsz
    go_enter Tryd.func8, Tryd.ntmps8
    go_wp2_with (fail)
    go_at_call 12
    refine (known_calls (HDW.out.1.below HDW.out.2 HB0.out) (Nat.le_trans HDW.out.2 HB0.out.size)).mono ?_
    rintro e w1 ⟨rfl, hb⟩
    have H2 := Lib.hid (HUa.out.below hb)
    have H3 := Lib.hid (HUb.out.below hb)
    have H4 := Lib.hid (HUc.out.below hb)
    have HB5 := Lib.hid (below_step hb HB0.out)
    clear HUa HUb HUc HB0
    clear hb
    have HSS := Lib.hid (ss3 w1 22 qa qb qc ma mb mc ca cb cc ha hb hc)
    have HFW := Lib.hid (few_eq HSS.out (show ([ma, mb, mc].all (· ≤ 150)) = true from by simp; omega))
    have hA6 : Below w1.heap.size w1 (w1.alloc (.cells #[.slice qa ma ca, .slice qb mb cb, .slice qc mc cc] 22)) := (by repeat (first | assumption | exact Below.refl _ _ | exact below_beyond _ _ | refine Below.beyond ?_ (by (try simp [size_beyond]) <;> omega) _ | refine Below.drew ?_ | refine Go.Rw.below_drewN ?_ _ | refine Go.Rw.below_setRow ?_ (by (try simp [size_beyond]) <;> omega) _ | refine Below.alloc ?_ (by (try simp [size_beyond]) <;> omega) _ | refine Below.setCell ?_ (by (try simp [size_beyond]) <;> omega) _))
    go_wp2_with (fail)
    go_at_call 13
    refine HFW.out.mono ?_
    rintro e wz ⟨rfl, rfl⟩
    have H8 := Lib.hid (H2.out.below hA6)
    have H9 := Lib.hid (H3.out.below hA6)
    have H10 := Lib.hid (H4.out.below hA6)
    have HB11 := Lib.hid (below_step hA6 HB5.out)
    clear H2 H3 H4 HB5
    clear hA6 HSS HFW
    generalize (w1.alloc (.cells #[.slice qa ma ca, .slice qb mb cb, .slice qc mc cc] 22)) = w7 at *
    have HOa := Lib.hid (Of_calls H8.out (by omega))
    go_wp2_with (fail)
    go_at_call 14
    refine (HOa.out).mono ?_
    rintro e w12 ⟨v, rfl, hv, hb⟩
    obtain ⟨q13, m14, c15, rfl⟩ := hv.shape
    have HN16 := Lib.hid hv
    clear hv
    have HL17 := Lib.hid (show dnum xsa < B ^ 17 from dnum_B xsa 17 (by omega))
    have H18 := Lib.hid (H8.out.below hb)
    have H19 := Lib.hid (H9.out.below hb)
    have H20 := Lib.hid (H10.out.below hb)
    have HB21 := Lib.hid (below_step hb HB11.out)
    clear H8 H9 H10 HB11
    clear hb
    have HOb := Lib.hid (Of_calls H19.out (by omega))
    go_wp2_with (fail)
    go_at_call 14
    refine (HOb.out).mono ?_
    rintro e w22 ⟨v, rfl, hv, hb⟩
    obtain ⟨q23, m24, c25, rfl⟩ := hv.shape
    have HN26 := Lib.hid hv
    clear hv
    have HL27 := Lib.hid (show dnum xsb < B ^ 17 from dnum_B xsb 17 (by omega))
    have H28 := Lib.hid (HN16.out.below hb)
    have H29 := Lib.hid (H18.out.below hb)
    have H30 := Lib.hid (H19.out.below hb)
    have H31 := Lib.hid (H20.out.below hb)
    have HB32 := Lib.hid (below_step hb HB21.out)
    clear HN16 H18 H19 H20 HB21
    clear hb
    have HOc := Lib.hid (Of_calls H31.out (by omega))
    go_wp2_with (fail)
    go_at_call 14
    refine (HOc.out).mono ?_
    rintro e w33 ⟨v, rfl, hv, hb⟩
    obtain ⟨q34, m35, c36, rfl⟩ := hv.shape
    have HN37 := Lib.hid hv
    clear hv
    have HL38 := Lib.hid (show dnum xsc < B ^ 17 from dnum_B xsc 17 (by omega))
    have H39 := Lib.hid (H28.out.below hb)
    have H40 := Lib.hid (HN26.out.below hb)
    have H41 := Lib.hid (H29.out.below hb)
    have H42 := Lib.hid (H30.out.below hb)
    have H43 := Lib.hid (H31.out.below hb)
    have HB44 := Lib.hid (below_step hb HB32.out)
    clear H28 HN26 H29 H30 H31 HB32
    clear hb
    go_upto_region 4 with (fail)
    have hA45 : Below w33.heap.size w33 (((w33.alloc (.cells #[.slice q13 m14 c15] 27)).alloc (.cells #[.slice q23 m24 c25] 27)).alloc (.cells #[.slice q34 m35 c36] 27)) := (by repeat (first | assumption | exact Below.refl _ _ | exact below_beyond _ _ | refine Below.beyond ?_ (by (try simp [size_beyond]) <;> omega) _ | refine Below.drew ?_ | refine Go.Rw.below_drewN ?_ _ | refine Go.Rw.below_setRow ?_ (by (try simp [size_beyond]) <;> omega) _ | refine Below.alloc ?_ (by (try simp [size_beyond]) <;> omega) _ | refine Below.setCell ?_ (by (try simp [size_beyond]) <;> omega) _))
    have HX47 := Lib.hid ((three_blocks w33 (.slice q13 m14 c15) (.slice q23 m24 c25) (.slice q34 m35 c36)).1)
    have HX48 := Lib.hid ((three_blocks w33 (.slice q13 m14 c15) (.slice q23 m24 c25) (.slice q34 m35 c36)).2.1)
    have HX49 := Lib.hid ((three_blocks w33 (.slice q13 m14 c15) (.slice q23 m24 c25) (.slice q34 m35 c36)).2.2)
    have H50 := Lib.hid (H39.out.below hA45)
    have H51 := Lib.hid (H40.out.below hA45)
    have H52 := Lib.hid (HN37.out.below hA45)
    have HB53 := Lib.hid (below_step hA45 HB44.out)
    clear H39 H40 HN37 HB44
    clear hA45
    generalize (((w33.alloc (.cells #[.slice q13 m14 c15] 27)).alloc (.cells #[.slice q23 m24 c25] 27)).alloc (.cells #[.slice q34 m35 c36] 27)) = w46 at *
    obtain ⟨hx54, hf55⟩ := HX47.out.cell
    obtain ⟨hx56, hf57⟩ := HX48.out.cell
    obtain ⟨hx58, hf59⟩ := HX49.out.cell
    generalize dnum xsa = x at *
    generalize dnum xsb = y at *
    generalize dnum xsc = z at *
    clear hx54 hf55 hx56 hf57 hx58 hf59
    have hD60 : Below w46.heap.size w46 w46.drew := (by repeat (first | assumption | exact Below.refl _ _ | exact below_beyond _ _ | refine Below.beyond ?_ (by (try simp [size_beyond]) <;> omega) _ | refine Below.drew ?_ | refine Go.Rw.below_drewN ?_ _ | refine Go.Rw.below_setRow ?_ (by (try simp [size_beyond]) <;> omega) _ | refine Below.alloc ?_ (by (try simp [size_beyond]) <;> omega) _ | refine Below.setCell ?_ (by (try simp [size_beyond]) <;> omega) _))
    refine wp_region_treeK (Below w46.heap.size w46) (.one [0, 1, 3, 4] 2 (.one [] 5 (.one [] 6 (.one [7, 8, 9, 10, 12, 13] 11 (.one [] 14 (.one [] 15 (.one [16, 17, 18, 19, 20, 22, 24, 25, 26] 21 (.one [] 23 (.one [] 27 (.one [] 28 (.one [] 29 (.one [30, 31, 32, 33, 34, 36, 38, 39, 40] 35 (.one [] 37 (.one [] 41 (.one [] 42 (.one [] 43 (.last [44, 45]))))))))))))))))) (by kernel_rfl) (by kernel_rfl) (by intro _ _ d _ _ h; cases d <;> exact h) hD60 ?_
    intro OPS62 hOPS62
    generalize w46.drew = w61 at *
    have H63 := Lib.hid (H50.out.below hD60)
    have H64 := Lib.hid (H51.out.below hD60)
    have H65 := Lib.hid (H52.out.below hD60)
    have H66 := Lib.hid (HX47.out.below hD60)
    have H67 := Lib.hid (HX48.out.below hD60)
    have H68 := Lib.hid (HX49.out.below hD60)
    have HB69 := Lib.hid (below_step hD60 HB53.out)
    have HR70 := Lib.hid hD60
    clear hD60
    refine pt_one ?_
    intro K71 hK71
    refine quiet_at (i := 0) ⟨some 29, Op.load 27 (Operand.tmp 7), 27, "law.go:142", #[], none⟩ (by rw [hOPS62]; kernel_rfl) (by rw [hOPS62]; kernel_rfl) ?_
    refine wpQuiet_load_row (by kernel_rfl) 27 (.tmp 7) rfl (w33.heap.size) #[.slice q13 m14 c15] 27 _ rfl (fun w hw => (HX47.out.below hw).blk) Tryd.underlying27 rfl nInfo ?_
    simp only [Act.put, List.setIfInBounds_toArray, List.set_cons_succ, List.set_cons_zero]
    refine quiet_at (i := 1) ⟨some 30, Op.load 27 (Operand.tmp 8), 27, "law.go:142", #[], none⟩ (by rw [hOPS62]; kernel_rfl) (by rw [hOPS62]; kernel_rfl) ?_
    refine wpQuiet_load_row (by kernel_rfl) 27 (.tmp 8) rfl (w33.heap.size + 1) #[.slice q23 m24 c25] 27 _ rfl (fun w hw => (HX48.out.below hw).blk) Tryd.underlying27 rfl nInfo ?_
    simp only [Act.put, List.setIfInBounds_toArray, List.set_cons_succ, List.set_cons_zero]
    refine quiet_at (i := 3) ⟨some 32, Op.load 27 (Operand.tmp 8), 27, "law.go:142", #[], none⟩ (by rw [hOPS62]; kernel_rfl) (by rw [hOPS62]; kernel_rfl) ?_
    refine wpQuiet_load_row (by kernel_rfl) 27 (.tmp 8) rfl (w33.heap.size + 1) #[.slice q23 m24 c25] 27 _ rfl (fun w hw => (HX48.out.below hw).blk) Tryd.underlying27 rfl nInfo ?_
    simp only [Act.put, List.setIfInBounds_toArray, List.set_cons_succ, List.set_cons_zero]
    refine quiet_at (i := 4) ⟨some 33, Op.load 27 (Operand.tmp 7), 27, "law.go:142", #[], none⟩ (by rw [hOPS62]; kernel_rfl) (by rw [hOPS62]; kernel_rfl) ?_
    refine wpQuiet_load_row (by kernel_rfl) 27 (.tmp 7) rfl (w33.heap.size) #[.slice q13 m14 c15] 27 _ rfl (fun w hw => (HX47.out.below hw).blk) Tryd.underlying27 rfl nInfo ?_
    simp only [Act.put, List.setIfInBounds_toArray, List.set_cons_succ, List.set_cons_zero]
    refine quiet_done ?_
    refine event_at (i := 2) ⟨some 31, Op.call { callee := Callee.value (Operand.func 22), args := #[Operand.tmp 29, Operand.tmp 30], argTypes := #[27, 27] }, 27, "law.go:142", #[], none⟩ (by rw [hOPS62]; kernel_rfl) (by rw [hOPS62]; kernel_rfl) ?_
    go_wp2_with (go_at_call 22; refine (Add_calls H63.out H64.out 17 HL17.out HL27.out (by decide)).mono ?_; rintro e w72 ⟨v, rfl, hv, hb⟩)
    obtain ⟨q73, m74, c75, rfl⟩ := hv.shape
    have HN76 := Lib.hid hv
    clear hv
    have HL77 := Lib.hid (show (x + y) < B ^ 18 from add_lt HL17.out HL27.out (by decide) (by decide))
    have HR78 := Lib.hid (Below.trans HR70.out (Below.mono hb HR70.out.size))
    clear HR70
    have H79 := Lib.hid (H63.out.below hb)
    have H80 := Lib.hid (H64.out.below hb)
    have H81 := Lib.hid (H65.out.below hb)
    have H82 := Lib.hid (H66.out.below hb)
    have H83 := Lib.hid (H67.out.below hb)
    have H84 := Lib.hid (H68.out.below hb)
    have HB85 := Lib.hid (below_step hb HB69.out)
    clear H63 H64 H65 H66 H67 H68 HB69
    clear hb
    refine hK71 _ _ HR78.out ?_
    refine pt_one ?_
    intro K86 hK86
    refine quiet_done ?_
    refine event_at (i := 5) ⟨some 34, Op.call { callee := Callee.value (Operand.func 22), args := #[Operand.tmp 32, Operand.tmp 33], argTypes := #[27, 27] }, 27, "law.go:142", #[], none⟩ (by rw [hOPS62]; kernel_rfl) (by rw [hOPS62]; kernel_rfl) ?_
    go_wp2_with (go_at_call 22; refine (Add_calls H80.out H79.out 17 HL27.out HL17.out (by decide)).mono ?_; rintro e w87 ⟨v, rfl, hv, hb⟩)
    obtain ⟨q88, m89, c90, rfl⟩ := hv.shape
    have HN91 := Lib.hid hv
    clear hv
    have HL92 := Lib.hid (show (y + x) < B ^ 18 from add_lt HL27.out HL17.out (by decide) (by decide))
    have HR93 := Lib.hid (Below.trans HR78.out (Below.mono hb HR78.out.size))
    clear HR78
    have H94 := Lib.hid (H79.out.below hb)
    have H95 := Lib.hid (H80.out.below hb)
    have H96 := Lib.hid (H81.out.below hb)
    have H97 := Lib.hid (HN76.out.below hb)
    have H98 := Lib.hid (H82.out.below hb)
    have H99 := Lib.hid (H83.out.below hb)
    have H100 := Lib.hid (H84.out.below hb)
    have HB101 := Lib.hid (below_step hb HB85.out)
    clear H79 H80 H81 HN76 H82 H83 H84 HB85
    clear hb
    refine hK86 _ _ HR93.out ?_
    refine pt_one ?_
    intro K102 hK102
    refine quiet_done ?_
    refine event_at (i := 6) ⟨some 35, Op.call { callee := Callee.value (Operand.func 28), args := #[Operand.tmp 31, Operand.tmp 34], argTypes := #[27, 27] }, 4, "law.go:142", #[], none⟩ (by rw [hOPS62]; kernel_rfl) (by rw [hOPS62]; kernel_rfl) ?_
    go_wp2_with (go_at_call 28; refine (Equal_t H97.out HN91.out (show (x + y) = (y + x) from Nat.add_comm _ _)).mono ?_; rintro e w103 ⟨rfl, hb⟩)
    have HR104 := Lib.hid (Below.trans HR93.out (Below.mono hb HR93.out.size))
    clear HR93
    have H105 := Lib.hid (H94.out.below hb)
    have H106 := Lib.hid (H95.out.below hb)
    have H107 := Lib.hid (H96.out.below hb)
    have H108 := Lib.hid (H98.out.below hb)
    have H109 := Lib.hid (H99.out.below hb)
    have H110 := Lib.hid (H100.out.below hb)
    have HB111 := Lib.hid (below_step hb HB101.out)
    clear H94 H95 H96 H98 H99 H100 HB101
    clear hb
    refine hK102 _ _ HR104.out ?_
    refine pt_one ?_
    intro K112 hK112
    refine quiet_op (i := 7) ⟨some 36, Op.unOp UnOp.not 4 (Operand.tmp 35), 4, "law.go:142", #[], none⟩ (by rw [hOPS62]; kernel_rfl) (by rw [hOPS62]; kernel_rfl) ?_
    intro KQ hKQ; go_big_quiet_op; first | go_big_quiet_on | go_big_quiet_call (exact fun _ => rfl)
    refine quiet_op (i := 8) ⟨some 37, Op.move (Operand.tmp 36), 4, "law.go:142", #[], none⟩ (by rw [hOPS62]; kernel_rfl) (by rw [hOPS62]; kernel_rfl) ?_
    intro KQ hKQ; go_big_quiet_op; first | go_big_quiet_on | go_big_quiet_call (exact fun _ => rfl)
    refine quiet_at (i := 9) ⟨some 38, Op.load 27 (Operand.tmp 7), 27, "law.go:142", #[], none⟩ (by rw [hOPS62]; kernel_rfl) (by rw [hOPS62]; kernel_rfl) ?_
    refine wpQuiet_load_row (by kernel_rfl) 27 (.tmp 7) rfl (w33.heap.size) #[.slice q13 m14 c15] 27 _ rfl (fun w hw => (HX47.out.below hw).blk) Tryd.underlying27 rfl nInfo ?_
    simp only [Act.put, List.setIfInBounds_toArray, List.set_cons_succ, List.set_cons_zero]
    refine quiet_at (i := 10) ⟨some 39, Op.load 27 (Operand.tmp 8), 27, "law.go:142", #[], none⟩ (by rw [hOPS62]; kernel_rfl) (by rw [hOPS62]; kernel_rfl) ?_
    refine wpQuiet_load_row (by kernel_rfl) 27 (.tmp 8) rfl (w33.heap.size + 1) #[.slice q23 m24 c25] 27 _ rfl (fun w hw => (HX48.out.below hw).blk) Tryd.underlying27 rfl nInfo ?_
    simp only [Act.put, List.setIfInBounds_toArray, List.set_cons_succ, List.set_cons_zero]
    refine quiet_at (i := 12) ⟨some 41, Op.load 27 (Operand.tmp 8), 27, "law.go:142", #[], none⟩ (by rw [hOPS62]; kernel_rfl) (by rw [hOPS62]; kernel_rfl) ?_
    refine wpQuiet_load_row (by kernel_rfl) 27 (.tmp 8) rfl (w33.heap.size + 1) #[.slice q23 m24 c25] 27 _ rfl (fun w hw => (HX48.out.below hw).blk) Tryd.underlying27 rfl nInfo ?_
    simp only [Act.put, List.setIfInBounds_toArray, List.set_cons_succ, List.set_cons_zero]
    refine quiet_at (i := 13) ⟨some 42, Op.load 27 (Operand.tmp 7), 27, "law.go:142", #[], none⟩ (by rw [hOPS62]; kernel_rfl) (by rw [hOPS62]; kernel_rfl) ?_
    refine wpQuiet_load_row (by kernel_rfl) 27 (.tmp 7) rfl (w33.heap.size) #[.slice q13 m14 c15] 27 _ rfl (fun w hw => (HX47.out.below hw).blk) Tryd.underlying27 rfl nInfo ?_
    simp only [Act.put, List.setIfInBounds_toArray, List.set_cons_succ, List.set_cons_zero]
    refine quiet_done ?_
    refine event_at (i := 11) ⟨some 40, Op.call { callee := Callee.value (Operand.func 24), args := #[Operand.tmp 38, Operand.tmp 39], argTypes := #[27, 27] }, 27, "law.go:142", #[], none⟩ (by rw [hOPS62]; kernel_rfl) (by rw [hOPS62]; kernel_rfl) ?_
    go_wp2_with (go_at_call 24; refine (Mul_calls H105.out H106.out 17 17 HL17.out HL27.out (by decide)).mono ?_; rintro e w113 ⟨v, rfl, hv, hb⟩)
    obtain ⟨q114, m115, c116, rfl⟩ := hv.shape
    have HN117 := Lib.hid hv
    clear hv
    have HL118 := Lib.hid (show (x * y) < B ^ 34 from mul_lt HL17.out HL27.out (by decide))
    have HR119 := Lib.hid (Below.trans HR104.out (Below.mono hb HR104.out.size))
    clear HR104
    have H120 := Lib.hid (H105.out.below hb)
    have H121 := Lib.hid (H106.out.below hb)
    have H122 := Lib.hid (H107.out.below hb)
    have H123 := Lib.hid (H108.out.below hb)
    have H124 := Lib.hid (H109.out.below hb)
    have H125 := Lib.hid (H110.out.below hb)
    have HB126 := Lib.hid (below_step hb HB111.out)
    clear H105 H106 H107 H108 H109 H110 HB111
    clear hb
    refine hK112 _ _ HR119.out ?_
    refine pt_one ?_
    intro K127 hK127
    refine quiet_done ?_
    refine event_at (i := 14) ⟨some 43, Op.call { callee := Callee.value (Operand.func 24), args := #[Operand.tmp 41, Operand.tmp 42], argTypes := #[27, 27] }, 27, "law.go:142", #[], none⟩ (by rw [hOPS62]; kernel_rfl) (by rw [hOPS62]; kernel_rfl) ?_
    go_wp2_with (go_at_call 24; refine (Mul_calls H121.out H120.out 17 17 HL27.out HL17.out (by decide)).mono ?_; rintro e w128 ⟨v, rfl, hv, hb⟩)
    obtain ⟨q129, m130, c131, rfl⟩ := hv.shape
    have HN132 := Lib.hid hv
    clear hv
    have HL133 := Lib.hid (show (y * x) < B ^ 34 from mul_lt HL27.out HL17.out (by decide))
    have HR134 := Lib.hid (Below.trans HR119.out (Below.mono hb HR119.out.size))
    clear HR119
    have H135 := Lib.hid (H120.out.below hb)
    have H136 := Lib.hid (H121.out.below hb)
    have H137 := Lib.hid (H122.out.below hb)
    have H138 := Lib.hid (HN117.out.below hb)
    have H139 := Lib.hid (H123.out.below hb)
    have H140 := Lib.hid (H124.out.below hb)
    have H141 := Lib.hid (H125.out.below hb)
    have HB142 := Lib.hid (below_step hb HB126.out)
    clear H120 H121 H122 HN117 H123 H124 H125 HB126
    clear hb
    refine hK127 _ _ HR134.out ?_
    refine pt_one ?_
    intro K143 hK143
    refine quiet_done ?_
    refine event_at (i := 15) ⟨some 44, Op.call { callee := Callee.value (Operand.func 28), args := #[Operand.tmp 40, Operand.tmp 43], argTypes := #[27, 27] }, 4, "law.go:142", #[], none⟩ (by rw [hOPS62]; kernel_rfl) (by rw [hOPS62]; kernel_rfl) ?_
    go_wp2_with (go_at_call 28; refine (Equal_t H138.out HN132.out (show (x * y) = (y * x) from Nat.mul_comm _ _)).mono ?_; rintro e w144 ⟨rfl, hb⟩)
    have HR145 := Lib.hid (Below.trans HR134.out (Below.mono hb HR134.out.size))
    clear HR134
    have H146 := Lib.hid (H135.out.below hb)
    have H147 := Lib.hid (H136.out.below hb)
    have H148 := Lib.hid (H137.out.below hb)
    have H149 := Lib.hid (H139.out.below hb)
    have H150 := Lib.hid (H140.out.below hb)
    have H151 := Lib.hid (H141.out.below hb)
    have HB152 := Lib.hid (below_step hb HB142.out)
    clear H135 H136 H137 H139 H140 H141 HB142
    clear hb
    refine hK143 _ _ HR145.out ?_
    refine pt_one ?_
    intro K153 hK153
    refine quiet_op (i := 16) ⟨some 45, Op.unOp UnOp.not 4 (Operand.tmp 44), 4, "law.go:142", #[], none⟩ (by rw [hOPS62]; kernel_rfl) (by rw [hOPS62]; kernel_rfl) ?_
    intro KQ hKQ; go_big_quiet_op; first | go_big_quiet_on | go_big_quiet_call (exact fun _ => rfl)
    refine quiet_op (i := 17) ⟨some 46, Op.pick (Operand.tmp 37) (Operand.const (Value.bool true)) (Operand.tmp 45), 4, "law.go:142", #[], none⟩ (by rw [hOPS62]; kernel_rfl) (by rw [hOPS62]; kernel_rfl) ?_
    intro KQ hKQ; go_big_quiet_op; first | go_big_quiet_on | go_big_quiet_call (exact fun _ => rfl)
    refine quiet_op (i := 18) ⟨some 47, Op.move (Operand.tmp 46), 4, "law.go:142", #[], none⟩ (by rw [hOPS62]; kernel_rfl) (by rw [hOPS62]; kernel_rfl) ?_
    intro KQ hKQ; go_big_quiet_op; first | go_big_quiet_on | go_big_quiet_call (exact fun _ => rfl)
    refine quiet_at (i := 19) ⟨some 48, Op.load 27 (Operand.tmp 7), 27, "law.go:142", #[], none⟩ (by rw [hOPS62]; kernel_rfl) (by rw [hOPS62]; kernel_rfl) ?_
    refine wpQuiet_load_row (by kernel_rfl) 27 (.tmp 7) rfl (w33.heap.size) #[.slice q13 m14 c15] 27 _ rfl (fun w hw => (HX47.out.below hw).blk) Tryd.underlying27 rfl nInfo ?_
    simp only [Act.put, List.setIfInBounds_toArray, List.set_cons_succ, List.set_cons_zero]
    refine quiet_at (i := 20) ⟨some 49, Op.load 27 (Operand.tmp 8), 27, "law.go:142", #[], none⟩ (by rw [hOPS62]; kernel_rfl) (by rw [hOPS62]; kernel_rfl) ?_
    refine wpQuiet_load_row (by kernel_rfl) 27 (.tmp 8) rfl (w33.heap.size + 1) #[.slice q23 m24 c25] 27 _ rfl (fun w hw => (HX48.out.below hw).blk) Tryd.underlying27 rfl nInfo ?_
    simp only [Act.put, List.setIfInBounds_toArray, List.set_cons_succ, List.set_cons_zero]
    refine quiet_at (i := 22) ⟨some 51, Op.load 27 (Operand.tmp 9), 27, "law.go:142", #[], none⟩ (by rw [hOPS62]; kernel_rfl) (by rw [hOPS62]; kernel_rfl) ?_
    refine wpQuiet_load_row (by kernel_rfl) 27 (.tmp 9) rfl (w33.heap.size + 1 + 1) #[.slice q34 m35 c36] 27 _ rfl (fun w hw => (HX49.out.below hw).blk) Tryd.underlying27 rfl nInfo ?_
    simp only [Act.put, List.setIfInBounds_toArray, List.set_cons_succ, List.set_cons_zero]
    refine quiet_at (i := 24) ⟨some 53, Op.load 27 (Operand.tmp 7), 27, "law.go:142", #[], none⟩ (by rw [hOPS62]; kernel_rfl) (by rw [hOPS62]; kernel_rfl) ?_
    refine wpQuiet_load_row (by kernel_rfl) 27 (.tmp 7) rfl (w33.heap.size) #[.slice q13 m14 c15] 27 _ rfl (fun w hw => (HX47.out.below hw).blk) Tryd.underlying27 rfl nInfo ?_
    simp only [Act.put, List.setIfInBounds_toArray, List.set_cons_succ, List.set_cons_zero]
    refine quiet_at (i := 25) ⟨some 54, Op.load 27 (Operand.tmp 8), 27, "law.go:142", #[], none⟩ (by rw [hOPS62]; kernel_rfl) (by rw [hOPS62]; kernel_rfl) ?_
    refine wpQuiet_load_row (by kernel_rfl) 27 (.tmp 8) rfl (w33.heap.size + 1) #[.slice q23 m24 c25] 27 _ rfl (fun w hw => (HX48.out.below hw).blk) Tryd.underlying27 rfl nInfo ?_
    simp only [Act.put, List.setIfInBounds_toArray, List.set_cons_succ, List.set_cons_zero]
    refine quiet_at (i := 26) ⟨some 55, Op.load 27 (Operand.tmp 9), 27, "law.go:142", #[], none⟩ (by rw [hOPS62]; kernel_rfl) (by rw [hOPS62]; kernel_rfl) ?_
    refine wpQuiet_load_row (by kernel_rfl) 27 (.tmp 9) rfl (w33.heap.size + 1 + 1) #[.slice q34 m35 c36] 27 _ rfl (fun w hw => (HX49.out.below hw).blk) Tryd.underlying27 rfl nInfo ?_
    simp only [Act.put, List.setIfInBounds_toArray, List.set_cons_succ, List.set_cons_zero]
    refine quiet_done ?_
    refine event_at (i := 21) ⟨some 50, Op.call { callee := Callee.value (Operand.func 22), args := #[Operand.tmp 48, Operand.tmp 49], argTypes := #[27, 27] }, 27, "law.go:142", #[], none⟩ (by rw [hOPS62]; kernel_rfl) (by rw [hOPS62]; kernel_rfl) ?_
    go_wp2_with (go_at_call 22; refine (Add_calls H146.out H147.out 17 HL17.out HL27.out (by decide)).mono ?_; rintro e w154 ⟨v, rfl, hv, hb⟩)
    obtain ⟨q155, m156, c157, rfl⟩ := hv.shape
    have HN158 := Lib.hid hv
    clear hv
    have HL159 := Lib.hid (show (x + y) < B ^ 18 from add_lt HL17.out HL27.out (by decide) (by decide))
    have HR160 := Lib.hid (Below.trans HR145.out (Below.mono hb HR145.out.size))
    clear HR145
    have H161 := Lib.hid (H146.out.below hb)
    have H162 := Lib.hid (H147.out.below hb)
    have H163 := Lib.hid (H148.out.below hb)
    have H164 := Lib.hid (H149.out.below hb)
    have H165 := Lib.hid (H150.out.below hb)
    have H166 := Lib.hid (H151.out.below hb)
    have HB167 := Lib.hid (below_step hb HB152.out)
    clear H146 H147 H148 H149 H150 H151 HB152
    clear hb
    refine hK153 _ _ HR160.out ?_
    refine pt_one ?_
    intro K168 hK168
    refine quiet_done ?_
    refine event_at (i := 23) ⟨some 52, Op.call { callee := Callee.value (Operand.func 22), args := #[Operand.tmp 50, Operand.tmp 51], argTypes := #[27, 27] }, 27, "law.go:142", #[], none⟩ (by rw [hOPS62]; kernel_rfl) (by rw [hOPS62]; kernel_rfl) ?_
    go_wp2_with (go_at_call 22; refine (Add_calls HN158.out H163.out 18 HL159.out (lt_up HL38.out (by decide)) (by decide)).mono ?_; rintro e w169 ⟨v, rfl, hv, hb⟩)
    obtain ⟨q170, m171, c172, rfl⟩ := hv.shape
    have HN173 := Lib.hid hv
    clear hv
    have HL174 := Lib.hid (show ((x + y) + z) < B ^ 19 from add_lt HL159.out HL38.out (by decide) (by decide))
    have HR175 := Lib.hid (Below.trans HR160.out (Below.mono hb HR160.out.size))
    clear HR160
    have H176 := Lib.hid (H161.out.below hb)
    have H177 := Lib.hid (H162.out.below hb)
    have H178 := Lib.hid (H163.out.below hb)
    have H179 := Lib.hid (H164.out.below hb)
    have H180 := Lib.hid (H165.out.below hb)
    have H181 := Lib.hid (H166.out.below hb)
    have HB182 := Lib.hid (below_step hb HB167.out)
    clear H161 H162 H163 H164 H165 H166 HB167
    clear hb
    refine hK168 _ _ HR175.out ?_
    refine pt_one ?_
    intro K183 hK183
    refine quiet_done ?_
    refine event_at (i := 27) ⟨some 56, Op.call { callee := Callee.value (Operand.func 22), args := #[Operand.tmp 54, Operand.tmp 55], argTypes := #[27, 27] }, 27, "law.go:142", #[], none⟩ (by rw [hOPS62]; kernel_rfl) (by rw [hOPS62]; kernel_rfl) ?_
    go_wp2_with (go_at_call 22; refine (Add_calls H177.out H178.out 17 HL27.out HL38.out (by decide)).mono ?_; rintro e w184 ⟨v, rfl, hv, hb⟩)
    obtain ⟨q185, m186, c187, rfl⟩ := hv.shape
    have HN188 := Lib.hid hv
    clear hv
    have HL189 := Lib.hid (show (y + z) < B ^ 18 from add_lt HL27.out HL38.out (by decide) (by decide))
    have HR190 := Lib.hid (Below.trans HR175.out (Below.mono hb HR175.out.size))
    clear HR175
    have H191 := Lib.hid (H176.out.below hb)
    have H192 := Lib.hid (H177.out.below hb)
    have H193 := Lib.hid (H178.out.below hb)
    have H194 := Lib.hid (HN173.out.below hb)
    have H195 := Lib.hid (H179.out.below hb)
    have H196 := Lib.hid (H180.out.below hb)
    have H197 := Lib.hid (H181.out.below hb)
    have HB198 := Lib.hid (below_step hb HB182.out)
    clear H176 H177 H178 HN173 H179 H180 H181 HB182
    clear hb
    refine hK183 _ _ HR190.out ?_
    refine pt_one ?_
    intro K199 hK199
    refine quiet_done ?_
    refine event_at (i := 28) ⟨some 57, Op.call { callee := Callee.value (Operand.func 22), args := #[Operand.tmp 53, Operand.tmp 56], argTypes := #[27, 27] }, 27, "law.go:142", #[], none⟩ (by rw [hOPS62]; kernel_rfl) (by rw [hOPS62]; kernel_rfl) ?_
    go_wp2_with (go_at_call 22; refine (Add_calls H191.out HN188.out 18 (lt_up HL17.out (by decide)) HL189.out (by decide)).mono ?_; rintro e w200 ⟨v, rfl, hv, hb⟩)
    obtain ⟨q201, m202, c203, rfl⟩ := hv.shape
    have HN204 := Lib.hid hv
    clear hv
    have HL205 := Lib.hid (show (x + (y + z)) < B ^ 19 from add_lt HL17.out HL189.out (by decide) (by decide))
    have HR206 := Lib.hid (Below.trans HR190.out (Below.mono hb HR190.out.size))
    clear HR190
    have H207 := Lib.hid (H191.out.below hb)
    have H208 := Lib.hid (H192.out.below hb)
    have H209 := Lib.hid (H193.out.below hb)
    have H210 := Lib.hid (H194.out.below hb)
    have H211 := Lib.hid (H195.out.below hb)
    have H212 := Lib.hid (H196.out.below hb)
    have H213 := Lib.hid (H197.out.below hb)
    have HB214 := Lib.hid (below_step hb HB198.out)
    clear H191 H192 H193 H194 H195 H196 H197 HB198
    clear hb
    refine hK199 _ _ HR206.out ?_
    refine pt_one ?_
    intro K215 hK215
    refine quiet_done ?_
    refine event_at (i := 29) ⟨some 58, Op.call { callee := Callee.value (Operand.func 28), args := #[Operand.tmp 52, Operand.tmp 57], argTypes := #[27, 27] }, 4, "law.go:142", #[], none⟩ (by rw [hOPS62]; kernel_rfl) (by rw [hOPS62]; kernel_rfl) ?_
    go_wp2_with (go_at_call 28; refine (Equal_t H210.out HN204.out (show ((x + y) + z) = (x + (y + z)) from Nat.add_assoc _ _ _)).mono ?_; rintro e w216 ⟨rfl, hb⟩)
    have HR217 := Lib.hid (Below.trans HR206.out (Below.mono hb HR206.out.size))
    clear HR206
    have H218 := Lib.hid (H207.out.below hb)
    have H219 := Lib.hid (H208.out.below hb)
    have H220 := Lib.hid (H209.out.below hb)
    have H221 := Lib.hid (H211.out.below hb)
    have H222 := Lib.hid (H212.out.below hb)
    have H223 := Lib.hid (H213.out.below hb)
    have HB224 := Lib.hid (below_step hb HB214.out)
    clear H207 H208 H209 H211 H212 H213 HB214
    clear hb
    refine hK215 _ _ HR217.out ?_
    refine pt_one ?_
    intro K225 hK225
    refine quiet_op (i := 30) ⟨some 59, Op.unOp UnOp.not 4 (Operand.tmp 58), 4, "law.go:142", #[], none⟩ (by rw [hOPS62]; kernel_rfl) (by rw [hOPS62]; kernel_rfl) ?_
    intro KQ hKQ; go_big_quiet_op; first | go_big_quiet_on | go_big_quiet_call (exact fun _ => rfl)
    refine quiet_op (i := 31) ⟨some 60, Op.pick (Operand.tmp 47) (Operand.const (Value.bool true)) (Operand.tmp 59), 4, "law.go:142", #[], none⟩ (by rw [hOPS62]; kernel_rfl) (by rw [hOPS62]; kernel_rfl) ?_
    intro KQ hKQ; go_big_quiet_op; first | go_big_quiet_on | go_big_quiet_call (exact fun _ => rfl)
    refine quiet_op (i := 32) ⟨some 61, Op.move (Operand.tmp 60), 4, "law.go:142", #[], none⟩ (by rw [hOPS62]; kernel_rfl) (by rw [hOPS62]; kernel_rfl) ?_
    intro KQ hKQ; go_big_quiet_op; first | go_big_quiet_on | go_big_quiet_call (exact fun _ => rfl)
    refine quiet_at (i := 33) ⟨some 62, Op.load 27 (Operand.tmp 7), 27, "law.go:142", #[], none⟩ (by rw [hOPS62]; kernel_rfl) (by rw [hOPS62]; kernel_rfl) ?_
    refine wpQuiet_load_row (by kernel_rfl) 27 (.tmp 7) rfl (w33.heap.size) #[.slice q13 m14 c15] 27 _ rfl (fun w hw => (HX47.out.below hw).blk) Tryd.underlying27 rfl nInfo ?_
    simp only [Act.put, List.setIfInBounds_toArray, List.set_cons_succ, List.set_cons_zero]
    refine quiet_at (i := 34) ⟨some 63, Op.load 27 (Operand.tmp 8), 27, "law.go:142", #[], none⟩ (by rw [hOPS62]; kernel_rfl) (by rw [hOPS62]; kernel_rfl) ?_
    refine wpQuiet_load_row (by kernel_rfl) 27 (.tmp 8) rfl (w33.heap.size + 1) #[.slice q23 m24 c25] 27 _ rfl (fun w hw => (HX48.out.below hw).blk) Tryd.underlying27 rfl nInfo ?_
    simp only [Act.put, List.setIfInBounds_toArray, List.set_cons_succ, List.set_cons_zero]
    refine quiet_at (i := 36) ⟨some 65, Op.load 27 (Operand.tmp 9), 27, "law.go:142", #[], none⟩ (by rw [hOPS62]; kernel_rfl) (by rw [hOPS62]; kernel_rfl) ?_
    refine wpQuiet_load_row (by kernel_rfl) 27 (.tmp 9) rfl (w33.heap.size + 1 + 1) #[.slice q34 m35 c36] 27 _ rfl (fun w hw => (HX49.out.below hw).blk) Tryd.underlying27 rfl nInfo ?_
    simp only [Act.put, List.setIfInBounds_toArray, List.set_cons_succ, List.set_cons_zero]
    refine quiet_at (i := 38) ⟨some 67, Op.load 27 (Operand.tmp 7), 27, "law.go:142", #[], none⟩ (by rw [hOPS62]; kernel_rfl) (by rw [hOPS62]; kernel_rfl) ?_
    refine wpQuiet_load_row (by kernel_rfl) 27 (.tmp 7) rfl (w33.heap.size) #[.slice q13 m14 c15] 27 _ rfl (fun w hw => (HX47.out.below hw).blk) Tryd.underlying27 rfl nInfo ?_
    simp only [Act.put, List.setIfInBounds_toArray, List.set_cons_succ, List.set_cons_zero]
    refine quiet_at (i := 39) ⟨some 68, Op.load 27 (Operand.tmp 8), 27, "law.go:142", #[], none⟩ (by rw [hOPS62]; kernel_rfl) (by rw [hOPS62]; kernel_rfl) ?_
    refine wpQuiet_load_row (by kernel_rfl) 27 (.tmp 8) rfl (w33.heap.size + 1) #[.slice q23 m24 c25] 27 _ rfl (fun w hw => (HX48.out.below hw).blk) Tryd.underlying27 rfl nInfo ?_
    simp only [Act.put, List.setIfInBounds_toArray, List.set_cons_succ, List.set_cons_zero]
    refine quiet_at (i := 40) ⟨some 69, Op.load 27 (Operand.tmp 9), 27, "law.go:142", #[], none⟩ (by rw [hOPS62]; kernel_rfl) (by rw [hOPS62]; kernel_rfl) ?_
    refine wpQuiet_load_row (by kernel_rfl) 27 (.tmp 9) rfl (w33.heap.size + 1 + 1) #[.slice q34 m35 c36] 27 _ rfl (fun w hw => (HX49.out.below hw).blk) Tryd.underlying27 rfl nInfo ?_
    simp only [Act.put, List.setIfInBounds_toArray, List.set_cons_succ, List.set_cons_zero]
    refine quiet_done ?_
    refine event_at (i := 35) ⟨some 64, Op.call { callee := Callee.value (Operand.func 24), args := #[Operand.tmp 62, Operand.tmp 63], argTypes := #[27, 27] }, 27, "law.go:142", #[], none⟩ (by rw [hOPS62]; kernel_rfl) (by rw [hOPS62]; kernel_rfl) ?_
    go_wp2_with (go_at_call 24; refine (Mul_calls H218.out H219.out 17 17 HL17.out HL27.out (by decide)).mono ?_; rintro e w226 ⟨v, rfl, hv, hb⟩)
    obtain ⟨q227, m228, c229, rfl⟩ := hv.shape
    have HN230 := Lib.hid hv
    clear hv
    have HL231 := Lib.hid (show (x * y) < B ^ 34 from mul_lt HL17.out HL27.out (by decide))
    have HR232 := Lib.hid (Below.trans HR217.out (Below.mono hb HR217.out.size))
    clear HR217
    have H233 := Lib.hid (H218.out.below hb)
    have H234 := Lib.hid (H219.out.below hb)
    have H235 := Lib.hid (H220.out.below hb)
    have H236 := Lib.hid (H221.out.below hb)
    have H237 := Lib.hid (H222.out.below hb)
    have H238 := Lib.hid (H223.out.below hb)
    have HB239 := Lib.hid (below_step hb HB224.out)
    clear H218 H219 H220 H221 H222 H223 HB224
    clear hb
    refine hK225 _ _ HR232.out ?_
    refine pt_one ?_
    intro K240 hK240
    refine quiet_done ?_
    refine event_at (i := 37) ⟨some 66, Op.call { callee := Callee.value (Operand.func 24), args := #[Operand.tmp 64, Operand.tmp 65], argTypes := #[27, 27] }, 27, "law.go:142", #[], none⟩ (by rw [hOPS62]; kernel_rfl) (by rw [hOPS62]; kernel_rfl) ?_
    go_wp2_with (go_at_call 24; refine (Mul_calls HN230.out H235.out 34 17 HL231.out HL38.out (by decide)).mono ?_; rintro e w241 ⟨v, rfl, hv, hb⟩)
    obtain ⟨q242, m243, c244, rfl⟩ := hv.shape
    have HN245 := Lib.hid hv
    clear hv
    have HL246 := Lib.hid (show ((x * y) * z) < B ^ 51 from mul_lt HL231.out HL38.out (by decide))
    have HR247 := Lib.hid (Below.trans HR232.out (Below.mono hb HR232.out.size))
    clear HR232
    have H248 := Lib.hid (H233.out.below hb)
    have H249 := Lib.hid (H234.out.below hb)
    have H250 := Lib.hid (H235.out.below hb)
    have H251 := Lib.hid (H236.out.below hb)
    have H252 := Lib.hid (H237.out.below hb)
    have H253 := Lib.hid (H238.out.below hb)
    have HB254 := Lib.hid (below_step hb HB239.out)
    clear H233 H234 H235 H236 H237 H238 HB239
    clear hb
    refine hK240 _ _ HR247.out ?_
    refine pt_one ?_
    intro K255 hK255
    refine quiet_done ?_
    refine event_at (i := 41) ⟨some 70, Op.call { callee := Callee.value (Operand.func 24), args := #[Operand.tmp 68, Operand.tmp 69], argTypes := #[27, 27] }, 27, "law.go:142", #[], none⟩ (by rw [hOPS62]; kernel_rfl) (by rw [hOPS62]; kernel_rfl) ?_
    go_wp2_with (go_at_call 24; refine (Mul_calls H249.out H250.out 17 17 HL27.out HL38.out (by decide)).mono ?_; rintro e w256 ⟨v, rfl, hv, hb⟩)
    obtain ⟨q257, m258, c259, rfl⟩ := hv.shape
    have HN260 := Lib.hid hv
    clear hv
    have HL261 := Lib.hid (show (y * z) < B ^ 34 from mul_lt HL27.out HL38.out (by decide))
    have HR262 := Lib.hid (Below.trans HR247.out (Below.mono hb HR247.out.size))
    clear HR247
    have H263 := Lib.hid (H248.out.below hb)
    have H264 := Lib.hid (H249.out.below hb)
    have H265 := Lib.hid (H250.out.below hb)
    have H266 := Lib.hid (HN245.out.below hb)
    have H267 := Lib.hid (H251.out.below hb)
    have H268 := Lib.hid (H252.out.below hb)
    have H269 := Lib.hid (H253.out.below hb)
    have HB270 := Lib.hid (below_step hb HB254.out)
    clear H248 H249 H250 HN245 H251 H252 H253 HB254
    clear hb
    refine hK255 _ _ HR262.out ?_
    refine pt_one ?_
    intro K271 hK271
    refine quiet_done ?_
    refine event_at (i := 42) ⟨some 71, Op.call { callee := Callee.value (Operand.func 24), args := #[Operand.tmp 67, Operand.tmp 70], argTypes := #[27, 27] }, 27, "law.go:142", #[], none⟩ (by rw [hOPS62]; kernel_rfl) (by rw [hOPS62]; kernel_rfl) ?_
    go_wp2_with (go_at_call 24; refine (Mul_calls H263.out HN260.out 17 34 HL17.out HL261.out (by decide)).mono ?_; rintro e w272 ⟨v, rfl, hv, hb⟩)
    obtain ⟨q273, m274, c275, rfl⟩ := hv.shape
    have HN276 := Lib.hid hv
    clear hv
    have HL277 := Lib.hid (show (x * (y * z)) < B ^ 51 from mul_lt HL17.out HL261.out (by decide))
    have HR278 := Lib.hid (Below.trans HR262.out (Below.mono hb HR262.out.size))
    clear HR262
    have H279 := Lib.hid (H263.out.below hb)
    have H280 := Lib.hid (H264.out.below hb)
    have H281 := Lib.hid (H265.out.below hb)
    have H282 := Lib.hid (H266.out.below hb)
    have H283 := Lib.hid (H267.out.below hb)
    have H284 := Lib.hid (H268.out.below hb)
    have H285 := Lib.hid (H269.out.below hb)
    have HB286 := Lib.hid (below_step hb HB270.out)
    clear H263 H264 H265 H266 H267 H268 H269 HB270
    clear hb
    refine hK271 _ _ HR278.out ?_
    refine pt_one ?_
    intro K287 hK287
    refine quiet_done ?_
    refine event_at (i := 43) ⟨some 72, Op.call { callee := Callee.value (Operand.func 28), args := #[Operand.tmp 66, Operand.tmp 71], argTypes := #[27, 27] }, 4, "law.go:142", #[], none⟩ (by rw [hOPS62]; kernel_rfl) (by rw [hOPS62]; kernel_rfl) ?_
    go_wp2_with (go_at_call 28; refine (Equal_t H282.out HN276.out (show ((x * y) * z) = (x * (y * z)) from Nat.mul_assoc _ _ _)).mono ?_; rintro e w288 ⟨rfl, hb⟩)
    have HR289 := Lib.hid (Below.trans HR278.out (Below.mono hb HR278.out.size))
    clear HR278
    have H290 := Lib.hid (H279.out.below hb)
    have H291 := Lib.hid (H280.out.below hb)
    have H292 := Lib.hid (H281.out.below hb)
    have H293 := Lib.hid (H283.out.below hb)
    have H294 := Lib.hid (H284.out.below hb)
    have H295 := Lib.hid (H285.out.below hb)
    have HB296 := Lib.hid (below_step hb HB286.out)
    clear H279 H280 H281 H283 H284 H285 HB286
    clear hb
    refine hK287 _ _ HR289.out ?_
    refine pt_last ?_
    refine quiet_op (i := 44) ⟨some 73, Op.unOp UnOp.not 4 (Operand.tmp 72), 4, "law.go:142", #[], none⟩ (by rw [hOPS62]; kernel_rfl) (by rw [hOPS62]; kernel_rfl) ?_
    intro KQ hKQ; go_big_quiet_op; first | go_big_quiet_on | go_big_quiet_call (exact fun _ => rfl)
    refine quiet_op (i := 45) ⟨some 74, Op.pick (Operand.tmp 61) (Operand.const (Value.bool true)) (Operand.tmp 73), 4, "law.go:142", #[], none⟩ (by rw [hOPS62]; kernel_rfl) (by rw [hOPS62]; kernel_rfl) ?_
    intro KQ hKQ; go_big_quiet_op; first | go_big_quiet_on | go_big_quiet_call (exact fun _ => rfl)
    refine quiet_done ?_
    clear H50 H51 H52 HX47 HX48 HX49 HB53 HR289
    obtain ⟨hx297, hf298⟩ := H293.out.cell
    obtain ⟨hx299, hf300⟩ := H294.out.cell
    obtain ⟨hx301, hf302⟩ := H295.out.cell
    clear hx297 hf298 hx299 hf300 hx301 hf302
    go_wp2
    have hD303 : Below w288.heap.size w288 w288.drew := (by repeat (first | assumption | exact Below.refl _ _ | exact below_beyond _ _ | refine Below.beyond ?_ (by (try simp [size_beyond]) <;> omega) _ | refine Below.drew ?_ | refine Go.Rw.below_drewN ?_ _ | refine Go.Rw.below_setRow ?_ (by (try simp [size_beyond]) <;> omega) _ | refine Below.alloc ?_ (by (try simp [size_beyond]) <;> omega) _ | refine Below.setCell ?_ (by (try simp [size_beyond]) <;> omega) _))
    refine wp_region_treeK (Below w288.heap.size w288) (.one [0, 1, 2, 5, 6, 8, 9] 3 (.one [] 4 (.one [] 7 (.one [] 10 (.one [] 11 (.one [] 12 (.one [13, 14, 15, 16, 18] 17 (.one [] 19 (.one [20, 21, 22, 23, 26] 24 (.one [] 25 (.one [] 27 (.one [28, 29, 30, 31, 32] 33 (.one [] 34 (.last [35, 36])))))))))))))) (by kernel_rfl) (by kernel_rfl) (by intro _ _ d _ _ h; cases d <;> exact h) hD303 ?_
    intro OPS305 hOPS305
    generalize w288.drew = w304 at *
    have H306 := Lib.hid (H290.out.below hD303)
    have H307 := Lib.hid (H291.out.below hD303)
    have H308 := Lib.hid (H292.out.below hD303)
    have H309 := Lib.hid (H293.out.below hD303)
    have H310 := Lib.hid (H294.out.below hD303)
    have H311 := Lib.hid (H295.out.below hD303)
    have HB312 := Lib.hid (below_step hD303 HB296.out)
    have HR313 := Lib.hid hD303
    clear hD303
    refine pt_one ?_
    intro K314 hK314
    refine quiet_at (i := 0) ⟨some 75, Op.load 27 (Operand.tmp 7), 27, "law.go:145", #[], none⟩ (by rw [hOPS305]; kernel_rfl) (by rw [hOPS305]; kernel_rfl) ?_
    refine wpQuiet_load_row (by kernel_rfl) 27 (.tmp 7) rfl (w33.heap.size) #[.slice q13 m14 c15] 27 _ rfl (fun w hw => (H293.out.below hw).blk) Tryd.underlying27 rfl nInfo ?_
    simp only [Act.put, List.setIfInBounds_toArray, List.set_cons_succ, List.set_cons_zero]
    refine quiet_at (i := 1) ⟨some 76, Op.load 27 (Operand.tmp 8), 27, "law.go:145", #[], none⟩ (by rw [hOPS305]; kernel_rfl) (by rw [hOPS305]; kernel_rfl) ?_
    refine wpQuiet_load_row (by kernel_rfl) 27 (.tmp 8) rfl (w33.heap.size + 1) #[.slice q23 m24 c25] 27 _ rfl (fun w hw => (H294.out.below hw).blk) Tryd.underlying27 rfl nInfo ?_
    simp only [Act.put, List.setIfInBounds_toArray, List.set_cons_succ, List.set_cons_zero]
    refine quiet_at (i := 2) ⟨some 77, Op.load 27 (Operand.tmp 9), 27, "law.go:145", #[], none⟩ (by rw [hOPS305]; kernel_rfl) (by rw [hOPS305]; kernel_rfl) ?_
    refine wpQuiet_load_row (by kernel_rfl) 27 (.tmp 9) rfl (w33.heap.size + 1 + 1) #[.slice q34 m35 c36] 27 _ rfl (fun w hw => (H295.out.below hw).blk) Tryd.underlying27 rfl nInfo ?_
    simp only [Act.put, List.setIfInBounds_toArray, List.set_cons_succ, List.set_cons_zero]
    refine quiet_at (i := 5) ⟨some 80, Op.load 27 (Operand.tmp 7), 27, "law.go:145", #[], none⟩ (by rw [hOPS305]; kernel_rfl) (by rw [hOPS305]; kernel_rfl) ?_
    refine wpQuiet_load_row (by kernel_rfl) 27 (.tmp 7) rfl (w33.heap.size) #[.slice q13 m14 c15] 27 _ rfl (fun w hw => (H293.out.below hw).blk) Tryd.underlying27 rfl nInfo ?_
    simp only [Act.put, List.setIfInBounds_toArray, List.set_cons_succ, List.set_cons_zero]
    refine quiet_at (i := 6) ⟨some 81, Op.load 27 (Operand.tmp 8), 27, "law.go:145", #[], none⟩ (by rw [hOPS305]; kernel_rfl) (by rw [hOPS305]; kernel_rfl) ?_
    refine wpQuiet_load_row (by kernel_rfl) 27 (.tmp 8) rfl (w33.heap.size + 1) #[.slice q23 m24 c25] 27 _ rfl (fun w hw => (H294.out.below hw).blk) Tryd.underlying27 rfl nInfo ?_
    simp only [Act.put, List.setIfInBounds_toArray, List.set_cons_succ, List.set_cons_zero]
    refine quiet_at (i := 8) ⟨some 83, Op.load 27 (Operand.tmp 7), 27, "law.go:145", #[], none⟩ (by rw [hOPS305]; kernel_rfl) (by rw [hOPS305]; kernel_rfl) ?_
    refine wpQuiet_load_row (by kernel_rfl) 27 (.tmp 7) rfl (w33.heap.size) #[.slice q13 m14 c15] 27 _ rfl (fun w hw => (H293.out.below hw).blk) Tryd.underlying27 rfl nInfo ?_
    simp only [Act.put, List.setIfInBounds_toArray, List.set_cons_succ, List.set_cons_zero]
    refine quiet_at (i := 9) ⟨some 84, Op.load 27 (Operand.tmp 9), 27, "law.go:145", #[], none⟩ (by rw [hOPS305]; kernel_rfl) (by rw [hOPS305]; kernel_rfl) ?_
    refine wpQuiet_load_row (by kernel_rfl) 27 (.tmp 9) rfl (w33.heap.size + 1 + 1) #[.slice q34 m35 c36] 27 _ rfl (fun w hw => (H295.out.below hw).blk) Tryd.underlying27 rfl nInfo ?_
    simp only [Act.put, List.setIfInBounds_toArray, List.set_cons_succ, List.set_cons_zero]
    refine quiet_done ?_
    refine event_at (i := 3) ⟨some 78, Op.call { callee := Callee.value (Operand.func 22), args := #[Operand.tmp 76, Operand.tmp 77], argTypes := #[27, 27] }, 27, "law.go:145", #[], none⟩ (by rw [hOPS305]; kernel_rfl) (by rw [hOPS305]; kernel_rfl) ?_
    go_wp2_with (go_at_call 22; refine (Add_calls H307.out H308.out 17 HL27.out HL38.out (by decide)).mono ?_; rintro e w315 ⟨v, rfl, hv, hb⟩)
    obtain ⟨q316, m317, c318, rfl⟩ := hv.shape
    have HN319 := Lib.hid hv
    clear hv
    have HL320 := Lib.hid (show (y + z) < B ^ 18 from add_lt HL27.out HL38.out (by decide) (by decide))
    have HR321 := Lib.hid (Below.trans HR313.out (Below.mono hb HR313.out.size))
    clear HR313
    have H322 := Lib.hid (H306.out.below hb)
    have H323 := Lib.hid (H307.out.below hb)
    have H324 := Lib.hid (H308.out.below hb)
    have H325 := Lib.hid (H309.out.below hb)
    have H326 := Lib.hid (H310.out.below hb)
    have H327 := Lib.hid (H311.out.below hb)
    have HB328 := Lib.hid (below_step hb HB312.out)
    clear H306 H307 H308 H309 H310 H311 HB312
    clear hb
    refine hK314 _ _ HR321.out ?_
    refine pt_one ?_
    intro K329 hK329
    refine quiet_done ?_
    refine event_at (i := 4) ⟨some 79, Op.call { callee := Callee.value (Operand.func 24), args := #[Operand.tmp 75, Operand.tmp 78], argTypes := #[27, 27] }, 27, "law.go:145", #[], none⟩ (by rw [hOPS305]; kernel_rfl) (by rw [hOPS305]; kernel_rfl) ?_
    go_wp2_with (go_at_call 24; refine (Mul_calls H322.out HN319.out 17 18 HL17.out HL320.out (by decide)).mono ?_; rintro e w330 ⟨v, rfl, hv, hb⟩)
    obtain ⟨q331, m332, c333, rfl⟩ := hv.shape
    have HN334 := Lib.hid hv
    clear hv
    have HL335 := Lib.hid (show (x * (y + z)) < B ^ 35 from mul_lt HL17.out HL320.out (by decide))
    have HR336 := Lib.hid (Below.trans HR321.out (Below.mono hb HR321.out.size))
    clear HR321
    have H337 := Lib.hid (H322.out.below hb)
    have H338 := Lib.hid (H323.out.below hb)
    have H339 := Lib.hid (H324.out.below hb)
    have H340 := Lib.hid (H325.out.below hb)
    have H341 := Lib.hid (H326.out.below hb)
    have H342 := Lib.hid (H327.out.below hb)
    have HB343 := Lib.hid (below_step hb HB328.out)
    clear H322 H323 H324 H325 H326 H327 HB328
    clear hb
    refine hK329 _ _ HR336.out ?_
    refine pt_one ?_
    intro K344 hK344
    refine quiet_done ?_
    refine event_at (i := 7) ⟨some 82, Op.call { callee := Callee.value (Operand.func 24), args := #[Operand.tmp 80, Operand.tmp 81], argTypes := #[27, 27] }, 27, "law.go:145", #[], none⟩ (by rw [hOPS305]; kernel_rfl) (by rw [hOPS305]; kernel_rfl) ?_
    go_wp2_with (go_at_call 24; refine (Mul_calls H337.out H338.out 17 17 HL17.out HL27.out (by decide)).mono ?_; rintro e w345 ⟨v, rfl, hv, hb⟩)
    obtain ⟨q346, m347, c348, rfl⟩ := hv.shape
    have HN349 := Lib.hid hv
    clear hv
    have HL350 := Lib.hid (show (x * y) < B ^ 34 from mul_lt HL17.out HL27.out (by decide))
    have HR351 := Lib.hid (Below.trans HR336.out (Below.mono hb HR336.out.size))
    clear HR336
    have H352 := Lib.hid (H337.out.below hb)
    have H353 := Lib.hid (H338.out.below hb)
    have H354 := Lib.hid (H339.out.below hb)
    have H355 := Lib.hid (HN334.out.below hb)
    have H356 := Lib.hid (H340.out.below hb)
    have H357 := Lib.hid (H341.out.below hb)
    have H358 := Lib.hid (H342.out.below hb)
    have HB359 := Lib.hid (below_step hb HB343.out)
    clear H337 H338 H339 HN334 H340 H341 H342 HB343
    clear hb
    refine hK344 _ _ HR351.out ?_
    refine pt_one ?_
    intro K360 hK360
    refine quiet_done ?_
    refine event_at (i := 10) ⟨some 85, Op.call { callee := Callee.value (Operand.func 24), args := #[Operand.tmp 83, Operand.tmp 84], argTypes := #[27, 27] }, 27, "law.go:145", #[], none⟩ (by rw [hOPS305]; kernel_rfl) (by rw [hOPS305]; kernel_rfl) ?_
    go_wp2_with (go_at_call 24; refine (Mul_calls H352.out H354.out 17 17 HL17.out HL38.out (by decide)).mono ?_; rintro e w361 ⟨v, rfl, hv, hb⟩)
    obtain ⟨q362, m363, c364, rfl⟩ := hv.shape
    have HN365 := Lib.hid hv
    clear hv
    have HL366 := Lib.hid (show (x * z) < B ^ 34 from mul_lt HL17.out HL38.out (by decide))
    have HR367 := Lib.hid (Below.trans HR351.out (Below.mono hb HR351.out.size))
    clear HR351
    have H368 := Lib.hid (H352.out.below hb)
    have H369 := Lib.hid (H353.out.below hb)
    have H370 := Lib.hid (H354.out.below hb)
    have H371 := Lib.hid (H355.out.below hb)
    have H372 := Lib.hid (HN349.out.below hb)
    have H373 := Lib.hid (H356.out.below hb)
    have H374 := Lib.hid (H357.out.below hb)
    have H375 := Lib.hid (H358.out.below hb)
    have HB376 := Lib.hid (below_step hb HB359.out)
    clear H352 H353 H354 H355 HN349 H356 H357 H358 HB359
    clear hb
    refine hK360 _ _ HR367.out ?_
    refine pt_one ?_
    intro K377 hK377
    refine quiet_done ?_
    refine event_at (i := 11) ⟨some 86, Op.call { callee := Callee.value (Operand.func 22), args := #[Operand.tmp 82, Operand.tmp 85], argTypes := #[27, 27] }, 27, "law.go:145", #[], none⟩ (by rw [hOPS305]; kernel_rfl) (by rw [hOPS305]; kernel_rfl) ?_
    go_wp2_with (go_at_call 22; refine (Add_calls H372.out HN365.out 34 HL350.out HL366.out (by decide)).mono ?_; rintro e w378 ⟨v, rfl, hv, hb⟩)
    obtain ⟨q379, m380, c381, rfl⟩ := hv.shape
    have HN382 := Lib.hid hv
    clear hv
    have HL383 := Lib.hid (show ((x * y) + (x * z)) < B ^ 35 from add_lt HL350.out HL366.out (by decide) (by decide))
    have HR384 := Lib.hid (Below.trans HR367.out (Below.mono hb HR367.out.size))
    clear HR367
    have H385 := Lib.hid (H368.out.below hb)
    have H386 := Lib.hid (H369.out.below hb)
    have H387 := Lib.hid (H370.out.below hb)
    have H388 := Lib.hid (H371.out.below hb)
    have H389 := Lib.hid (H373.out.below hb)
    have H390 := Lib.hid (H374.out.below hb)
    have H391 := Lib.hid (H375.out.below hb)
    have HB392 := Lib.hid (below_step hb HB376.out)
    clear H368 H369 H370 H371 H373 H374 H375 HB376
    clear hb
    refine hK377 _ _ HR384.out ?_
    refine pt_one ?_
    intro K393 hK393
    refine quiet_done ?_
    refine event_at (i := 12) ⟨some 87, Op.call { callee := Callee.value (Operand.func 28), args := #[Operand.tmp 79, Operand.tmp 86], argTypes := #[27, 27] }, 4, "law.go:145", #[], none⟩ (by rw [hOPS305]; kernel_rfl) (by rw [hOPS305]; kernel_rfl) ?_
    go_wp2_with (go_at_call 28; refine (Equal_t H388.out HN382.out (show (x * (y + z)) = ((x * y) + (x * z)) from Nat.mul_add _ _ _)).mono ?_; rintro e w394 ⟨rfl, hb⟩)
    have HR395 := Lib.hid (Below.trans HR384.out (Below.mono hb HR384.out.size))
    clear HR384
    have H396 := Lib.hid (H385.out.below hb)
    have H397 := Lib.hid (H386.out.below hb)
    have H398 := Lib.hid (H387.out.below hb)
    have H399 := Lib.hid (H389.out.below hb)
    have H400 := Lib.hid (H390.out.below hb)
    have H401 := Lib.hid (H391.out.below hb)
    have HB402 := Lib.hid (below_step hb HB392.out)
    clear H385 H386 H387 H389 H390 H391 HB392
    clear hb
    refine hK393 _ _ HR395.out ?_
    refine pt_one ?_
    intro K403 hK403
    refine quiet_op (i := 13) ⟨some 88, Op.unOp UnOp.not 4 (Operand.tmp 87), 4, "law.go:145", #[], none⟩ (by rw [hOPS305]; kernel_rfl) (by rw [hOPS305]; kernel_rfl) ?_
    intro KQ hKQ; go_big_quiet_op; first | go_big_quiet_on | go_big_quiet_call (exact fun _ => rfl)
    refine quiet_op (i := 14) ⟨some 89, Op.move (Operand.tmp 88), 4, "law.go:145", #[], none⟩ (by rw [hOPS305]; kernel_rfl) (by rw [hOPS305]; kernel_rfl) ?_
    intro KQ hKQ; go_big_quiet_op; first | go_big_quiet_on | go_big_quiet_call (exact fun _ => rfl)
    refine quiet_at (i := 15) ⟨some 90, Op.load 27 (Operand.tmp 7), 27, "law.go:145", #[], none⟩ (by rw [hOPS305]; kernel_rfl) (by rw [hOPS305]; kernel_rfl) ?_
    refine wpQuiet_load_row (by kernel_rfl) 27 (.tmp 7) rfl (w33.heap.size) #[.slice q13 m14 c15] 27 _ rfl (fun w hw => (H293.out.below hw).blk) Tryd.underlying27 rfl nInfo ?_
    simp only [Act.put, List.setIfInBounds_toArray, List.set_cons_succ, List.set_cons_zero]
    refine quiet_op (i := 16) ⟨some 91, Op.build 27 #[], 27, "law.go:145", #[], none⟩ (by rw [hOPS305]; kernel_rfl) (by rw [hOPS305]; kernel_rfl) ?_
    intro KQ hKQ; go_big_quiet_op; first | go_big_quiet_on | go_big_quiet_call (exact fun _ => rfl)
    refine quiet_at (i := 18) ⟨some 93, Op.load 27 (Operand.tmp 7), 27, "law.go:145", #[], none⟩ (by rw [hOPS305]; kernel_rfl) (by rw [hOPS305]; kernel_rfl) ?_
    refine wpQuiet_load_row (by kernel_rfl) 27 (.tmp 7) rfl (w33.heap.size) #[.slice q13 m14 c15] 27 _ rfl (fun w hw => (H293.out.below hw).blk) Tryd.underlying27 rfl nInfo ?_
    simp only [Act.put, List.setIfInBounds_toArray, List.set_cons_succ, List.set_cons_zero]
    refine quiet_done ?_
    refine event_at (i := 17) ⟨some 92, Op.call { callee := Callee.value (Operand.func 22), args := #[Operand.tmp 90, Operand.tmp 91], argTypes := #[27, 27] }, 27, "law.go:145", #[], none⟩ (by rw [hOPS305]; kernel_rfl) (by rw [hOPS305]; kernel_rfl) ?_
    have HN404 := Lib.hid (nat_zero w394)
    have HL405 := Lib.hid (show 0 < B ^ 1 from by decide)
    go_wp2_with (go_at_call 22; refine (Add_calls H396.out HN404.out 17 HL17.out (lt_up HL405.out (by decide)) (by decide)).mono ?_; rintro e w406 ⟨v, rfl, hv, hb⟩)
    obtain ⟨q407, m408, c409, rfl⟩ := hv.shape
    have HN410 := Lib.hid hv
    clear hv
    have HL411 := Lib.hid (show (x + 0) < B ^ 18 from add_lt HL17.out HL405.out (by decide) (by decide))
    have HR412 := Lib.hid (Below.trans HR395.out (Below.mono hb HR395.out.size))
    clear HR395
    have H413 := Lib.hid (H396.out.below hb)
    have H414 := Lib.hid (H397.out.below hb)
    have H415 := Lib.hid (H398.out.below hb)
    have H416 := Lib.hid (H399.out.below hb)
    have H417 := Lib.hid (H400.out.below hb)
    have H418 := Lib.hid (H401.out.below hb)
    have HB419 := Lib.hid (below_step hb HB402.out)
    clear H396 H397 H398 H399 H400 H401 HB402
    clear hb
    refine hK403 _ _ HR412.out ?_
    refine pt_one ?_
    intro K420 hK420
    refine quiet_done ?_
    refine event_at (i := 19) ⟨some 94, Op.call { callee := Callee.value (Operand.func 28), args := #[Operand.tmp 92, Operand.tmp 93], argTypes := #[27, 27] }, 4, "law.go:145", #[], none⟩ (by rw [hOPS305]; kernel_rfl) (by rw [hOPS305]; kernel_rfl) ?_
    go_wp2_with (go_at_call 28; refine (Equal_t HN410.out H413.out (show (x + 0) = x from Nat.add_zero _)).mono ?_; rintro e w421 ⟨rfl, hb⟩)
    have HR422 := Lib.hid (Below.trans HR412.out (Below.mono hb HR412.out.size))
    clear HR412
    have H423 := Lib.hid (H413.out.below hb)
    have H424 := Lib.hid (H414.out.below hb)
    have H425 := Lib.hid (H415.out.below hb)
    have H426 := Lib.hid (H416.out.below hb)
    have H427 := Lib.hid (H417.out.below hb)
    have H428 := Lib.hid (H418.out.below hb)
    have HB429 := Lib.hid (below_step hb HB419.out)
    clear H413 H414 H415 H416 H417 H418 HB419
    clear hb
    refine hK420 _ _ HR422.out ?_
    refine pt_one ?_
    intro K430 hK430
    refine quiet_op (i := 20) ⟨some 95, Op.unOp UnOp.not 4 (Operand.tmp 94), 4, "law.go:145", #[], none⟩ (by rw [hOPS305]; kernel_rfl) (by rw [hOPS305]; kernel_rfl) ?_
    intro KQ hKQ; go_big_quiet_op; first | go_big_quiet_on | go_big_quiet_call (exact fun _ => rfl)
    refine quiet_op (i := 21) ⟨some 96, Op.pick (Operand.tmp 89) (Operand.const (Value.bool true)) (Operand.tmp 95), 4, "law.go:145", #[], none⟩ (by rw [hOPS305]; kernel_rfl) (by rw [hOPS305]; kernel_rfl) ?_
    intro KQ hKQ; go_big_quiet_op; first | go_big_quiet_on | go_big_quiet_call (exact fun _ => rfl)
    refine quiet_op (i := 22) ⟨some 97, Op.move (Operand.tmp 96), 4, "law.go:145", #[], none⟩ (by rw [hOPS305]; kernel_rfl) (by rw [hOPS305]; kernel_rfl) ?_
    intro KQ hKQ; go_big_quiet_op; first | go_big_quiet_on | go_big_quiet_call (exact fun _ => rfl)
    refine quiet_at (i := 23) ⟨some 98, Op.load 27 (Operand.tmp 7), 27, "law.go:145", #[], none⟩ (by rw [hOPS305]; kernel_rfl) (by rw [hOPS305]; kernel_rfl) ?_
    refine wpQuiet_load_row (by kernel_rfl) 27 (.tmp 7) rfl (w33.heap.size) #[.slice q13 m14 c15] 27 _ rfl (fun w hw => (H293.out.below hw).blk) Tryd.underlying27 rfl nInfo ?_
    simp only [Act.put, List.setIfInBounds_toArray, List.set_cons_succ, List.set_cons_zero]
    refine quiet_at (i := 26) ⟨some 101, Op.load 27 (Operand.tmp 7), 27, "law.go:145", #[], none⟩ (by rw [hOPS305]; kernel_rfl) (by rw [hOPS305]; kernel_rfl) ?_
    refine wpQuiet_load_row (by kernel_rfl) 27 (.tmp 7) rfl (w33.heap.size) #[.slice q13 m14 c15] 27 _ rfl (fun w hw => (H293.out.below hw).blk) Tryd.underlying27 rfl nInfo ?_
    simp only [Act.put, List.setIfInBounds_toArray, List.set_cons_succ, List.set_cons_zero]
    refine quiet_done ?_
    refine event_at (i := 24) ⟨some 99, Op.call { callee := Callee.value (Operand.func 42), args := #[Operand.const (Value.int IntKind.u64 1)], argTypes := #[53] }, 27, "law.go:145", #[], none⟩ (by rw [hOPS305]; kernel_rfl) (by rw [hOPS305]; kernel_rfl) ?_
    go_wp2_with (go_at_call 42; refine (from_calls 1 (by decide) _).mono ?_; rintro e w431 ⟨v, rfl, hv, hb⟩)
    obtain ⟨q432, m433, c434, rfl⟩ := hv.shape
    have HN435 := Lib.hid hv
    clear hv
    have HL436 := Lib.hid (show 1 < B ^ 2 from by decide)
    have HR437 := Lib.hid (Below.trans HR422.out (Below.mono hb HR422.out.size))
    clear HR422
    have H438 := Lib.hid (H423.out.below hb)
    have H439 := Lib.hid (H424.out.below hb)
    have H440 := Lib.hid (H425.out.below hb)
    have H441 := Lib.hid (H426.out.below hb)
    have H442 := Lib.hid (H427.out.below hb)
    have H443 := Lib.hid (H428.out.below hb)
    have HB444 := Lib.hid (below_step hb HB429.out)
    clear H423 H424 H425 H426 H427 H428 HB429
    clear hb
    refine hK430 _ _ HR437.out ?_
    refine pt_one ?_
    intro K445 hK445
    refine quiet_done ?_
    refine event_at (i := 25) ⟨some 100, Op.call { callee := Callee.value (Operand.func 24), args := #[Operand.tmp 98, Operand.tmp 99], argTypes := #[27, 27] }, 27, "law.go:145", #[], none⟩ (by rw [hOPS305]; kernel_rfl) (by rw [hOPS305]; kernel_rfl) ?_
    go_wp2_with (go_at_call 24; refine (Mul_calls H438.out HN435.out 17 2 HL17.out HL436.out (by decide)).mono ?_; rintro e w446 ⟨v, rfl, hv, hb⟩)
    obtain ⟨q447, m448, c449, rfl⟩ := hv.shape
    have HN450 := Lib.hid hv
    clear hv
    have HL451 := Lib.hid (show (x * 1) < B ^ 19 from mul_lt HL17.out HL436.out (by decide))
    have HR452 := Lib.hid (Below.trans HR437.out (Below.mono hb HR437.out.size))
    clear HR437
    have H453 := Lib.hid (H438.out.below hb)
    have H454 := Lib.hid (H439.out.below hb)
    have H455 := Lib.hid (H440.out.below hb)
    have H456 := Lib.hid (H441.out.below hb)
    have H457 := Lib.hid (H442.out.below hb)
    have H458 := Lib.hid (H443.out.below hb)
    have HB459 := Lib.hid (below_step hb HB444.out)
    clear H438 H439 H440 H441 H442 H443 HB444
    clear hb
    refine hK445 _ _ HR452.out ?_
    refine pt_one ?_
    intro K460 hK460
    refine quiet_done ?_
    refine event_at (i := 27) ⟨some 102, Op.call { callee := Callee.value (Operand.func 28), args := #[Operand.tmp 100, Operand.tmp 101], argTypes := #[27, 27] }, 4, "law.go:145", #[], none⟩ (by rw [hOPS305]; kernel_rfl) (by rw [hOPS305]; kernel_rfl) ?_
    go_wp2_with (go_at_call 28; refine (Equal_t HN450.out H453.out (show (x * 1) = x from Nat.mul_one _)).mono ?_; rintro e w461 ⟨rfl, hb⟩)
    have HR462 := Lib.hid (Below.trans HR452.out (Below.mono hb HR452.out.size))
    clear HR452
    have H463 := Lib.hid (H453.out.below hb)
    have H464 := Lib.hid (H454.out.below hb)
    have H465 := Lib.hid (H455.out.below hb)
    have H466 := Lib.hid (H456.out.below hb)
    have H467 := Lib.hid (H457.out.below hb)
    have H468 := Lib.hid (H458.out.below hb)
    have HB469 := Lib.hid (below_step hb HB459.out)
    clear H453 H454 H455 H456 H457 H458 HB459
    clear hb
    refine hK460 _ _ HR462.out ?_
    refine pt_one ?_
    intro K470 hK470
    refine quiet_op (i := 28) ⟨some 103, Op.unOp UnOp.not 4 (Operand.tmp 102), 4, "law.go:145", #[], none⟩ (by rw [hOPS305]; kernel_rfl) (by rw [hOPS305]; kernel_rfl) ?_
    intro KQ hKQ; go_big_quiet_op; first | go_big_quiet_on | go_big_quiet_call (exact fun _ => rfl)
    refine quiet_op (i := 29) ⟨some 104, Op.pick (Operand.tmp 97) (Operand.const (Value.bool true)) (Operand.tmp 103), 4, "law.go:145", #[], none⟩ (by rw [hOPS305]; kernel_rfl) (by rw [hOPS305]; kernel_rfl) ?_
    intro KQ hKQ; go_big_quiet_op; first | go_big_quiet_on | go_big_quiet_call (exact fun _ => rfl)
    refine quiet_op (i := 30) ⟨some 105, Op.move (Operand.tmp 104), 4, "law.go:145", #[], none⟩ (by rw [hOPS305]; kernel_rfl) (by rw [hOPS305]; kernel_rfl) ?_
    intro KQ hKQ; go_big_quiet_op; first | go_big_quiet_on | go_big_quiet_call (exact fun _ => rfl)
    refine quiet_at (i := 31) ⟨some 106, Op.load 27 (Operand.tmp 7), 27, "law.go:145", #[], none⟩ (by rw [hOPS305]; kernel_rfl) (by rw [hOPS305]; kernel_rfl) ?_
    refine wpQuiet_load_row (by kernel_rfl) 27 (.tmp 7) rfl (w33.heap.size) #[.slice q13 m14 c15] 27 _ rfl (fun w hw => (H293.out.below hw).blk) Tryd.underlying27 rfl nInfo ?_
    simp only [Act.put, List.setIfInBounds_toArray, List.set_cons_succ, List.set_cons_zero]
    refine quiet_op (i := 32) ⟨some 107, Op.build 27 #[], 27, "law.go:145", #[], none⟩ (by rw [hOPS305]; kernel_rfl) (by rw [hOPS305]; kernel_rfl) ?_
    intro KQ hKQ; go_big_quiet_op; first | go_big_quiet_on | go_big_quiet_call (exact fun _ => rfl)
    refine quiet_done ?_
    refine event_at (i := 33) ⟨some 108, Op.call { callee := Callee.value (Operand.func 24), args := #[Operand.tmp 106, Operand.tmp 107], argTypes := #[27, 27] }, 27, "law.go:145", #[], none⟩ (by rw [hOPS305]; kernel_rfl) (by rw [hOPS305]; kernel_rfl) ?_
    have HN471 := Lib.hid (nat_zero w461)
    have HL472 := Lib.hid (show 0 < B ^ 1 from by decide)
    go_wp2_with (go_at_call 24; refine (Mul_calls H463.out HN471.out 17 1 HL17.out HL472.out (by decide)).mono ?_; rintro e w473 ⟨v, rfl, hv, hb⟩)
    obtain ⟨q474, m475, c476, rfl⟩ := hv.shape
    have HN477 := Lib.hid hv
    clear hv
    have HL478 := Lib.hid (show (x * 0) < B ^ 18 from mul_lt HL17.out HL472.out (by decide))
    have HR479 := Lib.hid (Below.trans HR462.out (Below.mono hb HR462.out.size))
    clear HR462
    have H480 := Lib.hid (H463.out.below hb)
    have H481 := Lib.hid (H464.out.below hb)
    have H482 := Lib.hid (H465.out.below hb)
    have H483 := Lib.hid (H466.out.below hb)
    have H484 := Lib.hid (H467.out.below hb)
    have H485 := Lib.hid (H468.out.below hb)
    have HB486 := Lib.hid (below_step hb HB469.out)
    clear H463 H464 H465 H466 H467 H468 HB469
    clear hb
    refine hK470 _ _ HR479.out ?_
    refine pt_one ?_
    intro K487 hK487
    refine quiet_done ?_
    refine event_at (i := 34) ⟨some 109, Op.call { callee := Callee.value (Operand.func 21), args := #[Operand.tmp 108], argTypes := #[27] }, 4, "law.go:145", #[], none⟩ (by rw [hOPS305]; kernel_rfl) (by rw [hOPS305]; kernel_rfl) ?_
    go_wp2_with (go_at_call 21; refine (IsZero_t HN477.out (show (x * 0) = 0 from Nat.mul_zero _)).mono ?_; rintro e w488 ⟨rfl, hb⟩)
    have HR489 := Lib.hid (Below.trans HR479.out (Below.mono hb HR479.out.size))
    clear HR479
    have H490 := Lib.hid (H480.out.below hb)
    have H491 := Lib.hid (H481.out.below hb)
    have H492 := Lib.hid (H482.out.below hb)
    have H493 := Lib.hid (H483.out.below hb)
    have H494 := Lib.hid (H484.out.below hb)
    have H495 := Lib.hid (H485.out.below hb)
    have HB496 := Lib.hid (below_step hb HB486.out)
    clear H480 H481 H482 H483 H484 H485 HB486
    clear hb
    refine hK487 _ _ HR489.out ?_
    refine pt_last ?_
    refine quiet_op (i := 35) ⟨some 110, Op.unOp UnOp.not 4 (Operand.tmp 109), 4, "law.go:145", #[], none⟩ (by rw [hOPS305]; kernel_rfl) (by rw [hOPS305]; kernel_rfl) ?_
    intro KQ hKQ; go_big_quiet_op; first | go_big_quiet_on | go_big_quiet_call (exact fun _ => rfl)
    refine quiet_op (i := 36) ⟨some 111, Op.pick (Operand.tmp 105) (Operand.const (Value.bool true)) (Operand.tmp 110), 4, "law.go:145", #[], none⟩ (by rw [hOPS305]; kernel_rfl) (by rw [hOPS305]; kernel_rfl) ?_
    intro KQ hKQ; go_big_quiet_op; first | go_big_quiet_on | go_big_quiet_call (exact fun _ => rfl)
    refine quiet_done ?_
    clear H290 H291 H292 H293 H294 H295 HB296 HR489
    obtain ⟨hx497, hf498⟩ := H493.out.cell
    obtain ⟨hx499, hf500⟩ := H494.out.cell
    obtain ⟨hx501, hf502⟩ := H495.out.cell
    clear hx497 hf498 hx499 hf500 hx501 hf502
    go_upto_region 8 with (fail)
    go_cut [10, 11] from 112 to 119 (fun s10 s11 wx => ∃ (g : Nat) (q : Option Addr) (m c : Nat), s10 = .pointer (some ⟨g, 0, none⟩) ∧ s11 = .int .i64 0 ∧ Hid (Below w488.heap.size w488 wx ∧ NB g (.slice q m c) wx ∧ NatAt (.agg #[.slice q m c]) (x + y - y) wx))
    case first =>
      have hD508 : Below w488.heap.size w488 w488.drew := (by repeat (first | assumption | exact Below.refl _ _ | exact below_beyond _ _ | refine Below.beyond ?_ (by (try simp [size_beyond]) <;> omega) _ | refine Below.drew ?_ | refine Go.Rw.below_drewN ?_ _ | refine Go.Rw.below_setRow ?_ (by (try simp [size_beyond]) <;> omega) _ | refine Below.alloc ?_ (by (try simp [size_beyond]) <;> omega) _ | refine Below.setCell ?_ (by (try simp [size_beyond]) <;> omega) _))
      refine wp_region_treeK (Below w488.heap.size w488) (.two [0, 1, 3] 2 (.two [] 4 (.one [5, 6, 7] 8 (.one [] 9 (.last [10]))) 8 (.one [] 4 (.one [5, 6, 7] 9 (.last [10])))) 8 (.one [] 2 (.one [] 4 (.one [5, 6, 7] 9 (.last [10]))))) (by kernel_rfl) (by kernel_rfl) (by intro _ _ d _ _ h; cases d <;> exact h) hD508 ?_
      intro OPS510 hOPS510
      generalize w488.drew = w509 at *
      have H511 := Lib.hid (H490.out.below hD508)
      have H512 := Lib.hid (H491.out.below hD508)
      have H513 := Lib.hid (H492.out.below hD508)
      have H514 := Lib.hid (H493.out.below hD508)
      have H515 := Lib.hid (H494.out.below hD508)
      have H516 := Lib.hid (H495.out.below hD508)
      have HB517 := Lib.hid (below_step hD508 HB496.out)
      have HR518 := Lib.hid hD508
      clear hD508
      refine pt_two ?_
      intro K519 K520 hK519 hK520
      refine quiet_at (i := 0) ⟨some 113, Op.load 27 (Operand.tmp 7), 27, "law.go:148", #[], none⟩ (by rw [hOPS510]; kernel_rfl) (by rw [hOPS510]; kernel_rfl) ?_
      refine wpQuiet_load_row (by kernel_rfl) 27 (.tmp 7) rfl (w33.heap.size) #[.slice q13 m14 c15] 27 _ rfl (fun w hw => (H493.out.below hw).blk) Tryd.underlying27 rfl nInfo ?_
      simp only [Act.put, List.setIfInBounds_toArray, List.set_cons_succ, List.set_cons_zero]
      refine quiet_at (i := 1) ⟨some 114, Op.load 27 (Operand.tmp 8), 27, "law.go:148", #[], none⟩ (by rw [hOPS510]; kernel_rfl) (by rw [hOPS510]; kernel_rfl) ?_
      refine wpQuiet_load_row (by kernel_rfl) 27 (.tmp 8) rfl (w33.heap.size + 1) #[.slice q23 m24 c25] 27 _ rfl (fun w hw => (H494.out.below hw).blk) Tryd.underlying27 rfl nInfo ?_
      simp only [Act.put, List.setIfInBounds_toArray, List.set_cons_succ, List.set_cons_zero]
      refine quiet_at (i := 3) ⟨some 116, Op.load 27 (Operand.tmp 8), 27, "law.go:148", #[], none⟩ (by rw [hOPS510]; kernel_rfl) (by rw [hOPS510]; kernel_rfl) ?_
      refine wpQuiet_load_row (by kernel_rfl) 27 (.tmp 8) rfl (w33.heap.size + 1) #[.slice q23 m24 c25] 27 _ rfl (fun w hw => (H494.out.below hw).blk) Tryd.underlying27 rfl nInfo ?_
      simp only [Act.put, List.setIfInBounds_toArray, List.set_cons_succ, List.set_cons_zero]
      refine quiet_done ⟨?_, ?_⟩
      · refine event_at (i := 2) ⟨some 115, Op.call { callee := Callee.value (Operand.func 22), args := #[Operand.tmp 113, Operand.tmp 114], argTypes := #[27, 27] }, 27, "law.go:148", #[], none⟩ (by rw [hOPS510]; kernel_rfl) (by rw [hOPS510]; kernel_rfl) ?_
        go_wp2_with (go_at_call 22; refine (Add_calls H511.out H512.out 17 HL17.out HL27.out (by decide)).mono ?_; rintro e w521 ⟨v, rfl, hv, hb⟩)
        obtain ⟨q522, m523, c524, rfl⟩ := hv.shape
        have HN525 := Lib.hid hv
        clear hv
        have HL526 := Lib.hid (show (x + y) < B ^ 18 from add_lt HL17.out HL27.out (by decide) (by decide))
        have HR527 := Lib.hid (Below.trans HR518.out (Below.mono hb HR518.out.size))
        clear HR518
        have H528 := Lib.hid (H511.out.below hb)
        have H529 := Lib.hid (H512.out.below hb)
        have H530 := Lib.hid (H513.out.below hb)
        have H531 := Lib.hid (H514.out.below hb)
        have H532 := Lib.hid (H515.out.below hb)
        have H533 := Lib.hid (H516.out.below hb)
        have HB534 := Lib.hid (below_step hb HB517.out)
        clear H511 H512 H513 H514 H515 H516 HB517
        clear hb
        refine hK519 _ _ HR527.out ?_
        refine pt_two ?_
        intro K535 K536 hK535 hK536
        refine quiet_done ⟨?_, ?_⟩
        · refine event_at (i := 4) ⟨some 117, Op.call { callee := Callee.value (Operand.func 16), args := #[Operand.tmp 115, Operand.tmp 116], argTypes := #[27, 27] }, 33, "law.go:148", #[], none⟩ (by rw [hOPS510]; kernel_rfl) (by rw [hOPS510]; kernel_rfl) ?_
          go_wp2_with (go_at_call 16; refine (Sub_calls HN525.out H529.out 18 HL526.out (lt_up HL27.out (by decide)) (by decide) (Nat.le_add_left _ _)).mono ?_; rintro e w537 ⟨v, rfl, hv, hb⟩)
          obtain ⟨q538, m539, c540, rfl⟩ := hv.shape
          have HN541 := Lib.hid hv
          clear hv
          have HL542 := Lib.hid (show ((x + y) - y) < B ^ 18 from sub_lt HL526.out)
          have HR543 := Lib.hid (Below.trans HR527.out (Below.mono hb HR527.out.size))
          clear HR527
          have H544 := Lib.hid (H528.out.below hb)
          have H545 := Lib.hid (H529.out.below hb)
          have H546 := Lib.hid (H530.out.below hb)
          have H547 := Lib.hid (H531.out.below hb)
          have H548 := Lib.hid (H532.out.below hb)
          have H549 := Lib.hid (H533.out.below hb)
          have HB550 := Lib.hid (below_step hb HB534.out)
          clear H528 H529 H530 H531 H532 H533 HB534
          clear hb
          refine hK535 _ _ HR543.out ?_
          refine pt_one ?_
          intro K551 hK551
          refine quiet_op (i := 5) ⟨some 112, Op.move (Operand.tmp 117), 33, "law.go:148", #[], none⟩ (by rw [hOPS510]; kernel_rfl) (by rw [hOPS510]; kernel_rfl) ?_
          intro KQ hKQ; go_big_quiet_op; first | go_big_quiet_on | go_big_quiet_call (exact fun _ => rfl)
          refine quiet_op (i := 6) ⟨some 118, Op.extract (Operand.tmp 112) 0, 27, "law.go:148", #[], none⟩ (by rw [hOPS510]; kernel_rfl) (by rw [hOPS510]; kernel_rfl) ?_
          intro KQ hKQ; go_big_quiet_op; first | go_big_quiet_on | go_big_quiet_call (exact fun _ => rfl)
          refine quiet_op (i := 7) ⟨some 119, Op.extract (Operand.tmp 112) 1, 32, "law.go:148", #[], none⟩ (by rw [hOPS510]; kernel_rfl) (by rw [hOPS510]; kernel_rfl) ?_
          intro KQ hKQ; go_big_quiet_op; first | go_big_quiet_on | go_big_quiet_call (exact fun _ => rfl)
          refine quiet_done ?_
          refine event_at (i := 8) ⟨some 10, Op.alloc 27, 0, "law.go:148", #[], none⟩ (by rw [hOPS510]; kernel_rfl) (by rw [hOPS510]; kernel_rfl) ?_
          have hA553 : Below w537.heap.size w537 (w537.alloc (.cells #[.slice none 0 0] 27)) := (by repeat (first | assumption | exact Below.refl _ _ | exact below_beyond _ _ | refine Below.beyond ?_ (by (try simp [size_beyond]) <;> omega) _ | refine Below.drew ?_ | refine Go.Rw.below_drewN ?_ _ | refine Go.Rw.below_setRow ?_ (by (try simp [size_beyond]) <;> omega) _ | refine Below.alloc ?_ (by (try simp [size_beyond]) <;> omega) _ | refine Below.setCell ?_ (by (try simp [size_beyond]) <;> omega) _))
          have HX555 := Lib.hid (NB.new w537 (.slice none 0 0))
          have hlt556 := H547.out.lt
          have hlt557 := H548.out.lt
          have hlt558 := H549.out.lt
          have hge559 := HR543.out.size
          have hge560 := HB550.out.size
          go_wp2
          have HR561 := Lib.hid (Below.trans HR543.out (Below.mono hA553 HR543.out.size))
          have H562 := Lib.hid (H544.out.below hA553)
          have H563 := Lib.hid (H545.out.below hA553)
          have H564 := Lib.hid (H546.out.below hA553)
          have H565 := Lib.hid (HN541.out.below hA553)
          have H566 := Lib.hid (H547.out.below hA553)
          have H567 := Lib.hid (H548.out.below hA553)
          have H568 := Lib.hid (H549.out.below hA553)
          have HB569 := Lib.hid (below_step hA553 HB550.out)
          clear H544 H545 H546 HN541 H547 H548 H549 HB550
          clear hA553
          generalize (w537.alloc (.cells #[.slice none 0 0] 27)) = w552 at *
          generalize w537.heap.size = g554 at *
          refine hK551 _ _ HR561.out ?_
          refine pt_one ?_
          intro K570 hK570
          refine quiet_done ?_
          refine event_at (i := 9) ⟨none, Op.store 27 (Operand.tmp 10) (Operand.tmp 118), 0, "law.go:148", #[], none⟩ (by rw [hOPS510]; kernel_rfl) (by rw [hOPS510]; kernel_rfl) ?_
          obtain ⟨hx571, hf572⟩ := HX555.out.cell
          go_wp2
          obtain ⟨w573, hw574, L575, L576, L577, L578⟩ := laid1 HR561.out HX555.out (by omega) q538 m539 c540
          rw [hw574]
          clear hw574 hx571 hf572
          have H579 := Lib.hid (H490.out.below L576)
          have H580 := Lib.hid (H491.out.below L576)
          have H581 := Lib.hid (H492.out.below L576)
          have H582 := Lib.hid (L577 _ _ H565.out)
          have H583 := Lib.hid (H493.out.below L576)
          have H584 := Lib.hid (H494.out.below L576)
          have H585 := Lib.hid (H495.out.below L576)
          have H586 := Lib.hid L575
          have HB587 := Lib.hid (below_step L576 HB496.out)
          have HR588 := Lib.hid L576
          clear H562 H563 H564 H565 H566 H567 H568 HX555 HB569 HR561
          clear L575 L576 L577 L578
          refine hK570 _ _ HR588.out ?_
          refine pt_last ?_
          refine quiet_op (i := 10) ⟨some 11, Op.assign (Operand.tmp 119), 32, "law.go:148", #[], none⟩ (by rw [hOPS510]; kernel_rfl) (by rw [hOPS510]; kernel_rfl) ?_
          intro KQ hKQ; go_big_quiet_op; first | go_big_quiet_on | go_big_quiet_call (exact fun _ => rfl)
          refine quiet_done ?_
          go_wp2
          go_meet
          exact ⟨_, _, _, _, rfl, rfl, Lib.hid ⟨HR588.out, H586.out, H582.out⟩⟩
        · refine event_at (i := 8) ⟨some 10, Op.alloc 27, 0, "law.go:148", #[], none⟩ (by rw [hOPS510]; kernel_rfl) (by rw [hOPS510]; kernel_rfl) ?_
          have hA590 : Below w521.heap.size w521 (w521.alloc (.cells #[.slice none 0 0] 27)) := (by repeat (first | assumption | exact Below.refl _ _ | exact below_beyond _ _ | refine Below.beyond ?_ (by (try simp [size_beyond]) <;> omega) _ | refine Below.drew ?_ | refine Go.Rw.below_drewN ?_ _ | refine Go.Rw.below_setRow ?_ (by (try simp [size_beyond]) <;> omega) _ | refine Below.alloc ?_ (by (try simp [size_beyond]) <;> omega) _ | refine Below.setCell ?_ (by (try simp [size_beyond]) <;> omega) _))
          have HX592 := Lib.hid (NB.new w521 (.slice none 0 0))
          have hlt593 := H531.out.lt
          have hlt594 := H532.out.lt
          have hlt595 := H533.out.lt
          have hge596 := HR527.out.size
          have hge597 := HB534.out.size
          go_wp2
          have HR598 := Lib.hid (Below.trans HR527.out (Below.mono hA590 HR527.out.size))
          have H599 := Lib.hid (H528.out.below hA590)
          have H600 := Lib.hid (H529.out.below hA590)
          have H601 := Lib.hid (H530.out.below hA590)
          have H602 := Lib.hid (HN525.out.below hA590)
          have H603 := Lib.hid (H531.out.below hA590)
          have H604 := Lib.hid (H532.out.below hA590)
          have H605 := Lib.hid (H533.out.below hA590)
          have HB606 := Lib.hid (below_step hA590 HB534.out)
          clear H528 H529 H530 HN525 H531 H532 H533 HB534
          clear hA590
          generalize (w521.alloc (.cells #[.slice none 0 0] 27)) = w589 at *
          generalize w521.heap.size = g591 at *
          refine hK536 _ _ HR598.out ?_
          refine pt_one ?_
          intro K607 hK607
          refine quiet_done ?_
          refine event_at (i := 4) ⟨some 117, Op.call { callee := Callee.value (Operand.func 16), args := #[Operand.tmp 115, Operand.tmp 116], argTypes := #[27, 27] }, 33, "law.go:148", #[], none⟩ (by rw [hOPS510]; kernel_rfl) (by rw [hOPS510]; kernel_rfl) ?_
          go_wp2_with (go_at_call 16; refine (Sub_calls H602.out H600.out 18 HL526.out (lt_up HL27.out (by decide)) (by decide) (Nat.le_add_left _ _)).mono ?_; rintro e w608 ⟨v, rfl, hv, hb⟩)
          obtain ⟨q609, m610, c611, rfl⟩ := hv.shape
          have HN612 := Lib.hid hv
          clear hv
          have HL613 := Lib.hid (show ((x + y) - y) < B ^ 18 from sub_lt HL526.out)
          have HR614 := Lib.hid (Below.trans HR598.out (Below.mono hb HR598.out.size))
          clear HR598
          have H615 := Lib.hid (H599.out.below hb)
          have H616 := Lib.hid (H600.out.below hb)
          have H617 := Lib.hid (H601.out.below hb)
          have H618 := Lib.hid (H603.out.below hb)
          have H619 := Lib.hid (H604.out.below hb)
          have H620 := Lib.hid (H605.out.below hb)
          have H621 := Lib.hid (HX592.out.below hb)
          have HB622 := Lib.hid (below_step hb HB606.out)
          clear H599 H600 H601 H603 H604 H605 HX592 HB606
          clear hb
          refine hK607 _ _ HR614.out ?_
          refine pt_one ?_
          intro K623 hK623
          refine quiet_op (i := 5) ⟨some 112, Op.move (Operand.tmp 117), 33, "law.go:148", #[], none⟩ (by rw [hOPS510]; kernel_rfl) (by rw [hOPS510]; kernel_rfl) ?_
          intro KQ hKQ; go_big_quiet_op; first | go_big_quiet_on | go_big_quiet_call (exact fun _ => rfl)
          refine quiet_op (i := 6) ⟨some 118, Op.extract (Operand.tmp 112) 0, 27, "law.go:148", #[], none⟩ (by rw [hOPS510]; kernel_rfl) (by rw [hOPS510]; kernel_rfl) ?_
          intro KQ hKQ; go_big_quiet_op; first | go_big_quiet_on | go_big_quiet_call (exact fun _ => rfl)
          refine quiet_op (i := 7) ⟨some 119, Op.extract (Operand.tmp 112) 1, 32, "law.go:148", #[], none⟩ (by rw [hOPS510]; kernel_rfl) (by rw [hOPS510]; kernel_rfl) ?_
          intro KQ hKQ; go_big_quiet_op; first | go_big_quiet_on | go_big_quiet_call (exact fun _ => rfl)
          refine quiet_done ?_
          refine event_at (i := 9) ⟨none, Op.store 27 (Operand.tmp 10) (Operand.tmp 118), 0, "law.go:148", #[], none⟩ (by rw [hOPS510]; kernel_rfl) (by rw [hOPS510]; kernel_rfl) ?_
          obtain ⟨hx624, hf625⟩ := H621.out.cell
          go_wp2
          obtain ⟨w626, hw627, L628, L629, L630, L631⟩ := laid1 HR614.out H621.out (by omega) q609 m610 c611
          rw [hw627]
          clear hw627 hx624 hf625
          have H632 := Lib.hid (H490.out.below L629)
          have H633 := Lib.hid (H491.out.below L629)
          have H634 := Lib.hid (H492.out.below L629)
          have H635 := Lib.hid (L630 _ _ HN612.out)
          have H636 := Lib.hid (H493.out.below L629)
          have H637 := Lib.hid (H494.out.below L629)
          have H638 := Lib.hid (H495.out.below L629)
          have H639 := Lib.hid L628
          have HB640 := Lib.hid (below_step L629 HB496.out)
          have HR641 := Lib.hid L629
          clear H615 H616 H617 HN612 H618 H619 H620 H621 HB622 HR614
          clear L628 L629 L630 L631
          refine hK623 _ _ HR641.out ?_
          refine pt_last ?_
          refine quiet_op (i := 10) ⟨some 11, Op.assign (Operand.tmp 119), 32, "law.go:148", #[], none⟩ (by rw [hOPS510]; kernel_rfl) (by rw [hOPS510]; kernel_rfl) ?_
          intro KQ hKQ; go_big_quiet_op; first | go_big_quiet_on | go_big_quiet_call (exact fun _ => rfl)
          refine quiet_done ?_
          go_wp2
          go_meet
          exact ⟨_, _, _, _, rfl, rfl, Lib.hid ⟨HR641.out, H639.out, H635.out⟩⟩
      · refine event_at (i := 8) ⟨some 10, Op.alloc 27, 0, "law.go:148", #[], none⟩ (by rw [hOPS510]; kernel_rfl) (by rw [hOPS510]; kernel_rfl) ?_
        have hA643 : Below w509.heap.size w509 (w509.alloc (.cells #[.slice none 0 0] 27)) := (by repeat (first | assumption | exact Below.refl _ _ | exact below_beyond _ _ | refine Below.beyond ?_ (by (try simp [size_beyond]) <;> omega) _ | refine Below.drew ?_ | refine Go.Rw.below_drewN ?_ _ | refine Go.Rw.below_setRow ?_ (by (try simp [size_beyond]) <;> omega) _ | refine Below.alloc ?_ (by (try simp [size_beyond]) <;> omega) _ | refine Below.setCell ?_ (by (try simp [size_beyond]) <;> omega) _))
        have HX645 := Lib.hid (NB.new w509 (.slice none 0 0))
        have hlt646 := H514.out.lt
        have hlt647 := H515.out.lt
        have hlt648 := H516.out.lt
        have hge649 := HR518.out.size
        have hge650 := HB517.out.size
        go_wp2
        have HR651 := Lib.hid (Below.trans HR518.out (Below.mono hA643 HR518.out.size))
        have H652 := Lib.hid (H511.out.below hA643)
        have H653 := Lib.hid (H512.out.below hA643)
        have H654 := Lib.hid (H513.out.below hA643)
        have H655 := Lib.hid (H514.out.below hA643)
        have H656 := Lib.hid (H515.out.below hA643)
        have H657 := Lib.hid (H516.out.below hA643)
        have HB658 := Lib.hid (below_step hA643 HB517.out)
        clear H511 H512 H513 H514 H515 H516 HB517
        clear hA643
        generalize (w509.alloc (.cells #[.slice none 0 0] 27)) = w642 at *
        generalize w509.heap.size = g644 at *
        refine hK520 _ _ HR651.out ?_
        refine pt_one ?_
        intro K659 hK659
        refine quiet_done ?_
        refine event_at (i := 2) ⟨some 115, Op.call { callee := Callee.value (Operand.func 22), args := #[Operand.tmp 113, Operand.tmp 114], argTypes := #[27, 27] }, 27, "law.go:148", #[], none⟩ (by rw [hOPS510]; kernel_rfl) (by rw [hOPS510]; kernel_rfl) ?_
        go_wp2_with (go_at_call 22; refine (Add_calls H652.out H653.out 17 HL17.out HL27.out (by decide)).mono ?_; rintro e w660 ⟨v, rfl, hv, hb⟩)
        obtain ⟨q661, m662, c663, rfl⟩ := hv.shape
        have HN664 := Lib.hid hv
        clear hv
        have HL665 := Lib.hid (show (x + y) < B ^ 18 from add_lt HL17.out HL27.out (by decide) (by decide))
        have HR666 := Lib.hid (Below.trans HR651.out (Below.mono hb HR651.out.size))
        clear HR651
        have H667 := Lib.hid (H652.out.below hb)
        have H668 := Lib.hid (H653.out.below hb)
        have H669 := Lib.hid (H654.out.below hb)
        have H670 := Lib.hid (H655.out.below hb)
        have H671 := Lib.hid (H656.out.below hb)
        have H672 := Lib.hid (H657.out.below hb)
        have H673 := Lib.hid (HX645.out.below hb)
        have HB674 := Lib.hid (below_step hb HB658.out)
        clear H652 H653 H654 H655 H656 H657 HX645 HB658
        clear hb
        refine hK659 _ _ HR666.out ?_
        refine pt_one ?_
        intro K675 hK675
        refine quiet_done ?_
        refine event_at (i := 4) ⟨some 117, Op.call { callee := Callee.value (Operand.func 16), args := #[Operand.tmp 115, Operand.tmp 116], argTypes := #[27, 27] }, 33, "law.go:148", #[], none⟩ (by rw [hOPS510]; kernel_rfl) (by rw [hOPS510]; kernel_rfl) ?_
        go_wp2_with (go_at_call 16; refine (Sub_calls HN664.out H668.out 18 HL665.out (lt_up HL27.out (by decide)) (by decide) (Nat.le_add_left _ _)).mono ?_; rintro e w676 ⟨v, rfl, hv, hb⟩)
        obtain ⟨q677, m678, c679, rfl⟩ := hv.shape
        have HN680 := Lib.hid hv
        clear hv
        have HL681 := Lib.hid (show ((x + y) - y) < B ^ 18 from sub_lt HL665.out)
        have HR682 := Lib.hid (Below.trans HR666.out (Below.mono hb HR666.out.size))
        clear HR666
        have H683 := Lib.hid (H667.out.below hb)
        have H684 := Lib.hid (H668.out.below hb)
        have H685 := Lib.hid (H669.out.below hb)
        have H686 := Lib.hid (H670.out.below hb)
        have H687 := Lib.hid (H671.out.below hb)
        have H688 := Lib.hid (H672.out.below hb)
        have H689 := Lib.hid (H673.out.below hb)
        have HB690 := Lib.hid (below_step hb HB674.out)
        clear H667 H668 H669 H670 H671 H672 H673 HB674
        clear hb
        refine hK675 _ _ HR682.out ?_
        refine pt_one ?_
        intro K691 hK691
        refine quiet_op (i := 5) ⟨some 112, Op.move (Operand.tmp 117), 33, "law.go:148", #[], none⟩ (by rw [hOPS510]; kernel_rfl) (by rw [hOPS510]; kernel_rfl) ?_
        intro KQ hKQ; go_big_quiet_op; first | go_big_quiet_on | go_big_quiet_call (exact fun _ => rfl)
        refine quiet_op (i := 6) ⟨some 118, Op.extract (Operand.tmp 112) 0, 27, "law.go:148", #[], none⟩ (by rw [hOPS510]; kernel_rfl) (by rw [hOPS510]; kernel_rfl) ?_
        intro KQ hKQ; go_big_quiet_op; first | go_big_quiet_on | go_big_quiet_call (exact fun _ => rfl)
        refine quiet_op (i := 7) ⟨some 119, Op.extract (Operand.tmp 112) 1, 32, "law.go:148", #[], none⟩ (by rw [hOPS510]; kernel_rfl) (by rw [hOPS510]; kernel_rfl) ?_
        intro KQ hKQ; go_big_quiet_op; first | go_big_quiet_on | go_big_quiet_call (exact fun _ => rfl)
        refine quiet_done ?_
        refine event_at (i := 9) ⟨none, Op.store 27 (Operand.tmp 10) (Operand.tmp 118), 0, "law.go:148", #[], none⟩ (by rw [hOPS510]; kernel_rfl) (by rw [hOPS510]; kernel_rfl) ?_
        obtain ⟨hx692, hf693⟩ := H689.out.cell
        go_wp2
        obtain ⟨w694, hw695, L696, L697, L698, L699⟩ := laid1 HR682.out H689.out (by omega) q677 m678 c679
        rw [hw695]
        clear hw695 hx692 hf693
        have H700 := Lib.hid (H490.out.below L697)
        have H701 := Lib.hid (H491.out.below L697)
        have H702 := Lib.hid (H492.out.below L697)
        have H703 := Lib.hid (L698 _ _ HN680.out)
        have H704 := Lib.hid (H493.out.below L697)
        have H705 := Lib.hid (H494.out.below L697)
        have H706 := Lib.hid (H495.out.below L697)
        have H707 := Lib.hid L696
        have HB708 := Lib.hid (below_step L697 HB496.out)
        have HR709 := Lib.hid L697
        clear H683 H684 H685 HN680 H686 H687 H688 H689 HB690 HR682
        clear L696 L697 L698 L699
        refine hK691 _ _ HR709.out ?_
        refine pt_last ?_
        refine quiet_op (i := 10) ⟨some 11, Op.assign (Operand.tmp 119), 32, "law.go:148", #[], none⟩ (by rw [hOPS510]; kernel_rfl) (by rw [hOPS510]; kernel_rfl) ?_
        intro KQ hKQ; go_big_quiet_op; first | go_big_quiet_on | go_big_quiet_call (exact fun _ => rfl)
        refine quiet_done ?_
        go_wp2
        go_meet
        exact ⟨_, _, _, _, rfl, rfl, Lib.hid ⟨HR709.out, H707.out, H703.out⟩⟩
    case rest =>
      obtain ⟨g504, q505, m506, c507, rfl, rfl, HCT⟩ := hcut
      have hcb := HCT.out.1
      have HN710 := Lib.hid HCT.out.2.2
      have HX711 := Lib.hid HCT.out.2.1
      have HL712 := Lib.hid (sub_lt (n2 := y) (add_lt HL17.out HL27.out (by decide) (by decide) : x + y < B ^ 18))
      have H713 := Lib.hid (H490.out.below hcb)
      have H714 := Lib.hid (H491.out.below hcb)
      have H715 := Lib.hid (H492.out.below hcb)
      have H716 := Lib.hid (H493.out.below hcb)
      have H717 := Lib.hid (H494.out.below hcb)
      have H718 := Lib.hid (H495.out.below hcb)
      have HB719 := Lib.hid (below_step hcb HB496.out)
      clear H490 H491 H492 H493 H494 H495 HB496
      clear hcb HCT
      go_wp2
      have hD720 : Below wc.heap.size wc wc.drew := (by repeat (first | assumption | exact Below.refl _ _ | exact below_beyond _ _ | refine Below.beyond ?_ (by (try simp [size_beyond]) <;> omega) _ | refine Below.drew ?_ | refine Go.Rw.below_drewN ?_ _ | refine Go.Rw.below_setRow ?_ (by (try simp [size_beyond]) <;> omega) _ | refine Below.alloc ?_ (by (try simp [size_beyond]) <;> omega) _ | refine Below.setCell ?_ (by (try simp [size_beyond]) <;> omega) _))
      refine wp_region_treeK (Below wc.heap.size wc) (.one [0, 1, 2, 3, 4] 5 (.one [6, 7, 8, 9, 10, 13, 14, 16] 11 (.one [] 12 (.one [] 15 (.one [] 17 (.one [] 18 (.one [19, 20] 21 (.one [] 22 (.last [23, 24]))))))))) (by kernel_rfl) (by kernel_rfl) (by intro _ _ d _ _ h; cases d <;> exact h) hD720 ?_
      intro OPS722 hOPS722
      generalize wc.drew = w721 at *
      have H723 := Lib.hid (H713.out.below hD720)
      have H724 := Lib.hid (H714.out.below hD720)
      have H725 := Lib.hid (H715.out.below hD720)
      have H726 := Lib.hid (HN710.out.below hD720)
      have H727 := Lib.hid (H716.out.below hD720)
      have H728 := Lib.hid (H717.out.below hD720)
      have H729 := Lib.hid (H718.out.below hD720)
      have H730 := Lib.hid (HX711.out.below hD720)
      have HB731 := Lib.hid (below_step hD720 HB719.out)
      have HR732 := Lib.hid hD720
      clear hD720
      refine pt_one ?_
      intro K733 hK733
      refine quiet_op (i := 0) ⟨some 120, Op.move (Operand.tmp 11), 32, "law.go:149", #[], none⟩ (by rw [hOPS722]; kernel_rfl) (by rw [hOPS722]; kernel_rfl) ?_
      intro KQ hKQ; go_big_quiet_op; first | go_big_quiet_on | go_big_quiet_call (exact fun _ => rfl)
      refine quiet_op (i := 1) ⟨some 121, Op.binOp BinOp.eql 32 (Operand.tmp 120) (Operand.const (Value.int IntKind.i64 0)) 32, 4, "law.go:149", #[], none⟩ (by rw [hOPS722]; kernel_rfl) (by rw [hOPS722]; kernel_rfl) ?_
      intro KQ hKQ; go_big_quiet_op; first | go_big_quiet_on | go_big_quiet_call (exact fun _ => rfl)
      refine quiet_op (i := 2) ⟨some 122, Op.move (Operand.tmp 121), 4, "law.go:149", #[], none⟩ (by rw [hOPS722]; kernel_rfl) (by rw [hOPS722]; kernel_rfl) ?_
      intro KQ hKQ; go_big_quiet_op; first | go_big_quiet_on | go_big_quiet_call (exact fun _ => rfl)
      refine quiet_at (i := 3) ⟨some 123, Op.load 27 (Operand.tmp 10), 27, "law.go:149", #[], none⟩ (by rw [hOPS722]; kernel_rfl) (by rw [hOPS722]; kernel_rfl) ?_
      refine wpQuiet_load_row (by kernel_rfl) 27 (.tmp 10) rfl (g504) #[.slice q505 m506 c507] 27 _ rfl (fun w hw => (HX711.out.below hw).blk) Tryd.underlying27 rfl nInfo ?_
      simp only [Act.put, List.setIfInBounds_toArray, List.set_cons_succ, List.set_cons_zero]
      refine quiet_at (i := 4) ⟨some 124, Op.load 27 (Operand.tmp 7), 27, "law.go:149", #[], none⟩ (by rw [hOPS722]; kernel_rfl) (by rw [hOPS722]; kernel_rfl) ?_
      refine wpQuiet_load_row (by kernel_rfl) 27 (.tmp 7) rfl (w33.heap.size) #[.slice q13 m14 c15] 27 _ rfl (fun w hw => (H716.out.below hw).blk) Tryd.underlying27 rfl nInfo ?_
      simp only [Act.put, List.setIfInBounds_toArray, List.set_cons_succ, List.set_cons_zero]
      refine quiet_done ?_
      refine event_at (i := 5) ⟨some 125, Op.call { callee := Callee.value (Operand.func 28), args := #[Operand.tmp 123, Operand.tmp 124], argTypes := #[27, 27] }, 4, "law.go:149", #[], none⟩ (by rw [hOPS722]; kernel_rfl) (by rw [hOPS722]; kernel_rfl) ?_
      go_wp2_with (go_at_call 28; refine (Equal_t H726.out H723.out (show (x + y - y) = x from Nat.add_sub_cancel _ _)).mono ?_; rintro e w734 ⟨rfl, hb⟩)
      have HR735 := Lib.hid (Below.trans HR732.out (Below.mono hb HR732.out.size))
      clear HR732
      have H736 := Lib.hid (H723.out.below hb)
      have H737 := Lib.hid (H724.out.below hb)
      have H738 := Lib.hid (H725.out.below hb)
      have H739 := Lib.hid (H726.out.below hb)
      have H740 := Lib.hid (H727.out.below hb)
      have H741 := Lib.hid (H728.out.below hb)
      have H742 := Lib.hid (H729.out.below hb)
      have H743 := Lib.hid (H730.out.below hb)
      have HB744 := Lib.hid (below_step hb HB731.out)
      clear H723 H724 H725 H726 H727 H728 H729 H730 HB731
      clear hb
      refine hK733 _ _ HR735.out ?_
      refine pt_one ?_
      intro K745 hK745
      refine quiet_op (i := 6) ⟨some 126, Op.pick (Operand.tmp 122) (Operand.tmp 125) (Operand.const (Value.bool false)), 4, "law.go:149", #[], none⟩ (by rw [hOPS722]; kernel_rfl) (by rw [hOPS722]; kernel_rfl) ?_
      intro KQ hKQ; go_big_quiet_op; first | go_big_quiet_on | go_big_quiet_call (exact fun _ => rfl)
      refine quiet_op (i := 7) ⟨some 127, Op.move (Operand.tmp 126), 4, "law.go:149", #[], none⟩ (by rw [hOPS722]; kernel_rfl) (by rw [hOPS722]; kernel_rfl) ?_
      intro KQ hKQ; go_big_quiet_op; first | go_big_quiet_on | go_big_quiet_call (exact fun _ => rfl)
      refine quiet_at (i := 8) ⟨some 128, Op.load 27 (Operand.tmp 7), 27, "law.go:149", #[], none⟩ (by rw [hOPS722]; kernel_rfl) (by rw [hOPS722]; kernel_rfl) ?_
      refine wpQuiet_load_row (by kernel_rfl) 27 (.tmp 7) rfl (w33.heap.size) #[.slice q13 m14 c15] 27 _ rfl (fun w hw => (H716.out.below hw).blk) Tryd.underlying27 rfl nInfo ?_
      simp only [Act.put, List.setIfInBounds_toArray, List.set_cons_succ, List.set_cons_zero]
      refine quiet_at (i := 9) ⟨some 129, Op.load 27 (Operand.tmp 8), 27, "law.go:149", #[], none⟩ (by rw [hOPS722]; kernel_rfl) (by rw [hOPS722]; kernel_rfl) ?_
      refine wpQuiet_load_row (by kernel_rfl) 27 (.tmp 8) rfl (w33.heap.size + 1) #[.slice q23 m24 c25] 27 _ rfl (fun w hw => (H717.out.below hw).blk) Tryd.underlying27 rfl nInfo ?_
      simp only [Act.put, List.setIfInBounds_toArray, List.set_cons_succ, List.set_cons_zero]
      refine quiet_at (i := 10) ⟨some 130, Op.load 27 (Operand.tmp 9), 27, "law.go:149", #[], none⟩ (by rw [hOPS722]; kernel_rfl) (by rw [hOPS722]; kernel_rfl) ?_
      refine wpQuiet_load_row (by kernel_rfl) 27 (.tmp 9) rfl (w33.heap.size + 1 + 1) #[.slice q34 m35 c36] 27 _ rfl (fun w hw => (H718.out.below hw).blk) Tryd.underlying27 rfl nInfo ?_
      simp only [Act.put, List.setIfInBounds_toArray, List.set_cons_succ, List.set_cons_zero]
      refine quiet_at (i := 13) ⟨some 133, Op.load 27 (Operand.tmp 7), 27, "law.go:149", #[], none⟩ (by rw [hOPS722]; kernel_rfl) (by rw [hOPS722]; kernel_rfl) ?_
      refine wpQuiet_load_row (by kernel_rfl) 27 (.tmp 7) rfl (w33.heap.size) #[.slice q13 m14 c15] 27 _ rfl (fun w hw => (H716.out.below hw).blk) Tryd.underlying27 rfl nInfo ?_
      simp only [Act.put, List.setIfInBounds_toArray, List.set_cons_succ, List.set_cons_zero]
      refine quiet_at (i := 14) ⟨some 134, Op.load 27 (Operand.tmp 8), 27, "law.go:149", #[], none⟩ (by rw [hOPS722]; kernel_rfl) (by rw [hOPS722]; kernel_rfl) ?_
      refine wpQuiet_load_row (by kernel_rfl) 27 (.tmp 8) rfl (w33.heap.size + 1) #[.slice q23 m24 c25] 27 _ rfl (fun w hw => (H717.out.below hw).blk) Tryd.underlying27 rfl nInfo ?_
      simp only [Act.put, List.setIfInBounds_toArray, List.set_cons_succ, List.set_cons_zero]
      refine quiet_at (i := 16) ⟨some 136, Op.load 27 (Operand.tmp 9), 27, "law.go:149", #[], none⟩ (by rw [hOPS722]; kernel_rfl) (by rw [hOPS722]; kernel_rfl) ?_
      refine wpQuiet_load_row (by kernel_rfl) 27 (.tmp 9) rfl (w33.heap.size + 1 + 1) #[.slice q34 m35 c36] 27 _ rfl (fun w hw => (H718.out.below hw).blk) Tryd.underlying27 rfl nInfo ?_
      simp only [Act.put, List.setIfInBounds_toArray, List.set_cons_succ, List.set_cons_zero]
      refine quiet_done ?_
      refine event_at (i := 11) ⟨some 131, Op.buildSlice 94 3 #[(0, Operand.tmp 128), (1, Operand.tmp 129), (2, Operand.tmp 130)], 94, "law.go:149", #[], none⟩ (by rw [hOPS722]; kernel_rfl) (by rw [hOPS722]; kernel_rfl) ?_
      have hA747 : Below w734.heap.size w734 (w734.alloc (.cells #[.slice q13 m14 c15, .slice q23 m24 c25, .slice q34 m35 c36] 27)) := (by repeat (first | assumption | exact Below.refl _ _ | exact below_beyond _ _ | refine Below.beyond ?_ (by (try simp [size_beyond]) <;> omega) _ | refine Below.drew ?_ | refine Go.Rw.below_drewN ?_ _ | refine Go.Rw.below_setRow ?_ (by (try simp [size_beyond]) <;> omega) _ | refine Below.alloc ?_ (by (try simp [size_beyond]) <;> omega) _ | refine Below.setCell ?_ (by (try simp [size_beyond]) <;> omega) _))
      have HX748 := Lib.hid (nl3 (T := 27) H736.out H737.out H738.out)
      go_wp2
      have HR749 := Lib.hid (Below.trans HR735.out (Below.mono hA747 HR735.out.size))
      have H750 := Lib.hid (H736.out.below hA747)
      have H751 := Lib.hid (H737.out.below hA747)
      have H752 := Lib.hid (H738.out.below hA747)
      have H753 := Lib.hid (H739.out.below hA747)
      have H754 := Lib.hid (H740.out.below hA747)
      have H755 := Lib.hid (H741.out.below hA747)
      have H756 := Lib.hid (H742.out.below hA747)
      have H757 := Lib.hid (H743.out.below hA747)
      have HB758 := Lib.hid (below_step hA747 HB744.out)
      clear H736 H737 H738 H739 H740 H741 H742 H743 HB744
      clear hA747
      generalize (w734.alloc (.cells #[.slice q13 m14 c15, .slice q23 m24 c25, .slice q34 m35 c36] 27)) = w746 at *
      refine hK745 _ _ HR749.out ?_
      refine pt_one ?_
      intro K759 hK759
      refine quiet_done ?_
      refine event_at (i := 12) ⟨some 132, Op.call { callee := Callee.value (Operand.func 44), args := #[Operand.tmp 131], argTypes := #[94] }, 27, "law.go:149", #[], none⟩ (by rw [hOPS722]; kernel_rfl) (by rw [hOPS722]; kernel_rfl) ?_
      go_wp2_with (go_at_call 44; refine (Sum_calls HX748.out 19 (by decide) (sum3_lt HL17.out HL27.out HL38.out).1 (sum3_lt HL17.out HL27.out HL38.out).2).mono ?_; rintro e w760 ⟨v, rfl, hv, hb⟩)
      obtain ⟨q761, m762, c763, rfl⟩ := hv.shape
      have HN764 := Lib.hid hv
      clear hv
      have HL765 := Lib.hid (show ([x, y, z].sum) < B ^ 19 from by have := (sum3_lt HL17.out HL27.out HL38.out).2 3; simpa using this)
      have HR766 := Lib.hid (Below.trans HR749.out (Below.mono hb HR749.out.size))
      clear HR749
      have H767 := Lib.hid (H750.out.below hb)
      have H768 := Lib.hid (H751.out.below hb)
      have H769 := Lib.hid (H752.out.below hb)
      have H770 := Lib.hid (H753.out.below hb)
      have H771 := Lib.hid (H754.out.below hb)
      have H772 := Lib.hid (H755.out.below hb)
      have H773 := Lib.hid (H756.out.below hb)
      have H774 := Lib.hid (H757.out.below hb)
      have HB775 := Lib.hid (below_step hb HB758.out)
      clear H750 H751 H752 H753 H754 H755 H756 H757 HB758
      clear hb
      refine hK759 _ _ HR766.out ?_
      refine pt_one ?_
      intro K776 hK776
      refine quiet_done ?_
      refine event_at (i := 15) ⟨some 135, Op.call { callee := Callee.value (Operand.func 22), args := #[Operand.tmp 133, Operand.tmp 134], argTypes := #[27, 27] }, 27, "law.go:149", #[], none⟩ (by rw [hOPS722]; kernel_rfl) (by rw [hOPS722]; kernel_rfl) ?_
      go_wp2_with (go_at_call 22; refine (Add_calls H767.out H768.out 17 HL17.out HL27.out (by decide)).mono ?_; rintro e w777 ⟨v, rfl, hv, hb⟩)
      obtain ⟨q778, m779, c780, rfl⟩ := hv.shape
      have HN781 := Lib.hid hv
      clear hv
      have HL782 := Lib.hid (show (x + y) < B ^ 18 from add_lt HL17.out HL27.out (by decide) (by decide))
      have HR783 := Lib.hid (Below.trans HR766.out (Below.mono hb HR766.out.size))
      clear HR766
      have H784 := Lib.hid (H767.out.below hb)
      have H785 := Lib.hid (H768.out.below hb)
      have H786 := Lib.hid (H769.out.below hb)
      have H787 := Lib.hid (H770.out.below hb)
      have H788 := Lib.hid (HN764.out.below hb)
      have H789 := Lib.hid (H771.out.below hb)
      have H790 := Lib.hid (H772.out.below hb)
      have H791 := Lib.hid (H773.out.below hb)
      have H792 := Lib.hid (H774.out.below hb)
      have HB793 := Lib.hid (below_step hb HB775.out)
      clear H767 H768 H769 H770 HN764 H771 H772 H773 H774 HB775
      clear hb
      refine hK776 _ _ HR783.out ?_
      refine pt_one ?_
      intro K794 hK794
      refine quiet_done ?_
      refine event_at (i := 17) ⟨some 137, Op.call { callee := Callee.value (Operand.func 22), args := #[Operand.tmp 135, Operand.tmp 136], argTypes := #[27, 27] }, 27, "law.go:149", #[], none⟩ (by rw [hOPS722]; kernel_rfl) (by rw [hOPS722]; kernel_rfl) ?_
      go_wp2_with (go_at_call 22; refine (Add_calls HN781.out H786.out 18 HL782.out (lt_up HL38.out (by decide)) (by decide)).mono ?_; rintro e w795 ⟨v, rfl, hv, hb⟩)
      obtain ⟨q796, m797, c798, rfl⟩ := hv.shape
      have HN799 := Lib.hid hv
      clear hv
      have HL800 := Lib.hid (show ((x + y) + z) < B ^ 19 from add_lt HL782.out HL38.out (by decide) (by decide))
      have HR801 := Lib.hid (Below.trans HR783.out (Below.mono hb HR783.out.size))
      clear HR783
      have H802 := Lib.hid (H784.out.below hb)
      have H803 := Lib.hid (H785.out.below hb)
      have H804 := Lib.hid (H786.out.below hb)
      have H805 := Lib.hid (H787.out.below hb)
      have H806 := Lib.hid (H788.out.below hb)
      have H807 := Lib.hid (H789.out.below hb)
      have H808 := Lib.hid (H790.out.below hb)
      have H809 := Lib.hid (H791.out.below hb)
      have H810 := Lib.hid (H792.out.below hb)
      have HB811 := Lib.hid (below_step hb HB793.out)
      clear H784 H785 H786 H787 H788 H789 H790 H791 H792 HB793
      clear hb
      refine hK794 _ _ HR801.out ?_
      refine pt_one ?_
      intro K812 hK812
      refine quiet_done ?_
      refine event_at (i := 18) ⟨some 138, Op.call { callee := Callee.value (Operand.func 28), args := #[Operand.tmp 132, Operand.tmp 137], argTypes := #[27, 27] }, 4, "law.go:149", #[], none⟩ (by rw [hOPS722]; kernel_rfl) (by rw [hOPS722]; kernel_rfl) ?_
      go_wp2_with (go_at_call 28; refine (Equal_t H806.out HN799.out (show ([x, y, z].sum) = ((x + y) + z) from by simp [Nat.add_assoc])).mono ?_; rintro e w813 ⟨rfl, hb⟩)
      have HR814 := Lib.hid (Below.trans HR801.out (Below.mono hb HR801.out.size))
      clear HR801
      have H815 := Lib.hid (H802.out.below hb)
      have H816 := Lib.hid (H803.out.below hb)
      have H817 := Lib.hid (H804.out.below hb)
      have H818 := Lib.hid (H805.out.below hb)
      have H819 := Lib.hid (H807.out.below hb)
      have H820 := Lib.hid (H808.out.below hb)
      have H821 := Lib.hid (H809.out.below hb)
      have H822 := Lib.hid (H810.out.below hb)
      have HB823 := Lib.hid (below_step hb HB811.out)
      clear H802 H803 H804 H805 H807 H808 H809 H810 HB811
      clear hb
      refine hK812 _ _ HR814.out ?_
      refine pt_one ?_
      intro K824 hK824
      refine quiet_op (i := 19) ⟨some 139, Op.pick (Operand.tmp 127) (Operand.tmp 138) (Operand.const (Value.bool false)), 4, "law.go:149", #[], none⟩ (by rw [hOPS722]; kernel_rfl) (by rw [hOPS722]; kernel_rfl) ?_
      intro KQ hKQ; go_big_quiet_op; first | go_big_quiet_on | go_big_quiet_call (exact fun _ => rfl)
      refine quiet_op (i := 20) ⟨some 140, Op.move (Operand.tmp 139), 4, "law.go:149", #[], none⟩ (by rw [hOPS722]; kernel_rfl) (by rw [hOPS722]; kernel_rfl) ?_
      intro KQ hKQ; go_big_quiet_op; first | go_big_quiet_on | go_big_quiet_call (exact fun _ => rfl)
      refine quiet_done ?_
      refine event_at (i := 21) ⟨some 141, Op.call { callee := Callee.value (Operand.func 44), args := #[Operand.const (Value.slice none 0 0)], argTypes := #[94] }, 27, "law.go:149", #[], none⟩ (by rw [hOPS722]; kernel_rfl) (by rw [hOPS722]; kernel_rfl) ?_
      go_wp2_with (go_at_call 44; refine (Sum_none _).mono ?_; rintro e w825 ⟨v, rfl, hv, hb⟩)
      obtain ⟨q826, m827, c828, rfl⟩ := hv.shape
      have HN829 := Lib.hid hv
      clear hv
      have HL830 := Lib.hid (show 0 < B ^ 1 from by decide)
      have HR831 := Lib.hid (Below.trans HR814.out (Below.mono hb HR814.out.size))
      clear HR814
      have H832 := Lib.hid (H815.out.below hb)
      have H833 := Lib.hid (H816.out.below hb)
      have H834 := Lib.hid (H817.out.below hb)
      have H835 := Lib.hid (H818.out.below hb)
      have H836 := Lib.hid (H819.out.below hb)
      have H837 := Lib.hid (H820.out.below hb)
      have H838 := Lib.hid (H821.out.below hb)
      have H839 := Lib.hid (H822.out.below hb)
      have HB840 := Lib.hid (below_step hb HB823.out)
      clear H815 H816 H817 H818 H819 H820 H821 H822 HB823
      clear hb
      refine hK824 _ _ HR831.out ?_
      refine pt_one ?_
      intro K841 hK841
      refine quiet_done ?_
      refine event_at (i := 22) ⟨some 142, Op.call { callee := Callee.value (Operand.func 21), args := #[Operand.tmp 141], argTypes := #[27] }, 4, "law.go:149", #[], none⟩ (by rw [hOPS722]; kernel_rfl) (by rw [hOPS722]; kernel_rfl) ?_
      go_wp2_with (go_at_call 21; refine (IsZero_t HN829.out (show 0 = 0 from rfl)).mono ?_; rintro e w842 ⟨rfl, hb⟩)
      have HR843 := Lib.hid (Below.trans HR831.out (Below.mono hb HR831.out.size))
      clear HR831
      have H844 := Lib.hid (H832.out.below hb)
      have H845 := Lib.hid (H833.out.below hb)
      have H846 := Lib.hid (H834.out.below hb)
      have H847 := Lib.hid (H835.out.below hb)
      have H848 := Lib.hid (H836.out.below hb)
      have H849 := Lib.hid (H837.out.below hb)
      have H850 := Lib.hid (H838.out.below hb)
      have H851 := Lib.hid (H839.out.below hb)
      have HB852 := Lib.hid (below_step hb HB840.out)
      clear H832 H833 H834 H835 H836 H837 H838 H839 HB840
      clear hb
      refine hK841 _ _ HR843.out ?_
      refine pt_last ?_
      refine quiet_op (i := 23) ⟨some 143, Op.pick (Operand.tmp 140) (Operand.tmp 142) (Operand.const (Value.bool false)), 4, "law.go:149", #[], none⟩ (by rw [hOPS722]; kernel_rfl) (by rw [hOPS722]; kernel_rfl) ?_
      intro KQ hKQ; go_big_quiet_op; first | go_big_quiet_on | go_big_quiet_call (exact fun _ => rfl)
      refine quiet_op (i := 24) ⟨some 6, Op.assign (Operand.tmp 143), 4, "law.go:149", #[], none⟩ (by rw [hOPS722]; kernel_rfl) (by rw [hOPS722]; kernel_rfl) ?_
      intro KQ hKQ; go_big_quiet_op; first | go_big_quiet_on | go_big_quiet_call (exact fun _ => rfl)
      refine quiet_done ?_
      clear H713 H714 H715 HN710 H716 H717 H718 HX711 HB719 HR843
      obtain ⟨hx853, hf854⟩ := H848.out.cell
      obtain ⟨hx855, hf856⟩ := H849.out.cell
      obtain ⟨hx857, hf858⟩ := H850.out.cell
      obtain ⟨hx859, hf860⟩ := H851.out.cell
      go_wp2
      go_ret
      exact ⟨rfl, beyond_of HB852.out⟩
  · have hbig : ¬ (ma ≤ 150 ∧ mb ≤ 150 ∧ mc ≤ 150) := hfew
    clear hua hub huc hfew
    have HB0 := Lib.hid (Below.refl W.heap.size W)
    go_enter Tryd.func8, Tryd.ntmps8
    go_wp2_with (fail)
    go_at_call 12
    refine (known_calls (HDW.out.1.below HDW.out.2 HB0.out) (Nat.le_trans HDW.out.2 HB0.out.size)).mono ?_
    rintro e w1 ⟨rfl, hb⟩
    have HB2 := Lib.hid (below_step hb HB0.out)
    clear HB0
    clear hb
    have HSS := Lib.hid (ss3 w1 22 qa qb qc ma mb mc ca cb cc ha hb hc)
    have HFW := Lib.hid (few_eq HSS.out (show ([ma, mb, mc].all (· ≤ 150)) = false from by simp; omega))
    have hA3 : Below w1.heap.size w1 (w1.alloc (.cells #[.slice qa ma ca, .slice qb mb cb, .slice qc mc cc] 22)) := (by repeat (first | assumption | exact Below.refl _ _ | exact below_beyond _ _ | refine Below.beyond ?_ (by (try simp [size_beyond]) <;> omega) _ | refine Below.drew ?_ | refine Go.Rw.below_drewN ?_ _ | refine Go.Rw.below_setRow ?_ (by (try simp [size_beyond]) <;> omega) _ | refine Below.alloc ?_ (by (try simp [size_beyond]) <;> omega) _ | refine Below.setCell ?_ (by (try simp [size_beyond]) <;> omega) _))
    go_wp2_with (fail)
    go_at_call 13
    refine HFW.out.mono ?_
    rintro e wz ⟨rfl, rfl⟩
    have HB5 := Lib.hid (below_step hA3 HB2.out)
    clear HB2
    clear hA3 HSS HFW
    generalize (w1.alloc (.cells #[.slice qa ma ca, .slice qb mb cb, .slice qc mc cc] 22)) = w4 at *
    go_wp2_with (fail)
    go_at_call 12
    refine (known_calls (HDW.out.1.below HDW.out.2 HB5.out) (Nat.le_trans HDW.out.2 HB5.out.size)).mono ?_
    rintro e w6 ⟨rfl, hb⟩
    have HB7 := Lib.hid (below_step hb HB5.out)
    clear HB5
    clear hb
    go_wp2
    go_ret
    exact ⟨rfl, beyond_of HB7.out⟩
end Go.Proofs.YtogjobmekjighaaDoor.bn
