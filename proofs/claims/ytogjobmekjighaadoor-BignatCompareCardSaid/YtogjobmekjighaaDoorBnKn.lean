/-
  The law's known.
-/
import Derived.Test.YtogjobmekjighaaDoorBnTb
set_option linter.unusedSimpArgs false
set_option linter.unusedVariables false
namespace Go.Proofs.YtogjobmekjighaaDoor.bn
open Go.RowKit Go.Own Go.Bn
set_option maxHeartbeats 4000000
set_option maxRecDepth 100000

theorem known_calls {W : World} (hD : DecW W) (ht : tabB ≤ W.heap.size) : Calls Tryd.prog 12 #[] W fun e w' => e = .returned (.bool true) ∧ Below W.heap.size W w' := by
  have HDW := Lib.hid (And.intro hD ht)
  have HT := Lib.hid dec_270
  clear hD ht
  go_enter Tryd.func12, Tryd.ntmps12
  have HB0 := Lib.hid (Below.refl W.heap.size W)
  go_wp2_with (fail)
  go_at_call 31
  refine (pow_yes 70 (by decide) _).mono ?_
  rintro e w1 ⟨v, rfl, hv, hb⟩
  obtain ⟨q2, m3, c4, rfl⟩ := hv.shape
  have HN5 := Lib.hid hv
  clear hv
  have HL6 := Lib.hid (show 2 ^ 70 < B ^ 3 from by decide)
  have HB7 := Lib.hid (below_step hb HB0.out)
  clear HB0
  clear hb
  go_wp2_with (fail)
  go_at_call 42
  refine (from_calls 1000 (by decide) _).mono ?_
  rintro e w8 ⟨v, rfl, hv, hb⟩
  obtain ⟨q9, m10, c11, rfl⟩ := hv.shape
  have HN12 := Lib.hid hv
  clear hv
  have HL13 := Lib.hid (show 1000 < B ^ 2 from by decide)
  have hA14 : Below w1.heap.size w1 (w1.alloc (.cells #[.slice q2 m3 c4] 27)) := (by repeat (first | assumption | exact Below.refl _ _ | exact below_beyond _ _ | refine Below.beyond ?_ (by (try simp [size_beyond]) <;> omega) _ | refine Below.drew ?_ | refine Go.Rw.below_drewN ?_ _ | refine Go.Rw.below_setRow ?_ (by (try simp [size_beyond]) <;> omega) _ | refine Below.alloc ?_ (by (try simp [size_beyond]) <;> omega) _ | refine Below.setCell ?_ (by (try simp [size_beyond]) <;> omega) _))
  have hs15 := below_step hb hA14
  have HX16 := Lib.hid ((NB.new w1 (.slice q2 m3 c4)).below hb)
  have H17 := Lib.hid (HN5.out.below hs15)
  have HB18 := Lib.hid (below_step hs15 HB7.out)
  clear HN5 HB7
  clear hs15 hA14
  clear hb
  obtain ⟨hx19, hf20⟩ := HX16.out.cell
  go_wp2_with (fail)
  go_at_call 42
  refine (from_calls 7 (by decide) _).mono ?_
  rintro e w21 ⟨v, rfl, hv, hb⟩
  obtain ⟨q22, m23, c24, rfl⟩ := hv.shape
  have HN25 := Lib.hid hv
  clear hv
  have HL26 := Lib.hid (show 7 < B ^ 2 from by decide)
  clear hx19 hf20
  have H27 := Lib.hid (H17.out.below hb)
  have H28 := Lib.hid (HN12.out.below hb)
  have H29 := Lib.hid (HX16.out.below hb)
  have HB30 := Lib.hid (below_step hb HB18.out)
  clear H17 HN12 HX16 HB18
  clear hb
  obtain ⟨hx31, hf32⟩ := H29.out.cell
  go_wp2_with (fail)
  go_at_call 26
  refine (divOk_digit.calls (show (fun _ n2 => n2 < B) 1000 7 from by decide) (by decide) H28.out HN25.out).mono ?_
  rintro e w33 ⟨v, v2, rfl, hv, hv2, hb⟩
  rw [show 1000 / 7 = 142 from rfl] at hv
  rw [show 1000 % 7 = 6 from rfl] at hv2
  obtain ⟨q34, m35, c36, rfl⟩ := hv.shape
  have HN37 := Lib.hid hv
  clear hv
  have HL38 := Lib.hid (show 142 < B ^ 2 from by decide)
  obtain ⟨q39, m40, c41, rfl⟩ := hv2.shape
  have HN42 := Lib.hid hv2
  clear hv2
  have HL43 := Lib.hid (show 6 < B ^ 2 from by decide)
  clear hx31 hf32
  have H44 := Lib.hid (H27.out.below hb)
  have H45 := Lib.hid (H29.out.below hb)
  have HB46 := Lib.hid (below_step hb HB30.out)
  clear H27 H29 HB30
  clear hb
  obtain ⟨hx47, hf48⟩ := H45.out.cell
  go_upto_region 3 with (fail)
  have hA49 : Below w33.heap.size w33 ((w33.alloc (.cells #[.slice q34 m35 c36] 27)).alloc (.cells #[.slice q39 m40 c41] 27)) := (by repeat (first | assumption | exact Below.refl _ _ | exact below_beyond _ _ | refine Below.beyond ?_ (by (try simp [size_beyond]) <;> omega) _ | refine Below.drew ?_ | refine Go.Rw.below_drewN ?_ _ | refine Go.Rw.below_setRow ?_ (by (try simp [size_beyond]) <;> omega) _ | refine Below.alloc ?_ (by (try simp [size_beyond]) <;> omega) _ | refine Below.setCell ?_ (by (try simp [size_beyond]) <;> omega) _))
  have HX51 := Lib.hid ((two_blocks w33 (.slice q34 m35 c36) (.slice q39 m40 c41)).1)
  have HX52 := Lib.hid ((two_blocks w33 (.slice q34 m35 c36) (.slice q39 m40 c41)).2)
  clear hx47 hf48
  have H53 := Lib.hid (H44.out.below hA49)
  have H54 := Lib.hid (HN37.out.below hA49)
  have H55 := Lib.hid (HN42.out.below hA49)
  have H56 := Lib.hid (H45.out.below hA49)
  have HB57 := Lib.hid (below_step hA49 HB46.out)
  clear H44 HN37 HN42 H45 HB46
  clear hA49
  generalize ((w33.alloc (.cells #[.slice q34 m35 c36] 27)).alloc (.cells #[.slice q39 m40 c41] 27)) = w50 at *
  obtain ⟨hx58, hf59⟩ := H56.out.cell
  obtain ⟨hx60, hf61⟩ := HX51.out.cell
  obtain ⟨hx62, hf63⟩ := HX52.out.cell
  clear hx58 hf59 hx60 hf61 hx62 hf63
  have hD64 : Below w50.heap.size w50 w50.drew := (by repeat (first | assumption | exact Below.refl _ _ | exact below_beyond _ _ | refine Below.beyond ?_ (by (try simp [size_beyond]) <;> omega) _ | refine Below.drew ?_ | refine Go.Rw.below_drewN ?_ _ | refine Go.Rw.below_setRow ?_ (by (try simp [size_beyond]) <;> omega) _ | refine Below.alloc ?_ (by (try simp [size_beyond]) <;> omega) _ | refine Below.setCell ?_ (by (try simp [size_beyond]) <;> omega) _))
  refine wp_region_treeK (Below w50.heap.size w50) (.one [0, 1, 2, 3] 4 (.one [5, 6, 7, 8, 9, 10, 11, 12] 13 (.one [] 14 (.one [15, 16, 17] 18 (.one [] 19 (.one [20, 21] 22 (.one [] 23 (.one [] 24 (.one [] 25 (.one [] 26 (.one [27, 28] 29 (.one [] 30 (.one [] 31 (.last [32, 33, 34])))))))))))))) (by kernel_rfl) (by kernel_rfl) (by intro _ _ d _ _ h; cases d <;> exact h) hD64 ?_
  intro OPS66 hOPS66
  generalize w50.drew = w65 at *
  have H67 := Lib.hid (H53.out.below hD64)
  have H68 := Lib.hid (H54.out.below hD64)
  have H69 := Lib.hid (H55.out.below hD64)
  have H70 := Lib.hid (H56.out.below hD64)
  have H71 := Lib.hid (HX51.out.below hD64)
  have H72 := Lib.hid (HX52.out.below hD64)
  have HB73 := Lib.hid (below_step hD64 HB57.out)
  have HR74 := Lib.hid hD64
  clear hD64
  refine pt_one ?_
  intro K75 hK75
  refine quiet_op (i := 0) ⟨some 17, Op.move (Operand.tmp 2), 32, "law.go:14", #[], none⟩ (by rw [hOPS66]; kernel_rfl) (by rw [hOPS66]; kernel_rfl) ?_
  intro KQ hKQ; go_big_quiet_op; first | go_big_quiet_on | go_big_quiet_call (exact fun _ => rfl)
  refine quiet_op (i := 1) ⟨some 18, Op.binOp BinOp.eql 32 (Operand.tmp 17) (Operand.const (Value.int IntKind.i64 0)) 32, 4, "law.go:14", #[], none⟩ (by rw [hOPS66]; kernel_rfl) (by rw [hOPS66]; kernel_rfl) ?_
  intro KQ hKQ; go_big_quiet_op; first | go_big_quiet_on | go_big_quiet_call (exact fun _ => rfl)
  refine quiet_op (i := 2) ⟨some 19, Op.move (Operand.tmp 18), 4, "law.go:14", #[], none⟩ (by rw [hOPS66]; kernel_rfl) (by rw [hOPS66]; kernel_rfl) ?_
  intro KQ hKQ; go_big_quiet_op; first | go_big_quiet_on | go_big_quiet_call (exact fun _ => rfl)
  refine quiet_at (i := 3) ⟨some 20, Op.load 27 (Operand.tmp 1), 27, "law.go:14", #[], none⟩ (by rw [hOPS66]; kernel_rfl) (by rw [hOPS66]; kernel_rfl) ?_
  refine wpQuiet_load_row (by kernel_rfl) 27 (.tmp 1) rfl (w1.heap.size) #[.slice q2 m3 c4] 27 _ rfl (fun w hw => (H56.out.below hw).blk) Tryd.underlying27 rfl nInfo ?_
  simp only [Act.put, List.setIfInBounds_toArray, List.set_cons_succ, List.set_cons_zero]
  refine quiet_done ?_
  refine event_at (i := 4) ⟨some 21, Op.call { callee := Callee.value (Operand.func 18), args := #[Operand.tmp 20], argTypes := #[27] }, 9, "law.go:14", #[], none⟩ (by rw [hOPS66]; kernel_rfl) (by rw [hOPS66]; kernel_rfl) ?_
  go_wp2_with (go_at_call 18; refine (String_tx H67.out 3 HL6.out (by decide) (HDW.out.1.below HDW.out.2 HB73.out) (Nat.le_trans HDW.out.2 HB73.out.size) (congrArg (fun l => ByteArray.mk (List.toArray l)) HT.out)).mono ?_; rintro e w76 ⟨rfl, hb⟩)
  have HR77 := Lib.hid (Below.trans HR74.out (Below.mono hb HR74.out.size))
  clear HR74
  have H78 := Lib.hid (H67.out.below hb)
  have H79 := Lib.hid (H68.out.below hb)
  have H80 := Lib.hid (H69.out.below hb)
  have H81 := Lib.hid (H70.out.below hb)
  have H82 := Lib.hid (H71.out.below hb)
  have H83 := Lib.hid (H72.out.below hb)
  have HB84 := Lib.hid (below_step hb HB73.out)
  clear H67 H68 H69 H70 H71 H72 HB73
  clear hb
  refine hK75 _ _ HR77.out ?_
  refine pt_one ?_
  intro K85 hK85
  refine quiet_op (i := 5) ⟨some 22, Op.binOp BinOp.eql 9 (Operand.tmp 21) (Operand.const (Value.string { data := #[49, 49, 56, 48, 53, 57, 49, 54, 50, 48, 55, 49, 55, 52, 49, 49, 51, 48, 51, 52, 50, 52] })) 9, 4, "law.go:14", #[], none⟩ (by rw [hOPS66]; kernel_rfl) (by rw [hOPS66]; kernel_rfl) ?_
  intro KQ hKQ; go_big_quiet_op; first | go_big_quiet_on | go_big_quiet_call (exact fun _ => rfl)
  refine quiet_op (i := 6) ⟨some 23, Op.pick (Operand.tmp 19) (Operand.tmp 22) (Operand.const (Value.bool false)), 4, "law.go:14", #[], none⟩ (by rw [hOPS66]; kernel_rfl) (by rw [hOPS66]; kernel_rfl) ?_
  intro KQ hKQ; go_big_quiet_op; first | go_big_quiet_on | go_big_quiet_call (exact fun _ => rfl)
  refine quiet_op (i := 7) ⟨some 24, Op.move (Operand.tmp 23), 4, "law.go:14", #[], none⟩ (by rw [hOPS66]; kernel_rfl) (by rw [hOPS66]; kernel_rfl) ?_
  intro KQ hKQ; go_big_quiet_op; first | go_big_quiet_on | go_big_quiet_call (exact fun _ => rfl)
  refine quiet_op (i := 8) ⟨some 25, Op.move (Operand.tmp 5), 32, "law.go:14", #[], none⟩ (by rw [hOPS66]; kernel_rfl) (by rw [hOPS66]; kernel_rfl) ?_
  intro KQ hKQ; go_big_quiet_op; first | go_big_quiet_on | go_big_quiet_call (exact fun _ => rfl)
  refine quiet_op (i := 9) ⟨some 26, Op.binOp BinOp.eql 32 (Operand.tmp 25) (Operand.const (Value.int IntKind.i64 0)) 32, 4, "law.go:14", #[], none⟩ (by rw [hOPS66]; kernel_rfl) (by rw [hOPS66]; kernel_rfl) ?_
  intro KQ hKQ; go_big_quiet_op; first | go_big_quiet_on | go_big_quiet_call (exact fun _ => rfl)
  refine quiet_op (i := 10) ⟨some 27, Op.pick (Operand.tmp 24) (Operand.tmp 26) (Operand.const (Value.bool false)), 4, "law.go:14", #[], none⟩ (by rw [hOPS66]; kernel_rfl) (by rw [hOPS66]; kernel_rfl) ?_
  intro KQ hKQ; go_big_quiet_op; first | go_big_quiet_on | go_big_quiet_call (exact fun _ => rfl)
  refine quiet_op (i := 11) ⟨some 28, Op.move (Operand.tmp 27), 4, "law.go:14", #[], none⟩ (by rw [hOPS66]; kernel_rfl) (by rw [hOPS66]; kernel_rfl) ?_
  intro KQ hKQ; go_big_quiet_op; first | go_big_quiet_on | go_big_quiet_call (exact fun _ => rfl)
  refine quiet_at (i := 12) ⟨some 29, Op.load 27 (Operand.tmp 3), 27, "law.go:14", #[], none⟩ (by rw [hOPS66]; kernel_rfl) (by rw [hOPS66]; kernel_rfl) ?_
  refine wpQuiet_load_row (by kernel_rfl) 27 (.tmp 3) rfl (w33.heap.size) #[.slice q34 m35 c36] 27 _ rfl (fun w hw => (HX51.out.below hw).blk) Tryd.underlying27 rfl nInfo ?_
  simp only [Act.put, List.setIfInBounds_toArray, List.set_cons_succ, List.set_cons_zero]
  refine quiet_done ?_
  refine event_at (i := 13) ⟨some 30, Op.call { callee := Callee.value (Operand.func 42), args := #[Operand.const (Value.int IntKind.u64 142)], argTypes := #[53] }, 27, "law.go:14", #[], none⟩ (by rw [hOPS66]; kernel_rfl) (by rw [hOPS66]; kernel_rfl) ?_
  go_wp2_with (go_at_call 42; refine (from_calls 142 (by decide) _).mono ?_; rintro e w86 ⟨v, rfl, hv, hb⟩)
  obtain ⟨q87, m88, c89, rfl⟩ := hv.shape
  have HN90 := Lib.hid hv
  clear hv
  have HL91 := Lib.hid (show 142 < B ^ 2 from by decide)
  have HR92 := Lib.hid (Below.trans HR77.out (Below.mono hb HR77.out.size))
  clear HR77
  have H93 := Lib.hid (H78.out.below hb)
  have H94 := Lib.hid (H79.out.below hb)
  have H95 := Lib.hid (H80.out.below hb)
  have H96 := Lib.hid (H81.out.below hb)
  have H97 := Lib.hid (H82.out.below hb)
  have H98 := Lib.hid (H83.out.below hb)
  have HB99 := Lib.hid (below_step hb HB84.out)
  clear H78 H79 H80 H81 H82 H83 HB84
  clear hb
  refine hK85 _ _ HR92.out ?_
  refine pt_one ?_
  intro K100 hK100
  refine quiet_done ?_
  refine event_at (i := 14) ⟨some 31, Op.call { callee := Callee.value (Operand.func 28), args := #[Operand.tmp 29, Operand.tmp 30], argTypes := #[27, 27] }, 4, "law.go:14", #[], none⟩ (by rw [hOPS66]; kernel_rfl) (by rw [hOPS66]; kernel_rfl) ?_
  go_wp2_with (go_at_call 28; refine (Equal_t H94.out HN90.out (show 142 = 142 from rfl)).mono ?_; rintro e w101 ⟨rfl, hb⟩)
  have HR102 := Lib.hid (Below.trans HR92.out (Below.mono hb HR92.out.size))
  clear HR92
  have H103 := Lib.hid (H93.out.below hb)
  have H104 := Lib.hid (H94.out.below hb)
  have H105 := Lib.hid (H95.out.below hb)
  have H106 := Lib.hid (H96.out.below hb)
  have H107 := Lib.hid (H97.out.below hb)
  have H108 := Lib.hid (H98.out.below hb)
  have HB109 := Lib.hid (below_step hb HB99.out)
  clear H93 H94 H95 H96 H97 H98 HB99
  clear hb
  refine hK100 _ _ HR102.out ?_
  refine pt_one ?_
  intro K110 hK110
  refine quiet_op (i := 15) ⟨some 32, Op.pick (Operand.tmp 28) (Operand.tmp 31) (Operand.const (Value.bool false)), 4, "law.go:14", #[], none⟩ (by rw [hOPS66]; kernel_rfl) (by rw [hOPS66]; kernel_rfl) ?_
  intro KQ hKQ; go_big_quiet_op; first | go_big_quiet_on | go_big_quiet_call (exact fun _ => rfl)
  refine quiet_op (i := 16) ⟨some 33, Op.move (Operand.tmp 32), 4, "law.go:14", #[], none⟩ (by rw [hOPS66]; kernel_rfl) (by rw [hOPS66]; kernel_rfl) ?_
  intro KQ hKQ; go_big_quiet_op; first | go_big_quiet_on | go_big_quiet_call (exact fun _ => rfl)
  refine quiet_at (i := 17) ⟨some 34, Op.load 27 (Operand.tmp 4), 27, "law.go:14", #[], none⟩ (by rw [hOPS66]; kernel_rfl) (by rw [hOPS66]; kernel_rfl) ?_
  refine wpQuiet_load_row (by kernel_rfl) 27 (.tmp 4) rfl (w33.heap.size + 1) #[.slice q39 m40 c41] 27 _ rfl (fun w hw => (HX52.out.below hw).blk) Tryd.underlying27 rfl nInfo ?_
  simp only [Act.put, List.setIfInBounds_toArray, List.set_cons_succ, List.set_cons_zero]
  refine quiet_done ?_
  refine event_at (i := 18) ⟨some 35, Op.call { callee := Callee.value (Operand.func 42), args := #[Operand.const (Value.int IntKind.u64 6)], argTypes := #[53] }, 27, "law.go:14", #[], none⟩ (by rw [hOPS66]; kernel_rfl) (by rw [hOPS66]; kernel_rfl) ?_
  go_wp2_with (go_at_call 42; refine (from_calls 6 (by decide) _).mono ?_; rintro e w111 ⟨v, rfl, hv, hb⟩)
  obtain ⟨q112, m113, c114, rfl⟩ := hv.shape
  have HN115 := Lib.hid hv
  clear hv
  have HL116 := Lib.hid (show 6 < B ^ 2 from by decide)
  have HR117 := Lib.hid (Below.trans HR102.out (Below.mono hb HR102.out.size))
  clear HR102
  have H118 := Lib.hid (H103.out.below hb)
  have H119 := Lib.hid (H104.out.below hb)
  have H120 := Lib.hid (H105.out.below hb)
  have H121 := Lib.hid (H106.out.below hb)
  have H122 := Lib.hid (H107.out.below hb)
  have H123 := Lib.hid (H108.out.below hb)
  have HB124 := Lib.hid (below_step hb HB109.out)
  clear H103 H104 H105 H106 H107 H108 HB109
  clear hb
  refine hK110 _ _ HR117.out ?_
  refine pt_one ?_
  intro K125 hK125
  refine quiet_done ?_
  refine event_at (i := 19) ⟨some 36, Op.call { callee := Callee.value (Operand.func 28), args := #[Operand.tmp 34, Operand.tmp 35], argTypes := #[27, 27] }, 4, "law.go:14", #[], none⟩ (by rw [hOPS66]; kernel_rfl) (by rw [hOPS66]; kernel_rfl) ?_
  go_wp2_with (go_at_call 28; refine (Equal_t H120.out HN115.out (show 6 = 6 from rfl)).mono ?_; rintro e w126 ⟨rfl, hb⟩)
  have HR127 := Lib.hid (Below.trans HR117.out (Below.mono hb HR117.out.size))
  clear HR117
  have H128 := Lib.hid (H118.out.below hb)
  have H129 := Lib.hid (H119.out.below hb)
  have H130 := Lib.hid (H120.out.below hb)
  have H131 := Lib.hid (H121.out.below hb)
  have H132 := Lib.hid (H122.out.below hb)
  have H133 := Lib.hid (H123.out.below hb)
  have HB134 := Lib.hid (below_step hb HB124.out)
  clear H118 H119 H120 H121 H122 H123 HB124
  clear hb
  refine hK125 _ _ HR127.out ?_
  refine pt_one ?_
  intro K135 hK135
  refine quiet_op (i := 20) ⟨some 37, Op.pick (Operand.tmp 33) (Operand.tmp 36) (Operand.const (Value.bool false)), 4, "law.go:14", #[], none⟩ (by rw [hOPS66]; kernel_rfl) (by rw [hOPS66]; kernel_rfl) ?_
  intro KQ hKQ; go_big_quiet_op; first | go_big_quiet_on | go_big_quiet_call (exact fun _ => rfl)
  refine quiet_op (i := 21) ⟨some 38, Op.move (Operand.tmp 37), 4, "law.go:14", #[], none⟩ (by rw [hOPS66]; kernel_rfl) (by rw [hOPS66]; kernel_rfl) ?_
  intro KQ hKQ; go_big_quiet_op; first | go_big_quiet_on | go_big_quiet_call (exact fun _ => rfl)
  refine quiet_done ?_
  refine event_at (i := 22) ⟨some 39, Op.call { callee := Callee.value (Operand.func 42), args := #[Operand.const (Value.int IntKind.u64 84)], argTypes := #[53] }, 27, "law.go:14", #[], none⟩ (by rw [hOPS66]; kernel_rfl) (by rw [hOPS66]; kernel_rfl) ?_
  go_wp2_with (go_at_call 42; refine (from_calls 84 (by decide) _).mono ?_; rintro e w136 ⟨v, rfl, hv, hb⟩)
  obtain ⟨q137, m138, c139, rfl⟩ := hv.shape
  have HN140 := Lib.hid hv
  clear hv
  have HL141 := Lib.hid (show 84 < B ^ 2 from by decide)
  have HR142 := Lib.hid (Below.trans HR127.out (Below.mono hb HR127.out.size))
  clear HR127
  have H143 := Lib.hid (H128.out.below hb)
  have H144 := Lib.hid (H129.out.below hb)
  have H145 := Lib.hid (H130.out.below hb)
  have H146 := Lib.hid (H131.out.below hb)
  have H147 := Lib.hid (H132.out.below hb)
  have H148 := Lib.hid (H133.out.below hb)
  have HB149 := Lib.hid (below_step hb HB134.out)
  clear H128 H129 H130 H131 H132 H133 HB134
  clear hb
  refine hK135 _ _ HR142.out ?_
  refine pt_one ?_
  intro K150 hK150
  refine quiet_done ?_
  refine event_at (i := 23) ⟨some 40, Op.call { callee := Callee.value (Operand.func 42), args := #[Operand.const (Value.int IntKind.u64 36)], argTypes := #[53] }, 27, "law.go:14", #[], none⟩ (by rw [hOPS66]; kernel_rfl) (by rw [hOPS66]; kernel_rfl) ?_
  go_wp2_with (go_at_call 42; refine (from_calls 36 (by decide) _).mono ?_; rintro e w151 ⟨v, rfl, hv, hb⟩)
  obtain ⟨q152, m153, c154, rfl⟩ := hv.shape
  have HN155 := Lib.hid hv
  clear hv
  have HL156 := Lib.hid (show 36 < B ^ 2 from by decide)
  have HR157 := Lib.hid (Below.trans HR142.out (Below.mono hb HR142.out.size))
  clear HR142
  have H158 := Lib.hid (H143.out.below hb)
  have H159 := Lib.hid (H144.out.below hb)
  have H160 := Lib.hid (H145.out.below hb)
  have H161 := Lib.hid (HN140.out.below hb)
  have H162 := Lib.hid (H146.out.below hb)
  have H163 := Lib.hid (H147.out.below hb)
  have H164 := Lib.hid (H148.out.below hb)
  have HB165 := Lib.hid (below_step hb HB149.out)
  clear H143 H144 H145 HN140 H146 H147 H148 HB149
  clear hb
  refine hK150 _ _ HR157.out ?_
  refine pt_one ?_
  intro K166 hK166
  refine quiet_done ?_
  refine event_at (i := 24) ⟨some 41, Op.call { callee := Callee.value (Operand.func 27), args := #[Operand.tmp 39, Operand.tmp 40], argTypes := #[27, 27] }, 27, "law.go:14", #[], none⟩ (by rw [hOPS66]; kernel_rfl) (by rw [hOPS66]; kernel_rfl) ?_
  go_wp2_with (go_at_call 27; refine (Gcd_eq divOk_digit H161.out HN155.out (show (fun _ n2 => n2 < B) 84 36 from by decide) (show Nat.gcd 84 36 = 12 from rfl)).mono ?_; rintro e w167 ⟨v, rfl, hv, hb⟩)
  obtain ⟨q168, m169, c170, rfl⟩ := hv.shape
  have HN171 := Lib.hid hv
  clear hv
  have HL172 := Lib.hid (show 12 < B ^ 2 from by decide)
  have HR173 := Lib.hid (Below.trans HR157.out (Below.mono hb HR157.out.size))
  clear HR157
  have H174 := Lib.hid (H158.out.below hb)
  have H175 := Lib.hid (H159.out.below hb)
  have H176 := Lib.hid (H160.out.below hb)
  have H177 := Lib.hid (H162.out.below hb)
  have H178 := Lib.hid (H163.out.below hb)
  have H179 := Lib.hid (H164.out.below hb)
  have HB180 := Lib.hid (below_step hb HB165.out)
  clear H158 H159 H160 H162 H163 H164 HB165
  clear hb
  refine hK166 _ _ HR173.out ?_
  refine pt_one ?_
  intro K181 hK181
  refine quiet_done ?_
  refine event_at (i := 25) ⟨some 42, Op.call { callee := Callee.value (Operand.func 42), args := #[Operand.const (Value.int IntKind.u64 12)], argTypes := #[53] }, 27, "law.go:14", #[], none⟩ (by rw [hOPS66]; kernel_rfl) (by rw [hOPS66]; kernel_rfl) ?_
  go_wp2_with (go_at_call 42; refine (from_calls 12 (by decide) _).mono ?_; rintro e w182 ⟨v, rfl, hv, hb⟩)
  obtain ⟨q183, m184, c185, rfl⟩ := hv.shape
  have HN186 := Lib.hid hv
  clear hv
  have HL187 := Lib.hid (show 12 < B ^ 2 from by decide)
  have HR188 := Lib.hid (Below.trans HR173.out (Below.mono hb HR173.out.size))
  clear HR173
  have H189 := Lib.hid (H174.out.below hb)
  have H190 := Lib.hid (H175.out.below hb)
  have H191 := Lib.hid (H176.out.below hb)
  have H192 := Lib.hid (HN171.out.below hb)
  have H193 := Lib.hid (H177.out.below hb)
  have H194 := Lib.hid (H178.out.below hb)
  have H195 := Lib.hid (H179.out.below hb)
  have HB196 := Lib.hid (below_step hb HB180.out)
  clear H174 H175 H176 HN171 H177 H178 H179 HB180
  clear hb
  refine hK181 _ _ HR188.out ?_
  refine pt_one ?_
  intro K197 hK197
  refine quiet_done ?_
  refine event_at (i := 26) ⟨some 43, Op.call { callee := Callee.value (Operand.func 28), args := #[Operand.tmp 41, Operand.tmp 42], argTypes := #[27, 27] }, 4, "law.go:14", #[], none⟩ (by rw [hOPS66]; kernel_rfl) (by rw [hOPS66]; kernel_rfl) ?_
  go_wp2_with (go_at_call 28; refine (Equal_t H192.out HN186.out (show 12 = 12 from rfl)).mono ?_; rintro e w198 ⟨rfl, hb⟩)
  have HR199 := Lib.hid (Below.trans HR188.out (Below.mono hb HR188.out.size))
  clear HR188
  have H200 := Lib.hid (H189.out.below hb)
  have H201 := Lib.hid (H190.out.below hb)
  have H202 := Lib.hid (H191.out.below hb)
  have H203 := Lib.hid (H193.out.below hb)
  have H204 := Lib.hid (H194.out.below hb)
  have H205 := Lib.hid (H195.out.below hb)
  have HB206 := Lib.hid (below_step hb HB196.out)
  clear H189 H190 H191 H193 H194 H195 HB196
  clear hb
  refine hK197 _ _ HR199.out ?_
  refine pt_one ?_
  intro K207 hK207
  refine quiet_op (i := 27) ⟨some 44, Op.pick (Operand.tmp 38) (Operand.tmp 43) (Operand.const (Value.bool false)), 4, "law.go:14", #[], none⟩ (by rw [hOPS66]; kernel_rfl) (by rw [hOPS66]; kernel_rfl) ?_
  intro KQ hKQ; go_big_quiet_op; first | go_big_quiet_on | go_big_quiet_call (exact fun _ => rfl)
  refine quiet_op (i := 28) ⟨some 45, Op.move (Operand.tmp 44), 4, "law.go:14", #[], none⟩ (by rw [hOPS66]; kernel_rfl) (by rw [hOPS66]; kernel_rfl) ?_
  intro KQ hKQ; go_big_quiet_op; first | go_big_quiet_on | go_big_quiet_call (exact fun _ => rfl)
  refine quiet_done ?_
  refine event_at (i := 29) ⟨some 46, Op.call { callee := Callee.value (Operand.func 42), args := #[Operand.const (Value.int IntKind.u64 1)], argTypes := #[53] }, 27, "law.go:14", #[], none⟩ (by rw [hOPS66]; kernel_rfl) (by rw [hOPS66]; kernel_rfl) ?_
  go_wp2_with (go_at_call 42; refine (from_calls 1 (by decide) _).mono ?_; rintro e w208 ⟨v, rfl, hv, hb⟩)
  obtain ⟨q209, m210, c211, rfl⟩ := hv.shape
  have HN212 := Lib.hid hv
  clear hv
  have HL213 := Lib.hid (show 1 < B ^ 2 from by decide)
  have HR214 := Lib.hid (Below.trans HR199.out (Below.mono hb HR199.out.size))
  clear HR199
  have H215 := Lib.hid (H200.out.below hb)
  have H216 := Lib.hid (H201.out.below hb)
  have H217 := Lib.hid (H202.out.below hb)
  have H218 := Lib.hid (H203.out.below hb)
  have H219 := Lib.hid (H204.out.below hb)
  have H220 := Lib.hid (H205.out.below hb)
  have HB221 := Lib.hid (below_step hb HB206.out)
  clear H200 H201 H202 H203 H204 H205 HB206
  clear hb
  refine hK207 _ _ HR214.out ?_
  refine pt_one ?_
  intro K222 hK222
  refine quiet_done ?_
  refine event_at (i := 30) ⟨some 47, Op.call { callee := Callee.value (Operand.func 42), args := #[Operand.const (Value.int IntKind.u64 2)], argTypes := #[53] }, 27, "law.go:14", #[], none⟩ (by rw [hOPS66]; kernel_rfl) (by rw [hOPS66]; kernel_rfl) ?_
  go_wp2_with (go_at_call 42; refine (from_calls 2 (by decide) _).mono ?_; rintro e w223 ⟨v, rfl, hv, hb⟩)
  obtain ⟨q224, m225, c226, rfl⟩ := hv.shape
  have HN227 := Lib.hid hv
  clear hv
  have HL228 := Lib.hid (show 2 < B ^ 2 from by decide)
  have HR229 := Lib.hid (Below.trans HR214.out (Below.mono hb HR214.out.size))
  clear HR214
  have H230 := Lib.hid (H215.out.below hb)
  have H231 := Lib.hid (H216.out.below hb)
  have H232 := Lib.hid (H217.out.below hb)
  have H233 := Lib.hid (HN212.out.below hb)
  have H234 := Lib.hid (H218.out.below hb)
  have H235 := Lib.hid (H219.out.below hb)
  have H236 := Lib.hid (H220.out.below hb)
  have HB237 := Lib.hid (below_step hb HB221.out)
  clear H215 H216 H217 HN212 H218 H219 H220 HB221
  clear hb
  refine hK222 _ _ HR229.out ?_
  refine pt_one ?_
  intro K238 hK238
  refine quiet_done ?_
  refine event_at (i := 31) ⟨some 48, Op.call { callee := Callee.value (Operand.func 28), args := #[Operand.tmp 46, Operand.tmp 47], argTypes := #[27, 27] }, 4, "law.go:14", #[], none⟩ (by rw [hOPS66]; kernel_rfl) (by rw [hOPS66]; kernel_rfl) ?_
  go_wp2_with (go_at_call 28; refine (Equal_f H233.out HN227.out (show ¬ 1 = 2 from by decide)).mono ?_; rintro e w239 ⟨rfl, hb⟩)
  have HR240 := Lib.hid (Below.trans HR229.out (Below.mono hb HR229.out.size))
  clear HR229
  have H241 := Lib.hid (H230.out.below hb)
  have H242 := Lib.hid (H231.out.below hb)
  have H243 := Lib.hid (H232.out.below hb)
  have H244 := Lib.hid (H234.out.below hb)
  have H245 := Lib.hid (H235.out.below hb)
  have H246 := Lib.hid (H236.out.below hb)
  have HB247 := Lib.hid (below_step hb HB237.out)
  clear H230 H231 H232 H234 H235 H236 HB237
  clear hb
  refine hK238 _ _ HR240.out ?_
  refine pt_last ?_
  refine quiet_op (i := 32) ⟨some 49, Op.unOp UnOp.not 4 (Operand.tmp 48), 4, "law.go:14", #[], none⟩ (by rw [hOPS66]; kernel_rfl) (by rw [hOPS66]; kernel_rfl) ?_
  intro KQ hKQ; go_big_quiet_op; first | go_big_quiet_on | go_big_quiet_call (exact fun _ => rfl)
  refine quiet_op (i := 33) ⟨some 50, Op.pick (Operand.tmp 45) (Operand.tmp 49) (Operand.const (Value.bool false)), 4, "law.go:14", #[], none⟩ (by rw [hOPS66]; kernel_rfl) (by rw [hOPS66]; kernel_rfl) ?_
  intro KQ hKQ; go_big_quiet_op; first | go_big_quiet_on | go_big_quiet_call (exact fun _ => rfl)
  refine quiet_op (i := 34) ⟨some 0, Op.assign (Operand.tmp 50), 4, "law.go:14", #[], none⟩ (by rw [hOPS66]; kernel_rfl) (by rw [hOPS66]; kernel_rfl) ?_
  intro KQ hKQ; go_big_quiet_op; first | go_big_quiet_on | go_big_quiet_call (exact fun _ => rfl)
  refine quiet_done ?_
  clear H53 H54 H55 H56 HX51 HX52 HB57 HR240
  obtain ⟨hx248, hf249⟩ := H244.out.cell
  obtain ⟨hx250, hf251⟩ := H245.out.cell
  obtain ⟨hx252, hf253⟩ := H246.out.cell
  go_wp2
  go_ret
  exact ⟨rfl, HB247.out⟩
end Go.Proofs.YtogjobmekjighaaDoor.bn
