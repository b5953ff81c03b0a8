/-
  BignatUint64Arithmetic: the walk.
-/
import Derived.Test.YtogjobmekjighaaDoorBnTd
set_option linter.unusedSimpArgs false
set_option linter.unusedVariables false
namespace Go.Proofs.YtogjobmekjighaaDoor.bn
open Go.RowKit Go.Own Go.Bn
open bd (U8At RefN RefR dnum Digits_calls Text_calls)
set_option maxHeartbeats 4000000
set_option maxRecDepth 100000
theorem arith_walk {W : World} (hD : DecW W) (ht : tabB ≤ W.heap.size) (x y : Nat) (hx : x < 4294967296) (hy : y < 4294967296) :
    Calls Tryd.prog 11 #[.int .u32 (x : Int), .int .u32 (y : Int)] W fun e w' => e = .returned (.bool true) ∧ ∃ x, w' = beyond W x := by
  have HDW := Lib.hid (And.intro hD ht)
  clear hD ht
  have hpl : x * y ≤ 4294967295 * 4294967295 := Nat.mul_le_mul (by omega) (by omega)
  obtain ⟨p, hp⟩ : ∃ p, x * y = p := ⟨_, rfl⟩
  have hpi : (x : Int) * (y : Int) = (p : Int) := by rw [← hp]; simp
  rw [hp] at hpl
  have HP := Lib.hid hp; clear hp
  have hpb : (p : Int) ≤ 18446744065119617025 := by omega
  obtain ⟨t, ht⟩ : ∃ t, x + y = t := ⟨_, rfl⟩
  have hti : (x : Int) + (y : Int) = (t : Int) := by omega
  have htb : (t : Int) ≤ 8589934590 := by omega
  have HT := Lib.hid ht; clear ht
  have hx2 : (x : Int) ≤ 4294967295 := by omega
  have hy2 : (y : Int) ≤ 4294967295 := by omega
  have hne : ((p : Int) != (p : Int)) = false := by simp
  have hne2 : ((t : Int) != (t : Int)) = false := by simp
  have HLX := Lib.hid (show x < B ^ 1 from by unfold B; omega)
  have HLY := Lib.hid (show y < B ^ 1 from by unfold B; omega)
  have HUP := Lib.hid (show p < U64 from by unfold U64; omega)
  have HUT := Lib.hid (show t < U64 from by unfold U64; omega)
  have HFX := Lib.hid (fun w => from_calls x (by omega) w)
  have HFY := Lib.hid (fun w => from_calls y (by omega) w)
  clear hpl hx hy
  have HB0 := Lib.hid (Below.refl W.heap.size W)
  go_enter Tryd.func11, Tryd.ntmps11
  go_wp2_with (fail)
  go_at_call 42
  refine (HFX.out _).mono ?_
  rintro e w1 ⟨v, rfl, hv, hb⟩
  obtain ⟨q2, m3, c4, rfl⟩ := hv.shape
  have HN5 := Lib.hid hv
  clear hv
  have HL6 := Lib.hid (show x < B ^ 1 from HLX.out)
  have HB7 := Lib.hid (below_step hb HB0.out)
  clear HB0
  clear hb
  go_wp2_with (fail)
  go_at_call 42
  refine (HFY.out _).mono ?_
  rintro e w8 ⟨v, rfl, hv, hb⟩
  obtain ⟨q9, m10, c11, rfl⟩ := hv.shape
  have HN12 := Lib.hid hv
  clear hv
  have HL13 := Lib.hid (show y < B ^ 1 from HLY.out)
  have H14 := Lib.hid (HN5.out.below hb)
  have HB15 := Lib.hid (below_step hb HB7.out)
  clear HN5 HB7
  clear hb
  go_upto_region 2 with (fail)
  have hA16 : Below w8.heap.size w8 ((w8.alloc (.cells #[.slice q2 m3 c4] 27)).alloc (.cells #[.slice q9 m10 c11] 27)) := (by repeat (first | assumption | exact Below.refl _ _ | exact below_beyond _ _ | refine Below.beyond ?_ (by (try simp [size_beyond]) <;> omega) _ | refine Below.drew ?_ | refine Go.Rw.below_drewN ?_ _ | refine Go.Rw.below_setRow ?_ (by (try simp [size_beyond]) <;> omega) _ | refine Below.alloc ?_ (by (try simp [size_beyond]) <;> omega) _ | refine Below.setCell ?_ (by (try simp [size_beyond]) <;> omega) _))
  have HX18 := Lib.hid ((two_blocks w8 (.slice q2 m3 c4) (.slice q9 m10 c11)).1)
  have HX19 := Lib.hid ((two_blocks w8 (.slice q2 m3 c4) (.slice q9 m10 c11)).2)
  have H20 := Lib.hid (H14.out.below hA16)
  have H21 := Lib.hid (HN12.out.below hA16)
  have HB22 := Lib.hid (below_step hA16 HB15.out)
  clear H14 HN12 HB15
  clear hA16
  generalize ((w8.alloc (.cells #[.slice q2 m3 c4] 27)).alloc (.cells #[.slice q9 m10 c11] 27)) = w17 at *
  obtain ⟨hx23, hf24⟩ := HX18.out.cell
  have hl25 := HX18.out.lt
  obtain ⟨hx26, hf27⟩ := HX19.out.cell
  have hl28 := HX19.out.lt
  go_wp2_with (fail)
  go_at_call 24
  refine (Mul_calls H20.out H21.out 1 1 HL6.out HL13.out (by decide)).mono ?_
  rintro e w29 ⟨v, rfl, hv, hb⟩
  obtain ⟨q30, m31, c32, rfl⟩ := hv.shape
  have HN33 := Lib.hid hv
  clear hv
  have HL34 := Lib.hid (show (x * y) < B ^ 2 from mul_lt HL6.out HL13.out (by decide))
  clear hx23 hf24 hl25 hx26 hf27 hl28
  have H35 := Lib.hid (H20.out.below hb)
  have H36 := Lib.hid (H21.out.below hb)
  have H37 := Lib.hid (HX18.out.below hb)
  have H38 := Lib.hid (HX19.out.below hb)
  have HB39 := Lib.hid (below_step hb HB22.out)
  clear H20 H21 HX18 HX19 HB22
  clear hb
  obtain ⟨hx40, hf41⟩ := H37.out.cell
  have hl42 := H37.out.lt
  obtain ⟨hx43, hf44⟩ := H38.out.cell
  have hl45 := H38.out.lt
  have HN33_ := Lib.hid (HP.out ▸ HN33.out)
  go_wp2_with (fail)
  go_at_call 37
  refine (Uint64_eq HN33_.out HUP.out rfl).mono ?_
  rintro e w46 ⟨rfl, hb⟩
  clear hx40 hf41 hl42 hx43 hf44 hl45
  have H47 := Lib.hid (H35.out.below hb)
  have H48 := Lib.hid (H36.out.below hb)
  have H49 := Lib.hid (H37.out.below hb)
  have H50 := Lib.hid (H38.out.below hb)
  have HB51 := Lib.hid (below_step hb HB39.out)
  clear H35 H36 H37 H38 HB39
  clear hb
  obtain ⟨hx52, hf53⟩ := H49.out.cell
  have hl54 := H49.out.lt
  obtain ⟨hx55, hf56⟩ := H50.out.cell
  have hl57 := H50.out.lt
  go_wp2_with (fail)
  go_at_call 22
  refine (Add_calls H47.out H48.out 1 HL6.out HL13.out (by decide)).mono ?_
  rintro e w58 ⟨v, rfl, hv, hb⟩
  obtain ⟨q59, m60, c61, rfl⟩ := hv.shape
  have HN62 := Lib.hid hv
  clear hv
  have HL63 := Lib.hid (show (x + y) < B ^ 2 from add_lt HL6.out HL13.out (by decide) (by decide))
  clear hx52 hf53 hl54 hx55 hf56 hl57
  have H64 := Lib.hid (H47.out.below hb)
  have H65 := Lib.hid (H48.out.below hb)
  have H66 := Lib.hid (H49.out.below hb)
  have H67 := Lib.hid (H50.out.below hb)
  have HB68 := Lib.hid (below_step hb HB51.out)
  clear H47 H48 H49 H50 HB51
  clear hb
  obtain ⟨hx69, hf70⟩ := H66.out.cell
  have hl71 := H66.out.lt
  obtain ⟨hx72, hf73⟩ := H67.out.cell
  have hl74 := H67.out.lt
  have HN62_ := Lib.hid (HT.out ▸ HN62.out)
  go_wp2_with (fail)
  go_at_call 37
  refine (Uint64_eq HN62_.out HUT.out rfl).mono ?_
  rintro e w75 ⟨rfl, hb⟩
  clear hx69 hf70 hl71 hx72 hf73 hl74
  have H76 := Lib.hid (H64.out.below hb)
  have H77 := Lib.hid (H65.out.below hb)
  have H78 := Lib.hid (H66.out.below hb)
  have H79 := Lib.hid (H67.out.below hb)
  have HB80 := Lib.hid (below_step hb HB68.out)
  clear H64 H65 H66 H67 HB68
  clear hb
  obtain ⟨hx81, hf82⟩ := H78.out.cell
  have hl83 := H78.out.lt
  obtain ⟨hx84, hf85⟩ := H79.out.cell
  have hl86 := H79.out.lt
  go_wp2_with (fail)
  go_at_call 12
  refine (known_any HDW.out HB80.out).mono ?_
  rintro e w87 ⟨rfl, hb⟩
  clear hx81 hf82 hl83 hx84 hf85 hl86
  have H88 := Lib.hid (H76.out.below hb)
  have H89 := Lib.hid (H77.out.below hb)
  have H90 := Lib.hid (H78.out.below hb)
  have H91 := Lib.hid (H79.out.below hb)
  have HB92 := Lib.hid (below_step hb HB80.out)
  clear H76 H77 H78 H79 HB80
  clear hb
  obtain ⟨hx93, hf94⟩ := H90.out.cell
  have hl95 := H90.out.lt
  obtain ⟨hx96, hf97⟩ := H91.out.cell
  have hl98 := H91.out.lt
  by_cases h0 : y = 0
  · have h0i : ((y : Int) == 0) = true := by simp [h0]
    clear h0
    go_wp2
    go_ret
    exact ⟨rfl, beyond_of HB92.out⟩
  · have h0i : ((y : Int) == 0) = false := by simp; omega
    have h0n : ((y : Int) != 0) = true := by simp; omega
    have hyne : (y : Int) ≠ 0 := by omega
    have hy0 : (0 : Int) < (y : Int) := by omega
    have ed : Int.tdiv (x : Int) (y : Int) = ((x / y : Nat) : Int) := by rw [Int.tdiv_eq_ediv_of_nonneg (by omega)]; rfl
    have em : Int.tmod (x : Int) (y : Int) = ((x % y : Nat) : Int) := by rw [Int.tmod_eq_emod_of_nonneg (by omega)]; rfl
    have hq1 : x / y ≤ x := Nat.div_le_self _ _
    have hr1 : x % y < y := Nat.mod_lt _ (by omega)
    have HDM := Lib.hid (And.intro h0 (show y < B from by unfold B; omega))
    clear h0
    go_wp2_with (fail)
    go_at_call 26
    refine (DivMod_digit H88.out H89.out HDM.out.1 HDM.out.2).mono ?_
    rintro e w99 ⟨v, v2, rfl, hv, hv2, hb⟩
    generalize x / y = qd at *
    generalize x % y = rd at *
    have HUQ := Lib.hid (show qd < U64 from by unfold U64; omega)
    have HUR := Lib.hid (show rd < U64 from by unfold U64; omega)
    have hqi : (qd : Int) ≤ 4294967295 := by omega
    have hri : (rd : Int) ≤ 4294967295 := by omega
    have hqe : ((qd : Int) == (qd : Int)) = true := by simp
    have hre : ((rd : Int) == (rd : Int)) = true := by simp
    have HLQ := Lib.hid (show qd < B ^ 1 from by unfold B; omega)
    have HLR := Lib.hid (show rd < B ^ 1 from by unfold B; omega)
    obtain ⟨q100, m101, c102, rfl⟩ := hv.shape
    have HN103 := Lib.hid hv
    clear hv
    have HL104 := Lib.hid (show qd < B ^ 1 from HLQ.out)
    obtain ⟨q105, m106, c107, rfl⟩ := hv2.shape
    have HN108 := Lib.hid hv2
    clear hv2
    have HL109 := Lib.hid (show rd < B ^ 1 from HLR.out)
    clear hx93 hf94 hl95 hx96 hf97 hl98
    have H110 := Lib.hid (H88.out.below hb)
    have H111 := Lib.hid (H89.out.below hb)
    have H112 := Lib.hid (H90.out.below hb)
    have H113 := Lib.hid (H91.out.below hb)
    have HB114 := Lib.hid (below_step hb HB92.out)
    clear H88 H89 H90 H91 HB92
    clear hb
    obtain ⟨hx115, hf116⟩ := H112.out.cell
    have hl117 := H112.out.lt
    obtain ⟨hx118, hf119⟩ := H113.out.cell
    have hl120 := H113.out.lt
    go_upto_region 9 with (fail)
    have hA121 : Below w99.heap.size w99 ((w99.alloc (.cells #[.slice q100 m101 c102] 27)).alloc (.cells #[.slice q105 m106 c107] 27)) := (by repeat (first | assumption | exact Below.refl _ _ | exact below_beyond _ _ | refine Below.beyond ?_ (by (try simp [size_beyond]) <;> omega) _ | refine Below.drew ?_ | refine Go.Rw.below_drewN ?_ _ | refine Go.Rw.below_setRow ?_ (by (try simp [size_beyond]) <;> omega) _ | refine Below.alloc ?_ (by (try simp [size_beyond]) <;> omega) _ | refine Below.setCell ?_ (by (try simp [size_beyond]) <;> omega) _))
    have HX123 := Lib.hid ((two_blocks w99 (.slice q100 m101 c102) (.slice q105 m106 c107)).1)
    have HX124 := Lib.hid ((two_blocks w99 (.slice q100 m101 c102) (.slice q105 m106 c107)).2)
    clear hx115 hf116 hl117 hx118 hf119 hl120
    have H125 := Lib.hid (H110.out.below hA121)
    have H126 := Lib.hid (H111.out.below hA121)
    have H127 := Lib.hid (HN103.out.below hA121)
    have H128 := Lib.hid (HN108.out.below hA121)
    have H129 := Lib.hid (H112.out.below hA121)
    have H130 := Lib.hid (H113.out.below hA121)
    have HB131 := Lib.hid (below_step hA121 HB114.out)
    clear H110 H111 HN103 HN108 H112 H113 HB114
    clear hA121
    generalize ((w99.alloc (.cells #[.slice q100 m101 c102] 27)).alloc (.cells #[.slice q105 m106 c107] 27)) = w122 at *
    obtain ⟨hx132, hf133⟩ := H129.out.cell
    have hl134 := H129.out.lt
    obtain ⟨hx135, hf136⟩ := H130.out.cell
    have hl137 := H130.out.lt
    obtain ⟨hx138, hf139⟩ := HX123.out.cell
    have hl140 := HX123.out.lt
    obtain ⟨hx141, hf142⟩ := HX124.out.cell
    have hl143 := HX124.out.lt
    go_wp2_with (fail)
    go_at_call 37
    refine (Uint64_eq H127.out HUQ.out rfl).mono ?_
    rintro e w144 ⟨rfl, hb⟩
    clear hx132 hf133 hl134 hx135 hf136 hl137 hx138 hf139 hl140 hx141 hf142 hl143
    have H145 := Lib.hid (H125.out.below hb)
    have H146 := Lib.hid (H126.out.below hb)
    have H147 := Lib.hid (H127.out.below hb)
    have H148 := Lib.hid (H128.out.below hb)
    have H149 := Lib.hid (H129.out.below hb)
    have H150 := Lib.hid (H130.out.below hb)
    have H151 := Lib.hid (HX123.out.below hb)
    have H152 := Lib.hid (HX124.out.below hb)
    have HB153 := Lib.hid (below_step hb HB131.out)
    clear H125 H126 H127 H128 H129 H130 HX123 HX124 HB131
    clear hb
    obtain ⟨hx154, hf155⟩ := H149.out.cell
    have hl156 := H149.out.lt
    obtain ⟨hx157, hf158⟩ := H150.out.cell
    have hl159 := H150.out.lt
    obtain ⟨hx160, hf161⟩ := H151.out.cell
    have hl162 := H151.out.lt
    obtain ⟨hx163, hf164⟩ := H152.out.cell
    have hl165 := H152.out.lt
    go_wp2_with (fail)
    go_at_call 37
    refine (Uint64_eq H148.out HUR.out rfl).mono ?_
    rintro e w166 ⟨rfl, hb⟩
    clear hx154 hf155 hl156 hx157 hf158 hl159 hx160 hf161 hl162 hx163 hf164 hl165
    have H167 := Lib.hid (H145.out.below hb)
    have H168 := Lib.hid (H146.out.below hb)
    have H169 := Lib.hid (H147.out.below hb)
    have H170 := Lib.hid (H148.out.below hb)
    have H171 := Lib.hid (H149.out.below hb)
    have H172 := Lib.hid (H150.out.below hb)
    have H173 := Lib.hid (H151.out.below hb)
    have H174 := Lib.hid (H152.out.below hb)
    have HB175 := Lib.hid (below_step hb HB153.out)
    clear H145 H146 H147 H148 H149 H150 H151 H152 HB153
    clear hb
    obtain ⟨hx176, hf177⟩ := H171.out.cell
    have hl178 := H171.out.lt
    obtain ⟨hx179, hf180⟩ := H172.out.cell
    have hl181 := H172.out.lt
    obtain ⟨hx182, hf183⟩ := H173.out.cell
    have hl184 := H173.out.lt
    obtain ⟨hx185, hf186⟩ := H174.out.cell
    have hl187 := H174.out.lt
    go_wp2
    go_ret
    exact ⟨rfl, beyond_of HB175.out⟩
end Go.Proofs.YtogjobmekjighaaDoor.bn
