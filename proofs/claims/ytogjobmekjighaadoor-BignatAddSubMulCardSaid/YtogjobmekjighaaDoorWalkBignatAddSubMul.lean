/-
  BignatAddSubMul: the walk.
-/
import Derived.Test.YtogjobmekjighaaDoorBdR
import Derived.Test.YtogjobmekjighaaDoorBnTc
set_option linter.unusedSimpArgs false
set_option linter.unusedVariables false
namespace Go.Proofs.YtogjobmekjighaaDoor.bn
open Go.RowKit Go.Own Go.Bn
open bd (U8At RefN RefR dnum Digits_calls Text_calls)
set_option maxHeartbeats 4000000
set_option maxRecDepth 100000
theorem asm_walk {W : World} (hD : DecW W) (ht : tabB ≤ W.heap.size) {qa qb : Option Addr} {ma mb ca cb : Nat} {xsa xsb : List Nat} (ha : (ma : Int) ≤ 9223372036854775807) (hb : (mb : Int) ≤ 9223372036854775807) (hla : xsa.length = ma) (hlb : xsb.length = mb) (hua : ma ≤ 999000 → U8At qa ma ca xsa W) (hub : mb ≤ 999000 → U8At qb mb cb xsb W) :
    Calls Tryd.prog 3 #[.slice qa ma ca, .slice qb mb cb] W fun e w' => e = .returned (.bool true) ∧ ∃ x, w' = beyond W x := by
  have HDW := Lib.hid (And.intro hD ht)
  clear hD ht
  by_cases hfew : ma ≤ 150 ∧ mb ≤ 150
  · have hsz : ma ≤ 150 ∧ mb ≤ 150 := hfew
    obtain ⟨hma, hmb⟩ := hfew
    have HB0 := Lib.hid (Below.refl W.heap.size W)
    have HUa := Lib.hid (hua (by omega))
    have HUb := Lib.hid (hub (by omega))
    clear hua hub hsz
    go_enter Tryd.func3, Tryd.ntmps3
    go_wp2_with (fail)
    go_at_call 12
    refine (known_calls (HDW.out.1.below HDW.out.2 HB0.out) (Nat.le_trans HDW.out.2 HB0.out.size)).mono ?_
    rintro e w1 ⟨rfl, hb⟩
    have H2 := Lib.hid (HUa.out.below hb)
    have H3 := Lib.hid (HUb.out.below hb)
    have HB4 := Lib.hid (below_step hb HB0.out)
    clear HUa HUb HB0
    clear hb
    have HSS := Lib.hid (ss2 w1 22 qa qb ma mb ca cb ha hb)
    have HFW := Lib.hid (few_eq HSS.out (show ([ma, mb].all (· ≤ 150)) = true from by simp; omega))
    have hA5 : Below w1.heap.size w1 (w1.alloc (.cells #[.slice qa ma ca, .slice qb mb cb] 22)) := (by repeat (first | assumption | exact Below.refl _ _ | exact below_beyond _ _ | refine Below.beyond ?_ (by (try simp [size_beyond]) <;> omega) _ | refine Below.drew ?_ | refine Go.Rw.below_drewN ?_ _ | refine Go.Rw.below_setRow ?_ (by (try simp [size_beyond]) <;> omega) _ | refine Below.alloc ?_ (by (try simp [size_beyond]) <;> omega) _ | refine Below.setCell ?_ (by (try simp [size_beyond]) <;> omega) _))
    go_wp2_with (fail)
    go_at_call 13
    refine HFW.out.mono ?_
    rintro e wz ⟨rfl, rfl⟩
    have H7 := Lib.hid (H2.out.below hA5)
    have H8 := Lib.hid (H3.out.below hA5)
    have HB9 := Lib.hid (below_step hA5 HB4.out)
    clear H2 H3 HB4
    clear hA5 HSS HFW
    generalize (w1.alloc (.cells #[.slice qa ma ca, .slice qb mb cb] 22)) = w6 at *
    have HOa := Lib.hid (Of_calls H7.out (by omega))
    go_wp2_with (fail)
    go_at_call 14
    refine (HOa.out).mono ?_
    rintro e w10 ⟨v, rfl, hv, hb⟩
    obtain ⟨q11, m12, c13, rfl⟩ := hv.shape
    have HN14 := Lib.hid hv
    clear hv
    have HL15 := Lib.hid (show dnum xsa < B ^ 17 from dnum_B xsa 17 (by omega))
    have H16 := Lib.hid (H7.out.below hb)
    have H17 := Lib.hid (H8.out.below hb)
    have HB18 := Lib.hid (below_step hb HB9.out)
    clear H7 H8 HB9
    clear hb
    have HOb := Lib.hid (Of_calls H17.out (by omega))
    go_wp2_with (fail)
    go_at_call 14
    refine (HOb.out).mono ?_
    rintro e w19 ⟨v, rfl, hv, hb⟩
    obtain ⟨q20, m21, c22, rfl⟩ := hv.shape
    have HN23 := Lib.hid hv
    clear hv
    have HL24 := Lib.hid (show dnum xsb < B ^ 17 from dnum_B xsb 17 (by omega))
    have H25 := Lib.hid (HN14.out.below hb)
    have H26 := Lib.hid (H16.out.below hb)
    have H27 := Lib.hid (H17.out.below hb)
    have HB28 := Lib.hid (below_step hb HB18.out)
    clear HN14 H16 H17 HB18
    clear hb
    go_upto_region 4 with (fail)
    have hA29 : Below w19.heap.size w19 ((w19.alloc (.cells #[.slice q11 m12 c13] 27)).alloc (.cells #[.slice q20 m21 c22] 27)) := (by repeat (first | assumption | exact Below.refl _ _ | exact below_beyond _ _ | refine Below.beyond ?_ (by (try simp [size_beyond]) <;> omega) _ | refine Below.drew ?_ | refine Go.Rw.below_drewN ?_ _ | refine Go.Rw.below_setRow ?_ (by (try simp [size_beyond]) <;> omega) _ | refine Below.alloc ?_ (by (try simp [size_beyond]) <;> omega) _ | refine Below.setCell ?_ (by (try simp [size_beyond]) <;> omega) _))
    have HX31 := Lib.hid ((two_blocks w19 (.slice q11 m12 c13) (.slice q20 m21 c22)).1)
    have HX32 := Lib.hid ((two_blocks w19 (.slice q11 m12 c13) (.slice q20 m21 c22)).2)
    have H33 := Lib.hid (H25.out.below hA29)
    have H34 := Lib.hid (HN23.out.below hA29)
    have H35 := Lib.hid (H26.out.below hA29)
    have H36 := Lib.hid (H27.out.below hA29)
    have HB37 := Lib.hid (below_step hA29 HB28.out)
    clear H25 HN23 H26 H27 HB28
    clear hA29
    generalize ((w19.alloc (.cells #[.slice q11 m12 c13] 27)).alloc (.cells #[.slice q20 m21 c22] 27)) = w30 at *
    obtain ⟨hx38, hf39⟩ := HX31.out.cell
    have hl40 := HX31.out.lt
    obtain ⟨hx41, hf42⟩ := HX32.out.cell
    have hl43 := HX32.out.lt
    have HXa := Lib.hid (bd.dnum_10 (xs := xsa) (k := 150) (by omega))
    have HXb := Lib.hid (bd.dnum_10 (xs := xsb) (k := 150) (by omega))
    go_wp2_with (fail)
    go_at_call 15
    refine (Digits_calls H35.out).mono ?_
    rintro e w44 ⟨q45, m46, c47, rfl, hn, hb⟩
    have HN48 := Lib.hid hn
    clear hn
    clear hx38 hf39 hl40 hx41 hf42 hl43
    have H49 := Lib.hid (H33.out.below hb)
    have H50 := Lib.hid (H34.out.below hb)
    have H51 := Lib.hid (HX31.out.below hb)
    have H52 := Lib.hid (HX32.out.below hb)
    have H53 := Lib.hid (H35.out.below hb)
    have H54 := Lib.hid (H36.out.below hb)
    have HB55 := Lib.hid (below_step hb HB37.out)
    clear H33 H34 HX31 HX32 H35 H36 HB37
    clear hb
    obtain ⟨hx56, hf57⟩ := H51.out.cell
    have hl58 := H51.out.lt
    obtain ⟨hx59, hf60⟩ := H52.out.cell
    have hl61 := H52.out.lt
    go_wp2_with (fail)
    go_at_call 15
    refine (Digits_calls H54.out).mono ?_
    rintro e w62 ⟨q63, m64, c65, rfl, hn, hb⟩
    have HN66 := Lib.hid hn
    clear hn
    clear hx56 hf57 hl58 hx59 hf60 hl61
    have H67 := Lib.hid (H49.out.below hb)
    have H68 := Lib.hid (H50.out.below hb)
    have H69 := Lib.hid (HN48.out.below hb)
    have H70 := Lib.hid (H51.out.below hb)
    have H71 := Lib.hid (H52.out.below hb)
    have H72 := Lib.hid (H53.out.below hb)
    have H73 := Lib.hid (H54.out.below hb)
    have HB74 := Lib.hid (below_step hb HB55.out)
    clear H49 H50 HN48 H51 H52 H53 H54 HB55
    clear hb
    obtain ⟨hx75, hf76⟩ := H70.out.cell
    have hl77 := H70.out.lt
    obtain ⟨hx78, hf79⟩ := H71.out.cell
    have hl80 := H71.out.lt
    clear H72 H73
    generalize dnum xsa = x at *
    generalize dnum xsb = y at *
    by_cases hlt : x < y
    · have HLT := Lib.hid hlt
      clear hlt
      go_wp2_with (fail)
      go_at_call 16
      refine (Sub_no H67.out H68.out HLT.out).mono ?_
      rintro e w81 ⟨rfl, hb⟩
      clear hx75 hf76 hl77 hx78 hf79 hl80
      have H82 := Lib.hid (H67.out.below hb)
      have H83 := Lib.hid (H68.out.below hb)
      have H84 := Lib.hid (H69.out.below hb)
      have H85 := Lib.hid (HN66.out.below hb)
      have H86 := Lib.hid (H70.out.below hb)
      have H87 := Lib.hid (H71.out.below hb)
      have HB88 := Lib.hid (below_step hb HB74.out)
      clear H67 H68 H69 HN66 H70 H71 HB74
      clear hb
      obtain ⟨hx89, hf90⟩ := H86.out.cell
      have hl91 := H86.out.lt
      obtain ⟨hx92, hf93⟩ := H87.out.cell
      have hl94 := H87.out.lt
      have HN95 := Lib.hid (bd.nat_nil w81)
      go_upto_region 6 with (fail)
      have hA96 : Below w81.heap.size w81 (w81.alloc (.cells #[.slice none 0 0] 27)) := (by repeat (first | assumption | exact Below.refl _ _ | exact below_beyond _ _ | refine Below.beyond ?_ (by (try simp [size_beyond]) <;> omega) _ | refine Below.drew ?_ | refine Go.Rw.below_drewN ?_ _ | refine Go.Rw.below_setRow ?_ (by (try simp [size_beyond]) <;> omega) _ | refine Below.alloc ?_ (by (try simp [size_beyond]) <;> omega) _ | refine Below.setCell ?_ (by (try simp [size_beyond]) <;> omega) _))
      have HX98 := Lib.hid (NB.new w81 (.slice none 0 0))
      clear hx89 hf90 hl91 hx92 hf93 hl94
      have H99 := Lib.hid (H82.out.below hA96)
      have H100 := Lib.hid (H83.out.below hA96)
      have H101 := Lib.hid (HN95.out.below hA96)
      have H102 := Lib.hid (H84.out.below hA96)
      have H103 := Lib.hid (H85.out.below hA96)
      have H104 := Lib.hid (H86.out.below hA96)
      have H105 := Lib.hid (H87.out.below hA96)
      have HB106 := Lib.hid (below_step hA96 HB88.out)
      clear H82 H83 HN95 H84 H85 H86 H87 HB88
      clear hA96
      generalize (w81.alloc (.cells #[.slice none 0 0] 27)) = w97 at *
      obtain ⟨hx107, hf108⟩ := H104.out.cell
      have hl109 := H104.out.lt
      obtain ⟨hx110, hf111⟩ := H105.out.cell
      have hl112 := H105.out.lt
      obtain ⟨hx113, hf114⟩ := HX98.out.cell
      have hl115 := HX98.out.lt
      go_wp2_with (fail)
      go_at_call 17
      refine (bd.RCmp_lt H102.out H103.out HLT.out).mono ?_
      rintro e w116 ⟨rfl, hb⟩
      clear hx107 hf108 hl109 hx110 hf111 hl112 hx113 hf114 hl115
      have H117 := Lib.hid (H99.out.below hb)
      have H118 := Lib.hid (H100.out.below hb)
      have H119 := Lib.hid (H101.out.below hb)
      have H120 := Lib.hid (H102.out.below hb)
      have H121 := Lib.hid (H103.out.below hb)
      have H122 := Lib.hid (H104.out.below hb)
      have H123 := Lib.hid (H105.out.below hb)
      have H124 := Lib.hid (HX98.out.below hb)
      have HB125 := Lib.hid (below_step hb HB106.out)
      clear H99 H100 H101 H102 H103 H104 H105 HX98 HB106
      clear hb
      obtain ⟨hx126, hf127⟩ := H122.out.cell
      have hl128 := H122.out.lt
      obtain ⟨hx129, hf130⟩ := H123.out.cell
      have hl131 := H123.out.lt
      obtain ⟨hx132, hf133⟩ := H124.out.cell
      have hl134 := H124.out.lt
      go_wp2_with (fail)
      go_at_call 21
      refine (IsZero_t H119.out (show 0 = 0 from rfl)).mono ?_
      rintro e w135 ⟨rfl, hb⟩
      clear hx126 hf127 hl128 hx129 hf130 hl131 hx132 hf133 hl134
      have H136 := Lib.hid (H117.out.below hb)
      have H137 := Lib.hid (H118.out.below hb)
      have H138 := Lib.hid (H120.out.below hb)
      have H139 := Lib.hid (H121.out.below hb)
      have H140 := Lib.hid (H122.out.below hb)
      have H141 := Lib.hid (H123.out.below hb)
      have H142 := Lib.hid (H124.out.below hb)
      have HB143 := Lib.hid (below_step hb HB125.out)
      clear H117 H118 H120 H121 H122 H123 H124 HB125
      clear hb
      obtain ⟨hx144, hf145⟩ := H140.out.cell
      have hl146 := H140.out.lt
      obtain ⟨hx147, hf148⟩ := H141.out.cell
      have hl149 := H141.out.lt
      obtain ⟨hx150, hf151⟩ := H142.out.cell
      have hl152 := H142.out.lt
      obtain ⟨txs, htxs⟩ : ∃ txs, ByteArray.mk (Lib.decDigits (x + y)).toArray = txs := ⟨_, rfl⟩
      have Ttxs := Lib.hid htxs
      clear htxs
      obtain ⟨txp, htxp⟩ : ∃ txp, ByteArray.mk (Lib.decDigits (x * y)).toArray = txp := ⟨_, rfl⟩
      have Ttxp := Lib.hid htxp
      clear htxp
      go_wp2_with (fail)
      go_at_call 22
      refine (Add_calls H136.out H137.out 17 HL15.out HL24.out (by decide)).mono ?_
      rintro e w153 ⟨v, rfl, hv, hb⟩
      obtain ⟨q154, m155, c156, rfl⟩ := hv.shape
      have HN157 := Lib.hid hv
      clear hv
      have HL158 := Lib.hid (show (x + y) < B ^ 18 from add_lt HL15.out HL24.out (by decide) (by decide))
      clear hx144 hf145 hl146 hx147 hf148 hl149 hx150 hf151 hl152
      have H159 := Lib.hid (H136.out.below hb)
      have H160 := Lib.hid (H137.out.below hb)
      have H161 := Lib.hid (H138.out.below hb)
      have H162 := Lib.hid (H139.out.below hb)
      have H163 := Lib.hid (H140.out.below hb)
      have H164 := Lib.hid (H141.out.below hb)
      have H165 := Lib.hid (H142.out.below hb)
      have HB166 := Lib.hid (below_step hb HB143.out)
      clear H136 H137 H138 H139 H140 H141 H142 HB143
      clear hb
      obtain ⟨hx167, hf168⟩ := H163.out.cell
      have hl169 := H163.out.lt
      obtain ⟨hx170, hf171⟩ := H164.out.cell
      have hl172 := H164.out.lt
      obtain ⟨hx173, hf174⟩ := H165.out.cell
      have hl175 := H165.out.lt
      go_wp2_with (fail)
      go_at_call 18
      refine (String_tx HN157.out 18 HL158.out (by decide) (HDW.out.1.below HDW.out.2 HB166.out) (Nat.le_trans HDW.out.2 HB166.out.size) Ttxs.out).mono ?_
      rintro e w176 ⟨rfl, hb⟩
      clear hx167 hf168 hl169 hx170 hf171 hl172 hx173 hf174 hl175
      have H177 := Lib.hid (H159.out.below hb)
      have H178 := Lib.hid (H160.out.below hb)
      have H179 := Lib.hid (H161.out.below hb)
      have H180 := Lib.hid (H162.out.below hb)
      have H181 := Lib.hid (H163.out.below hb)
      have H182 := Lib.hid (H164.out.below hb)
      have H183 := Lib.hid (H165.out.below hb)
      have HB184 := Lib.hid (below_step hb HB166.out)
      clear H159 H160 H161 H162 H163 H164 H165 HB166
      clear hb
      obtain ⟨hx185, hf186⟩ := H181.out.cell
      have hl187 := H181.out.lt
      obtain ⟨hx188, hf189⟩ := H182.out.cell
      have hl190 := H182.out.lt
      obtain ⟨hx191, hf192⟩ := H183.out.cell
      have hl193 := H183.out.lt
      go_wp2_with (fail)
      go_at_call 23
      refine (bd.RAdd H179.out H180.out 150 HXa.out HXb.out (by decide)).mono ?_
      rintro e w194 ⟨q195, m196, c197, rfl, hn, hb⟩
      have HN198 := Lib.hid hn
      clear hn
      clear hx185 hf186 hl187 hx188 hf189 hl190 hx191 hf192 hl193
      have H199 := Lib.hid (H177.out.below hb)
      have H200 := Lib.hid (H178.out.below hb)
      have H201 := Lib.hid (H179.out.below hb)
      have H202 := Lib.hid (H180.out.below hb)
      have H203 := Lib.hid (H181.out.below hb)
      have H204 := Lib.hid (H182.out.below hb)
      have H205 := Lib.hid (H183.out.below hb)
      have HB206 := Lib.hid (below_step hb HB184.out)
      clear H177 H178 H179 H180 H181 H182 H183 HB184
      clear hb
      obtain ⟨hx207, hf208⟩ := H203.out.cell
      have hl209 := H203.out.lt
      obtain ⟨hx210, hf211⟩ := H204.out.cell
      have hl212 := H204.out.lt
      obtain ⟨hx213, hf214⟩ := H205.out.cell
      have hl215 := H205.out.lt
      go_wp2_with (fail)
      go_at_call 19
      refine (Text_tx HN198.out Ttxs.out).mono ?_
      rintro e w216 ⟨rfl, hb⟩
      clear hx207 hf208 hl209 hx210 hf211 hl212 hx213 hf214 hl215
      have H217 := Lib.hid (H199.out.below hb)
      have H218 := Lib.hid (H200.out.below hb)
      have H219 := Lib.hid (H201.out.below hb)
      have H220 := Lib.hid (H202.out.below hb)
      have H221 := Lib.hid (H203.out.below hb)
      have H222 := Lib.hid (H204.out.below hb)
      have H223 := Lib.hid (H205.out.below hb)
      have HB224 := Lib.hid (below_step hb HB206.out)
      clear H199 H200 H201 H202 H203 H204 H205 HB206
      clear hb
      obtain ⟨hx225, hf226⟩ := H221.out.cell
      have hl227 := H221.out.lt
      obtain ⟨hx228, hf229⟩ := H222.out.cell
      have hl230 := H222.out.lt
      obtain ⟨hx231, hf232⟩ := H223.out.cell
      have hl233 := H223.out.lt
      go_wp2_with (fail)
      go_at_call 24
      refine (Mul_calls H217.out H218.out 17 17 HL15.out HL24.out (by decide)).mono ?_
      rintro e w234 ⟨v, rfl, hv, hb⟩
      obtain ⟨q235, m236, c237, rfl⟩ := hv.shape
      have HN238 := Lib.hid hv
      clear hv
      have HL239 := Lib.hid (show (x * y) < B ^ 34 from mul_lt HL15.out HL24.out (by decide))
      clear hx225 hf226 hl227 hx228 hf229 hl230 hx231 hf232 hl233
      have H240 := Lib.hid (H217.out.below hb)
      have H241 := Lib.hid (H218.out.below hb)
      have H242 := Lib.hid (H219.out.below hb)
      have H243 := Lib.hid (H220.out.below hb)
      have H244 := Lib.hid (H221.out.below hb)
      have H245 := Lib.hid (H222.out.below hb)
      have H246 := Lib.hid (H223.out.below hb)
      have HB247 := Lib.hid (below_step hb HB224.out)
      clear H217 H218 H219 H220 H221 H222 H223 HB224
      clear hb
      obtain ⟨hx248, hf249⟩ := H244.out.cell
      have hl250 := H244.out.lt
      obtain ⟨hx251, hf252⟩ := H245.out.cell
      have hl253 := H245.out.lt
      obtain ⟨hx254, hf255⟩ := H246.out.cell
      have hl256 := H246.out.lt
      go_wp2_with (fail)
      go_at_call 18
      refine (String_tx HN238.out 34 HL239.out (by decide) (HDW.out.1.below HDW.out.2 HB247.out) (Nat.le_trans HDW.out.2 HB247.out.size) Ttxp.out).mono ?_
      rintro e w257 ⟨rfl, hb⟩
      clear hx248 hf249 hl250 hx251 hf252 hl253 hx254 hf255 hl256
      have H258 := Lib.hid (H240.out.below hb)
      have H259 := Lib.hid (H241.out.below hb)
      have H260 := Lib.hid (H242.out.below hb)
      have H261 := Lib.hid (H243.out.below hb)
      have H262 := Lib.hid (H244.out.below hb)
      have H263 := Lib.hid (H245.out.below hb)
      have H264 := Lib.hid (H246.out.below hb)
      have HB265 := Lib.hid (below_step hb HB247.out)
      clear H240 H241 H242 H243 H244 H245 H246 HB247
      clear hb
      obtain ⟨hx266, hf267⟩ := H262.out.cell
      have hl268 := H262.out.lt
      obtain ⟨hx269, hf270⟩ := H263.out.cell
      have hl271 := H263.out.lt
      obtain ⟨hx272, hf273⟩ := H264.out.cell
      have hl274 := H264.out.lt
      go_wp2_with (fail)
      go_at_call 25
      refine (bd.RMul H260.out H261.out 150 150 HXa.out HXb.out (by decide)).mono ?_
      rintro e w275 ⟨q276, m277, c278, rfl, hn, hb⟩
      have HN279 := Lib.hid hn
      clear hn
      clear hx266 hf267 hl268 hx269 hf270 hl271 hx272 hf273 hl274
      have H280 := Lib.hid (H258.out.below hb)
      have H281 := Lib.hid (H259.out.below hb)
      have H282 := Lib.hid (H260.out.below hb)
      have H283 := Lib.hid (H261.out.below hb)
      have H284 := Lib.hid (H262.out.below hb)
      have H285 := Lib.hid (H263.out.below hb)
      have H286 := Lib.hid (H264.out.below hb)
      have HB287 := Lib.hid (below_step hb HB265.out)
      clear H258 H259 H260 H261 H262 H263 H264 HB265
      clear hb
      obtain ⟨hx288, hf289⟩ := H284.out.cell
      have hl290 := H284.out.lt
      obtain ⟨hx291, hf292⟩ := H285.out.cell
      have hl293 := H285.out.lt
      obtain ⟨hx294, hf295⟩ := H286.out.cell
      have hl296 := H286.out.lt
      go_wp2_with (fail)
      go_at_call 19
      refine (Text_tx HN279.out Ttxp.out).mono ?_
      rintro e w297 ⟨rfl, hb⟩
      clear hx288 hf289 hl290 hx291 hf292 hl293 hx294 hf295 hl296
      have H298 := Lib.hid (H280.out.below hb)
      have H299 := Lib.hid (H281.out.below hb)
      have H300 := Lib.hid (H282.out.below hb)
      have H301 := Lib.hid (H283.out.below hb)
      have H302 := Lib.hid (H284.out.below hb)
      have H303 := Lib.hid (H285.out.below hb)
      have H304 := Lib.hid (H286.out.below hb)
      have HB305 := Lib.hid (below_step hb HB287.out)
      clear H280 H281 H282 H283 H284 H285 H286 HB287
      clear hb
      obtain ⟨hx306, hf307⟩ := H302.out.cell
      have hl308 := H302.out.lt
      obtain ⟨hx309, hf310⟩ := H303.out.cell
      have hl311 := H303.out.lt
      obtain ⟨hx312, hf313⟩ := H304.out.cell
      have hl314 := H304.out.lt
      go_wp2
      go_ret
      exact ⟨rfl, beyond_of HB305.out⟩
    · have HLE := Lib.hid (show y ≤ x from by omega)
      clear hlt
      obtain ⟨txd, htxd⟩ : ∃ txd, ByteArray.mk (Lib.decDigits (x - y)).toArray = txd := ⟨_, rfl⟩
      have Ttxd := Lib.hid htxd
      clear htxd
      go_wp2_with (fail)
      go_at_call 16
      refine (Sub_calls H67.out H68.out 17 HL15.out HL24.out (by decide) (HLE.out)).mono ?_
      rintro e w81 ⟨v, rfl, hv, hb⟩
      obtain ⟨q82, m83, c84, rfl⟩ := hv.shape
      have HN85 := Lib.hid hv
      clear hv
      have HL86 := Lib.hid (show (x - y) < B ^ 17 from sub_lt HL15.out)
      clear hx75 hf76 hl77 hx78 hf79 hl80
      have H87 := Lib.hid (H67.out.below hb)
      have H88 := Lib.hid (H68.out.below hb)
      have H89 := Lib.hid (H69.out.below hb)
      have H90 := Lib.hid (HN66.out.below hb)
      have H91 := Lib.hid (H70.out.below hb)
      have H92 := Lib.hid (H71.out.below hb)
      have HB93 := Lib.hid (below_step hb HB74.out)
      clear H67 H68 H69 HN66 H70 H71 HB74
      clear hb
      obtain ⟨hx94, hf95⟩ := H91.out.cell
      have hl96 := H91.out.lt
      obtain ⟨hx97, hf98⟩ := H92.out.cell
      have hl99 := H92.out.lt
      go_upto_region 6 with (fail)
      have hA100 : Below w81.heap.size w81 (w81.alloc (.cells #[.slice q82 m83 c84] 27)) := (by repeat (first | assumption | exact Below.refl _ _ | exact below_beyond _ _ | refine Below.beyond ?_ (by (try simp [size_beyond]) <;> omega) _ | refine Below.drew ?_ | refine Go.Rw.below_drewN ?_ _ | refine Go.Rw.below_setRow ?_ (by (try simp [size_beyond]) <;> omega) _ | refine Below.alloc ?_ (by (try simp [size_beyond]) <;> omega) _ | refine Below.setCell ?_ (by (try simp [size_beyond]) <;> omega) _))
      have HX102 := Lib.hid (NB.new w81 (.slice q82 m83 c84))
      clear hx94 hf95 hl96 hx97 hf98 hl99
      have H103 := Lib.hid (H87.out.below hA100)
      have H104 := Lib.hid (H88.out.below hA100)
      have H105 := Lib.hid (HN85.out.below hA100)
      have H106 := Lib.hid (H89.out.below hA100)
      have H107 := Lib.hid (H90.out.below hA100)
      have H108 := Lib.hid (H91.out.below hA100)
      have H109 := Lib.hid (H92.out.below hA100)
      have HB110 := Lib.hid (below_step hA100 HB93.out)
      clear H87 H88 HN85 H89 H90 H91 H92 HB93
      clear hA100
      generalize (w81.alloc (.cells #[.slice q82 m83 c84] 27)) = w101 at *
      obtain ⟨hx111, hf112⟩ := H108.out.cell
      have hl113 := H108.out.lt
      obtain ⟨hx114, hf115⟩ := H109.out.cell
      have hl116 := H109.out.lt
      obtain ⟨hx117, hf118⟩ := HX102.out.cell
      have hl119 := HX102.out.lt
      go_wp2_with (fail)
      go_at_call 17
      refine (bd.RCmp_ge H106.out H107.out HLE.out).mono ?_
      rintro e w120 ⟨z, rfl, hz0, hb⟩
      clear hx111 hf112 hl113 hx114 hf115 hl116 hx117 hf118 hl119
      have H121 := Lib.hid (H103.out.below hb)
      have H122 := Lib.hid (H104.out.below hb)
      have H123 := Lib.hid (H105.out.below hb)
      have H124 := Lib.hid (H106.out.below hb)
      have H125 := Lib.hid (H107.out.below hb)
      have H126 := Lib.hid (H108.out.below hb)
      have H127 := Lib.hid (H109.out.below hb)
      have H128 := Lib.hid (HX102.out.below hb)
      have HB129 := Lib.hid (below_step hb HB110.out)
      clear H103 H104 H105 H106 H107 H108 H109 HX102 HB110
      clear hb
      obtain ⟨hx130, hf131⟩ := H126.out.cell
      have hl132 := H126.out.lt
      obtain ⟨hx133, hf134⟩ := H127.out.cell
      have hl135 := H127.out.lt
      obtain ⟨hx136, hf137⟩ := H128.out.cell
      have hl138 := H128.out.lt
      go_wp2_with (fail)
      go_at_call 18
      refine (String_tx H123.out 17 HL86.out (by decide) (HDW.out.1.below HDW.out.2 HB129.out) (Nat.le_trans HDW.out.2 HB129.out.size) Ttxd.out).mono ?_
      rintro e w139 ⟨rfl, hb⟩
      clear hx130 hf131 hl132 hx133 hf134 hl135 hx136 hf137 hl138
      have H140 := Lib.hid (H121.out.below hb)
      have H141 := Lib.hid (H122.out.below hb)
      have H142 := Lib.hid (H124.out.below hb)
      have H143 := Lib.hid (H125.out.below hb)
      have H144 := Lib.hid (H126.out.below hb)
      have H145 := Lib.hid (H127.out.below hb)
      have H146 := Lib.hid (H128.out.below hb)
      have HB147 := Lib.hid (below_step hb HB129.out)
      clear H121 H122 H124 H125 H126 H127 H128 HB129
      clear hb
      obtain ⟨hx148, hf149⟩ := H144.out.cell
      have hl150 := H144.out.lt
      obtain ⟨hx151, hf152⟩ := H145.out.cell
      have hl153 := H145.out.lt
      obtain ⟨hx154, hf155⟩ := H146.out.cell
      have hl156 := H146.out.lt
      go_wp2_with (fail)
      go_at_call 20
      refine (bd.RSub H142.out H143.out 150 HXa.out (by decide) HLE.out).mono ?_
      rintro e w157 ⟨q158, m159, c160, rfl, hn, hb⟩
      have HN161 := Lib.hid hn
      clear hn
      clear hx148 hf149 hl150 hx151 hf152 hl153 hx154 hf155 hl156
      have H162 := Lib.hid (H140.out.below hb)
      have H163 := Lib.hid (H141.out.below hb)
      have H164 := Lib.hid (H142.out.below hb)
      have H165 := Lib.hid (H143.out.below hb)
      have H166 := Lib.hid (H144.out.below hb)
      have H167 := Lib.hid (H145.out.below hb)
      have H168 := Lib.hid (H146.out.below hb)
      have HB169 := Lib.hid (below_step hb HB147.out)
      clear H140 H141 H142 H143 H144 H145 H146 HB147
      clear hb
      obtain ⟨hx170, hf171⟩ := H166.out.cell
      have hl172 := H166.out.lt
      obtain ⟨hx173, hf174⟩ := H167.out.cell
      have hl175 := H167.out.lt
      obtain ⟨hx176, hf177⟩ := H168.out.cell
      have hl178 := H168.out.lt
      go_wp2_with (fail)
      go_at_call 19
      refine (Text_tx HN161.out Ttxd.out).mono ?_
      rintro e w179 ⟨rfl, hb⟩
      clear hx170 hf171 hl172 hx173 hf174 hl175 hx176 hf177 hl178
      have H180 := Lib.hid (H162.out.below hb)
      have H181 := Lib.hid (H163.out.below hb)
      have H182 := Lib.hid (H164.out.below hb)
      have H183 := Lib.hid (H165.out.below hb)
      have H184 := Lib.hid (H166.out.below hb)
      have H185 := Lib.hid (H167.out.below hb)
      have H186 := Lib.hid (H168.out.below hb)
      have HB187 := Lib.hid (below_step hb HB169.out)
      clear H162 H163 H164 H165 H166 H167 H168 HB169
      clear hb
      obtain ⟨hx188, hf189⟩ := H184.out.cell
      have hl190 := H184.out.lt
      obtain ⟨hx191, hf192⟩ := H185.out.cell
      have hl193 := H185.out.lt
      obtain ⟨hx194, hf195⟩ := H186.out.cell
      have hl196 := H186.out.lt
      obtain ⟨txs, htxs⟩ : ∃ txs, ByteArray.mk (Lib.decDigits (x + y)).toArray = txs := ⟨_, rfl⟩
      have Ttxs := Lib.hid htxs
      clear htxs
      obtain ⟨txp, htxp⟩ : ∃ txp, ByteArray.mk (Lib.decDigits (x * y)).toArray = txp := ⟨_, rfl⟩
      have Ttxp := Lib.hid htxp
      clear htxp
      go_wp2_with (fail)
      go_at_call 22
      refine (Add_calls H180.out H181.out 17 HL15.out HL24.out (by decide)).mono ?_
      rintro e w197 ⟨v, rfl, hv, hb⟩
      obtain ⟨q198, m199, c200, rfl⟩ := hv.shape
      have HN201 := Lib.hid hv
      clear hv
      have HL202 := Lib.hid (show (x + y) < B ^ 18 from add_lt HL15.out HL24.out (by decide) (by decide))
      clear hx188 hf189 hl190 hx191 hf192 hl193 hx194 hf195 hl196
      have H203 := Lib.hid (H180.out.below hb)
      have H204 := Lib.hid (H181.out.below hb)
      have H205 := Lib.hid (H182.out.below hb)
      have H206 := Lib.hid (H183.out.below hb)
      have H207 := Lib.hid (H184.out.below hb)
      have H208 := Lib.hid (H185.out.below hb)
      have H209 := Lib.hid (H186.out.below hb)
      have HB210 := Lib.hid (below_step hb HB187.out)
      clear H180 H181 H182 H183 H184 H185 H186 HB187
      clear hb
      obtain ⟨hx211, hf212⟩ := H207.out.cell
      have hl213 := H207.out.lt
      obtain ⟨hx214, hf215⟩ := H208.out.cell
      have hl216 := H208.out.lt
      obtain ⟨hx217, hf218⟩ := H209.out.cell
      have hl219 := H209.out.lt
      go_wp2_with (fail)
      go_at_call 18
      refine (String_tx HN201.out 18 HL202.out (by decide) (HDW.out.1.below HDW.out.2 HB210.out) (Nat.le_trans HDW.out.2 HB210.out.size) Ttxs.out).mono ?_
      rintro e w220 ⟨rfl, hb⟩
      clear hx211 hf212 hl213 hx214 hf215 hl216 hx217 hf218 hl219
      have H221 := Lib.hid (H203.out.below hb)
      have H222 := Lib.hid (H204.out.below hb)
      have H223 := Lib.hid (H205.out.below hb)
      have H224 := Lib.hid (H206.out.below hb)
      have H225 := Lib.hid (H207.out.below hb)
      have H226 := Lib.hid (H208.out.below hb)
      have H227 := Lib.hid (H209.out.below hb)
      have HB228 := Lib.hid (below_step hb HB210.out)
      clear H203 H204 H205 H206 H207 H208 H209 HB210
      clear hb
      obtain ⟨hx229, hf230⟩ := H225.out.cell
      have hl231 := H225.out.lt
      obtain ⟨hx232, hf233⟩ := H226.out.cell
      have hl234 := H226.out.lt
      obtain ⟨hx235, hf236⟩ := H227.out.cell
      have hl237 := H227.out.lt
      go_wp2_with (fail)
      go_at_call 23
      refine (bd.RAdd H223.out H224.out 150 HXa.out HXb.out (by decide)).mono ?_
      rintro e w238 ⟨q239, m240, c241, rfl, hn, hb⟩
      have HN242 := Lib.hid hn
      clear hn
      clear hx229 hf230 hl231 hx232 hf233 hl234 hx235 hf236 hl237
      have H243 := Lib.hid (H221.out.below hb)
      have H244 := Lib.hid (H222.out.below hb)
      have H245 := Lib.hid (H223.out.below hb)
      have H246 := Lib.hid (H224.out.below hb)
      have H247 := Lib.hid (H225.out.below hb)
      have H248 := Lib.hid (H226.out.below hb)
      have H249 := Lib.hid (H227.out.below hb)
      have HB250 := Lib.hid (below_step hb HB228.out)
      clear H221 H222 H223 H224 H225 H226 H227 HB228
      clear hb
      obtain ⟨hx251, hf252⟩ := H247.out.cell
      have hl253 := H247.out.lt
      obtain ⟨hx254, hf255⟩ := H248.out.cell
      have hl256 := H248.out.lt
      obtain ⟨hx257, hf258⟩ := H249.out.cell
      have hl259 := H249.out.lt
      go_wp2_with (fail)
      go_at_call 19
      refine (Text_tx HN242.out Ttxs.out).mono ?_
      rintro e w260 ⟨rfl, hb⟩
      clear hx251 hf252 hl253 hx254 hf255 hl256 hx257 hf258 hl259
      have H261 := Lib.hid (H243.out.below hb)
      have H262 := Lib.hid (H244.out.below hb)
      have H263 := Lib.hid (H245.out.below hb)
      have H264 := Lib.hid (H246.out.below hb)
      have H265 := Lib.hid (H247.out.below hb)
      have H266 := Lib.hid (H248.out.below hb)
      have H267 := Lib.hid (H249.out.below hb)
      have HB268 := Lib.hid (below_step hb HB250.out)
      clear H243 H244 H245 H246 H247 H248 H249 HB250
      clear hb
      obtain ⟨hx269, hf270⟩ := H265.out.cell
      have hl271 := H265.out.lt
      obtain ⟨hx272, hf273⟩ := H266.out.cell
      have hl274 := H266.out.lt
      obtain ⟨hx275, hf276⟩ := H267.out.cell
      have hl277 := H267.out.lt
      go_wp2_with (fail)
      go_at_call 24
      refine (Mul_calls H261.out H262.out 17 17 HL15.out HL24.out (by decide)).mono ?_
      rintro e w278 ⟨v, rfl, hv, hb⟩
      obtain ⟨q279, m280, c281, rfl⟩ := hv.shape
      have HN282 := Lib.hid hv
      clear hv
      have HL283 := Lib.hid (show (x * y) < B ^ 34 from mul_lt HL15.out HL24.out (by decide))
      clear hx269 hf270 hl271 hx272 hf273 hl274 hx275 hf276 hl277
      have H284 := Lib.hid (H261.out.below hb)
      have H285 := Lib.hid (H262.out.below hb)
      have H286 := Lib.hid (H263.out.below hb)
      have H287 := Lib.hid (H264.out.below hb)
      have H288 := Lib.hid (H265.out.below hb)
      have H289 := Lib.hid (H266.out.below hb)
      have H290 := Lib.hid (H267.out.below hb)
      have HB291 := Lib.hid (below_step hb HB268.out)
      clear H261 H262 H263 H264 H265 H266 H267 HB268
      clear hb
      obtain ⟨hx292, hf293⟩ := H288.out.cell
      have hl294 := H288.out.lt
      obtain ⟨hx295, hf296⟩ := H289.out.cell
      have hl297 := H289.out.lt
      obtain ⟨hx298, hf299⟩ := H290.out.cell
      have hl300 := H290.out.lt
      go_wp2_with (fail)
      go_at_call 18
      refine (String_tx HN282.out 34 HL283.out (by decide) (HDW.out.1.below HDW.out.2 HB291.out) (Nat.le_trans HDW.out.2 HB291.out.size) Ttxp.out).mono ?_
      rintro e w301 ⟨rfl, hb⟩
      clear hx292 hf293 hl294 hx295 hf296 hl297 hx298 hf299 hl300
      have H302 := Lib.hid (H284.out.below hb)
      have H303 := Lib.hid (H285.out.below hb)
      have H304 := Lib.hid (H286.out.below hb)
      have H305 := Lib.hid (H287.out.below hb)
      have H306 := Lib.hid (H288.out.below hb)
      have H307 := Lib.hid (H289.out.below hb)
      have H308 := Lib.hid (H290.out.below hb)
      have HB309 := Lib.hid (below_step hb HB291.out)
      clear H284 H285 H286 H287 H288 H289 H290 HB291
      clear hb
      obtain ⟨hx310, hf311⟩ := H306.out.cell
      have hl312 := H306.out.lt
      obtain ⟨hx313, hf314⟩ := H307.out.cell
      have hl315 := H307.out.lt
      obtain ⟨hx316, hf317⟩ := H308.out.cell
      have hl318 := H308.out.lt
      go_wp2_with (fail)
      go_at_call 25
      refine (bd.RMul H304.out H305.out 150 150 HXa.out HXb.out (by decide)).mono ?_
      rintro e w319 ⟨q320, m321, c322, rfl, hn, hb⟩
      have HN323 := Lib.hid hn
      clear hn
      clear hx310 hf311 hl312 hx313 hf314 hl315 hx316 hf317 hl318
      have H324 := Lib.hid (H302.out.below hb)
      have H325 := Lib.hid (H303.out.below hb)
      have H326 := Lib.hid (H304.out.below hb)
      have H327 := Lib.hid (H305.out.below hb)
      have H328 := Lib.hid (H306.out.below hb)
      have H329 := Lib.hid (H307.out.below hb)
      have H330 := Lib.hid (H308.out.below hb)
      have HB331 := Lib.hid (below_step hb HB309.out)
      clear H302 H303 H304 H305 H306 H307 H308 HB309
      clear hb
      obtain ⟨hx332, hf333⟩ := H328.out.cell
      have hl334 := H328.out.lt
      obtain ⟨hx335, hf336⟩ := H329.out.cell
      have hl337 := H329.out.lt
      obtain ⟨hx338, hf339⟩ := H330.out.cell
      have hl340 := H330.out.lt
      go_wp2_with (fail)
      go_at_call 19
      refine (Text_tx HN323.out Ttxp.out).mono ?_
      rintro e w341 ⟨rfl, hb⟩
      clear hx332 hf333 hl334 hx335 hf336 hl337 hx338 hf339 hl340
      have H342 := Lib.hid (H324.out.below hb)
      have H343 := Lib.hid (H325.out.below hb)
      have H344 := Lib.hid (H326.out.below hb)
      have H345 := Lib.hid (H327.out.below hb)
      have H346 := Lib.hid (H328.out.below hb)
      have H347 := Lib.hid (H329.out.below hb)
      have H348 := Lib.hid (H330.out.below hb)
      have HB349 := Lib.hid (below_step hb HB331.out)
      clear H324 H325 H326 H327 H328 H329 H330 HB331
      clear hb
      obtain ⟨hx350, hf351⟩ := H346.out.cell
      have hl352 := H346.out.lt
      obtain ⟨hx353, hf354⟩ := H347.out.cell
      have hl355 := H347.out.lt
      obtain ⟨hx356, hf357⟩ := H348.out.cell
      have hl358 := H348.out.lt
      go_wp2
      go_ret
      exact ⟨rfl, beyond_of HB349.out⟩
  · have hbig : ¬ (ma ≤ 150 ∧ mb ≤ 150) := hfew
    clear hua hub hfew
    have HB0 := Lib.hid (Below.refl W.heap.size W)
    go_enter Tryd.func3, Tryd.ntmps3
    go_wp2_with (fail)
    go_at_call 12
    refine (known_calls (HDW.out.1.below HDW.out.2 HB0.out) (Nat.le_trans HDW.out.2 HB0.out.size)).mono ?_
    rintro e w1 ⟨rfl, hb⟩
    have HB2 := Lib.hid (below_step hb HB0.out)
    clear HB0
    clear hb
    have HSS := Lib.hid (ss2 w1 22 qa qb ma mb ca cb ha hb)
    have HFW := Lib.hid (few_eq HSS.out (show ([ma, mb].all (· ≤ 150)) = false from by simp; omega))
    have hA3 : Below w1.heap.size w1 (w1.alloc (.cells #[.slice qa ma ca, .slice qb mb cb] 22)) := (by repeat (first | assumption | exact Below.refl _ _ | exact below_beyond _ _ | refine Below.beyond ?_ (by (try simp [size_beyond]) <;> omega) _ | refine Below.drew ?_ | refine Go.Rw.below_drewN ?_ _ | refine Go.Rw.below_setRow ?_ (by (try simp [size_beyond]) <;> omega) _ | refine Below.alloc ?_ (by (try simp [size_beyond]) <;> omega) _ | refine Below.setCell ?_ (by (try simp [size_beyond]) <;> omega) _))
    go_wp2_with (fail)
    go_at_call 13
    refine HFW.out.mono ?_
    rintro e wz ⟨rfl, rfl⟩
    have HB5 := Lib.hid (below_step hA3 HB2.out)
    clear HB2
    clear hA3 HSS HFW
    generalize (w1.alloc (.cells #[.slice qa ma ca, .slice qb mb cb] 22)) = w4 at *
    go_wp2_with (fail)
    go_at_call 12
    refine (known_calls (HDW.out.1.below HDW.out.2 HB5.out) (Nat.le_trans HDW.out.2 HB5.out.size)).mono ?_
    rintro e w6 ⟨rfl, hb⟩
    have HB7 := Lib.hid (below_step hb HB5.out)
    clear HB5
    clear hb
    go_wp2
    go_ret
    exact ⟨rfl, beyond_of HB7.out⟩
end Go.Proofs.YtogjobmekjighaaDoor.bn
