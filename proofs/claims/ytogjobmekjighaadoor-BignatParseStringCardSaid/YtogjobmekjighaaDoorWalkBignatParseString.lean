/-
  BignatParseString: the walk.
-/
import Derived.Test.YtogjobmekjighaaDoorBnTe
set_option linter.unusedSimpArgs false
set_option linter.unusedVariables false
namespace Go.Proofs.YtogjobmekjighaaDoor.bn
open Go.RowKit Go.Own Go.Bn
open bd (U8At RefN RefR dnum Digits_calls Text_calls)
set_option maxHeartbeats 4000000
set_option maxRecDepth 100000
theorem parsestr_walk {W : World} (hD : DecW W) (ht : tabB ≤ W.heap.size) (s : ByteArray) (n : Nat) (u : Int) (hsz : s.size ≤ 9223372036854775807) (hn : n < 18446744073709551616) (hu0 : 0 ≤ u) (hu1 : u ≤ 255) :
    Calls Tryd.prog 7 #[.string s, .int .u64 (n : Int), .int .u8 u] W fun e w' => e = .returned (.bool true) ∧ ∃ x, w' = beyond W x := by
  have HDW := Lib.hid (And.intro hD ht)
  clear hD ht
  by_cases hfew : s.size ≤ 200
  · have hma : s.size ≤ 200 := hfew
    clear hfew hsz
    have HB0 := Lib.hid (Below.refl W.heap.size W)
    have HFN := Lib.hid (fun w => from_calls n hn w)
    have HON := Lib.hid (fun w => bd.ROf_calls n hn w)
    have HNB := Lib.hid (show n < B ^ 2 from Nat.lt_of_lt_of_le hn (by decide))
    clear hn
    obtain ⟨P, kP, K, hp0, hpK, hp1, hp2, hp3, hp4, hp5, hp6, hp7⟩ := big_pow
    have HKA := Lib.hid (show K ≤ 900000 from Nat.le_trans hpK.1 (by decide))
    have HKB := Lib.hid (show K + 1 ≤ 900000 from Nat.le_trans (Nat.succ_le_succ hpK.1) (by decide))
    have HKC := Lib.hid (show K + 1 ≤ 450000 from Nat.le_trans (Nat.succ_le_succ hpK.1) (by decide))
    have HKD := Lib.hid (show 2 ≤ K + 1 from Nat.le_succ_of_le hpK.2)
    clear hpK
    have HPP := Lib.hid hp0
    have HP1 := Lib.hid (And.intro hp2 hp3)
    have HP2 := Lib.hid (And.intro hp4 hp5)
    have HP3 := Lib.hid (And.intro hp6 hp7)
    have HP4 := Lib.hid hp1
    clear hp0 hp1 hp2 hp3 hp4 hp5 hp6 hp7
    obtain ⟨txn, htxn⟩ : ∃ txn, ByteArray.mk (Lib.decDigits n).toArray = txn := ⟨_, rfl⟩
    have Ttxn := Lib.hid htxn
    clear htxn
    obtain ⟨txm, htxm⟩ : ∃ txm, ByteArray.mk (Lib.decDigits (P + P - 1)).toArray = txm := ⟨_, rfl⟩
    have Ttxm := Lib.hid htxm
    clear htxm
    obtain ⟨txp, htxp⟩ : ∃ txp, ByteArray.mk (Lib.decDigits (P + P)).toArray = txp := ⟨_, rfl⟩
    have Ttxp := Lib.hid htxp
    clear htxp
    go_enter Tryd.func7, Tryd.ntmps7
    go_wp2_with (fail)
    go_at_call 12
    refine (known_calls (HDW.out.1.below HDW.out.2 HB0.out) (Nat.le_trans HDW.out.2 HB0.out.size)).mono ?_
    rintro e w1 ⟨rfl, hb⟩
    have HB2 := Lib.hid (below_step hb HB0.out)
    clear HB0
    clear hb
    by_cases hd : isD s.data.toList = true
    · have HY := Lib.hid hd
      have HTX := Lib.hid (dec_tx s hd)
      have HXB := Lib.hid (dval_B s hma hd)
      have HPA := Lib.hid (fun w => Parse_tx s hma hd w)
      have HRA := Lib.hid (fun w => RParse_yes s hma hd w)
      clear hd
      generalize dval s.data.toList = x at *
      go_wp2_with (fail)
      go_at_call 40
      refine (HPA.out _).mono ?_
      rintro e w3 ⟨v, rfl, hv, hb⟩
      obtain ⟨q4, m5, c6, rfl⟩ := hv.shape
      have HN7 := Lib.hid hv
      clear hv
      have HL8 := Lib.hid (show x < B ^ 23 from HXB.out)
      have HB9 := Lib.hid (below_step hb HB2.out)
      clear HB2
      clear hb
      go_upto_region 4 with (fail)
      have hA10 : Below w3.heap.size w3 (w3.alloc (.cells #[.slice q4 m5 c6] 27)) := (by repeat (first | assumption | exact Below.refl _ _ | exact below_beyond _ _ | refine Below.beyond ?_ (by (try simp [size_beyond]) <;> omega) _ | refine Below.drew ?_ | refine Go.Rw.below_drewN ?_ _ | refine Go.Rw.below_setRow ?_ (by (try simp [size_beyond]) <;> omega) _ | refine Below.alloc ?_ (by (try simp [size_beyond]) <;> omega) _ | refine Below.setCell ?_ (by (try simp [size_beyond]) <;> omega) _))
      have HX12 := Lib.hid (NB.new w3 (.slice q4 m5 c6))
      have H13 := Lib.hid (HN7.out.below hA10)
      have HB14 := Lib.hid (below_step hA10 HB9.out)
      clear HN7 HB9
      clear hA10
      generalize (w3.alloc (.cells #[.slice q4 m5 c6] 27)) = w11 at *
      obtain ⟨hx15, hf16⟩ := HX12.out.cell
      have hl17 := HX12.out.lt
      go_wp2_with (fail)
      go_at_call 41
      refine (HRA.out _).mono ?_
      rintro e w18 ⟨q19, m20, c21, rfl, hn, hb⟩
      have HN22 := Lib.hid hn
      clear hn
      clear hx15 hf16 hl17
      have H23 := Lib.hid (H13.out.below hb)
      have H24 := Lib.hid (HX12.out.below hb)
      have HB25 := Lib.hid (below_step hb HB14.out)
      clear H13 HX12 HB14
      clear hb
      obtain ⟨hx26, hf27⟩ := H24.out.cell
      have hl28 := H24.out.lt
      go_wp2_with (fail)
      go_at_call 18
      refine (String_tx H23.out 23 HL8.out (by decide) (HDW.out.1.below HDW.out.2 HB25.out) (Nat.le_trans HDW.out.2 HB25.out.size) HTX.out).mono ?_
      rintro e w29 ⟨rfl, hb⟩
      clear hx26 hf27 hl28
      have H30 := Lib.hid (HN22.out.below hb)
      have H31 := Lib.hid (H24.out.below hb)
      have HB32 := Lib.hid (below_step hb HB25.out)
      clear HN22 H24 HB25
      clear hb
      obtain ⟨hx33, hf34⟩ := H31.out.cell
      have hl35 := H31.out.lt
      go_wp2_with (fail)
      go_at_call 19
      refine (Text_tx H30.out HTX.out).mono ?_
      rintro e w36 ⟨rfl, hb⟩
      clear hx33 hf34 hl35
      have H37 := Lib.hid (H31.out.below hb)
      have HB38 := Lib.hid (below_step hb HB32.out)
      clear H31 HB32
      clear hb
      obtain ⟨hx39, hf40⟩ := H37.out.cell
      have hl41 := H37.out.lt
      go_wp2_with (fail)
      go_at_call 31
      refine (HPP.out _).mono ?_
      rintro e w42 ⟨v, rfl, hv, hb⟩
      obtain ⟨q43, m44, c45, rfl⟩ := hv.shape
      have HN46 := Lib.hid hv
      clear hv
      have HL47 := Lib.hid (show P < B ^ K from HP3.out.1)
      clear hx39 hf40 hl41
      have H48 := Lib.hid (H37.out.below hb)
      have HB49 := Lib.hid (below_step hb HB38.out)
      clear H37 HB38
      clear hb
      obtain ⟨hx50, hf51⟩ := H48.out.cell
      have hl52 := H48.out.lt
      go_upto_region 8 with (fail)
      have hA53 : Below w42.heap.size w42 (w42.alloc (.cells #[.slice q43 m44 c45] 27)) := (by repeat (first | assumption | exact Below.refl _ _ | exact below_beyond _ _ | refine Below.beyond ?_ (by (try simp [size_beyond]) <;> omega) _ | refine Below.drew ?_ | refine Go.Rw.below_drewN ?_ _ | refine Go.Rw.below_setRow ?_ (by (try simp [size_beyond]) <;> omega) _ | refine Below.alloc ?_ (by (try simp [size_beyond]) <;> omega) _ | refine Below.setCell ?_ (by (try simp [size_beyond]) <;> omega) _))
      have HX55 := Lib.hid (NB.new w42 (.slice q43 m44 c45))
      clear hx50 hf51 hl52
      have H56 := Lib.hid (HN46.out.below hA53)
      have H57 := Lib.hid (H48.out.below hA53)
      have HB58 := Lib.hid (below_step hA53 HB49.out)
      clear HN46 H48 HB49
      clear hA53
      generalize (w42.alloc (.cells #[.slice q43 m44 c45] 27)) = w54 at *
      obtain ⟨hx59, hf60⟩ := H57.out.cell
      have hl61 := H57.out.lt
      obtain ⟨hx62, hf63⟩ := HX55.out.cell
      have hl64 := HX55.out.lt
      by_cases h8 : u % 8 = 0
      · have h8i : (u % 8 == 0) = true := by simp [h8]
        clear h8
        go_wp2_with (fail)
        go_at_call 22
        refine (Add_calls H56.out H56.out K HL47.out HL47.out HKA.out).mono ?_
        rintro e w65 ⟨v, rfl, hv, hb⟩
        obtain ⟨q66, m67, c68, rfl⟩ := hv.shape
        have HN69 := Lib.hid hv
        clear hv
        have HL70 := Lib.hid (show (P + P) < B ^ (K + 1) from add_lt HL47.out HL47.out (Nat.lt_succ_self _) (Nat.lt_succ_self _))
        clear hx59 hf60 hl61 hx62 hf63 hl64
        have H71 := Lib.hid (H56.out.below hb)
        have H72 := Lib.hid (H57.out.below hb)
        have H73 := Lib.hid (HX55.out.below hb)
        have HB74 := Lib.hid (below_step hb HB58.out)
        clear H56 H57 HX55 HB58
        clear hb
        obtain ⟨hx75, hf76⟩ := H72.out.cell
        have hl77 := H72.out.lt
        obtain ⟨hx78, hf79⟩ := H73.out.cell
        have hl80 := H73.out.lt
        go_wp2_with (fail)
        go_at_call 42
        refine (from_calls 1 (by decide) _).mono ?_
        rintro e w81 ⟨v, rfl, hv, hb⟩
        obtain ⟨q82, m83, c84, rfl⟩ := hv.shape
        have HN85 := Lib.hid hv
        clear hv
        have HL86 := Lib.hid (show 1 < B ^ 2 from by decide)
        clear hx75 hf76 hl77 hx78 hf79 hl80
        have H87 := Lib.hid (H71.out.below hb)
        have H88 := Lib.hid (HN69.out.below hb)
        have H89 := Lib.hid (H72.out.below hb)
        have H90 := Lib.hid (H73.out.below hb)
        have HB91 := Lib.hid (below_step hb HB74.out)
        clear H71 HN69 H72 H73 HB74
        clear hb
        obtain ⟨hx92, hf93⟩ := H89.out.cell
        have hl94 := H89.out.lt
        obtain ⟨hx95, hf96⟩ := H90.out.cell
        have hl97 := H90.out.lt
        go_wp2_with (fail)
        go_at_call 16
        refine (Sub_calls H88.out HN85.out (K + 1) HL70.out (lt_up HL86.out HKD.out) HKB.out (Nat.le_trans HP3.out.2 (Nat.le_add_right _ _))).mono ?_
        rintro e w98 ⟨v, rfl, hv, hb⟩
        obtain ⟨q99, m100, c101, rfl⟩ := hv.shape
        have HN102 := Lib.hid hv
        clear hv
        have HL103 := Lib.hid (show (P + P - 1) < B ^ (K + 1) from sub_lt HL70.out)
        clear hx92 hf93 hl94 hx95 hf96 hl97
        have H104 := Lib.hid (H87.out.below hb)
        have H105 := Lib.hid (H89.out.below hb)
        have H106 := Lib.hid (H90.out.below hb)
        have HB107 := Lib.hid (below_step hb HB91.out)
        clear H87 H89 H90 HB91
        clear hb
        obtain ⟨hx108, hf109⟩ := H105.out.cell
        have hl110 := H105.out.lt
        obtain ⟨hx111, hf112⟩ := H106.out.cell
        have hl113 := H106.out.lt
        go_upto_region 11 with (fail)
        have hA114 : Below w98.heap.size w98 (w98.alloc (.cells #[.slice q99 m100 c101] 27)) := (by repeat (first | assumption | exact Below.refl _ _ | exact below_beyond _ _ | refine Below.beyond ?_ (by (try simp [size_beyond]) <;> omega) _ | refine Below.drew ?_ | refine Go.Rw.below_drewN ?_ _ | refine Go.Rw.below_setRow ?_ (by (try simp [size_beyond]) <;> omega) _ | refine Below.alloc ?_ (by (try simp [size_beyond]) <;> omega) _ | refine Below.setCell ?_ (by (try simp [size_beyond]) <;> omega) _))
        have HX116 := Lib.hid (NB.new w98 (.slice q99 m100 c101))
        clear hx108 hf109 hl110 hx111 hf112 hl113
        have H117 := Lib.hid (H104.out.below hA114)
        have H118 := Lib.hid (HN102.out.below hA114)
        have H119 := Lib.hid (H105.out.below hA114)
        have H120 := Lib.hid (H106.out.below hA114)
        have HB121 := Lib.hid (below_step hA114 HB107.out)
        clear H104 HN102 H105 H106 HB107
        clear hA114
        generalize (w98.alloc (.cells #[.slice q99 m100 c101] 27)) = w115 at *
        obtain ⟨hx122, hf123⟩ := H119.out.cell
        have hl124 := H119.out.lt
        obtain ⟨hx125, hf126⟩ := H120.out.cell
        have hl127 := H120.out.lt
        obtain ⟨hx128, hf129⟩ := HX116.out.cell
        have hl130 := HX116.out.lt
        go_wp2_with (fail)
        go_at_call 18
        refine (String_tx H118.out (K + 1) HL103.out HKC.out (HDW.out.1.below HDW.out.2 HB121.out) (Nat.le_trans HDW.out.2 HB121.out.size) Ttxm.out).mono ?_
        rintro e w131 ⟨rfl, hb⟩
        clear hx122 hf123 hl124 hx125 hf126 hl127 hx128 hf129 hl130
        have H132 := Lib.hid (H117.out.below hb)
        have H133 := Lib.hid (H118.out.below hb)
        have H134 := Lib.hid (H119.out.below hb)
        have H135 := Lib.hid (H120.out.below hb)
        have H136 := Lib.hid (HX116.out.below hb)
        have HB137 := Lib.hid (below_step hb HB121.out)
        clear H117 H118 H119 H120 HX116 HB121
        clear hb
        obtain ⟨hx138, hf139⟩ := H134.out.cell
        have hl140 := H134.out.lt
        obtain ⟨hx141, hf142⟩ := H135.out.cell
        have hl143 := H135.out.lt
        obtain ⟨hx144, hf145⟩ := H136.out.cell
        have hl146 := H136.out.lt
        go_wp2_with (fail)
        go_at_call 40
        refine (Parse_dec_yes _ kP HP1.out.2 HP4.out HP2.out.1 Ttxm.out _).mono ?_
        rintro e w147 ⟨v, rfl, hv, hb⟩
        obtain ⟨q148, m149, c150, rfl⟩ := hv.shape
        have HN151 := Lib.hid hv
        clear hv
        have HL152 := Lib.hid (show (P + P - 1) < B ^ (K + 1) from HL103.out)
        clear hx138 hf139 hl140 hx141 hf142 hl143 hx144 hf145 hl146
        have H153 := Lib.hid (H132.out.below hb)
        have H154 := Lib.hid (H133.out.below hb)
        have H155 := Lib.hid (H134.out.below hb)
        have H156 := Lib.hid (H135.out.below hb)
        have H157 := Lib.hid (H136.out.below hb)
        have HB158 := Lib.hid (below_step hb HB137.out)
        clear H132 H133 H134 H135 H136 HB137
        clear hb
        obtain ⟨hx159, hf160⟩ := H155.out.cell
        have hl161 := H155.out.lt
        obtain ⟨hx162, hf163⟩ := H156.out.cell
        have hl164 := H156.out.lt
        obtain ⟨hx165, hf166⟩ := H157.out.cell
        have hl167 := H157.out.lt
        go_upto_region 12 with (fail)
        have hA168 : Below w147.heap.size w147 (w147.alloc (.cells #[.slice q148 m149 c150] 27)) := (by repeat (first | assumption | exact Below.refl _ _ | exact below_beyond _ _ | refine Below.beyond ?_ (by (try simp [size_beyond]) <;> omega) _ | refine Below.drew ?_ | refine Go.Rw.below_drewN ?_ _ | refine Go.Rw.below_setRow ?_ (by (try simp [size_beyond]) <;> omega) _ | refine Below.alloc ?_ (by (try simp [size_beyond]) <;> omega) _ | refine Below.setCell ?_ (by (try simp [size_beyond]) <;> omega) _))
        have HX170 := Lib.hid (NB.new w147 (.slice q148 m149 c150))
        clear hx159 hf160 hl161 hx162 hf163 hl164 hx165 hf166 hl167
        have H171 := Lib.hid (H153.out.below hA168)
        have H172 := Lib.hid (H154.out.below hA168)
        have H173 := Lib.hid (HN151.out.below hA168)
        have H174 := Lib.hid (H155.out.below hA168)
        have H175 := Lib.hid (H156.out.below hA168)
        have H176 := Lib.hid (H157.out.below hA168)
        have HB177 := Lib.hid (below_step hA168 HB158.out)
        clear H153 H154 HN151 H155 H156 H157 HB158
        clear hA168
        generalize (w147.alloc (.cells #[.slice q148 m149 c150] 27)) = w169 at *
        obtain ⟨hx178, hf179⟩ := H174.out.cell
        have hl180 := H174.out.lt
        obtain ⟨hx181, hf182⟩ := H175.out.cell
        have hl183 := H175.out.lt
        obtain ⟨hx184, hf185⟩ := H176.out.cell
        have hl186 := H176.out.lt
        obtain ⟨hx187, hf188⟩ := HX170.out.cell
        have hl189 := HX170.out.lt
        go_wp2_with (fail)
        go_at_call 22
        refine (Add_calls H171.out H171.out K HL47.out HL47.out HKA.out).mono ?_
        rintro e w190 ⟨v, rfl, hv, hb⟩
        obtain ⟨q191, m192, c193, rfl⟩ := hv.shape
        have HN194 := Lib.hid hv
        clear hv
        have HL195 := Lib.hid (show (P + P) < B ^ (K + 1) from add_lt HL47.out HL47.out (Nat.lt_succ_self _) (Nat.lt_succ_self _))
        clear hx178 hf179 hl180 hx181 hf182 hl183 hx184 hf185 hl186 hx187 hf188 hl189
        have H196 := Lib.hid (H171.out.below hb)
        have H197 := Lib.hid (H172.out.below hb)
        have H198 := Lib.hid (H173.out.below hb)
        have H199 := Lib.hid (H174.out.below hb)
        have H200 := Lib.hid (H175.out.below hb)
        have H201 := Lib.hid (H176.out.below hb)
        have H202 := Lib.hid (HX170.out.below hb)
        have HB203 := Lib.hid (below_step hb HB177.out)
        clear H171 H172 H173 H174 H175 H176 HX170 HB177
        clear hb
        obtain ⟨hx204, hf205⟩ := H199.out.cell
        have hl206 := H199.out.lt
        obtain ⟨hx207, hf208⟩ := H200.out.cell
        have hl209 := H200.out.lt
        obtain ⟨hx210, hf211⟩ := H201.out.cell
        have hl212 := H201.out.lt
        obtain ⟨hx213, hf214⟩ := H202.out.cell
        have hl215 := H202.out.lt
        go_wp2_with (fail)
        go_at_call 18
        refine (String_tx HN194.out (K + 1) HL195.out HKC.out (HDW.out.1.below HDW.out.2 HB203.out) (Nat.le_trans HDW.out.2 HB203.out.size) Ttxp.out).mono ?_
        rintro e w216 ⟨rfl, hb⟩
        clear hx204 hf205 hl206 hx207 hf208 hl209 hx210 hf211 hl212 hx213 hf214 hl215
        have H217 := Lib.hid (H196.out.below hb)
        have H218 := Lib.hid (H197.out.below hb)
        have H219 := Lib.hid (H198.out.below hb)
        have H220 := Lib.hid (H199.out.below hb)
        have H221 := Lib.hid (H200.out.below hb)
        have H222 := Lib.hid (H201.out.below hb)
        have H223 := Lib.hid (H202.out.below hb)
        have HB224 := Lib.hid (below_step hb HB203.out)
        clear H196 H197 H198 H199 H200 H201 H202 HB203
        clear hb
        obtain ⟨hx225, hf226⟩ := H220.out.cell
        have hl227 := H220.out.lt
        obtain ⟨hx228, hf229⟩ := H221.out.cell
        have hl230 := H221.out.lt
        obtain ⟨hx231, hf232⟩ := H222.out.cell
        have hl233 := H222.out.lt
        obtain ⟨hx234, hf235⟩ := H223.out.cell
        have hl236 := H223.out.lt
        go_wp2_with (fail)
        go_at_call 40
        refine (Parse_dec_no _ kP HP1.out.1 HP4.out HP2.out.2 Ttxp.out _).mono ?_
        rintro e w237 ⟨rfl, hb⟩
        clear hx225 hf226 hl227 hx228 hf229 hl230 hx231 hf232 hl233 hx234 hf235 hl236
        have H238 := Lib.hid (H217.out.below hb)
        have H239 := Lib.hid (H218.out.below hb)
        have H240 := Lib.hid (H219.out.below hb)
        have H241 := Lib.hid (H220.out.below hb)
        have H242 := Lib.hid (H221.out.below hb)
        have H243 := Lib.hid (H222.out.below hb)
        have H244 := Lib.hid (H223.out.below hb)
        have HB245 := Lib.hid (below_step hb HB224.out)
        clear H217 H218 H219 H220 H221 H222 H223 HB224
        clear hb
        obtain ⟨hx246, hf247⟩ := H241.out.cell
        have hl248 := H241.out.lt
        obtain ⟨hx249, hf250⟩ := H242.out.cell
        have hl251 := H242.out.lt
        obtain ⟨hx252, hf253⟩ := H243.out.cell
        have hl254 := H243.out.lt
        obtain ⟨hx255, hf256⟩ := H244.out.cell
        have hl257 := H244.out.lt
        go_wp2_with (fail)
        go_at_call 28
        refine (Equal_t H240.out H239.out (show (P + P - 1) = (P + P - 1) from rfl)).mono ?_
        rintro e w258 ⟨rfl, hb⟩
        clear hx246 hf247 hl248 hx249 hf250 hl251 hx252 hf253 hl254 hx255 hf256 hl257
        have H259 := Lib.hid (H238.out.below hb)
        have H260 := Lib.hid (H239.out.below hb)
        have H261 := Lib.hid (H240.out.below hb)
        have H262 := Lib.hid (H241.out.below hb)
        have H263 := Lib.hid (H242.out.below hb)
        have H264 := Lib.hid (H243.out.below hb)
        have H265 := Lib.hid (H244.out.below hb)
        have HB266 := Lib.hid (below_step hb HB245.out)
        clear H238 H239 H240 H241 H242 H243 H244 HB245
        clear hb
        obtain ⟨hx267, hf268⟩ := H262.out.cell
        have hl269 := H262.out.lt
        obtain ⟨hx270, hf271⟩ := H263.out.cell
        have hl272 := H263.out.lt
        obtain ⟨hx273, hf274⟩ := H264.out.cell
        have hl275 := H264.out.lt
        obtain ⟨hx276, hf277⟩ := H265.out.cell
        have hl278 := H265.out.lt
        go_wp2_with (fail)
        go_at_call 42
        refine (HFN.out _).mono ?_
        rintro e w279 ⟨v, rfl, hv, hb⟩
        obtain ⟨q280, m281, c282, rfl⟩ := hv.shape
        have HN283 := Lib.hid hv
        clear hv
        have HL284 := Lib.hid (show n < B ^ 2 from HNB.out)
        clear hx267 hf268 hl269 hx270 hf271 hl272 hx273 hf274 hl275 hx276 hf277 hl278
        have H285 := Lib.hid (H259.out.below hb)
        have H286 := Lib.hid (H260.out.below hb)
        have H287 := Lib.hid (H261.out.below hb)
        have H288 := Lib.hid (H262.out.below hb)
        have H289 := Lib.hid (H263.out.below hb)
        have H290 := Lib.hid (H264.out.below hb)
        have H291 := Lib.hid (H265.out.below hb)
        have HB292 := Lib.hid (below_step hb HB266.out)
        clear H259 H260 H261 H262 H263 H264 H265 HB266
        clear hb
        obtain ⟨hx293, hf294⟩ := H288.out.cell
        have hl295 := H288.out.lt
        obtain ⟨hx296, hf297⟩ := H289.out.cell
        have hl298 := H289.out.lt
        obtain ⟨hx299, hf300⟩ := H290.out.cell
        have hl301 := H290.out.lt
        obtain ⟨hx302, hf303⟩ := H291.out.cell
        have hl304 := H291.out.lt
        go_wp2_with (fail)
        go_at_call 18
        refine (String_tx HN283.out 2 HL284.out (by decide) (HDW.out.1.below HDW.out.2 HB292.out) (Nat.le_trans HDW.out.2 HB292.out.size) Ttxn.out).mono ?_
        rintro e w305 ⟨rfl, hb⟩
        clear hx293 hf294 hl295 hx296 hf297 hl298 hx299 hf300 hl301 hx302 hf303 hl304
        have H306 := Lib.hid (H285.out.below hb)
        have H307 := Lib.hid (H286.out.below hb)
        have H308 := Lib.hid (H287.out.below hb)
        have H309 := Lib.hid (H288.out.below hb)
        have H310 := Lib.hid (H289.out.below hb)
        have H311 := Lib.hid (H290.out.below hb)
        have H312 := Lib.hid (H291.out.below hb)
        have HB313 := Lib.hid (below_step hb HB292.out)
        clear H285 H286 H287 H288 H289 H290 H291 HB292
        clear hb
        obtain ⟨hx314, hf315⟩ := H309.out.cell
        have hl316 := H309.out.lt
        obtain ⟨hx317, hf318⟩ := H310.out.cell
        have hl319 := H310.out.lt
        obtain ⟨hx320, hf321⟩ := H311.out.cell
        have hl322 := H311.out.lt
        obtain ⟨hx323, hf324⟩ := H312.out.cell
        have hl325 := H312.out.lt
        go_wp2_with (fail)
        go_at_call 43
        refine (HON.out _).mono ?_
        rintro e w326 ⟨q327, m328, c329, rfl, hn, hb⟩
        have HN330 := Lib.hid hn
        clear hn
        clear hx314 hf315 hl316 hx317 hf318 hl319 hx320 hf321 hl322 hx323 hf324 hl325
        have H331 := Lib.hid (H306.out.below hb)
        have H332 := Lib.hid (H307.out.below hb)
        have H333 := Lib.hid (H308.out.below hb)
        have H334 := Lib.hid (H309.out.below hb)
        have H335 := Lib.hid (H310.out.below hb)
        have H336 := Lib.hid (H311.out.below hb)
        have H337 := Lib.hid (H312.out.below hb)
        have HB338 := Lib.hid (below_step hb HB313.out)
        clear H306 H307 H308 H309 H310 H311 H312 HB313
        clear hb
        obtain ⟨hx339, hf340⟩ := H334.out.cell
        have hl341 := H334.out.lt
        obtain ⟨hx342, hf343⟩ := H335.out.cell
        have hl344 := H335.out.lt
        obtain ⟨hx345, hf346⟩ := H336.out.cell
        have hl347 := H336.out.lt
        obtain ⟨hx348, hf349⟩ := H337.out.cell
        have hl350 := H337.out.lt
        go_wp2_with (fail)
        go_at_call 19
        refine (Text_tx HN330.out Ttxn.out).mono ?_
        rintro e w351 ⟨rfl, hb⟩
        clear hx339 hf340 hl341 hx342 hf343 hl344 hx345 hf346 hl347 hx348 hf349 hl350
        have H352 := Lib.hid (H331.out.below hb)
        have H353 := Lib.hid (H332.out.below hb)
        have H354 := Lib.hid (H333.out.below hb)
        have H355 := Lib.hid (H334.out.below hb)
        have H356 := Lib.hid (H335.out.below hb)
        have H357 := Lib.hid (H336.out.below hb)
        have H358 := Lib.hid (H337.out.below hb)
        have HB359 := Lib.hid (below_step hb HB338.out)
        clear H331 H332 H333 H334 H335 H336 H337 HB338
        clear hb
        obtain ⟨hx360, hf361⟩ := H355.out.cell
        have hl362 := H355.out.lt
        obtain ⟨hx363, hf364⟩ := H356.out.cell
        have hl365 := H356.out.lt
        obtain ⟨hx366, hf367⟩ := H357.out.cell
        have hl368 := H357.out.lt
        obtain ⟨hx369, hf370⟩ := H358.out.cell
        have hl371 := H358.out.lt
        go_wp2
        go_ret
        exact ⟨rfl, beyond_of HB359.out⟩
      · have h8i : (u % 8 == 0) = false := by simpa using h8
        clear h8
        go_wp2_with (fail)
        go_at_call 42
        refine (HFN.out _).mono ?_
        rintro e w65 ⟨v, rfl, hv, hb⟩
        obtain ⟨q66, m67, c68, rfl⟩ := hv.shape
        have HN69 := Lib.hid hv
        clear hv
        have HL70 := Lib.hid (show n < B ^ 2 from HNB.out)
        clear hx59 hf60 hl61 hx62 hf63 hl64
        have H71 := Lib.hid (H56.out.below hb)
        have H72 := Lib.hid (H57.out.below hb)
        have H73 := Lib.hid (HX55.out.below hb)
        have HB74 := Lib.hid (below_step hb HB58.out)
        clear H56 H57 HX55 HB58
        clear hb
        obtain ⟨hx75, hf76⟩ := H72.out.cell
        have hl77 := H72.out.lt
        obtain ⟨hx78, hf79⟩ := H73.out.cell
        have hl80 := H73.out.lt
        go_wp2_with (fail)
        go_at_call 18
        refine (String_tx HN69.out 2 HL70.out (by decide) (HDW.out.1.below HDW.out.2 HB74.out) (Nat.le_trans HDW.out.2 HB74.out.size) Ttxn.out).mono ?_
        rintro e w81 ⟨rfl, hb⟩
        clear hx75 hf76 hl77 hx78 hf79 hl80
        have H82 := Lib.hid (H71.out.below hb)
        have H83 := Lib.hid (H72.out.below hb)
        have H84 := Lib.hid (H73.out.below hb)
        have HB85 := Lib.hid (below_step hb HB74.out)
        clear H71 H72 H73 HB74
        clear hb
        obtain ⟨hx86, hf87⟩ := H83.out.cell
        have hl88 := H83.out.lt
        obtain ⟨hx89, hf90⟩ := H84.out.cell
        have hl91 := H84.out.lt
        go_wp2_with (fail)
        go_at_call 43
        refine (HON.out _).mono ?_
        rintro e w92 ⟨q93, m94, c95, rfl, hn, hb⟩
        have HN96 := Lib.hid hn
        clear hn
        clear hx86 hf87 hl88 hx89 hf90 hl91
        have H97 := Lib.hid (H82.out.below hb)
        have H98 := Lib.hid (H83.out.below hb)
        have H99 := Lib.hid (H84.out.below hb)
        have HB100 := Lib.hid (below_step hb HB85.out)
        clear H82 H83 H84 HB85
        clear hb
        obtain ⟨hx101, hf102⟩ := H98.out.cell
        have hl103 := H98.out.lt
        obtain ⟨hx104, hf105⟩ := H99.out.cell
        have hl106 := H99.out.lt
        go_wp2_with (fail)
        go_at_call 19
        refine (Text_tx HN96.out Ttxn.out).mono ?_
        rintro e w107 ⟨rfl, hb⟩
        clear hx101 hf102 hl103 hx104 hf105 hl106
        have H108 := Lib.hid (H97.out.below hb)
        have H109 := Lib.hid (H98.out.below hb)
        have H110 := Lib.hid (H99.out.below hb)
        have HB111 := Lib.hid (below_step hb HB100.out)
        clear H97 H98 H99 HB100
        clear hb
        obtain ⟨hx112, hf113⟩ := H109.out.cell
        have hl114 := H109.out.lt
        obtain ⟨hx115, hf116⟩ := H110.out.cell
        have hl117 := H110.out.lt
        go_wp2
        go_ret
        exact ⟨rfl, beyond_of HB111.out⟩
    · have hd2 : isD s.data.toList = false := by simpa using hd
      have HPA := Lib.hid (fun w => parse_no s (by omega) hd2 w)
      have HRA := Lib.hid (fun w => RParse_no s hma hd2 w)
      clear hd hd2
      go_wp2_with (fail)
      go_at_call 40
      refine (HPA.out _).mono ?_
      rintro e w3 ⟨rfl, hb⟩
      have HB4 := Lib.hid (below_step hb HB2.out)
      clear HB2
      clear hb
      have HN5 := Lib.hid (bd.nat_nil w3)
      go_upto_region 4 with (fail)
      have hA6 : Below w3.heap.size w3 (w3.alloc (.cells #[.slice none 0 0] 27)) := (by repeat (first | assumption | exact Below.refl _ _ | exact below_beyond _ _ | refine Below.beyond ?_ (by (try simp [size_beyond]) <;> omega) _ | refine Below.drew ?_ | refine Go.Rw.below_drewN ?_ _ | refine Go.Rw.below_setRow ?_ (by (try simp [size_beyond]) <;> omega) _ | refine Below.alloc ?_ (by (try simp [size_beyond]) <;> omega) _ | refine Below.setCell ?_ (by (try simp [size_beyond]) <;> omega) _))
      have HX8 := Lib.hid (NB.new w3 (.slice none 0 0))
      have H9 := Lib.hid (HN5.out.below hA6)
      have HB10 := Lib.hid (below_step hA6 HB4.out)
      clear HN5 HB4
      clear hA6
      generalize (w3.alloc (.cells #[.slice none 0 0] 27)) = w7 at *
      obtain ⟨hx11, hf12⟩ := HX8.out.cell
      have hl13 := HX8.out.lt
      go_wp2_with (fail)
      go_at_call 41
      refine (HRA.out _).mono ?_
      rintro e w14 ⟨rfl, hb⟩
      clear hx11 hf12 hl13
      have H15 := Lib.hid (H9.out.below hb)
      have H16 := Lib.hid (HX8.out.below hb)
      have HB17 := Lib.hid (below_step hb HB10.out)
      clear H9 HX8 HB10
      clear hb
      obtain ⟨hx18, hf19⟩ := H16.out.cell
      have hl20 := H16.out.lt
      go_wp2_with (fail)
      go_at_call 21
      refine (IsZero_t H15.out (show 0 = 0 from rfl)).mono ?_
      rintro e w21 ⟨rfl, hb⟩
      clear hx18 hf19 hl20
      have H22 := Lib.hid (H16.out.below hb)
      have HB23 := Lib.hid (below_step hb HB17.out)
      clear H16 HB17
      clear hb
      obtain ⟨hx24, hf25⟩ := H22.out.cell
      have hl26 := H22.out.lt
      go_wp2_with (fail)
      go_at_call 31
      refine (HPP.out _).mono ?_
      rintro e w27 ⟨v, rfl, hv, hb⟩
      obtain ⟨q28, m29, c30, rfl⟩ := hv.shape
      have HN31 := Lib.hid hv
      clear hv
      have HL32 := Lib.hid (show P < B ^ K from HP3.out.1)
      clear hx24 hf25 hl26
      have H33 := Lib.hid (H22.out.below hb)
      have HB34 := Lib.hid (below_step hb HB23.out)
      clear H22 HB23
      clear hb
      obtain ⟨hx35, hf36⟩ := H33.out.cell
      have hl37 := H33.out.lt
      go_upto_region 8 with (fail)
      have hA38 : Below w27.heap.size w27 (w27.alloc (.cells #[.slice q28 m29 c30] 27)) := (by repeat (first | assumption | exact Below.refl _ _ | exact below_beyond _ _ | refine Below.beyond ?_ (by (try simp [size_beyond]) <;> omega) _ | refine Below.drew ?_ | refine Go.Rw.below_drewN ?_ _ | refine Go.Rw.below_setRow ?_ (by (try simp [size_beyond]) <;> omega) _ | refine Below.alloc ?_ (by (try simp [size_beyond]) <;> omega) _ | refine Below.setCell ?_ (by (try simp [size_beyond]) <;> omega) _))
      have HX40 := Lib.hid (NB.new w27 (.slice q28 m29 c30))
      clear hx35 hf36 hl37
      have H41 := Lib.hid (HN31.out.below hA38)
      have H42 := Lib.hid (H33.out.below hA38)
      have HB43 := Lib.hid (below_step hA38 HB34.out)
      clear HN31 H33 HB34
      clear hA38
      generalize (w27.alloc (.cells #[.slice q28 m29 c30] 27)) = w39 at *
      obtain ⟨hx44, hf45⟩ := H42.out.cell
      have hl46 := H42.out.lt
      obtain ⟨hx47, hf48⟩ := HX40.out.cell
      have hl49 := HX40.out.lt
      by_cases h8 : u % 8 = 0
      · have h8i : (u % 8 == 0) = true := by simp [h8]
        clear h8
        go_wp2_with (fail)
        go_at_call 22
        refine (Add_calls H41.out H41.out K HL32.out HL32.out HKA.out).mono ?_
        rintro e w50 ⟨v, rfl, hv, hb⟩
        obtain ⟨q51, m52, c53, rfl⟩ := hv.shape
        have HN54 := Lib.hid hv
        clear hv
        have HL55 := Lib.hid (show (P + P) < B ^ (K + 1) from add_lt HL32.out HL32.out (Nat.lt_succ_self _) (Nat.lt_succ_self _))
        clear hx44 hf45 hl46 hx47 hf48 hl49
        have H56 := Lib.hid (H41.out.below hb)
        have H57 := Lib.hid (H42.out.below hb)
        have H58 := Lib.hid (HX40.out.below hb)
        have HB59 := Lib.hid (below_step hb HB43.out)
        clear H41 H42 HX40 HB43
        clear hb
        obtain ⟨hx60, hf61⟩ := H57.out.cell
        have hl62 := H57.out.lt
        obtain ⟨hx63, hf64⟩ := H58.out.cell
        have hl65 := H58.out.lt
        go_wp2_with (fail)
        go_at_call 42
        refine (from_calls 1 (by decide) _).mono ?_
        rintro e w66 ⟨v, rfl, hv, hb⟩
        obtain ⟨q67, m68, c69, rfl⟩ := hv.shape
        have HN70 := Lib.hid hv
        clear hv
        have HL71 := Lib.hid (show 1 < B ^ 2 from by decide)
        clear hx60 hf61 hl62 hx63 hf64 hl65
        have H72 := Lib.hid (H56.out.below hb)
        have H73 := Lib.hid (HN54.out.below hb)
        have H74 := Lib.hid (H57.out.below hb)
        have H75 := Lib.hid (H58.out.below hb)
        have HB76 := Lib.hid (below_step hb HB59.out)
        clear H56 HN54 H57 H58 HB59
        clear hb
        obtain ⟨hx77, hf78⟩ := H74.out.cell
        have hl79 := H74.out.lt
        obtain ⟨hx80, hf81⟩ := H75.out.cell
        have hl82 := H75.out.lt
        go_wp2_with (fail)
        go_at_call 16
        refine (Sub_calls H73.out HN70.out (K + 1) HL55.out (lt_up HL71.out HKD.out) HKB.out (Nat.le_trans HP3.out.2 (Nat.le_add_right _ _))).mono ?_
        rintro e w83 ⟨v, rfl, hv, hb⟩
        obtain ⟨q84, m85, c86, rfl⟩ := hv.shape
        have HN87 := Lib.hid hv
        clear hv
        have HL88 := Lib.hid (show (P + P - 1) < B ^ (K + 1) from sub_lt HL55.out)
        clear hx77 hf78 hl79 hx80 hf81 hl82
        have H89 := Lib.hid (H72.out.below hb)
        have H90 := Lib.hid (H74.out.below hb)
        have H91 := Lib.hid (H75.out.below hb)
        have HB92 := Lib.hid (below_step hb HB76.out)
        clear H72 H74 H75 HB76
        clear hb
        obtain ⟨hx93, hf94⟩ := H90.out.cell
        have hl95 := H90.out.lt
        obtain ⟨hx96, hf97⟩ := H91.out.cell
        have hl98 := H91.out.lt
        go_upto_region 11 with (fail)
        have hA99 : Below w83.heap.size w83 (w83.alloc (.cells #[.slice q84 m85 c86] 27)) := (by repeat (first | assumption | exact Below.refl _ _ | exact below_beyond _ _ | refine Below.beyond ?_ (by (try simp [size_beyond]) <;> omega) _ | refine Below.drew ?_ | refine Go.Rw.below_drewN ?_ _ | refine Go.Rw.below_setRow ?_ (by (try simp [size_beyond]) <;> omega) _ | refine Below.alloc ?_ (by (try simp [size_beyond]) <;> omega) _ | refine Below.setCell ?_ (by (try simp [size_beyond]) <;> omega) _))
        have HX101 := Lib.hid (NB.new w83 (.slice q84 m85 c86))
        clear hx93 hf94 hl95 hx96 hf97 hl98
        have H102 := Lib.hid (H89.out.below hA99)
        have H103 := Lib.hid (HN87.out.below hA99)
        have H104 := Lib.hid (H90.out.below hA99)
        have H105 := Lib.hid (H91.out.below hA99)
        have HB106 := Lib.hid (below_step hA99 HB92.out)
        clear H89 HN87 H90 H91 HB92
        clear hA99
        generalize (w83.alloc (.cells #[.slice q84 m85 c86] 27)) = w100 at *
        obtain ⟨hx107, hf108⟩ := H104.out.cell
        have hl109 := H104.out.lt
        obtain ⟨hx110, hf111⟩ := H105.out.cell
        have hl112 := H105.out.lt
        obtain ⟨hx113, hf114⟩ := HX101.out.cell
        have hl115 := HX101.out.lt
        go_wp2_with (fail)
        go_at_call 18
        refine (String_tx H103.out (K + 1) HL88.out HKC.out (HDW.out.1.below HDW.out.2 HB106.out) (Nat.le_trans HDW.out.2 HB106.out.size) Ttxm.out).mono ?_
        rintro e w116 ⟨rfl, hb⟩
        clear hx107 hf108 hl109 hx110 hf111 hl112 hx113 hf114 hl115
        have H117 := Lib.hid (H102.out.below hb)
        have H118 := Lib.hid (H103.out.below hb)
        have H119 := Lib.hid (H104.out.below hb)
        have H120 := Lib.hid (H105.out.below hb)
        have H121 := Lib.hid (HX101.out.below hb)
        have HB122 := Lib.hid (below_step hb HB106.out)
        clear H102 H103 H104 H105 HX101 HB106
        clear hb
        obtain ⟨hx123, hf124⟩ := H119.out.cell
        have hl125 := H119.out.lt
        obtain ⟨hx126, hf127⟩ := H120.out.cell
        have hl128 := H120.out.lt
        obtain ⟨hx129, hf130⟩ := H121.out.cell
        have hl131 := H121.out.lt
        go_wp2_with (fail)
        go_at_call 40
        refine (Parse_dec_yes _ kP HP1.out.2 HP4.out HP2.out.1 Ttxm.out _).mono ?_
        rintro e w132 ⟨v, rfl, hv, hb⟩
        obtain ⟨q133, m134, c135, rfl⟩ := hv.shape
        have HN136 := Lib.hid hv
        clear hv
        have HL137 := Lib.hid (show (P + P - 1) < B ^ (K + 1) from HL88.out)
        clear hx123 hf124 hl125 hx126 hf127 hl128 hx129 hf130 hl131
        have H138 := Lib.hid (H117.out.below hb)
        have H139 := Lib.hid (H118.out.below hb)
        have H140 := Lib.hid (H119.out.below hb)
        have H141 := Lib.hid (H120.out.below hb)
        have H142 := Lib.hid (H121.out.below hb)
        have HB143 := Lib.hid (below_step hb HB122.out)
        clear H117 H118 H119 H120 H121 HB122
        clear hb
        obtain ⟨hx144, hf145⟩ := H140.out.cell
        have hl146 := H140.out.lt
        obtain ⟨hx147, hf148⟩ := H141.out.cell
        have hl149 := H141.out.lt
        obtain ⟨hx150, hf151⟩ := H142.out.cell
        have hl152 := H142.out.lt
        go_upto_region 12 with (fail)
        have hA153 : Below w132.heap.size w132 (w132.alloc (.cells #[.slice q133 m134 c135] 27)) := (by repeat (first | assumption | exact Below.refl _ _ | exact below_beyond _ _ | refine Below.beyond ?_ (by (try simp [size_beyond]) <;> omega) _ | refine Below.drew ?_ | refine Go.Rw.below_drewN ?_ _ | refine Go.Rw.below_setRow ?_ (by (try simp [size_beyond]) <;> omega) _ | refine Below.alloc ?_ (by (try simp [size_beyond]) <;> omega) _ | refine Below.setCell ?_ (by (try simp [size_beyond]) <;> omega) _))
        have HX155 := Lib.hid (NB.new w132 (.slice q133 m134 c135))
        clear hx144 hf145 hl146 hx147 hf148 hl149 hx150 hf151 hl152
        have H156 := Lib.hid (H138.out.below hA153)
        have H157 := Lib.hid (H139.out.below hA153)
        have H158 := Lib.hid (HN136.out.below hA153)
        have H159 := Lib.hid (H140.out.below hA153)
        have H160 := Lib.hid (H141.out.below hA153)
        have H161 := Lib.hid (H142.out.below hA153)
        have HB162 := Lib.hid (below_step hA153 HB143.out)
        clear H138 H139 HN136 H140 H141 H142 HB143
        clear hA153
        generalize (w132.alloc (.cells #[.slice q133 m134 c135] 27)) = w154 at *
        obtain ⟨hx163, hf164⟩ := H159.out.cell
        have hl165 := H159.out.lt
        obtain ⟨hx166, hf167⟩ := H160.out.cell
        have hl168 := H160.out.lt
        obtain ⟨hx169, hf170⟩ := H161.out.cell
        have hl171 := H161.out.lt
        obtain ⟨hx172, hf173⟩ := HX155.out.cell
        have hl174 := HX155.out.lt
        go_wp2_with (fail)
        go_at_call 22
        refine (Add_calls H156.out H156.out K HL32.out HL32.out HKA.out).mono ?_
        rintro e w175 ⟨v, rfl, hv, hb⟩
        obtain ⟨q176, m177, c178, rfl⟩ := hv.shape
        have HN179 := Lib.hid hv
        clear hv
        have HL180 := Lib.hid (show (P + P) < B ^ (K + 1) from add_lt HL32.out HL32.out (Nat.lt_succ_self _) (Nat.lt_succ_self _))
        clear hx163 hf164 hl165 hx166 hf167 hl168 hx169 hf170 hl171 hx172 hf173 hl174
        have H181 := Lib.hid (H156.out.below hb)
        have H182 := Lib.hid (H157.out.below hb)
        have H183 := Lib.hid (H158.out.below hb)
        have H184 := Lib.hid (H159.out.below hb)
        have H185 := Lib.hid (H160.out.below hb)
        have H186 := Lib.hid (H161.out.below hb)
        have H187 := Lib.hid (HX155.out.below hb)
        have HB188 := Lib.hid (below_step hb HB162.out)
        clear H156 H157 H158 H159 H160 H161 HX155 HB162
        clear hb
        obtain ⟨hx189, hf190⟩ := H184.out.cell
        have hl191 := H184.out.lt
        obtain ⟨hx192, hf193⟩ := H185.out.cell
        have hl194 := H185.out.lt
        obtain ⟨hx195, hf196⟩ := H186.out.cell
        have hl197 := H186.out.lt
        obtain ⟨hx198, hf199⟩ := H187.out.cell
        have hl200 := H187.out.lt
        go_wp2_with (fail)
        go_at_call 18
        refine (String_tx HN179.out (K + 1) HL180.out HKC.out (HDW.out.1.below HDW.out.2 HB188.out) (Nat.le_trans HDW.out.2 HB188.out.size) Ttxp.out).mono ?_
        rintro e w201 ⟨rfl, hb⟩
        clear hx189 hf190 hl191 hx192 hf193 hl194 hx195 hf196 hl197 hx198 hf199 hl200
        have H202 := Lib.hid (H181.out.below hb)
        have H203 := Lib.hid (H182.out.below hb)
        have H204 := Lib.hid (H183.out.below hb)
        have H205 := Lib.hid (H184.out.below hb)
        have H206 := Lib.hid (H185.out.below hb)
        have H207 := Lib.hid (H186.out.below hb)
        have H208 := Lib.hid (H187.out.below hb)
        have HB209 := Lib.hid (below_step hb HB188.out)
        clear H181 H182 H183 H184 H185 H186 H187 HB188
        clear hb
        obtain ⟨hx210, hf211⟩ := H205.out.cell
        have hl212 := H205.out.lt
        obtain ⟨hx213, hf214⟩ := H206.out.cell
        have hl215 := H206.out.lt
        obtain ⟨hx216, hf217⟩ := H207.out.cell
        have hl218 := H207.out.lt
        obtain ⟨hx219, hf220⟩ := H208.out.cell
        have hl221 := H208.out.lt
        go_wp2_with (fail)
        go_at_call 40
        refine (Parse_dec_no _ kP HP1.out.1 HP4.out HP2.out.2 Ttxp.out _).mono ?_
        rintro e w222 ⟨rfl, hb⟩
        clear hx210 hf211 hl212 hx213 hf214 hl215 hx216 hf217 hl218 hx219 hf220 hl221
        have H223 := Lib.hid (H202.out.below hb)
        have H224 := Lib.hid (H203.out.below hb)
        have H225 := Lib.hid (H204.out.below hb)
        have H226 := Lib.hid (H205.out.below hb)
        have H227 := Lib.hid (H206.out.below hb)
        have H228 := Lib.hid (H207.out.below hb)
        have H229 := Lib.hid (H208.out.below hb)
        have HB230 := Lib.hid (below_step hb HB209.out)
        clear H202 H203 H204 H205 H206 H207 H208 HB209
        clear hb
        obtain ⟨hx231, hf232⟩ := H226.out.cell
        have hl233 := H226.out.lt
        obtain ⟨hx234, hf235⟩ := H227.out.cell
        have hl236 := H227.out.lt
        obtain ⟨hx237, hf238⟩ := H228.out.cell
        have hl239 := H228.out.lt
        obtain ⟨hx240, hf241⟩ := H229.out.cell
        have hl242 := H229.out.lt
        go_wp2_with (fail)
        go_at_call 28
        refine (Equal_t H225.out H224.out (show (P + P - 1) = (P + P - 1) from rfl)).mono ?_
        rintro e w243 ⟨rfl, hb⟩
        clear hx231 hf232 hl233 hx234 hf235 hl236 hx237 hf238 hl239 hx240 hf241 hl242
        have H244 := Lib.hid (H223.out.below hb)
        have H245 := Lib.hid (H224.out.below hb)
        have H246 := Lib.hid (H225.out.below hb)
        have H247 := Lib.hid (H226.out.below hb)
        have H248 := Lib.hid (H227.out.below hb)
        have H249 := Lib.hid (H228.out.below hb)
        have H250 := Lib.hid (H229.out.below hb)
        have HB251 := Lib.hid (below_step hb HB230.out)
        clear H223 H224 H225 H226 H227 H228 H229 HB230
        clear hb
        obtain ⟨hx252, hf253⟩ := H247.out.cell
        have hl254 := H247.out.lt
        obtain ⟨hx255, hf256⟩ := H248.out.cell
        have hl257 := H248.out.lt
        obtain ⟨hx258, hf259⟩ := H249.out.cell
        have hl260 := H249.out.lt
        obtain ⟨hx261, hf262⟩ := H250.out.cell
        have hl263 := H250.out.lt
        go_wp2_with (fail)
        go_at_call 42
        refine (HFN.out _).mono ?_
        rintro e w264 ⟨v, rfl, hv, hb⟩
        obtain ⟨q265, m266, c267, rfl⟩ := hv.shape
        have HN268 := Lib.hid hv
        clear hv
        have HL269 := Lib.hid (show n < B ^ 2 from HNB.out)
        clear hx252 hf253 hl254 hx255 hf256 hl257 hx258 hf259 hl260 hx261 hf262 hl263
        have H270 := Lib.hid (H244.out.below hb)
        have H271 := Lib.hid (H245.out.below hb)
        have H272 := Lib.hid (H246.out.below hb)
        have H273 := Lib.hid (H247.out.below hb)
        have H274 := Lib.hid (H248.out.below hb)
        have H275 := Lib.hid (H249.out.below hb)
        have H276 := Lib.hid (H250.out.below hb)
        have HB277 := Lib.hid (below_step hb HB251.out)
        clear H244 H245 H246 H247 H248 H249 H250 HB251
        clear hb
        obtain ⟨hx278, hf279⟩ := H273.out.cell
        have hl280 := H273.out.lt
        obtain ⟨hx281, hf282⟩ := H274.out.cell
        have hl283 := H274.out.lt
        obtain ⟨hx284, hf285⟩ := H275.out.cell
        have hl286 := H275.out.lt
        obtain ⟨hx287, hf288⟩ := H276.out.cell
        have hl289 := H276.out.lt
        go_wp2_with (fail)
        go_at_call 18
        refine (String_tx HN268.out 2 HL269.out (by decide) (HDW.out.1.below HDW.out.2 HB277.out) (Nat.le_trans HDW.out.2 HB277.out.size) Ttxn.out).mono ?_
        rintro e w290 ⟨rfl, hb⟩
        clear hx278 hf279 hl280 hx281 hf282 hl283 hx284 hf285 hl286 hx287 hf288 hl289
        have H291 := Lib.hid (H270.out.below hb)
        have H292 := Lib.hid (H271.out.below hb)
        have H293 := Lib.hid (H272.out.below hb)
        have H294 := Lib.hid (H273.out.below hb)
        have H295 := Lib.hid (H274.out.below hb)
        have H296 := Lib.hid (H275.out.below hb)
        have H297 := Lib.hid (H276.out.below hb)
        have HB298 := Lib.hid (below_step hb HB277.out)
        clear H270 H271 H272 H273 H274 H275 H276 HB277
        clear hb
        obtain ⟨hx299, hf300⟩ := H294.out.cell
        have hl301 := H294.out.lt
        obtain ⟨hx302, hf303⟩ := H295.out.cell
        have hl304 := H295.out.lt
        obtain ⟨hx305, hf306⟩ := H296.out.cell
        have hl307 := H296.out.lt
        obtain ⟨hx308, hf309⟩ := H297.out.cell
        have hl310 := H297.out.lt
        go_wp2_with (fail)
        go_at_call 43
        refine (HON.out _).mono ?_
        rintro e w311 ⟨q312, m313, c314, rfl, hn, hb⟩
        have HN315 := Lib.hid hn
        clear hn
        clear hx299 hf300 hl301 hx302 hf303 hl304 hx305 hf306 hl307 hx308 hf309 hl310
        have H316 := Lib.hid (H291.out.below hb)
        have H317 := Lib.hid (H292.out.below hb)
        have H318 := Lib.hid (H293.out.below hb)
        have H319 := Lib.hid (H294.out.below hb)
        have H320 := Lib.hid (H295.out.below hb)
        have H321 := Lib.hid (H296.out.below hb)
        have H322 := Lib.hid (H297.out.below hb)
        have HB323 := Lib.hid (below_step hb HB298.out)
        clear H291 H292 H293 H294 H295 H296 H297 HB298
        clear hb
        obtain ⟨hx324, hf325⟩ := H319.out.cell
        have hl326 := H319.out.lt
        obtain ⟨hx327, hf328⟩ := H320.out.cell
        have hl329 := H320.out.lt
        obtain ⟨hx330, hf331⟩ := H321.out.cell
        have hl332 := H321.out.lt
        obtain ⟨hx333, hf334⟩ := H322.out.cell
        have hl335 := H322.out.lt
        go_wp2_with (fail)
        go_at_call 19
        refine (Text_tx HN315.out Ttxn.out).mono ?_
        rintro e w336 ⟨rfl, hb⟩
        clear hx324 hf325 hl326 hx327 hf328 hl329 hx330 hf331 hl332 hx333 hf334 hl335
        have H337 := Lib.hid (H316.out.below hb)
        have H338 := Lib.hid (H317.out.below hb)
        have H339 := Lib.hid (H318.out.below hb)
        have H340 := Lib.hid (H319.out.below hb)
        have H341 := Lib.hid (H320.out.below hb)
        have H342 := Lib.hid (H321.out.below hb)
        have H343 := Lib.hid (H322.out.below hb)
        have HB344 := Lib.hid (below_step hb HB323.out)
        clear H316 H317 H318 H319 H320 H321 H322 HB323
        clear hb
        obtain ⟨hx345, hf346⟩ := H340.out.cell
        have hl347 := H340.out.lt
        obtain ⟨hx348, hf349⟩ := H341.out.cell
        have hl350 := H341.out.lt
        obtain ⟨hx351, hf352⟩ := H342.out.cell
        have hl353 := H342.out.lt
        obtain ⟨hx354, hf355⟩ := H343.out.cell
        have hl356 := H343.out.lt
        go_wp2
        go_ret
        exact ⟨rfl, beyond_of HB344.out⟩
      · have h8i : (u % 8 == 0) = false := by simpa using h8
        clear h8
        go_wp2_with (fail)
        go_at_call 42
        refine (HFN.out _).mono ?_
        rintro e w50 ⟨v, rfl, hv, hb⟩
        obtain ⟨q51, m52, c53, rfl⟩ := hv.shape
        have HN54 := Lib.hid hv
        clear hv
        have HL55 := Lib.hid (show n < B ^ 2 from HNB.out)
        clear hx44 hf45 hl46 hx47 hf48 hl49
        have H56 := Lib.hid (H41.out.below hb)
        have H57 := Lib.hid (H42.out.below hb)
        have H58 := Lib.hid (HX40.out.below hb)
        have HB59 := Lib.hid (below_step hb HB43.out)
        clear H41 H42 HX40 HB43
        clear hb
        obtain ⟨hx60, hf61⟩ := H57.out.cell
        have hl62 := H57.out.lt
        obtain ⟨hx63, hf64⟩ := H58.out.cell
        have hl65 := H58.out.lt
        go_wp2_with (fail)
        go_at_call 18
        refine (String_tx HN54.out 2 HL55.out (by decide) (HDW.out.1.below HDW.out.2 HB59.out) (Nat.le_trans HDW.out.2 HB59.out.size) Ttxn.out).mono ?_
        rintro e w66 ⟨rfl, hb⟩
        clear hx60 hf61 hl62 hx63 hf64 hl65
        have H67 := Lib.hid (H56.out.below hb)
        have H68 := Lib.hid (H57.out.below hb)
        have H69 := Lib.hid (H58.out.below hb)
        have HB70 := Lib.hid (below_step hb HB59.out)
        clear H56 H57 H58 HB59
        clear hb
        obtain ⟨hx71, hf72⟩ := H68.out.cell
        have hl73 := H68.out.lt
        obtain ⟨hx74, hf75⟩ := H69.out.cell
        have hl76 := H69.out.lt
        go_wp2_with (fail)
        go_at_call 43
        refine (HON.out _).mono ?_
        rintro e w77 ⟨q78, m79, c80, rfl, hn, hb⟩
        have HN81 := Lib.hid hn
        clear hn
        clear hx71 hf72 hl73 hx74 hf75 hl76
        have H82 := Lib.hid (H67.out.below hb)
        have H83 := Lib.hid (H68.out.below hb)
        have H84 := Lib.hid (H69.out.below hb)
        have HB85 := Lib.hid (below_step hb HB70.out)
        clear H67 H68 H69 HB70
        clear hb
        obtain ⟨hx86, hf87⟩ := H83.out.cell
        have hl88 := H83.out.lt
        obtain ⟨hx89, hf90⟩ := H84.out.cell
        have hl91 := H84.out.lt
        go_wp2_with (fail)
        go_at_call 19
        refine (Text_tx HN81.out Ttxn.out).mono ?_
        rintro e w92 ⟨rfl, hb⟩
        clear hx86 hf87 hl88 hx89 hf90 hl91
        have H93 := Lib.hid (H82.out.below hb)
        have H94 := Lib.hid (H83.out.below hb)
        have H95 := Lib.hid (H84.out.below hb)
        have HB96 := Lib.hid (below_step hb HB85.out)
        clear H82 H83 H84 HB85
        clear hb
        obtain ⟨hx97, hf98⟩ := H94.out.cell
        have hl99 := H94.out.lt
        obtain ⟨hx100, hf101⟩ := H95.out.cell
        have hl102 := H95.out.lt
        go_wp2
        go_ret
        exact ⟨rfl, beyond_of HB96.out⟩
  · have hbig : 200 < s.size := by omega
    clear hfew
    have HB0 := Lib.hid (Below.refl W.heap.size W)
    go_enter Tryd.func7, Tryd.ntmps7
    go_wp2_with (fail)
    go_at_call 12
    refine (known_calls (HDW.out.1.below HDW.out.2 HB0.out) (Nat.le_trans HDW.out.2 HB0.out.size)).mono ?_
    rintro e w1 ⟨rfl, hb⟩
    have HB2 := Lib.hid (below_step hb HB0.out)
    clear HB0
    clear hb
    go_wp2_with (fail)
    go_at_call 12
    refine (known_calls (HDW.out.1.below HDW.out.2 HB2.out) (Nat.le_trans HDW.out.2 HB2.out.size)).mono ?_
    rintro e w3 ⟨rfl, hb⟩
    have HB4 := Lib.hid (below_step hb HB2.out)
    clear HB2
    clear hb
    go_wp2
    go_ret
    exact ⟨rfl, beyond_of HB4.out⟩
end Go.Proofs.YtogjobmekjighaaDoor.bn
