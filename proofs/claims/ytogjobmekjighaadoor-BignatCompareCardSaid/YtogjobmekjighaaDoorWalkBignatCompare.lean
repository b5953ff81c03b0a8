/-
  BignatCompare: the walk.
-/
import Derived.Test.YtogjobmekjighaaDoorBdW
import Derived.Test.YtogjobmekjighaaDoorBnTe
set_option linter.unusedSimpArgs false
set_option linter.unusedVariables false
namespace Go.Proofs.YtogjobmekjighaaDoor.bn
open Go.RowKit Go.Own Go.Bn
open bd (U8At RefN RefR dnum Digits_calls Text_calls)
set_option maxHeartbeats 4000000
set_option maxRecDepth 100000
theorem Cmp_z {v v2 : Value} {n n2 : Nat} {W : World} (h : NatAt v n W) (h2 : NatAt v2 n2 W) {z : Int} (e : cmpV (n : Int) (n2 : Int) = z) : Calls Tryd.prog 39 #[v, v2] W fun e w' => e = .returned (.int .i64 z) ∧ Below W.heap.size W w' := e ▸ Cmp_calls h h2
theorem RCmp_z {q q2 : Option Addr} {m c m2 c2 n n2 : Nat} {W : World} (h : RefN q m c n W) (h2 : RefN q2 m2 c2 n2 W) {z : Int} (e : cmpV (n : Int) (n2 : Int) = z) : Calls Tryd.prog 17 #[.slice q m c, .slice q2 m2 c2] W fun e w' => e = .returned (.int .i64 z) ∧ Below W.heap.size W w' := e ▸ bd.Cmp_calls h h2
theorem Equal_z {v v2 : Value} {n n2 : Nat} {W : World} (h : NatAt v n W) (h2 : NatAt v2 n2 W) {f : Bool} (e : decide (n = n2) = f) : Calls Tryd.prog 28 #[v, v2] W fun e w' => e = .returned (.bool f) ∧ Below W.heap.size W w' := e ▸ Equal_calls h h2
theorem IsZero_z {v : Value} {n : Nat} {W : World} (h : NatAt v n W) {f : Bool} (e : decide (n = 0) = f) : Calls Tryd.prog 21 #[v] W fun e w' => e = .returned (.bool f) ∧ Below W.heap.size W w' := e ▸ isZero_calls h
theorem Bit_z {v : Value} {n : Nat} {W : World} (h : NatAt v n W) {i : Int} (hi : i ≤ 9223372036854775807) {b : Bool} (e : bd.bitAt n i = b) : Calls Tryd.prog 33 #[v, .int .i64 i] W fun e w' => e = .returned (.bool b) ∧ Below W.heap.size W w' := by
  subst e
  by_cases h0 : i < 0
  · have := bit_no h i h0
    rw [show bd.bitAt n i = false from by unfold bd.bitAt; rw [decide_eq_false (by omega), Bool.false_and]]
    exact this
  · obtain ⟨k, rfl⟩ := Int.eq_ofNat_of_zero_le (show 0 ≤ i by omega)
    rw [show bd.bitAt n (k : Int) = n.testBit k from by unfold bd.bitAt; rw [decide_eq_true (Int.natCast_nonneg k), Bool.true_and, Int.toNat_natCast]]
    exact bit_yes h k hi
theorem Uint64_z {v : Value} {n : Nat} {W : World} (h : NatAt v n W) {u : Int} {k : Bool} (e1 : (((if n < U64 then n else 0) : Nat) : Int) = u) (e2 : decide (n < U64) = k) : Calls Tryd.prog 37 #[v] W fun e w' => e = .returned (.tuple #[.int .u64 u, .bool k]) ∧ Below W.heap.size W w' := by
  subst e1; subst e2; exact Uint64_calls h
theorem Small_z {q : Option Addr} {m c n : Nat} {W : World} (h : RefN q m c n W) {u : Int} {k : Bool} (e1 : (((if n < U64 then n else 0) : Nat) : Int) = u) (e2 : decide (n < U64) = k) : Calls Tryd.prog 38 #[.slice q m c] W fun e w' => e = .returned (.tuple #[.int .u64 u, .bool k]) ∧ Below W.heap.size W w' := by
  subst e1; subst e2
  refine (bd.Small_calls h).mono fun e w' hh => ⟨?_, hh.2⟩
  rw [hh.1]
  unfold U64
  by_cases hx : n < 18446744073709551616
  · rw [if_pos hx, if_pos hx, decide_eq_true hx]
  · rw [if_neg hx, if_neg hx, decide_eq_false hx]; rfl
theorem Bits_z {q : Option Addr} {m c n : Nat} {W : World} (h : RefN q m c n W) (i : Int) (hK : n < Go.Bd.B ^ 60) (hi0 : -9223372036854775808 ≤ i) (hi1 : i ≤ 9223372036854775807) {l : Nat} {b : Bool} (e1 : nb n = l) (e2 : bd.bitAt n i = b) : Calls Tryd.prog 36 #[.slice q m c, .int .i64 i] W fun e w' => e = .returned (.tuple #[.int .i64 (l : Int), .bool b]) ∧ Below W.heap.size W w' := by
  subst e1; subst e2; exact bd.Bits_calls h i 60 hK (by decide) hi0 hi1 (Nat.le_trans (nb_small (show n < 10 ^ 60 from hK) (Nat.le_refl _)) (by decide))
theorem compare_walk {W : World} (i : Int) (hi0 : -9223372036854775808 ≤ i) (hi1 : i ≤ 9223372036854775807) (hD : DecW W) (ht : tabB ≤ W.heap.size) {qa qb : Option Addr} {ma mb ca cb : Nat} {xsa xsb : List Nat} (ha : (ma : Int) ≤ 9223372036854775807) (hb : (mb : Int) ≤ 9223372036854775807) (hla : xsa.length = ma) (hlb : xsb.length = mb) (hua : ma ≤ 999000 → U8At qa ma ca xsa W) (hub : mb ≤ 999000 → U8At qb mb cb xsb W) :
    Calls Tryd.prog 6 #[.slice qa ma ca, .slice qb mb cb, .int .i64 i] W fun e w' => e = .returned (.bool true) ∧ ∃ x, w' = beyond W x := by
  have HDW := Lib.hid (And.intro hD ht)
  clear hD ht
  have hfew : (ma ≤ 60 ∧ mb ≤ 60) ∨ (60 < ma) ∨ (ma ≤ 60 ∧ 60 < mb) := by omega
  rcases hfew with ⟨hma, hmb⟩ | hbig | ⟨hma, hbig⟩
  · have HB0 := Lib.hid (Below.refl W.heap.size W)
    have HUa := Lib.hid (hua (by omega))
    have HUb := Lib.hid (hub (by omega))
    clear hua hub
    go_enter Tryd.func6, Tryd.ntmps6
    go_wp2_with (fail)
    go_at_call 12
    refine (known_calls (HDW.out.1.below HDW.out.2 HB0.out) (Nat.le_trans HDW.out.2 HB0.out.size)).mono ?_
    rintro e w1 ⟨rfl, hb⟩
    have H2 := Lib.hid (HUa.out.below hb)
    have H3 := Lib.hid (HUb.out.below hb)
    have HB4 := Lib.hid (below_step hb HB0.out)
    clear HUa HUb HB0
    clear hb
    have HOa := Lib.hid (Of_calls H2.out (by omega))
    go_wp2_with (fail)
    go_at_call 14
    refine (HOa.out).mono ?_
    rintro e w5 ⟨v, rfl, hv, hb⟩
    obtain ⟨q6, m7, c8, rfl⟩ := hv.shape
    have HN9 := Lib.hid hv
    clear hv
    have HL10 := Lib.hid (show dnum xsa < B ^ 7 from dnum_B xsa 7 (by omega))
    have H11 := Lib.hid (H2.out.below hb)
    have H12 := Lib.hid (H3.out.below hb)
    have HB13 := Lib.hid (below_step hb HB4.out)
    clear H2 H3 HB4
    clear hb
    have HOb := Lib.hid (Of_calls H12.out (by omega))
    go_wp2_with (fail)
    go_at_call 14
    refine (HOb.out).mono ?_
    rintro e w14 ⟨v, rfl, hv, hb⟩
    obtain ⟨q15, m16, c17, rfl⟩ := hv.shape
    have HN18 := Lib.hid hv
    clear hv
    have HL19 := Lib.hid (show dnum xsb < B ^ 7 from dnum_B xsb 7 (by omega))
    have H20 := Lib.hid (HN9.out.below hb)
    have H21 := Lib.hid (H11.out.below hb)
    have H22 := Lib.hid (H12.out.below hb)
    have HB23 := Lib.hid (below_step hb HB13.out)
    clear HN9 H11 H12 HB13
    clear hb
    go_upto_region 4 with (fail)
    have hA24 : Below w14.heap.size w14 ((w14.alloc (.cells #[.slice q6 m7 c8] 27)).alloc (.cells #[.slice q15 m16 c17] 27)) := (by repeat (first | assumption | exact Below.refl _ _ | exact below_beyond _ _ | refine Below.beyond ?_ (by (try simp [size_beyond]) <;> omega) _ | refine Below.drew ?_ | refine Go.Rw.below_drewN ?_ _ | refine Go.Rw.below_setRow ?_ (by (try simp [size_beyond]) <;> omega) _ | refine Below.alloc ?_ (by (try simp [size_beyond]) <;> omega) _ | refine Below.setCell ?_ (by (try simp [size_beyond]) <;> omega) _))
    have HX26 := Lib.hid ((two_blocks w14 (.slice q6 m7 c8) (.slice q15 m16 c17)).1)
    have HX27 := Lib.hid ((two_blocks w14 (.slice q6 m7 c8) (.slice q15 m16 c17)).2)
    have H28 := Lib.hid (H20.out.below hA24)
    have H29 := Lib.hid (HN18.out.below hA24)
    have H30 := Lib.hid (H21.out.below hA24)
    have H31 := Lib.hid (H22.out.below hA24)
    have HB32 := Lib.hid (below_step hA24 HB23.out)
    clear H20 HN18 H21 H22 HB23
    clear hA24
    generalize ((w14.alloc (.cells #[.slice q6 m7 c8] 27)).alloc (.cells #[.slice q15 m16 c17] 27)) = w25 at *
    obtain ⟨hx33, hf34⟩ := HX26.out.cell
    have hl35 := HX26.out.lt
    obtain ⟨hx36, hf37⟩ := HX27.out.cell
    have hl38 := HX27.out.lt
    have HXa := Lib.hid (bd.dnum_10 (xs := xsa) (k := 60) (by omega))
    go_wp2_with (fail)
    go_at_call 15
    refine (Digits_calls H30.out).mono ?_
    rintro e w39 ⟨q40, m41, c42, rfl, hn, hb⟩
    have HN43 := Lib.hid hn
    clear hn
    clear hx33 hf34 hl35 hx36 hf37 hl38
    have H44 := Lib.hid (H28.out.below hb)
    have H45 := Lib.hid (H29.out.below hb)
    have H46 := Lib.hid (HX26.out.below hb)
    have H47 := Lib.hid (HX27.out.below hb)
    have H48 := Lib.hid (H30.out.below hb)
    have H49 := Lib.hid (H31.out.below hb)
    have HB50 := Lib.hid (below_step hb HB32.out)
    clear H28 H29 HX26 HX27 H30 H31 HB32
    clear hb
    obtain ⟨hx51, hf52⟩ := H46.out.cell
    have hl53 := H46.out.lt
    obtain ⟨hx54, hf55⟩ := H47.out.cell
    have hl56 := H47.out.lt
    go_wp2_with (fail)
    go_at_call 15
    refine (Digits_calls H49.out).mono ?_
    rintro e w57 ⟨q58, m59, c60, rfl, hn, hb⟩
    have HN61 := Lib.hid hn
    clear hn
    clear hx51 hf52 hl53 hx54 hf55 hl56
    have H62 := Lib.hid (H44.out.below hb)
    have H63 := Lib.hid (H45.out.below hb)
    have H64 := Lib.hid (HN43.out.below hb)
    have H65 := Lib.hid (H46.out.below hb)
    have H66 := Lib.hid (H47.out.below hb)
    have H67 := Lib.hid (H48.out.below hb)
    have H68 := Lib.hid (H49.out.below hb)
    have HB69 := Lib.hid (below_step hb HB50.out)
    clear H44 H45 HN43 H46 H47 H48 H49 HB50
    clear hb
    obtain ⟨hx70, hf71⟩ := H65.out.cell
    have hl72 := H65.out.lt
    obtain ⟨hx73, hf74⟩ := H66.out.cell
    have hl75 := H66.out.lt
    clear H67 H68
    generalize dnum xsa = x at *
    generalize dnum xsb = y at *
    obtain ⟨z, hz⟩ : ∃ z, cmpV (x : Int) (y : Int) = z := ⟨_, rfl⟩
    obtain ⟨f, hf⟩ : ∃ f, decide (x = y) = f := ⟨_, rfl⟩
    obtain ⟨g, hg⟩ : ∃ g, decide (x = 0) = g := ⟨_, rfl⟩
    obtain ⟨l, hl⟩ : ∃ l, nb x = l := ⟨_, rfl⟩
    obtain ⟨b, hb⟩ : ∃ b, bd.bitAt x i = b := ⟨_, rfl⟩
    obtain ⟨u, hu⟩ : ∃ u, (((if x < U64 then x else 0) : Nat) : Int) = u := ⟨_, rfl⟩
    obtain ⟨k, hk⟩ : ∃ k, decide (x < U64) = k := ⟨_, rfl⟩
    have hzf : (z == 0) = f := by
      rw [← hz, ← hf]
      rcases Nat.lt_trichotomy x y with h | h | h
      · rw [cmpV_lt h, decide_eq_false (by omega)]; rfl
      · subst h; rw [cmpV_eq, decide_eq_true rfl]; rfl
      · rw [cmpV_gt h, decide_eq_false (by omega)]; rfl
    have hmg : ((m41 : Int) == 0) = g := by
      have h1 := H64.out.pos
      rw [← hg]
      rw [Bool.eq_iff_iff]
      simp
      omega
    have hzz : (z == z) = true := by simp
    have hff : (f == f) = true := by simp
    have hgg : (g == g) = true := by simp
    have hll : ((l : Int) == (l : Int)) = true := by simp
    have hbb : (b == b) = true := by simp
    have huu : (u == u) = true := by simp
    have hkk : (k == k) = true := by simp
    have HZ := Lib.hid hz
    have HF := Lib.hid hf
    have HG := Lib.hid hg
    have HL := Lib.hid hl
    have HBI := Lib.hid hb
    have HU := Lib.hid hu
    have HK := Lib.hid hk
    clear hz hf hg hl hb hu hk
    go_wp2_with (fail)
    go_at_call 36
    refine (Bits_z H64.out i HXa.out hi0 hi1 HL.out HBI.out).mono ?_
    rintro e w76 ⟨rfl, hb⟩
    clear hx70 hf71 hl72 hx73 hf74 hl75
    have H77 := Lib.hid (H62.out.below hb)
    have H78 := Lib.hid (H63.out.below hb)
    have H79 := Lib.hid (H64.out.below hb)
    have H80 := Lib.hid (HN61.out.below hb)
    have H81 := Lib.hid (H65.out.below hb)
    have H82 := Lib.hid (H66.out.below hb)
    have HB83 := Lib.hid (below_step hb HB69.out)
    clear H62 H63 H64 HN61 H65 H66 HB69
    clear hb
    obtain ⟨hx84, hf85⟩ := H81.out.cell
    have hl86 := H81.out.lt
    obtain ⟨hx87, hf88⟩ := H82.out.cell
    have hl89 := H82.out.lt
    go_wp2_with (fail)
    go_at_call 37
    refine (Uint64_z H77.out HU.out HK.out).mono ?_
    rintro e w90 ⟨rfl, hb⟩
    clear hx84 hf85 hl86 hx87 hf88 hl89
    have H91 := Lib.hid (H77.out.below hb)
    have H92 := Lib.hid (H78.out.below hb)
    have H93 := Lib.hid (H79.out.below hb)
    have H94 := Lib.hid (H80.out.below hb)
    have H95 := Lib.hid (H81.out.below hb)
    have H96 := Lib.hid (H82.out.below hb)
    have HB97 := Lib.hid (below_step hb HB83.out)
    clear H77 H78 H79 H80 H81 H82 HB83
    clear hb
    obtain ⟨hx98, hf99⟩ := H95.out.cell
    have hl100 := H95.out.lt
    obtain ⟨hx101, hf102⟩ := H96.out.cell
    have hl103 := H96.out.lt
    go_wp2_with (fail)
    go_at_call 38
    refine (Small_z H93.out HU.out HK.out).mono ?_
    rintro e w104 ⟨rfl, hb⟩
    clear hx98 hf99 hl100 hx101 hf102 hl103
    have H105 := Lib.hid (H91.out.below hb)
    have H106 := Lib.hid (H92.out.below hb)
    have H107 := Lib.hid (H93.out.below hb)
    have H108 := Lib.hid (H94.out.below hb)
    have H109 := Lib.hid (H95.out.below hb)
    have H110 := Lib.hid (H96.out.below hb)
    have HB111 := Lib.hid (below_step hb HB97.out)
    clear H91 H92 H93 H94 H95 H96 HB97
    clear hb
    obtain ⟨hx112, hf113⟩ := H109.out.cell
    have hl114 := H109.out.lt
    obtain ⟨hx115, hf116⟩ := H110.out.cell
    have hl117 := H110.out.lt
    go_wp2_with (fail)
    go_at_call 39
    refine (Cmp_z H105.out H106.out HZ.out).mono ?_
    rintro e w118 ⟨rfl, hb⟩
    clear hx112 hf113 hl114 hx115 hf116 hl117
    have H119 := Lib.hid (H105.out.below hb)
    have H120 := Lib.hid (H106.out.below hb)
    have H121 := Lib.hid (H107.out.below hb)
    have H122 := Lib.hid (H108.out.below hb)
    have H123 := Lib.hid (H109.out.below hb)
    have H124 := Lib.hid (H110.out.below hb)
    have HB125 := Lib.hid (below_step hb HB111.out)
    clear H105 H106 H107 H108 H109 H110 HB111
    clear hb
    obtain ⟨hx126, hf127⟩ := H123.out.cell
    have hl128 := H123.out.lt
    obtain ⟨hx129, hf130⟩ := H124.out.cell
    have hl131 := H124.out.lt
    go_wp2_with (fail)
    go_at_call 17
    refine (RCmp_z H121.out H122.out HZ.out).mono ?_
    rintro e w132 ⟨rfl, hb⟩
    clear hx126 hf127 hl128 hx129 hf130 hl131
    have H133 := Lib.hid (H119.out.below hb)
    have H134 := Lib.hid (H120.out.below hb)
    have H135 := Lib.hid (H121.out.below hb)
    have H136 := Lib.hid (H122.out.below hb)
    have H137 := Lib.hid (H123.out.below hb)
    have H138 := Lib.hid (H124.out.below hb)
    have HB139 := Lib.hid (below_step hb HB125.out)
    clear H119 H120 H121 H122 H123 H124 HB125
    clear hb
    obtain ⟨hx140, hf141⟩ := H137.out.cell
    have hl142 := H137.out.lt
    obtain ⟨hx143, hf144⟩ := H138.out.cell
    have hl145 := H138.out.lt
    go_wp2_with (fail)
    go_at_call 28
    refine (Equal_z H133.out H134.out HF.out).mono ?_
    rintro e w146 ⟨rfl, hb⟩
    clear hx140 hf141 hl142 hx143 hf144 hl145
    have H147 := Lib.hid (H133.out.below hb)
    have H148 := Lib.hid (H134.out.below hb)
    have H149 := Lib.hid (H135.out.below hb)
    have H150 := Lib.hid (H136.out.below hb)
    have H151 := Lib.hid (H137.out.below hb)
    have H152 := Lib.hid (H138.out.below hb)
    have HB153 := Lib.hid (below_step hb HB139.out)
    clear H133 H134 H135 H136 H137 H138 HB139
    clear hb
    obtain ⟨hx154, hf155⟩ := H151.out.cell
    have hl156 := H151.out.lt
    obtain ⟨hx157, hf158⟩ := H152.out.cell
    have hl159 := H152.out.lt
    go_wp2_with (fail)
    go_at_call 17
    refine (RCmp_z H149.out H150.out HZ.out).mono ?_
    rintro e w160 ⟨rfl, hb⟩
    clear hx154 hf155 hl156 hx157 hf158 hl159
    have H161 := Lib.hid (H147.out.below hb)
    have H162 := Lib.hid (H148.out.below hb)
    have H163 := Lib.hid (H149.out.below hb)
    have H164 := Lib.hid (H150.out.below hb)
    have H165 := Lib.hid (H151.out.below hb)
    have H166 := Lib.hid (H152.out.below hb)
    have HB167 := Lib.hid (below_step hb HB153.out)
    clear H147 H148 H149 H150 H151 H152 HB153
    clear hb
    obtain ⟨hx168, hf169⟩ := H165.out.cell
    have hl170 := H165.out.lt
    obtain ⟨hx171, hf172⟩ := H166.out.cell
    have hl173 := H166.out.lt
    go_wp2_with (fail)
    go_at_call 21
    refine (IsZero_z H161.out HG.out).mono ?_
    rintro e w174 ⟨rfl, hb⟩
    clear hx168 hf169 hl170 hx171 hf172 hl173
    have H175 := Lib.hid (H161.out.below hb)
    have H176 := Lib.hid (H162.out.below hb)
    have H177 := Lib.hid (H163.out.below hb)
    have H178 := Lib.hid (H164.out.below hb)
    have H179 := Lib.hid (H165.out.below hb)
    have H180 := Lib.hid (H166.out.below hb)
    have HB181 := Lib.hid (below_step hb HB167.out)
    clear H161 H162 H163 H164 H165 H166 HB167
    clear hb
    obtain ⟨hx182, hf183⟩ := H179.out.cell
    have hl184 := H179.out.lt
    obtain ⟨hx185, hf186⟩ := H180.out.cell
    have hl187 := H180.out.lt
    go_wp2_with (fail)
    go_at_call 32
    refine (BitLen_eq H175.out HL.out).mono ?_
    rintro e w188 ⟨rfl, hb⟩
    clear hx182 hf183 hl184 hx185 hf186 hl187
    have H189 := Lib.hid (H175.out.below hb)
    have H190 := Lib.hid (H176.out.below hb)
    have H191 := Lib.hid (H177.out.below hb)
    have H192 := Lib.hid (H178.out.below hb)
    have H193 := Lib.hid (H179.out.below hb)
    have H194 := Lib.hid (H180.out.below hb)
    have HB195 := Lib.hid (below_step hb HB181.out)
    clear H175 H176 H177 H178 H179 H180 HB181
    clear hb
    obtain ⟨hx196, hf197⟩ := H193.out.cell
    have hl198 := H193.out.lt
    obtain ⟨hx199, hf200⟩ := H194.out.cell
    have hl201 := H194.out.lt
    go_wp2_with (fail)
    go_at_call 33
    refine (Bit_z H189.out hi1 HBI.out).mono ?_
    rintro e w202 ⟨rfl, hb⟩
    clear hx196 hf197 hl198 hx199 hf200 hl201
    have H203 := Lib.hid (H189.out.below hb)
    have H204 := Lib.hid (H190.out.below hb)
    have H205 := Lib.hid (H191.out.below hb)
    have H206 := Lib.hid (H192.out.below hb)
    have H207 := Lib.hid (H193.out.below hb)
    have H208 := Lib.hid (H194.out.below hb)
    have HB209 := Lib.hid (below_step hb HB195.out)
    clear H189 H190 H191 H192 H193 H194 HB195
    clear hb
    obtain ⟨hx210, hf211⟩ := H207.out.cell
    have hl212 := H207.out.lt
    obtain ⟨hx213, hf214⟩ := H208.out.cell
    have hl215 := H208.out.lt
    go_wp2
    go_ret
    exact ⟨rfl, beyond_of HB209.out⟩
  · clear hua hub
    have HB0 := Lib.hid (Below.refl W.heap.size W)
    go_enter Tryd.func6, Tryd.ntmps6
    go_wp2_with (fail)
    go_at_call 12
    refine (known_calls (HDW.out.1.below HDW.out.2 HB0.out) (Nat.le_trans HDW.out.2 HB0.out.size)).mono ?_
    rintro e w1 ⟨rfl, hb⟩
    have HB2 := Lib.hid (below_step hb HB0.out)
    clear HB0
    clear hb
    go_wp2_with (fail)
    go_at_call 12
    refine (known_calls (HDW.out.1.below HDW.out.2 HB2.out) (Nat.le_trans HDW.out.2 HB2.out.size)).mono ?_
    rintro e w3 ⟨rfl, hb⟩
    have HB4 := Lib.hid (below_step hb HB2.out)
    clear HB2
    clear hb
    go_wp2
    go_ret
    exact ⟨rfl, beyond_of HB4.out⟩
  · clear hua hub
    have HB0 := Lib.hid (Below.refl W.heap.size W)
    go_enter Tryd.func6, Tryd.ntmps6
    go_wp2_with (fail)
    go_at_call 12
    refine (known_calls (HDW.out.1.below HDW.out.2 HB0.out) (Nat.le_trans HDW.out.2 HB0.out.size)).mono ?_
    rintro e w1 ⟨rfl, hb⟩
    have HB2 := Lib.hid (below_step hb HB0.out)
    clear HB0
    clear hb
    go_wp2_with (fail)
    go_at_call 12
    refine (known_calls (HDW.out.1.below HDW.out.2 HB2.out) (Nat.le_trans HDW.out.2 HB2.out.size)).mono ?_
    rintro e w3 ⟨rfl, hb⟩
    have HB4 := Lib.hid (below_step hb HB2.out)
    clear HB2
    clear hb
    go_wp2
    go_ret
    exact ⟨rfl, beyond_of HB4.out⟩
end Go.Proofs.YtogjobmekjighaaDoor.bn
