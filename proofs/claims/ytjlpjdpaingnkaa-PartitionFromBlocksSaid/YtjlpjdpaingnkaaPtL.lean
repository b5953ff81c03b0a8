/-
  The law's made and known.
-/
import Derived.Test.YtjlpjdpaingnkaaPtK
set_option linter.unusedSimpArgs false
set_option linter.unusedVariables false
namespace Go.Proofs.Ytjlpjdpaingnkaa.pt
open Go.RowKit Go.Own Go.Pt Go.Rw
set_option maxHeartbeats 4000000
set_option maxRecDepth 100000

/-- one pair: joined if both are elements -/
def stepL (w : List Int) (a b : Int) : List Int := if okL w a && okL w b then joinL w a.toNat b.toNat else w
/-- the first k pairs, one after another -/
def foldTo (w : List Int) (A B : Nat → Int) : Nat → List Int
  | 0 => w
  | k + 1 => stepL (foldTo w A B k) (A k) (B k)
theorem stepL_len (w : List Int) (a b : Int) : (stepL w a b).length = w.length := by unfold stepL; split; exact joinL_len _ _ _; rfl
theorem foldTo_len (w : List Int) (A B : Nat → Int) : ∀ k, (foldTo w A B k).length = w.length
  | 0 => rfl
  | k + 1 => by unfold foldTo; rw [stepL_len, foldTo_len w A B k]
theorem okL_len {w v : List Int} (h : w.length = v.length) (a : Int) : okL w a = okL v a := by unfold okL; rw [h]
/-- the pairs of the argument, here -/
structure Pairs (q : Option Addr) (m : Nat) (A B : Nat → Int) (w : World) : Prop where
  mk' :: (all : ∀ k, k < m → ∃ b off, q = some ⟨b, off, none⟩ ∧ b < w.heap.size ∧ w.cell? ⟨b, off + k * 2, none⟩ = some (.int .i64 (A k)) ∧ w.cell? ⟨b, off + k * 2 + 1, none⟩ = some (.int .i64 (B k)))
theorem Pairs.below {q : Option Addr} {m : Nat} {A B : Nat → Int} {w w' : World} (h : Pairs q m A B w) (hb : Below w.heap.size w w') : Pairs q m A B w' := ⟨fun k hk => by
  obtain ⟨b, off, h1, h2, h3, h4⟩ := h.all k hk
  exact ⟨b, off, h1, Nat.lt_of_lt_of_le h2 hb.size, (hb.cell h2).trans h3, (hb.cell h2).trans h4⟩⟩
/-- the union of two numbers, whatever they are -/
theorem union_any {P g : Nat} {w : List Int} {W : World} (a b : Int) (h : Pt P g w W) :
    Calls Try.prog 15 #[.pointer (some ⟨P, 0, none⟩), .int .i64 a, .int .i64 b] W fun e w' => ∃ x y, e = .returned (.tuple #[.bool x, .int .i64 y]) ∧ Eff P g (stepL w a b) W w' ∧ x = (okL w a && okL w b && decide (gv w a.toNat ≠ gv w b.toNat)) ∧ y = (if okL w a && okL w b then 0 else 1) := by
  unfold stepL
  by_cases e : (okL w a && okL w b) = true
  · rw [e]
    simp only [Bool.and_eq_true] at e
    obtain ⟨a, rfl⟩ := Int.eq_ofNat_of_zero_le (okL_iff.1 e.1).1
    obtain ⟨b, rfl⟩ := Int.eq_ofNat_of_zero_le (okL_iff.1 e.2).1
    have la := (okL_iff.1 e.1).2
    have lb := (okL_iff.1 e.2).2
    refine (union_pt (a := a) (b := b) (by omega) (by omega) h).mono fun e w' hh => ⟨_, _, hh.1, ?_, ?_, ?_⟩
    · simpa using hh.2
    · simp
    · simp
  · have e0 : (okL w a && okL w b) = false := by simpa using e
    rw [e0]
    refine (union_bad a b e0 h).mono fun e w' hh => ⟨_, _, hh.1, ?_, ?_, ?_⟩
    · rw [← hh.2]; simpa using Eff.refl h
    · simp
    · simp
theorem made_bad (n : Int) (hn : n < 0 ∨ 40 < n) (q : Option Addr) (m c : Nat) (W : World) :
    Calls Try.prog 19 #[.int .i64 n, .slice q m c] W fun e w' => e = .returned (.tuple #[.pointer none, .slice none 0 0]) ∧ Below W.heap.size W w' := by
  by_cases h0 : n < 0 ∨ 4096 < n
  · have HR := Lib.hid (rnew_bad n h0 W)
    clear hn h0
    go_enter Try.func19, Try.ntmps19
    go_wp2_with (first | (go_at_call 11; refine HR.out.mono ?_; rintro e w1 ⟨rfl, rfl⟩) | fail)
    go_ret2
    exact ⟨rfl, Below.refl _ _⟩
  · obtain ⟨n, rfl⟩ := Int.eq_ofNat_of_zero_le (show 0 ≤ n by omega)
    have HR := Lib.hid (rnew_calls (M := fun _ => False) (n := n) (by omega) W (fun _ h => h.elim))
    have hgt : (40 : Int) < (n : Int) := by omega
    clear hn h0
    go_enter Try.func19, Try.ntmps19
    go_wp2_with (first | (go_at_call 11; refine HR.out.mono ?_; rintro e w1 ⟨q1, m1, c1, rfl, h1, h2⟩) | fail)
    go_ret2
    exact ⟨rfl, h2⟩
/-- what made hands back: a new partition, and its list of representatives, apart from it -/
structure MadeAt (n₀ P g : Nat) (q : Option Addr) (m c : Nat) (w : List Int) (X : World) : Prop where
  pt : Pt P g w X
  at_ : At (fun k => k = g ∨ k = P ∨ k < n₀) q m c w X
  p : n₀ ≤ P
  g : n₀ ≤ g
theorem made_calls {n m c : Nat} {q : Option Addr} {A B : Nat → Int} (hn : n ≤ 40) {W : World} (hmc : m ≤ maxLen) (hp : Pairs q m A B W) :
    Calls Try.prog 19 #[.int .i64 (n : Int), .slice q m c] W fun e w' => ∃ P g q' m' c', e = .returned (.tuple #[.pointer (some ⟨P, 0, none⟩), .slice q' m' c']) ∧ MadeAt W.heap.size P g q' m' c' (foldTo (idL n) A B (min m 60)) w' ∧ Below W.heap.size W w' := by
  have HR := Lib.hid (rnew_calls (M := fun k => k < W.heap.size) (n := n) (by omega) W (fun _ h => h))
  have HP := Lib.hid hp; clear hp
  unfold maxLen at hmc
  have hn40 : ¬ (40 : Int) < (n : Int) := by omega
  go_enter Try.func19, Try.ntmps19
  go_wp2_with (first | (go_at_call 11; refine HR.out.mono ?_; rintro e w1 ⟨q1, m1, c1, rfl, h1, h2⟩) | fail)
  have HN := Lib.hid (new_calls (n := n) (by omega) w1)
  have HA1 := Lib.hid h1
  have HB1 := Lib.hid h2
  have hs1 := h2.size
  have hm1 : m1 = n := by rw [h1.all.1, idL_len]
  subst hm1
  clear h1 h2 HR
  go_at_call 12
  refine HN.out.mono ?_
  rintro e w2 ⟨P, g, rfl, h1, h2, h3, h4⟩
  have HE2 := Lib.hid h1
  have HA2 : Hid (At (fun k => k = g ∨ k = P ∨ k < W.heap.size) q1 m1 c1 (idL m1) w2) := Lib.hid ((HA1.out.more (fun b hb e => by
    rcases e with e | e | e
    · subst e; exact absurd hb (Nat.not_lt.2 h3)
    · subst e; exact absurd hb (Nat.not_lt.2 h2)
    · exact e)).below h4)
  have HB2 := Lib.hid (HB1.out.trans (h4.mono hs1))
  have HPG := Lib.hid (show W.heap.size ≤ P ∧ W.heap.size ≤ g from ⟨by omega, by omega⟩)
  clear h1 h2 h3 h4 HN HA1 HB1
  go_wp2
  go_loopw [6, 10, 11, 12] (fun v i _ _ wr => ∃ (k : Nat) (q1 : Option Addr) (c1 : Nat), k ≤ min m 60 ∧ i = .int .i64 k ∧ v = .slice q1 m1 c1 ∧ Hid (At (fun k => k = g ∨ k = P ∨ k < W.heap.size) q1 m1 c1 (foldTo (idL m1) A B k) wr) ∧ Hid (Pt P g (foldTo (idL m1) A B k) wr) ∧ Hid (Below W.heap.size W wr)) (fun _ i _ _ _ => min m 60 - (intOf i).toNat)
  case atStart => exact ⟨0, q1, c1, Nat.zero_le _, rfl, rfl, HA2, HE2, HB2⟩
  case round =>
    obtain ⟨k, q1, c1, hk, rfl, rfl, HA, HP3, HB⟩ := hrel
    by_cases hlt : k < min m 60
    · obtain ⟨b, off, rfl, hbw, hca, hcb⟩ := HP.out.all k (by omega)
      have hca := (HB.out.cell hbw).trans hca
      have hcb := (HB.out.cell hbw).trans hcb
      have hB : W.heap.size ≤ wr.heap.size := HB.out.size
      have HS := Lib.hid (show foldTo (idL m1) A B (k + 1) = stepL (foldTo (idL m1) A B k) (A k) (B k) from rfl)
      have hk1 : k < m := by omega
      have hk2 : k < 60 := by omega
      have HLN := Lib.hid (show (foldTo (idL m1) A B k).length = m1 by rw [foldTo_len, idL_len])
      generalize A k = x at hca HS
      generalize B k = y at hcb HS
      have HBB := HB.out
      go_wp2
      go_quiet (fail)
      have HPq := Lib.hid (HP3.out.below (Go.Rw.below_drewN (Below.refl _ _) nq))
      have HAq := Lib.hid (HA.out.below (Go.Rw.below_drewN (Below.refl _ _) nq))
      have HBq := Lib.hid (Go.Rw.below_drewN HBB nq)
      clear HA HP3 HB HBB hca hcb
      generalize World.drewN _ nq = wz at HPq HAq HBq ⊢
      have hBz : W.heap.size ≤ wz.heap.size := HBq.out.size
      have HU := Lib.hid (union_any x y HPq.out)
      generalize foldTo (idL m1) A B k = cur at HS HLN HPq HAq HU
      go_wp2_with (fail)
      go_at_call 15
      refine HU.out.mono ?_
      rintro e w3 ⟨bx, by_, rfl, h1, h2, h3⟩
      have HE3 := Lib.hid h1
      have HA3 := Lib.hid (HAq.out.kept h1.kept (fun b hb => .inl hb))
      have HB3 : Hid (Below W.heap.size W w3) := Lib.hid (HBq.out.trans (h1.kept.below (fun k hk => by rw [hk]; exact HPG.out.2) hBz))
      have hB3 : W.heap.size ≤ w3.heap.size := HB3.out.size
      clear h1 h2 h3 HU
      have HX := Lib.hid (there_calls x HA3.out)
      have HY := Lib.hid (there_calls y HA3.out)
      cases ex : okL cur x
      · rw [ex] at HX
        have HST := Lib.hid (show stepL cur x y = cur by unfold stepL; rw [ex]; rfl)
        go_wp2_with (fail)
        go_at_call 16
        refine HX.out.mono ?_
        rintro e w4 ⟨rfl, rfl⟩
        go_wp2
        go_roundw
        case rel => exact ⟨k + 1, q1, c1, by omega, by go_num, rfl, Lib.hid (by rw [HS.out, HST.out]; exact HA3.out), Lib.hid (by rw [HS.out]; exact HE3.out.pt), HB3⟩
        case measure => simp [intOf]; omega
      · rw [ex] at HX
        cases ey : okL cur y
        · rw [ey] at HY
          have HST := Lib.hid (show stepL cur x y = cur by unfold stepL; rw [ex, ey]; rfl)
          go_wp2_with (fail)
          go_at_call 16
          refine HX.out.mono ?_
          rintro e w4 ⟨rfl, rfl⟩
          go_wp2_with (fail)
          go_at_call 16
          refine HY.out.mono ?_
          rintro e w4 ⟨rfl, rfl⟩
          go_wp2
          go_roundw
          case rel => exact ⟨k + 1, q1, c1, by omega, by go_num, rfl, Lib.hid (by rw [HS.out, HST.out]; exact HA3.out), Lib.hid (by rw [HS.out]; exact HE3.out.pt), HB3⟩
          case measure => simp [intOf]; omega
        · rw [ey] at HY
          have hx0 := okL_iff.1 ex
          have hy0 := okL_iff.1 ey
          have HST := Lib.hid (show stepL cur x y = joinL cur x.toNat y.toNat by unfold stepL; rw [ex, ey]; rfl)
          rw [HLN.out] at hx0 hy0
          obtain ⟨x, rfl⟩ := Int.eq_ofNat_of_zero_le hx0.1
          obtain ⟨y, rfl⟩ := Int.eq_ofNat_of_zero_le hy0.1
          have HJ := Lib.hid (rjoin_calls (M := fun k => k = g ∨ k = P ∨ k < W.heap.size) (a := x) (b := y) (by omega) (by omega) HA3.out (fun b hb => by
            rcases hb with hb | hb | hb
            · rw [hb]; exact HE3.out.pt.gl
            · rw [hb]; exact HE3.out.pt.pl
            · omega))
          have HLJ := Lib.hid (show (joinL cur x y).length = m1 by rw [joinL_len, HLN.out])
          rw [Int.toNat_natCast, Int.toNat_natCast] at HST
          clear hx0 hy0 ex ey
          go_wp2_with (fail)
          go_at_call 16
          refine HX.out.mono ?_
          rintro e w4 ⟨rfl, rfl⟩
          go_wp2_with (fail)
          go_at_call 16
          refine HY.out.mono ?_
          rintro e w4 ⟨rfl, rfl⟩
          go_wp2_with (fail)
          go_at_call 18
          refine HJ.out.mono ?_
          rintro e w4 ⟨q4, m4, c4, rfl, h1, h2⟩
          have hm4 : m4 = m1 := h1.all.1.trans HLJ.out
          subst hm4
          have HA4 := Lib.hid h1
          have HP4 := Lib.hid (HE3.out.pt.below h2)
          have HB4 := Lib.hid (HB3.out.trans (h2.mono hB3))
          clear h1 h2 HJ HA3 HE3 HB3
          go_wp2
          go_roundw
          case rel => exact ⟨k + 1, q4, c4, by omega, by go_num, rfl, Lib.hid (by rw [HS.out, HST.out]; exact HA4.out), Lib.hid (by rw [HS.out]; exact HP4.out), HB4⟩
          case measure => simp [intOf]; omega
    · obtain rfl : k = min m 60 := by omega
      by_cases h60 : m < 60
      · have HT := Lib.hid (show min m 60 = m by omega)
        rw [HT.out]
        rw [HT.out] at HA HP3
        clear hk hlt
        go_wp2
        go_ret2
        exact ⟨P, g, q1, _, c1, rfl, ⟨by rw [HT.out]; exact HP3.out, by rw [HT.out]; exact HA.out, HPG.out.1, HPG.out.2⟩, HB.out⟩
      · have HT := Lib.hid (show min m 60 = 60 by omega)
        rw [HT.out]
        rw [HT.out] at HA HP3
        clear hk hlt
        go_wp2
        all_goals
          go_ret2
          exact ⟨P, g, q1, _, c1, rfl, ⟨by rw [HT.out]; exact HP3.out, by rw [HT.out]; exact HA.out, HPG.out.1, HPG.out.2⟩, HB.out⟩
end Go.Proofs.Ytjlpjdpaingnkaa.pt
