/-
  The reference's functions on lists of representatives: New, There, Join, Block, Same.
-/
import Derived.Test.YtjlpjdpaingnkaaPtX
set_option linter.unusedSimpArgs false
set_option linter.unusedVariables false
namespace Go.Proofs.Ytjlpjdpaingnkaa.pt
open Go.RowKit Go.Own Go.Pt Go.Rw
set_option maxHeartbeats 4000000
set_option maxRecDepth 100000

/-- the slice reads as l, here, and lies in none of the blocks of M -/
structure At (M : Nat → Prop) (q : Option Addr) (m c : Nat) (l : List Int) (w : World) : Prop where
  mk' :: (all : m = l.length ∧ m ≤ 999000 ∧ m ≤ c ∧ c ≤ maxLen ∧ (l = [] ∨ ∃ b off, q = some ⟨b, off, none⟩ ∧ b < w.heap.size ∧ ¬ M b ∧ ∀ i x, l[i]? = some x → w.cell? ⟨b, off + i, none⟩ = some (.int .i64 x)))
theorem At.reads {M : Nat → Prop} {q : Option Addr} {m c : Nat} {l : List Int} {w : World} (h : At M q m c l w) : Reads w q l := by
  rcases h.all.2.2.2.2 with h | ⟨b, off, h1, h2, _, h3⟩
  · exact .inl h
  · exact .inr ⟨b, off, h1, h2, h3⟩
theorem At.kept {M X : Nat → Prop} {q : Option Addr} {m c : Nat} {l : List Int} {w w' : World} (h : At M q m c l w) (hk : KeptBut X w w') (hX : ∀ b, X b → M b) : At M q m c l w' := by
  refine ⟨h.all.1, h.all.2.1, h.all.2.2.1, h.all.2.2.2.1, ?_⟩
  rcases h.all.2.2.2.2 with h | ⟨b, off, h1, h2, h4, h3⟩
  · exact .inl h
  · exact .inr ⟨b, off, h1, Nat.lt_of_lt_of_le h2 hk.size, h4, fun i x hx => by rw [World.cell?_of_block (hk.block b h2 (fun h => h4 (hX b h)))]; exact h3 i x hx⟩
theorem At.below {M : Nat → Prop} {q : Option Addr} {m c : Nat} {l : List Int} {w w' : World} (h : At M q m c l w) (hb : Below w.heap.size w w') : At M q m c l w' := h.kept (X := fun _ => False) (KeptBut.of_below hb) (fun _ h => h.elim)
theorem At.more {M M' : Nat → Prop} {q : Option Addr} {m c : Nat} {l : List Int} {w : World} (h : At M q m c l w) (hM : ∀ b, b < w.heap.size → M' b → M b) : At M' q m c l w := by
  refine ⟨h.all.1, h.all.2.1, h.all.2.2.1, h.all.2.2.2.1, ?_⟩
  rcases h.all.2.2.2.2 with h | ⟨b, off, h1, h2, h4, h3⟩
  · exact .inl h
  · exact .inr ⟨b, off, h1, h2, fun h => h4 (hM b h2 h), h3⟩
theorem At.cell {M : Nat → Prop} {q : Option Addr} {m c : Nat} {l : List Int} {w : World} (h : At M q m c l w) {k : Nat} (hk : k < m) : ∃ b off, q = some ⟨b, off, none⟩ ∧ b < w.heap.size ∧ ∀ i, i < m → w.cell? ⟨b, off + i, none⟩ = some (.int .i64 (gv l i)) := by
  have hm := h.all.1
  rcases h.all.2.2.2.2 with h | ⟨b, off, h1, h2, h4, h3⟩
  · rw [h] at hm; simp at hm; omega
  · exact ⟨b, off, h1, h2, fun i hi => h3 i _ (some_gv (by omega))⟩
theorem own_at {M : Nat → Prop} {w : World} {B : Nat} {T : TypeId} {v : Value} {l : List Int} (h : Go.Rw.Own w B T v l) (hl : l.length ≤ 999000) (hM : ∀ k, M k → k < B) : ∃ q m c, v = .slice q m c ∧ At M q m c l w := by
  rcases h.2 with ⟨rfl, hk⟩ | ⟨g, cap, cur, rfl, hb, hgg, hn, hc, hs, ht⟩
  · exact ⟨_, _, _, rfl, ⟨hk.symm, Nat.zero_le _, Nat.le_refl _, Nat.zero_le _, .inl (List.eq_nil_of_length_eq_zero hk)⟩⟩
  · refine ⟨_, _, _, rfl, ⟨rfl, hl, hn, hc, .inr ⟨g, 0, rfl, (Array.getElem?_eq_some_iff.1 hgg).1, fun hm => by have := hM g hm; omega, fun i x hx => ?_⟩⟩⟩
    have e := World.ownsRow.cells h (g := g) rfl i (.int .i64 x) (by simp [hx])
    have e2 : (⟨g, 0, Option.none⟩ : Addr).add i = ⟨g, i, Option.none⟩ := by unfold Addr.add; split <;> simp_all
    rw [Nat.zero_add, ← e2]; exact e
theorem at_nil {M : Nat → Prop} (w : World) : At M none 0 0 [] w := ⟨rfl, Nat.zero_le _, Nat.le_refl _, Nat.zero_le _, .inl rfl⟩
/-- hands back such a slice -/
def RetA (M : Nat → Prop) (W : World) (l : List Int) (e : Ending) (w' : World) : Prop := ∃ q m c, e = .returned (.slice q m c) ∧ At M q m c l w' ∧ Below W.heap.size W w'
theorem cU : Try.prog.underlying 24 = some (.slice 3) := by kernel_rfl
theorem iU : Try.prog.underlying 23 = some (.slice 3) := by kernel_rfl

theorem rnew_bad (n : Int) (hn : n < 0 ∨ 4096 < n) (W : World) :
    Calls Try.prog 11 #[.int .i64 n] W fun e w' => e = .returned (.tuple #[.slice none 0 0, .bool false]) ∧ W = w' := by
  go_enter Try.func11, Try.ntmps11
  rcases hn with hn | hn
  · go_wp2
    go_ret2
    exact ⟨rfl, rfl⟩
  · go_wp2
    go_ret2
    exact ⟨rfl, rfl⟩
theorem rnew_calls {M : Nat → Prop} {n : Nat} (hn : n ≤ 4096) (W : World) (hM : ∀ k, M k → k < W.heap.size) :
    Calls Try.prog 11 #[.int .i64 (n : Int)] W fun e w' => ∃ q m c, e = .returned (.tuple #[.slice q m c, .bool true]) ∧ At M q m c (idL n) w' ∧ Below W.heap.size W w' := by
  have HM := Lib.hid hM; clear hM
  go_enter Try.func11, Try.ntmps11
  go_wp2
  go_loopw [4, 5] (fun v i wr => ∃ k : Nat, k ≤ n ∧ i = .int .i64 k ∧ Hid (Go.Rw.Own wr W.heap.size 3 v (idL k)) ∧ Hid (Below W.heap.size W wr)) (fun _ i _ => n - (intOf i).toNat)
  case atStart => exact ⟨0, Nat.zero_le _, rfl, Lib.hid (Go.Rw.Own.empty _ _ _), Lib.hid (by repeat (first | assumption | exact Below.refl _ _ | exact below_beyond _ _ | refine Below.beyond ?_ (by (try simp [size_beyond]) <;> omega) _ | refine Below.drew ?_ | refine Go.Rw.below_drewN ?_ _ | refine Go.Rw.below_setRow ?_ (by (try simp [size_beyond]) <;> omega) _ | refine Below.alloc ?_ (by (try simp [size_beyond]) <;> omega) _ | refine Below.setCell ?_ (by (try simp [size_beyond]) <;> omega) _))⟩
  case round =>
    obtain ⟨k, hk, rfl, HO, HB⟩ := hrel
    have hB : W.heap.size ≤ wr.heap.size := HB.out.size
    by_cases hlt : k < n
    · go_wp2_with (at_builtin; refine wpList_app wr rfl _ _ _ rfl cU tI HO.out hB (by rw [idL_len]; omega) k rfl rfl ?_)
      intro v' w' hown hbel
      have HO2 := Lib.hid hown; clear hown
      have HB2 := Lib.hid (HB.out.trans hbel); clear hbel
      go_wp2
      go_roundw
      case rel => exact ⟨k + 1, by omega, by go_num, Lib.hid (by rw [idL_snoc]; exact HO2.out), HB2⟩
      case measure => simp [intOf]; omega
    · obtain rfl : k = n := by omega
      go_wp2
      go_ret2
      obtain ⟨q, m, c, rfl, hat⟩ := own_at HO.out (by rw [idL_len]; omega) HM.out
      exact ⟨q, m, c, rfl, hat, HB.out⟩
theorem there_calls {M : Nat → Prop} {q : Option Addr} {m c : Nat} {l : List Int} {W : World} (a : Int) (h : At M q m c l W) :
    Calls Try.prog 16 #[.slice q m c, .int .i64 a] W fun e w' => e = .returned (.bool (okL l a)) ∧ W = w' := by
  have hm := h.all.1
  have hm2 := h.all.2.1
  by_cases h0 : 0 ≤ a
  · by_cases h1 : a < m
    · have HK := Lib.hid (show okL l a = true from decide_eq_true ⟨h0, by omega⟩)
      clear hm h
      go_enter Try.func16, Try.ntmps16
      go_wp2
      go_ret
      exact ⟨ret_bool HK.out.symm, rfl⟩
    · have HK := Lib.hid (show okL l a = false from decide_eq_false (fun h => h1 (by omega)))
      clear hm h
      go_enter Try.func16, Try.ntmps16
      go_wp2
      go_ret
      exact ⟨ret_bool HK.out.symm, rfl⟩
  · have HK := Lib.hid (show okL l a = false from decide_eq_false (fun h => h0 h.1))
    clear hm h
    go_enter Try.func16, Try.ntmps16
    go_wp2
    go_ret
    exact ⟨ret_bool HK.out.symm, rfl⟩
theorem block_calls {M M' : Nat → Prop} {q : Option Addr} {m c : Nat} {l : List Int} {W : World} (x : Int) (h : At M' q m c l W) (hM : ∀ k, M k → k < W.heap.size) :
    Calls Try.prog 22 #[.slice q m c, .int .i64 x] W (RetA M W (blockL l x)) := by
  have HM := Lib.hid hM; clear hM
  have HA := Lib.hid h; clear h
  have hm := HA.out.all.2.1
  have HL := Lib.hid (show blockL l x = blk l x m by unfold blockL; rw [← HA.out.all.1])
  rw [HL.out]
  go_enter Try.func22, Try.ntmps22
  go_wp2
  go_loopw [5, 6] (fun v i wr => ∃ k : Nat, k ≤ m ∧ i = .int .i64 k ∧ Hid (Go.Rw.Own wr W.heap.size 3 v (blk l x k)) ∧ Hid (Below W.heap.size W wr)) (fun _ i _ => m - (intOf i).toNat)
  case atStart => exact ⟨0, Nat.zero_le _, rfl, Lib.hid (Go.Rw.Own.empty _ _ _), Lib.hid (by repeat (first | assumption | exact Below.refl _ _ | exact below_beyond _ _ | refine Below.beyond ?_ (by (try simp [size_beyond]) <;> omega) _ | refine Below.drew ?_ | refine Go.Rw.below_drewN ?_ _ | refine Go.Rw.below_setRow ?_ (by (try simp [size_beyond]) <;> omega) _ | refine Below.alloc ?_ (by (try simp [size_beyond]) <;> omega) _ | refine Below.setCell ?_ (by (try simp [size_beyond]) <;> omega) _))⟩
  case round =>
    obtain ⟨k, hk, rfl, HO, HB⟩ := hrel
    have hB : W.heap.size ≤ wr.heap.size := HB.out.size
    by_cases hlt : k < m
    · obtain ⟨b, off, rfl, hbw, hcs⟩ := HA.out.cell hlt
      have hc := (HB.out.cell hbw).trans (hcs k hlt)
      have HC := Lib.hid (blk_snoc l x k)
      have hbl := blk_len l x k
      clear hcs
      by_cases e : gv l k = x
      · rw [e] at hc
        go_wp2_with (at_builtin; refine wpList_app wr rfl _ _ _ rfl iU tI HO.out hB (by omega) k rfl rfl ?_)
        intro v' w' hown hbel
        have HO2 := Lib.hid hown; clear hown
        have HB2 := Lib.hid (HB.out.trans hbel); clear hbel
        go_wp2
        go_roundw
        case rel => exact ⟨k + 1, by omega, by go_num, Lib.hid (by rw [HC.out, if_pos e]; exact HO2.out), HB2⟩
        case measure => simp [intOf]; omega
      · have HE := Lib.hid e
        go_wp2
        go_roundw
        case rel => exact ⟨k + 1, by omega, by go_num, Lib.hid (by rw [HC.out, if_neg HE.out, List.append_nil]; exact HO.out), HB⟩
        case measure => simp [intOf]; omega
    · obtain rfl : k = m := by omega
      go_wp2
      go_ret
      obtain ⟨q, m, c, rfl, hat⟩ := own_at HO.out (by have := blk_len l x k; omega) HM.out
      exact ⟨q, m, c, rfl, hat, HB.out⟩
theorem rjoin_same {M : Nat → Prop} {q : Option Addr} {m c a b : Nat} {l : List Int} {W : World} (ha : a < m) (hb : b < m) (hab : gv l a = gv l b) (h : At M q m c l W) :
    Calls Try.prog 18 #[.slice q m c, .int .i64 (a : Int), .int .i64 (b : Int)] W fun e w' => e = .returned (.tuple #[.slice q m c, .bool false]) ∧ Below W.heap.size W w' := by
  obtain ⟨bq, off, rfl, hbw, hcs⟩ := h.cell ha
  have hca := hcs a ha
  have hcb := hcs b hb
  have hm := h.all.2.1
  rw [hab] at hca
  clear hcs h
  go_enter Try.func18, Try.ntmps18
  go_wp2
  go_quiet (fail)
  go_wp2
  go_ret2
  exact ⟨rfl, (by repeat (first | assumption | exact Below.refl _ _ | exact below_beyond _ _ | refine Below.beyond ?_ (by (try simp [size_beyond]) <;> omega) _ | refine Below.drew ?_ | refine Go.Rw.below_drewN ?_ _ | refine Go.Rw.below_setRow ?_ (by (try simp [size_beyond]) <;> omega) _ | refine Below.alloc ?_ (by (try simp [size_beyond]) <;> omega) _ | refine Below.setCell ?_ (by (try simp [size_beyond]) <;> omega) _))⟩
theorem joinL_snoc {l : List Int} {x y : Int} {k : Nat} (hk : k < l.length) : (l.take (k + 1)).map (fun z => if z = y then x else z) = (l.take k).map (fun z => if z = y then x else z) ++ [if gv l k = y then x else gv l k] := by
  rw [List.take_add_one, some_gv hk]; simp
theorem rjoin_other {M M' : Nat → Prop} {q : Option Addr} {m c a b : Nat} {l : List Int} {W : World} (ha : a < m) (hb : b < m) (hab : gv l a ≠ gv l b) (h : At M' q m c l W) (hM : ∀ k, M k → k < W.heap.size) :
    Calls Try.prog 18 #[.slice q m c, .int .i64 (a : Int), .int .i64 (b : Int)] W fun e w' => ∃ q m c, e = .returned (.tuple #[.slice q m c, .bool true]) ∧ At M q m c (joinL l a b) w' ∧ Below W.heap.size W w' := by
  have HM := Lib.hid hM; clear hM
  have HA := Lib.hid h; clear h
  obtain ⟨bq, off, rfl, hbw, hcs⟩ := HA.out.cell ha
  have hca := hcs a ha
  have hcb := hcs b hb
  have hm := HA.out.all.2.1
  have HCS := Lib.hid hcs
  have HML := Lib.hid HA.out.all.1
  clear hcs
  have HJ := Lib.hid (show joinL l a b = (l.take m).map (fun z => if z = max (gv l a) (gv l b) then min (gv l a) (gv l b) else z) by rw [HML.out, List.take_length]; rfl)
  rw [HJ.out]
  generalize gv l a = x at hab hca HJ ⊢
  generalize gv l b = y at hab hcb HJ ⊢
  obtain ⟨lo, hi, hlo, hhi, hcase⟩ : ∃ lo hi, min x y = lo ∧ max x y = hi ∧ ((lo = x ∧ hi = y ∧ lo < hi) ∨ (hi = x ∧ lo = y ∧ lo < hi)) := ⟨_, _, rfl, rfl, by omega⟩
  rw [hlo, hhi]
  clear HJ hlo hhi
  have hbe : (lo == hi) = false := beq_eq_false_iff_ne.2 (by omega)
  have hbe2 : (hi == lo) = false := beq_eq_false_iff_ne.2 (by omega)
  go_enter Try.func18, Try.ntmps18
  rcases hcase with ⟨rfl, rfl, hlt0⟩ | ⟨rfl, rfl, hlt0⟩
  · clear hab
    go_wp2
    go_quiet (fail)
    go_wp2
    go_loopw [10, 11] (fun v i wr => ∃ k : Nat, k ≤ m ∧ i = .int .i64 k ∧ Hid (Go.Rw.Own wr W.heap.size 3 v ((l.take k).map (fun z => if z = hi then lo else z))) ∧ Hid (Below W.heap.size W wr)) (fun _ i _ => m - (intOf i).toNat)
    case atStart => exact ⟨0, Nat.zero_le _, rfl, Lib.hid (Go.Rw.Own.empty _ _ _), Lib.hid (by repeat (first | assumption | exact Below.refl _ _ | exact below_beyond _ _ | refine Below.beyond ?_ (by (try simp [size_beyond]) <;> omega) _ | refine Below.drew ?_ | refine Go.Rw.below_drewN ?_ _ | refine Go.Rw.below_setRow ?_ (by (try simp [size_beyond]) <;> omega) _ | refine Below.alloc ?_ (by (try simp [size_beyond]) <;> omega) _ | refine Below.setCell ?_ (by (try simp [size_beyond]) <;> omega) _))⟩
    case round =>
      obtain ⟨k, hk, rfl, HO, HB⟩ := hrel
      have hB : W.heap.size ≤ wr.heap.size := HB.out.size
      by_cases hlt : k < m
      · have hc := (HB.out.cell hbw).trans (HCS.out k hlt)
        have HC := Lib.hid (joinL_snoc (l := l) (x := lo) (y := hi) (k := k) (by rw [← HML.out]; exact hlt))
        have HL : ((l.take k).map (fun z => if z = hi then lo else z)).length ≤ 1000000 := by simp; omega
        by_cases e : gv l k = hi
        · rw [e] at hc
          go_wp2_with (at_builtin; refine wpList_app wr rfl _ _ _ rfl cU tI HO.out hB HL lo rfl rfl ?_)
          intro v' w' hown hbel
          have HO2 := Lib.hid hown; clear hown
          have HB2 := Lib.hid (HB.out.trans hbel); clear hbel
          go_wp2
          go_roundw
          case rel => exact ⟨k + 1, by omega, by go_num, Lib.hid (by rw [HC.out, if_pos e, List.map_take]; exact HO2.out), HB2⟩
          case measure => simp [intOf]; omega
        · have HE := Lib.hid e
          generalize gv l k = z at e hc HC HE
          go_wp2_with (at_builtin; refine wpList_app wr rfl _ _ _ rfl cU tI HO.out hB HL z rfl rfl ?_)
          intro v' w' hown hbel
          have HO2 := Lib.hid hown; clear hown
          have HB2 := Lib.hid (HB.out.trans hbel); clear hbel
          go_wp2
          go_roundw
          case rel => exact ⟨k + 1, by omega, by go_num, Lib.hid (by rw [HC.out, if_neg HE.out, List.map_take]; exact HO2.out), HB2⟩
          case measure => simp [intOf]; omega
      · obtain rfl : k = m := by omega
        go_wp2
        go_ret2
        obtain ⟨q, m, c, rfl, hat⟩ := own_at HO.out (by simp; omega) HM.out
        exact ⟨q, m, c, rfl, hat, HB.out⟩
  · clear hab
    go_wp2
    go_quiet (fail)
    go_wp2
    go_loopw [10, 11] (fun v i wr => ∃ k : Nat, k ≤ m ∧ i = .int .i64 k ∧ Hid (Go.Rw.Own wr W.heap.size 3 v ((l.take k).map (fun z => if z = hi then lo else z))) ∧ Hid (Below W.heap.size W wr)) (fun _ i _ => m - (intOf i).toNat)
    case atStart => exact ⟨0, Nat.zero_le _, rfl, Lib.hid (Go.Rw.Own.empty _ _ _), Lib.hid (by repeat (first | assumption | exact Below.refl _ _ | exact below_beyond _ _ | refine Below.beyond ?_ (by (try simp [size_beyond]) <;> omega) _ | refine Below.drew ?_ | refine Go.Rw.below_drewN ?_ _ | refine Go.Rw.below_setRow ?_ (by (try simp [size_beyond]) <;> omega) _ | refine Below.alloc ?_ (by (try simp [size_beyond]) <;> omega) _ | refine Below.setCell ?_ (by (try simp [size_beyond]) <;> omega) _))⟩
    case round =>
      obtain ⟨k, hk, rfl, HO, HB⟩ := hrel
      have hB : W.heap.size ≤ wr.heap.size := HB.out.size
      by_cases hlt : k < m
      · have hc := (HB.out.cell hbw).trans (HCS.out k hlt)
        have HC := Lib.hid (joinL_snoc (l := l) (x := lo) (y := hi) (k := k) (by rw [← HML.out]; exact hlt))
        have HL : ((l.take k).map (fun z => if z = hi then lo else z)).length ≤ 1000000 := by simp; omega
        by_cases e : gv l k = hi
        · rw [e] at hc
          go_wp2_with (at_builtin; refine wpList_app wr rfl _ _ _ rfl cU tI HO.out hB HL lo rfl rfl ?_)
          intro v' w' hown hbel
          have HO2 := Lib.hid hown; clear hown
          have HB2 := Lib.hid (HB.out.trans hbel); clear hbel
          go_wp2
          go_roundw
          case rel => exact ⟨k + 1, by omega, by go_num, Lib.hid (by rw [HC.out, if_pos e, List.map_take]; exact HO2.out), HB2⟩
          case measure => simp [intOf]; omega
        · have HE := Lib.hid e
          generalize gv l k = z at e hc HC HE
          go_wp2_with (at_builtin; refine wpList_app wr rfl _ _ _ rfl cU tI HO.out hB HL z rfl rfl ?_)
          intro v' w' hown hbel
          have HO2 := Lib.hid hown; clear hown
          have HB2 := Lib.hid (HB.out.trans hbel); clear hbel
          go_wp2
          go_roundw
          case rel => exact ⟨k + 1, by omega, by go_num, Lib.hid (by rw [HC.out, if_neg HE.out, List.map_take]; exact HO2.out), HB2⟩
          case measure => simp [intOf]; omega
      · obtain rfl : k = m := by omega
        go_wp2
        go_ret2
        obtain ⟨q, m, c, rfl, hat⟩ := own_at HO.out (by simp; omega) HM.out
        exact ⟨q, m, c, rfl, hat, HB.out⟩
end Go.Proofs.Ytjlpjdpaingnkaa.pt
