/-
  PartitionOrder: the walk.
-/
import Derived.Test.YtjlpjdpaingnkaaPtSplit
set_option linter.unusedSimpArgs false
set_option linter.unusedVariables false
namespace Go.Proofs.Ytjlpjdpaingnkaa.pt
open Go.RowKit Go.Own Go.Pt Go.Rw
set_option maxHeartbeats 4000000
set_option maxRecDepth 100000

theorem foldTo_eq (w : List Int) (A B : Nat → Int) : ∀ k, foldTo w A B k = foldB w A B k
  | 0 => rfl
  | k + 1 => by unfold foldTo foldB; rw [foldTo_eq w A B k]; rfl
/-- the order that the law takes -/
def sg (f k i : Nat) : Nat := (f + k - 1 - i) % k
theorem sg_lt {f k i : Nat} (h : i < k) : sg f k i < k := Nat.mod_lt _ (by omega)
theorem sg_onto {f k t : Nat} (h : t < k) : ∃ i, i < k ∧ sg f k i = t := by
  -- i = (f + k - 1 - t) % k
  refine ⟨(f + k - 1 - t) % k, Nat.mod_lt _ (by omega), ?_⟩
  unfold sg
  have h1 := Nat.mod_lt (f + k - 1 - t) (show 0 < k by omega)
  have h2 := Nat.div_add_mod (f + k - 1 - t) k
  generalize hq : (f + k - 1 - t) / k = d at h2
  generalize hr : (f + k - 1 - t) % k = r at h1 h2
  have h3 : f + k - 1 - r = t + k * d := by omega
  rw [h3, Nat.add_mul_mod_self_left, Nat.mod_eq_of_lt h]
theorem order_eq {n k f : Nat} (A B : Nat → Int) : foldTo (idL n) (fun i => B (sg f k i)) (fun i => A (sg f k i)) k = foldTo (idL n) A B k := by
  rw [foldTo_eq, foldTo_eq]
  exact fold_any_order (idL_rep n) (fun p => id_fin) (fun i h => sg_lt h) (fun t h => sg_onto h)
theorem nb_step {w : List Int} (h : Rep w) (a b : Int) : nb (stepL w a b) + (okL w a && okL w b && decide (gv w a.toNat ≠ gv w b.toNat)).toNat = nb w := by
  unfold stepL
  cases ea : okL w a
  · simp
  cases eb : okL w b
  · simp
  have h1 := okL_iff.1 ea; have h2 := okL_iff.1 eb
  by_cases e : gv w a.toNat = gv w b.toNat
  · rw [decide_eq_false (fun h => h e)]; simp [joinL_same e]
  · rw [decide_eq_true e]; simpa using nb_join h (by omega) (by omega) e
theorem infoPair : (Try.prog.info? 33).map (·.size) = some 2 := by kernel_rfl
theorem wpList_load_elem {P : Program} {ops : Array Oper} {rest : List Oper} {op : Oper} {a : Act} {w : World} {Q : Exit → Act → World → Prop} (hgd : op.guard = none) (ty : TypeId) (x : Operand) (ho : op.op = .load ty x)
    (b o : Nat) (hx : a.eval x = .pointer (some ⟨b, o, none⟩)) (cs : Array Value) (d : TypeDesc) (hc : w.rangeAt b o cs.toList)
    (hu : P.underlying ty = some d) (hd : d.isRow = true) (hi : (P.info? ty).map (·.size) = some cs.size)
    (h : wpList P ops Q rest (a.put op.dst (.agg cs)) w) : wpList P ops Q (op :: rest) a w :=
  wpList_load_mid hgd ty x ho b o hx cs.toList d hc hu hd (by simpa using hi) (by simpa using h)
/-- a row is stored into the block that was made last -/
theorem wpList_store_fresh2 {P : Program} {ops : Array Oper} {rest : List Oper} {op : Oper} {a : Act} {w : World} {Q : Exit → Act → World → Prop} (hgd : op.guard = none) (ty : TypeId) (x y : Operand) (ho : op.op = .store ty x y)
    (cells : Array Value) (t : TypeId) (old : Array Value) (g : Nat) (hx : a.eval x = .pointer (some ⟨g, 0, none⟩)) (hg : g = w.heap.size) (hy : a.eval y = .agg cells)
    (hi : (P.info? ty).map (·.size) = some cells.size) (hs : old.size = cells.size) (h1 : cells.all (·.oneCell') = true)
    (h : ∀ w', Below w.heap.size w w' → BlkAt g cells t w' → wpList P ops Q rest (a.put op.dst undef) w') : wpList P ops Q (op :: rest) a (w.alloc (.cells old t)) := by
  subst hg
  refine wpList_store_block hgd ty x y ho w.heap.size cells t old hx hy (blockOf_alloc_at _ _ _ rfl) hi hs h1 ?_
  rw [World.setRow_alloc_new]
  have hb : Below w.heap.size w (w.alloc (.cells cells t)) := (by repeat (first | assumption | exact Below.refl _ _ | exact below_beyond _ _ | refine Below.beyond ?_ (by (try simp [size_beyond]) <;> omega) _ | refine Below.drew ?_ | refine Go.Rw.below_drewN ?_ _ | refine Go.Rw.below_setRow ?_ (by (try simp [size_beyond]) <;> omega) _ | refine Below.alloc ?_ (by (try simp [size_beyond]) <;> omega) _ | refine Below.setCell ?_ (by (try simp [size_beyond]) <;> omega) _))
  exact h _ hb ⟨blockOf_alloc_at _ _ _ rfl⟩
theorem blk_cell {w : World} {g : Nat} {cs : Array Value} {t : TypeId} (h : BlkAt g cs t w) (i : Nat) : w.cell? ⟨g, i, none⟩ = cs[i]? := by
  have := h.all
  unfold blockOf at this
  simp [World.cell?, this]
theorem order_walk {n f : Int} {q : Option Addr} {m c : Nat} {A B : Nat → Int} {W : World} (hf : (Lit.int .u8 f).wf = true) (hmc : m ≤ maxLen) (hp : Pairs q m A B W) :
    Calls Try.prog 9 #[.int .i64 n, .slice q m c, .int .u8 f] W fun e w' => e = .returned (.bool true) ∧ ∃ x, w' = beyond W x := by
  have HK := Lib.hid known_calls
  by_cases hn : n < 0 ∨ 40 < n
  · have HM := Lib.hid (made_bad n hn q m c W)
    clear hn
    go_enter Try.func9, Try.ntmps9
    go_wp2_with (fail)
    go_at_call 19
    refine HM.out.mono ?_
    rintro e w1 ⟨rfl, h1⟩
    go_wp2_with (fail)
    go_at_call 13
    refine (HK.out _).mono ?_
    rintro e w2 ⟨rfl, h2⟩
    go_wp2
    go_ret
    exact ⟨rfl, beyond_of (h1.trans (h2.mono h1.size))⟩
  obtain ⟨n, rfl⟩ := Int.eq_ofNat_of_zero_le (show 0 ≤ n by omega)
  have HM := Lib.hid (made_calls (n := n) (c := c) (by omega) hmc hp)
  have hn40 : n ≤ 40 := by omega
  have HPR := Lib.hid hp
  clear hn hp
  have hf0 : 0 ≤ f ∧ f ≤ 255 := by simp [Lit.wf, IntKind.min, IntKind.max, IntKind.signed, IntKind.bits] at hf; omega
  obtain ⟨f, rfl⟩ := Int.eq_ofNat_of_zero_le hf0.1
  have hf1 : f ≤ 255 := by omega
  clear hf hf0
  unfold maxLen at hmc
  go_enter Try.func9, Try.ntmps9
  go_wp2_with (fail)
  go_at_call 19
  refine HM.out.mono ?_
  rintro e w1 ⟨P, g, q1, m1, c1, rfl, h1, h2⟩
  have HWL := Lib.hid (show (foldTo (idL n) A B (min m 60)).length = n by rw [foldTo_len, idL_len])
  obtain ⟨K, hK⟩ : ∃ K, K = min m 60 := ⟨_, rfl⟩
  have HKM := Lib.hid hK
  rw [← hK] at h1 HWL
  have HP := Lib.hid h1.pt
  have hmn : m1 = n := by rw [h1.at_.all.1, HWL.out]
  subst hmn
  have HB := Lib.hid h2
  have hs1 := h2.size
  have hp0 := h1.p
  have hg0 := h1.g
  have hgl := h1.pt.gl
  have hpl := h1.pt.pl
  clear h1 h2 HM
  have HN := Lib.hid (new_calls (n := m1) (by omega) w1)
  go_wp2_with (fail)
  go_at_call 12
  refine HN.out.mono ?_
  rintro e w2 ⟨Po, go, rfl, h1, hPo, hgo, h4⟩
  have HP2 := Lib.hid (HP.out.below h4)
  have HO2 := Lib.hid h1
  have HB2 := Lib.hid (HB.out.trans (h4.mono hs1))
  have hs2 := h4.size
  have hPo2 := h1.pl
  have hgo2 := h1.gl
  clear h1 h4 HN HP HB
  have hKm : K ≤ m := by omega
  have hK60 : K ≤ 60 := by omega
  have hmin : min (m : Int) 60 = (K : Int) := by omega
  clear hK
  go_upto_region 7 with fail
  go_cut [11] from 37 to 39 (fun v wx => v = .int .i64 (K : Int) ∧ w2 = wx)
  case first =>
    by_cases h60 : m ≤ 60
    · have hk : (m : Int) = (K : Int) := by omega
      have h60i : (m : Int) ≤ 60 := by omega
      go_wp2
      all_goals
        go_meet
        exact ⟨by first | (simp only [Value.int.injEq, true_and]; done) | (simp only [Value.int.injEq, true_and]; omega), rfl⟩
    · have h60i : ¬ (m : Int) ≤ 60 := by omega
      go_wp2
      all_goals
        go_meet
        exact ⟨by first | (simp only [Value.int.injEq, true_and]; done) | (simp only [Value.int.injEq, true_and]; omega), rfl⟩
  case rest =>
    obtain ⟨rfl, rfl⟩ := hcut
    clear hmin
    have HID := Lib.hid (nb_id m1)
    have HEQ := Lib.hid (order_eq (n := m1) (k := K) (f := f) A B)
    generalize foldTo (idL m1) A B K = w at HP2 HWL HEQ
    go_wp2
    go_loopw [12, 13, 14, 15, 16] (fun jn i _ _ _ wr => ∃ (k cnt : Nat) (cur : List Int), k ≤ K ∧ i = .int .i64 k ∧ cnt ≤ k ∧ jn = .int .i64 cnt ∧ Hid (cur = foldTo (idL m1) (fun i => B (sg f K i)) (fun i => A (sg f K i)) k) ∧ Hid (nb cur + cnt = m1) ∧ Hid (Pt Po go cur wr) ∧ Hid (Pt P g w wr) ∧ Hid (Below W.heap.size W wr) ∧ w2.heap.size ≤ wr.heap.size) (fun _ i _ _ _ _ => K - (intOf i).toNat)
    case atStart => exact ⟨0, 0, idL m1, Nat.zero_le _, rfl, Nat.le_refl _, rfl, Lib.hid rfl, HID, HO2, HP2, HB2, Nat.le_refl _⟩
    case round =>
      obtain ⟨k, cnt, cur, hk, rfl, hcnt, rfl, HCU, HNB, HO, HP, HB, hz⟩ := hrel
      by_cases hlt : k < K
      · have hsg := sg_lt (f := f) hlt
        have hrem : ((f : Int) + (K : Int) - 1 - (k : Int)).tmod (K : Int) = ((sg f K k : Nat) : Int) := by
          have e : (f : Int) + (K : Int) - 1 - (k : Int) = ((f + K - 1 - k : Nat) : Int) := by omega
          rw [e]; rfl
        obtain ⟨b, off, rfl, hbw, hca, hcb⟩ := HPR.out.all (sg f K k) (by omega)
        have hca := (HB.out.cell hbw).trans hca
        have hcb := (HB.out.cell hbw).trans hcb
        have hB : W.heap.size ≤ wr.heap.size := HB.out.size
        have HS := Lib.hid (show foldTo (idL m1) (fun i => B (sg f K i)) (fun i => A (sg f K i)) (k + 1) = stepL cur (B (sg f K k)) (A (sg f K k)) by rw [HCU.out]; rfl)
        generalize A (sg f K k) = x at hca HS
        generalize B (sg f K k) = y at hcb HS
        generalize sg f K k = t at hsg hrem hca hcb
        have HRG : Hid (wr.rangeAt b (off + t * 2) [.int .i64 x, .int .i64 y]) := Lib.hid (fun j v hv => by
          match j with
          | 0 => cases hv; exact hca
          | 1 => cases hv; exact hcb
          | j + 2 => cases hv)
        clear hca hcb
        go_wp2_with (first
          | (refine wpList_load_elem rfl 33 (.tmp 55) rfl _ _ rfl #[.int .i64 x, .int .i64 y] _ HRG.out Try.underlying33 rfl infoPair ?_)
          | (refine wpList_store_fresh2 rfl 33 (.tmp 14) (.tmp 56) rfl #[.int .i64 x, .int .i64 y] 33 _ _ rfl rfl rfl infoPair rfl (by simp [Value.oneCell']) ?_)
          | fail)
        intro wz hbz hblk
        have hcc0 : wz.cell? ⟨wr.heap.size, 0, none⟩ = some (.int .i64 x) := blk_cell hblk 0
        have hcc1 : wz.cell? ⟨wr.heap.size, 1, none⟩ = some (.int .i64 y) := blk_cell hblk 1
        have HOz := Lib.hid (HO.out.below hbz)
        have HPz := Lib.hid (HP.out.below hbz)
        have HBz := Lib.hid (HB.out.trans (hbz.mono hB))
        have hzz := hbz.size
        have HRp := Lib.hid (nb_step HO.out.rep y x)
        have HU := Lib.hid (union_any y x HOz.out)
        clear hbz hblk HO HP HB HRG hrem
        go_wp2_with (fail)
        go_at_call 15
        refine HU.out.mono ?_
        rintro e w3 ⟨bx, by_, rfl, h1, h2, h3⟩
        have HO3 := Lib.hid h1.pt
        have HP3 := Lib.hid (HPz.out.kept h1.kept (by omega) (by omega))
        have HB3 : Hid (Below W.heap.size W w3) := Lib.hid (HBz.out.trans (h1.kept.below (fun k hk => by omega) (by omega)))
        have hz3 := h1.kept.size
        have HN3 : Hid (nb (stepL cur y x) + bx.toNat = nb cur) := Lib.hid (by rw [h2]; exact HRp.out)
        have HCU3 := Lib.hid HS.out.symm
        clear h1 h2 h3 HU HRp HOz HPz HBz hcc0 hcc1
        cases bx
        · go_wp2
          go_roundw
          case rel => exact ⟨k + 1, cnt, stepL cur y x, by omega, by go_num, by omega, rfl, HCU3, Lib.hid (by have h1 := HN3.out; have h2 := HNB.out; simp at h1; omega), HO3, HP3, HB3, by omega⟩
          case measure => simp [intOf]; omega
        · go_wp2
          go_roundw
          case rel => exact ⟨k + 1, cnt + 1, stepL cur y x, by omega, by go_num, by omega, by go_num, HCU3, Lib.hid (by have h1 := HN3.out; have h2 := HNB.out; simp at h1; omega), HO3, HP3, HB3, by omega⟩
          case measure => simp [intOf]; omega
      · obtain rfl : k = K := by omega
        have hcw : cur = w := HCU.out.trans HEQ.out
        subst hcw
        have HQ1 := Lib.hid (equal_pt HO.out HP.out ⟨by omega, by omega, by omega⟩)
        rw [decide_eq_true rfl] at HQ1
        clear HCU HEQ HO HP
        go_wp2_with (fail)
        go_at_call 26
        refine HQ1.out.mono ?_
        rintro e w3 ⟨rfl, h1⟩
        have HB3 : Hid (Below W.heap.size W w3) := Lib.hid (HB.out.trans (h1.kept.below (fun k hk => by (try dsimp only at hk); omega) (by omega)))
        have hz3 := h1.kept.size
        have HQ2 := Lib.hid (equal_pt h1.two h1.one ⟨by omega, by omega, by omega⟩)
        rw [decide_eq_true rfl] at HQ2
        clear h1 HQ1 HB
        go_wp2_with (fail)
        go_at_call 26
        refine HQ2.out.mono ?_
        rintro e w4 ⟨rfl, h1⟩
        have HB4 : Hid (Below W.heap.size W w4) := Lib.hid (HB3.out.trans (h1.kept.below (fun k hk => by (try dsimp only at hk); omega) (by omega)))
        have HN := Lib.hid (num_pt h1.two)
        have hnb : (heads cur cur.length).length = m1 - cnt := by have := HNB.out; unfold nb at this; omega
        have hcm : cnt ≤ m1 := by have := HNB.out; omega
        rw [hnb] at HN
        clear h1 HQ2 HB3 hnb
        go_wp2_with (fail)
        go_at_call 36
        refine HN.out.mono ?_
        rintro e w5 ⟨rfl, rfl⟩
        have hsub : ((m1 - cnt : Nat) : Int) = (m1 : Int) - (cnt : Int) := by omega
        rw [hsub]
        have hbb : ((m1 : Int) - (cnt : Int) == (m1 : Int) - (cnt : Int)) = true := by simp
        clear hsub
        go_wp2_with (fail)
        go_at_call 13
        refine (HK.out _).mono ?_
        rintro e w6 ⟨rfl, h3⟩
        go_wp2
        go_ret
        exact ⟨rfl, beyond_of (HB4.out.trans (h3.mono HB4.out.size))⟩
end Go.Proofs.Ytjlpjdpaingnkaa.pt
