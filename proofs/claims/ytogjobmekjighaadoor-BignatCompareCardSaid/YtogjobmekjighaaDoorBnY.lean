/-
  Contracts of bignat: String, its first loop.
-/
import Derived.Test.YtogjobmekjighaaDoorBnX
set_option linter.unusedSimpArgs false
set_option linter.unusedVariables false
namespace Go.Proofs.YtogjobmekjighaaDoor.bn
open Go.RowKit Go.Own Go.Bn
set_option maxHeartbeats 4000000
set_option maxRecDepth 100000

/-- the chunks that are there, and what is left -/
structure Chunks (n : Nat) (R : Nat) (cs : List Nat) (k : Nat) : Prop where
  sum : hc cs + 1000000000 ^ cs.length * k = n
  small : ∀ c ∈ cs, c < 1000000000
  len : cs.length ≤ R
  left : k < 1000000000 ^ (R - cs.length)
  top : 0 < k ∨ ∃ c r, cs = r ++ [c] ∧ 0 < c
theorem Chunks.step {n R k : Nat} {cs : List Nat} (h : Chunks n R cs k) (hk : 0 < k) : Chunks n R (cs ++ [k % 1000000000]) (k / 1000000000) := by
  have hR : cs.length < R := by
    rcases Nat.lt_or_ge cs.length R with h1 | h1
    · exact h1
    · have := h.left; rw [Nat.sub_eq_zero_of_le h1] at this; omega
  refine ⟨?_, ?_, by simp; omega, ?_, ?_⟩
  · rw [hc_snoc, List.length_append, List.length_singleton, Nat.pow_succ, Nat.add_assoc, Nat.mul_assoc, ← Nat.mul_add, Nat.mod_add_div]
    exact h.sum
  · intro c hc
    rcases List.mem_append.1 hc with h1 | h1
    · exact h.small c h1
    · simp at h1; rw [h1]; exact Nat.mod_lt _ (by decide)
  · rw [Nat.div_lt_iff_lt_mul (by decide), List.length_append, List.length_singleton, ← Nat.pow_succ, show (R - (cs.length + 1)).succ = R - cs.length by omega]
    exact h.left
  · rcases Nat.eq_zero_or_pos (k / 1000000000) with h0 | h0
    · refine .inr ⟨_, cs, rfl, ?_⟩
      have := Nat.mod_add_div k 1000000000
      rw [h0] at this; omega
    · exact .inl h0
theorem hcF_pos {cs : List Nat} {N : Nat} (hN : cs.length = N + 1) (h : 0 < 0 ∨ ∃ c r, cs = r ++ [c] ∧ 0 < c) : ∀ k, k ≤ N → 0 < hcF cs k := by
  rcases h with h | ⟨c, r, rfl, h⟩
  · omega
  · have hr : r.length = N := by simpa using hN
    have hl : hcF (r ++ [c]) N = c := by unfold hcF; rw [← hr]; simp [hc]
    intro k hk
    obtain ⟨j, rfl⟩ : ∃ j, N = k + j := ⟨N - k, by omega⟩
    induction j generalizing k with
    | zero => rw [Nat.add_zero] at hl; omega
    | succ j ih =>
      have := ih (k + 1) (by omega) (by omega) (by rw [show k + 1 + j = k + (j + 1) by omega]; exact hl) (by omega)
      rw [hcF_step (dg_some (ds := r ++ [c]) (i := k) (by simp; omega))]
      omega
theorem dec_len : ∀ (k u : Nat), u < 10 ^ (k + 1) → (Lib.decDigits u).length ≤ k + 1
  | 0, u, h => by rw [dec_small (by simpa using h)]; simp
  | k + 1, u, h => by
    by_cases h10 : u < 10
    · rw [dec_small h10]; simp
    · rw [dec_big h10, List.length_append, List.length_singleton]
      have := dec_len k (u / 10) (by rw [Nat.pow_succ] at h; omega)
      omega
theorem dec_pos (n : Nat) : 0 < (Lib.decDigits n).length := by
  by_cases h : n < 10
  · rw [dec_small h]; simp
  · rw [dec_big h]; simp
theorem infoU8 : (Tryd.prog.info? 5).map (fun i => (i.zero, i.size, i.bytes)) = some (some (.int .u8 0), 1, 1) := by kernel_rfl
/-- the bytes of a row, as a string -/
theorem own_conv {w : World} {L n cap g : Nat} {l : List UInt8} (hl : l.length = n) (h : w.ownsRow L 5 1 (.slice (some ⟨g, 0, none⟩) n cap) n (Lib.byteCells l)) :
    (convert 22 9 (.slice (some ⟨g, 0, none⟩) n cap)).run Tryd.prog w = .ok (.string ⟨l.toArray⟩) w := by
  subst hl
  refine run_convert_bytes_back w 22 9 5 ⟨g, 0, none⟩ cap l Tryd.underlying22 Tryd.underlying5 Tryd.underlying9 fun j hj => ?_
  refine h.cells rfl j _ ?_
  simp [Lib.byteCells, hj]
/-- the cells of a part behind its first -/
theorem part_cells {w : World} {L g n cp : Nat} {a : UInt8} {l : List UInt8} (h : w.ownsRow L 5 1 (.slice (some ⟨g, 0, none⟩) n cp) n (Lib.byteCells (a :: l))) :
    ∀ j u, (Lib.byteCells l)[j]? = some u → w.cell? ((⟨g, 1, none⟩ : Addr).add j) = some u := by
  intro j u hu
  have e := World.ownsRow.cells h (g := g) rfl (j + 1) u (by simpa [Lib.byteCells] using hu)
  have e1 : (⟨g, 1, none⟩ : Addr).add j = (⟨g, 0, none⟩ : Addr).add (j + 1) := by unfold Addr.add; simp; split <;> simp_all [Nat.add_comm]
  rw [e1]; exact e
/-- where the second loop stands -/
def StrR (W : World) (cs : List Nat) (N k : Nat) (v : Value) (w : World) : Prop := ∃ m, Below W.heap.size W w ∧ w.ownsRow W.heap.size 5 1 v (Lib.decDigits (hcF cs k)).length (Lib.byteCells (Lib.decDigits (hcF cs k))) ∧ (m = (Lib.decDigits (hcF cs k)).length ∧ m ≤ 9 * (N + 1 - k)) ∧ 0 < hcF cs k
/-- where the first loop stands -/
structure StrL (W : World) (n R k : Nat) (v : Value) (g : Nat) (s : Value) (cs : List Nat) (w : World) : Prop where
  below : Below W.heap.size W w
  own : w.ownsRow W.heap.size 68 1 v cs.length (cs.map dv)
  box : NB g s w
  new : W.heap.size ≤ g
  rest : NatAt (.agg #[s]) k w
  apart : ∀ b, nblk (.agg #[s]) = some b → v.ownBlock ≠ some b
  chunks : Chunks n R cs k
theorem str_loop {v : Value} {n : Nat} {W : World} (h : NatAt v n W) (hn : 0 < n) (R : Nat) (hR : n < 1000000000 ^ R) (hRR : R ≤ 900000) (hD : DecW W) (ht : tabB ≤ W.heap.size) :
    Calls Tryd.prog 18 #[v] W fun e w' => e = .returned (.string ⟨(Lib.decDigits n).toArray⟩) ∧ Below W.heap.size W w' := by
  have HZ0 := Lib.hid (fun w (hb : Below W.heap.size W w) => by have := isZero_calls (h.below hb); rw [decide_eq_false (by omega)] at this; exact this)
  obtain ⟨q, m, c, rfl⟩ := h.shape
  have HN := Lib.hid h
  have HRR := Lib.hid (And.intro hn hR)
  have HDW := Lib.hid (And.intro hD ht)
  clear h hn hR hD ht
  go_enter Tryd.func18, Tryd.ntmps18
  go_wp2_with (fail)
  go_at_call 21
  have hB0 : Below W.heap.size W (W.alloc (.cells #[.slice q m c] 27)) := (by repeat (first | assumption | exact Below.refl _ _ | exact below_beyond _ _ | refine Below.beyond ?_ (by (try simp [size_beyond]) <;> omega) _ | refine Below.drew ?_ | refine Go.Rw.below_drewN ?_ _ | refine Go.Rw.below_setRow ?_ (by (try simp [size_beyond]) <;> omega) _ | refine Below.alloc ?_ (by (try simp [size_beyond]) <;> omega) _ | refine Below.setCell ?_ (by (try simp [size_beyond]) <;> omega) _))
  refine (HZ0.out _ hB0).mono ?_
  rintro e w1 ⟨rfl, hb⟩
  have H1 := (NB.new W (.slice q m c)).below hb
  obtain ⟨hx1, hf1⟩ := H1.cell
  have HB1 := Lib.hid (below_step hb hB0)
  clear hb hB0 H1
  go_wp2
  have HI := Lib.hid (show StrL W n R n (.slice none 0 0) w1.heap.size (.slice q m c) [] (w1.alloc (.cells #[.slice q m c] 27)) from
    ⟨HB1.out.trans (Below.mono (show Below w1.heap.size w1 _ from (by repeat (first | assumption | exact Below.refl _ _ | exact below_beyond _ _ | refine Below.beyond ?_ (by (try simp [size_beyond]) <;> omega) _ | refine Below.drew ?_ | refine Go.Rw.below_drewN ?_ _ | refine Go.Rw.below_setRow ?_ (by (try simp [size_beyond]) <;> omega) _ | refine Below.alloc ?_ (by (try simp [size_beyond]) <;> omega) _ | refine Below.setCell ?_ (by (try simp [size_beyond]) <;> omega) _))) HB1.out.size), World.ownsRow_nil _ _ _ _, NB.new _ _, HB1.out.size, (HN.out.below HB1.out).below (by repeat (first | assumption | exact Below.refl _ _ | exact below_beyond _ _ | refine Below.beyond ?_ (by (try simp [size_beyond]) <;> omega) _ | refine Below.drew ?_ | refine Go.Rw.below_drewN ?_ _ | refine Go.Rw.below_setRow ?_ (by (try simp [size_beyond]) <;> omega) _ | refine Below.alloc ?_ (by (try simp [size_beyond]) <;> omega) _ | refine Below.setCell ?_ (by (try simp [size_beyond]) <;> omega) _)), (fun b _ h => by cases h), ⟨by simp [hc], by simp, by simp, by simpa using HRR.out.2, .inl HRR.out.1⟩⟩)
  clear hx1 hf1 HZ0
  go_loopg [3, 4] n (fun k s3 s4 wr => ∃ (g : Nat) (q : Option Addr) (m c : Nat) (cs : List Nat), s4 = .pointer (some ⟨g, 0, none⟩) ∧ Hid (StrL W n R k s3 g (.slice q m c) cs wr))
  case atStart => exact ⟨_, q, m, c, [], rfl, HI⟩
  case round =>
    clear HI
    obtain ⟨g, q, m, c, cs, rfl, HS⟩ := hrel
    have HB := Lib.hid HS.out.box
    obtain ⟨hx1, hf1⟩ := HB.out.cell
    have HZ := Lib.hid (isZero_calls HS.out.rest)
    by_cases hk : gk = 0
    · have HZ2 := Lib.hid (by have := HZ.out; rw [decide_eq_true hk] at this; exact this)
      clear HZ
      go_wp2_with (fail)
      go_at_call 21
      refine HZ2.out.mono ?_
      rintro e w2 ⟨rfl, hb⟩
      have HO2 := Lib.hid (own_below HS.out.own hb)
      have HW2 := Lib.hid (below_step hb HS.out.below)
      have HCH := Lib.hid (show Chunks n R cs 0 from hk ▸ HS.out.chunks)
      clear hx1 hf1 hb HB HZ2 HS hk
      have hcl : cs.length ≤ 900000 := Nat.le_trans HCH.out.len hRR
      obtain ⟨N, hN⟩ : ∃ N, cs.length = N + 1 := by
        rcases HCH.out.top with h | ⟨c, r, rfl, h⟩
        · omega
        · exact ⟨r.length, by simp⟩
      have HN2 := Lib.hid hN
      have hN9 : N < 900000 := by omega
      have hON := HO2.out
      rw [hN] at hON
      obtain ⟨b, cap, hu3⟩ := ownsRow_succ hON
      clear hON
      obtain ⟨q9, c9, hu4, HA⟩ := dg_of_own HO2.out (by omega) (fun d hd => Nat.lt_trans (HCH.out.small d hd) (by decide))
      rw [hu3] at hu4
      injection hu4 with e1 e2 e3
      subst e1 e3
      rw [hu3]
      rw [hN] at HA
      have HD := Lib.hid HA
      have hcap : N + 1 ≤ cap := HA.all.2.2.1
      clear hu3 HA hN hcl e2
      have hpos := Lib.hid (hcF_pos HN2.out HCH.out.top)
      obtain ⟨_, _, e1, _, hcells⟩ := HD.out.cell (k := N) (by omega)
      cases e1
      have hcN := hcells N (by omega)
      simp only [Nat.zero_add] at hcN
      have hdN : (dg cs N : Int) ≤ 4294967295 := by have := dg_lt HD.out.all.2.2.2.2.1 N; unfold B at this; omega
      have HCN := Lib.hid (appU (w := w2) (L := w2.heap.size) (n := 0) (u := dg cs N) (sv := .slice none 0 0) (xs := []) (by have := dg_lt HD.out.all.2.2.2.2.1 N; unfold B at this; omega) (World.ownsRow_nil _ _ _ _) (Nat.le_refl _) (by decide) (HDW.out.1.below HDW.out.2 HW2.out))
      have HEN := Lib.hid (show hcF cs N = dg cs N from by rw [hcF_step (c := dg cs N) (dg_some (by rw [HN2.out]; omega)), show N + 1 = cs.length by rw [HN2.out], hcF_end]; omega)
      rw [← HEN.out] at HCN hdN
      clear hcells
      rw [← HEN.out] at hcN
      generalize hX : hcF cs N = x at HCN hdN hcN
      have HX := Lib.hid hX; clear hX
      go_wp2_with (fail)
      go_at_call 49
      refine HCN.out.mono ?_
      rintro e w3 ⟨v3, rfl, ho3, hb3⟩
      rw [Nat.zero_add, List.nil_append] at ho3
      have hxs : x < 1000000000 := by rw [← HX.out, HEN.out]; exact HCH.out.small _ (by rw [List.mem_iff_getElem?]; exact ⟨N, dg_some (by rw [HN2.out]; omega)⟩)
      have HI := Lib.hid (show StrR w2 cs N N v3 w3 from ⟨_, hb3, by rw [HX.out]; exact ho3, ⟨rfl, by rw [HX.out]; have := dec_len 8 x hxs; omega⟩, hpos.out N (Nat.le_refl _)⟩)
      clear hcN hdN HCN hxs ho3 hb3
      go_wp2
      go_loopg [6, 7] N (fun k s6 s7 wr => k ≤ N ∧ s7 = .int .i64 ((k : Int) - 1) ∧ Hid (StrR w2 cs N k s6 wr))
      case atStart => exact ⟨Nat.le_refl _, by congr 1; omega, HI⟩
      case round =>
        clear HI
        obtain ⟨hkN, rfl, HS⟩ := hrel
        by_cases hk : 0 < gk
        · obtain ⟨j, rfl⟩ : ∃ j, gk = j + 1 := ⟨gk - 1, by omega⟩
          have ej : ((j + 1 : Nat) : Int) - 1 = (j : Int) := by omega
          rw [ej]
          obtain ⟨mm, hb4, ho4, ⟨hm1, hm2⟩, hp4⟩ := HS.out
          have hDw : DgAt (some ⟨b, 0, none⟩) (N + 1) cap cs wr := HD.out.below hb4
          obtain ⟨_, _, e1, hbl, hcells⟩ := hDw.cell (k := j) (by omega)
          cases e1
          have hcj := hcells j (by omega)
          simp only [Nat.zero_add] at hcj
          have hjs : dg cs j < 1000000000 := HCH.out.small _ (by rw [List.mem_iff_getElem?]; exact ⟨j, dg_some (by rw [HN2.out]; omega)⟩)
          have HST := Lib.hid (And.intro (dec_step (dg_some (ds := cs) (i := j) (by rw [HN2.out]; omega)) hjs hp4) (And.intro (show 0 < hcF cs j from by rw [hcF_step (dg_some (ds := cs) (i := j) (by rw [HN2.out]; omega))]; omega) (dec_one hjs)))
          have HDW4 := Lib.hid ((HDW.out.1.below HDW.out.2 HW2.out).below (Nat.le_trans HDW.out.2 HW2.out.size) hb4)
          have HC1 := Lib.hid (appU (w := wr) (L := wr.heap.size) (n := 0) (u := dg cs j + 1000000000) (sv := .slice none 0 0) (xs := []) (by omega) (World.ownsRow_nil _ _ _ _) (Nat.le_refl _) (by decide) HDW4.out)
          have H4 := Lib.hid (And.intro hb4 (And.intro ho4 hm1))
          have hcd : ((dg cs j : Int) + 1000000000) = ((dg cs j + 1000000000 : Nat) : Int) := by omega
          rw [← hcd] at HC1
          have hj0 : (dg cs j : Int) ≤ 999999999 := by omega
          clear hDw hcells ho4 hb4 hp4 hcd HDW4 hjs hm1
          generalize dg cs j = y at hcj HST HC1 hj0
          go_wp2_with (fail)
          go_at_call 49
          refine HC1.out.mono ?_
          rintro e w4 ⟨v4, rfl, ho4, hb4⟩
          rw [HST.out.2.2, Nat.zero_add, List.nil_append, List.length_cons, pad_len] at ho4
          obtain ⟨gp, cp, rfl⟩ := ownsRow_succ ho4
          have hcp : 10 ≤ cp := by
            rcases ho4.2 with ⟨h, _⟩ | ⟨_, _, _, h, _, _, h2, _⟩
            · cases h
            · cases h; exact h2
          have HO4 := Lib.hid ho4
          have HB4 := Lib.hid hb4
          clear ho4 hb4 hcj
          have hc1 : ¬ cp = 1 := by omega
          have hc2 : ¬ cp < 1 := by omega
          have HO6 := Lib.hid (own_below H4.out.2.1 HB4.out)
          have HW6 := Lib.hid (H4.out.1.trans (HB4.out.mono H4.out.1.size))
          have hlen : (Lib.decDigits (hcF cs (j + 1))).length ≤ 9000000 := by rw [← H4.out.2.2]; omega
          have HLN := Lib.hid hlen
          obtain ⟨i8, hi8, hy0, hy1, hy2⟩ := info_parts infoU8
          have HI8 := Lib.hid hi8
          have HNW := Lib.hid (part_cells HO4.out)
          clear hlen hi8
          go_wp2_with (refine wpList_append_own _ rfl _ _ 22 rfl w2.heap.size 5 i8 (.int .u8 0) 1 1 Tryd.underlying22 HI8.out hy0 hy1 hy2 rfl (by decide) u6 _ _ rfl HO6.out ⟨gp, 1, none⟩ 9 (cp - 1) (Lib.byteCells (padD 9 y)) rfl (by rw [Lib.byteCells_length, pad_len]) HNW.out (Lib.byteCells_one _) (by have := HLN.out; unfold maxLen; omega) (by have := HLN.out; omega) HW6.out.size ?_; intro v5 w5 ho5 hg5 _; have HG5 := Lib.hid (And.intro ho5 hg5); clear ho5 hg5)
          have HS2 := Lib.hid (show StrR w2 cs N j v5 w5 from ⟨_, HW6.out.grown HG5.out.2 HW6.out.size (fun r hr => (own_lt HO6.out hr).1), by rw [HST.out.1, List.length_append, pad_len, Lib.byteCells_append]; exact HG5.out.1, ⟨rfl, by rw [HST.out.1, List.length_append, pad_len, ← H4.out.2.2]; omega⟩, HST.out.2.1⟩)
          go_roundg j
          case measure => omega
          case rel => exact ⟨by omega, rfl, HS2⟩
        · obtain rfl : gk = 0 := by omega
          obtain ⟨mm, hb4, ho4, -, hp4⟩ := HS.out
          have hch := HCH.out.sum
          rw [Nat.mul_zero, Nat.add_zero] at hch
          rw [show hcF cs 0 = n from hch] at ho4
          obtain ⟨k, hk2⟩ : ∃ k, (Lib.decDigits n).length = k + 1 := ⟨(Lib.decDigits n).length - 1, by have := dec_pos n; omega⟩
          rw [hk2] at ho4
          obtain ⟨gp, cp, rfl⟩ := ownsRow_succ ho4
          have hcv := own_conv hk2 ho4
          have HB5 := Lib.hid hb4
          clear ho4 hb4 hp4 hch hk2
          go_wp2
          go_ret
          exact ⟨rfl, HW2.out.trans (HB5.out.mono HW2.out.size)⟩
    · have HZ2 := Lib.hid (by have := HZ.out; rw [decide_eq_false hk] at this; exact this)
      have hk0 : 0 < gk := Nat.pos_of_ne_zero hk
      have HKK := Lib.hid (And.intro (Nat.div_lt_self hk0 (show 1 < 1000000000 by decide)) (HS.out.chunks.step hk0))
      have hcl : cs.length ≤ 10000000 := Nat.le_trans HS.out.chunks.len (Nat.le_trans hRR (by decide))
      clear HZ hk hk0
      go_wp2_with (fail)
      go_at_call 21
      refine HZ2.out.mono ?_
      rintro e w2 ⟨rfl, hb⟩
      have HB2 := Lib.hid (HB.out.below hb)
      have HO2 := Lib.hid (own_below HS.out.own hb)
      have HW2 := Lib.hid (below_step hb HS.out.below)
      have HDV := Lib.hid (divSmall_calls (HS.out.rest.below hb) 1000000000 (by decide) (by decide))
      have hgn := HS.out.new
      clear hx1 hf1 hb HB HZ2 HS
      obtain ⟨hx1, hf1⟩ := HB2.out.cell
      go_wp2_with (fail)
      go_at_call 48
      refine HDV.out.mono ?_
      rintro e w3 ⟨v, rfl, hv, hb, hfr⟩
      obtain ⟨q5, m5, c5, rfl⟩ := hv.shape
      have HB3 := Lib.hid (HB2.out.below hb)
      have HO3 := Lib.hid (own_below HO2.out hb)
      have HW3 := Lib.hid (below_step hb HW2.out)
      have HV3 := Lib.hid hv
      have HF3 := Lib.hid (show ∀ b, nblk (.agg #[.slice q5 m5 c5]) = some b → u3.ownBlock ≠ some b from fun b hb2 e => by
        have h1 := hfr b hb2
        have h2 := (own_lt HO2.out e).2
        omega)
      clear hx1 hf1 hb hv hfr HB2 HO2 HW2 HDV
      obtain ⟨hx1, hf1⟩ := HB3.out.cell
      generalize gk % 1000000000 = r at HKK ⊢
      go_upto_region 8 with (fail)
      obtain ⟨w4, hw4, L1, L2, L3, L4⟩ := laid1 HW3.out HB3.out hgn q5 m5 c5
      rw [hw4]
      have HB4 := Lib.hid L1
      have HW4 := Lib.hid L2
      have HV4 := Lib.hid (L3 _ _ HV3.out)
      have HO4 := Lib.hid (own_kept HO3.out L4 (fun b e1 e2 => own_ne_nb HO3.out HB3.out (by rw [e1, e2])))
      clear hw4 L1 L2 L3 L4 hx1 hf1 HB3 HW3 HV3 HO3
      have HE4 := Lib.hid (own_ne_nb HO4.out HB4.out)
      have hba : Below w4.heap.size w4 (w4.alloc (Obj.cells #[Value.int IntKind.u32 (r : Int)] 68)) := (by repeat (first | assumption | exact Below.refl _ _ | exact below_beyond _ _ | refine Below.beyond ?_ (by (try simp [size_beyond]) <;> omega) _ | refine Below.drew ?_ | refine Go.Rw.below_drewN ?_ _ | refine Go.Rw.below_setRow ?_ (by (try simp [size_beyond]) <;> omega) _ | refine Below.alloc ?_ (by (try simp [size_beyond]) <;> omega) _ | refine Below.setCell ?_ (by (try simp [size_beyond]) <;> omega) _))
      have HA4 := Lib.hid hba
      clear hba
      go_wp2_with (refine wpList_appU _ rfl _ _ 25 rfl uU uI HO4.out HW4.out.size hcl r rfl rfl ?_; intro v' w5 hown hgr hblk; have HB5 := Lib.hid ((HB4.out.below HA4.out).grown hgr HE4.out); obtain ⟨hx5, hf5⟩ := HB5.out.cell; have HG5 := Lib.hid (And.intro hown (And.intro hgr hblk)); clear hown hgr hblk)
      have hb6 : Below w5.heap.size w5 (w5.alloc (Obj.cells #[Value.slice q5 m5 c5] 27)) := (by repeat (first | assumption | exact Below.refl _ _ | exact below_beyond _ _ | refine Below.beyond ?_ (by (try simp [size_beyond]) <;> omega) _ | refine Below.drew ?_ | refine Go.Rw.below_drewN ?_ _ | refine Go.Rw.below_setRow ?_ (by (try simp [size_beyond]) <;> omega) _ | refine Below.alloc ?_ (by (try simp [size_beyond]) <;> omega) _ | refine Below.setCell ?_ (by (try simp [size_beyond]) <;> omega) _))
      have HW5 := Lib.hid ((HW4.out.trans (Below.mono HA4.out HW4.out.size)).grown HG5.out.2.1 (Nat.le_trans HW4.out.size HA4.out.size) (fun b hb => (own_lt HO4.out hb).1))
      have HS6 : Hid (StrL W n R (gk / 1000000000) v' w5.heap.size (.slice q5 m5 c5) (cs ++ [r]) (w5.alloc (Obj.cells #[Value.slice q5 m5 c5] 27))) := Lib.hid
        ⟨HW5.out.trans (Below.mono hb6 HW5.out.size), own_below HG5.out.1 hb6, NB.new _ _, HW5.out.size, ((HV4.out.below HA4.out).grown HG5.out.2.1 HF3.out).below hb6, (fun b hb e => by
          rcases HG5.out.2.2 with h1 | h1
          · exact HF3.out b hb (h1.symm.trans e)
          · have h2 := HV4.out.blk_lt hb
            rw [h1] at e
            injection e with e
            omega), HKK.out.2⟩
      clear hx5 hf5 hb6
      go_roundg (gk / 1000000000)
      case measure => exact HKK.out.1
      case rel => exact ⟨_, q5, m5, c5, cs ++ [r], rfl, HS6⟩
theorem String_calls {v : Value} {n : Nat} {W : World} (h : NatAt v n W) (M : Nat) (hM : n < B ^ M) (hMM : M ≤ 450000) (hD : DecW W) (ht : tabB ≤ W.heap.size) :
    Calls Tryd.prog 18 #[v] W fun e w' => e = .returned (.string ⟨(Lib.decDigits n).toArray⟩) ∧ Below W.heap.size W w' := by
  rcases Nat.eq_zero_or_pos n with rfl | hn
  · have HZ0 := Lib.hid (fun w (hb : Below W.heap.size W w) => by have := isZero_calls (h.below hb); rw [decide_eq_true rfl] at this; exact this)
    obtain ⟨q, m, c, rfl⟩ := h.shape
    rw [show Lib.decDigits 0 = [48] from dec_small (by decide)]
    clear h hM hMM hD ht
    go_enter Tryd.func18, Tryd.ntmps18
    go_wp2_with (go_at_call 21; refine (HZ0.out _ (by repeat (first | assumption | exact Below.refl _ _ | exact below_beyond _ _ | refine Below.beyond ?_ (by (try simp [size_beyond]) <;> omega) _ | refine Below.drew ?_ | refine Go.Rw.below_drewN ?_ _ | refine Go.Rw.below_setRow ?_ (by (try simp [size_beyond]) <;> omega) _ | refine Below.alloc ?_ (by (try simp [size_beyond]) <;> omega) _ | refine Below.setCell ?_ (by (try simp [size_beyond]) <;> omega) _))).mono ?_; rintro e w1 ⟨rfl, hb⟩)
    go_ret
    exact ⟨rfl, below_step hb (by repeat (first | assumption | exact Below.refl _ _ | exact below_beyond _ _ | refine Below.beyond ?_ (by (try simp [size_beyond]) <;> omega) _ | refine Below.drew ?_ | refine Go.Rw.below_drewN ?_ _ | refine Go.Rw.below_setRow ?_ (by (try simp [size_beyond]) <;> omega) _ | refine Below.alloc ?_ (by (try simp [size_beyond]) <;> omega) _ | refine Below.setCell ?_ (by (try simp [size_beyond]) <;> omega) _))⟩
  · refine str_loop h hn (2 * M) (Nat.lt_of_lt_of_le hM ?_) (by omega) hD ht
    rw [Nat.pow_mul]
    exact Nat.pow_le_pow_left (by decide) M
end Go.Proofs.YtogjobmekjighaaDoor.bn
