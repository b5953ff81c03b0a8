/-
  PartitionFromBlocks: the walk; a slice of slices that came in, opened.
-/
import Derived.Test.YtjlpjdpaingnkaaPtOf
import Derived.Test.YtjlpjdpaingnkaaPtT
set_option linter.unusedSimpArgs false
set_option linter.unusedVariables false
namespace Go.Proofs.Ytjlpjdpaingnkaa.pt
open Go.RowKit Go.Own Go.Pt Go.Rw Go.ChangeShapes Go.WideShapes Go.ChangeAt
set_option maxHeartbeats 4000000
set_option maxRecDepth 100000

/-- a slice of slices of integers, here -/
structure Raw (q : Option Addr) (n : Nat) (Q : Nat → Option Addr) (N C : Nat → Nat) (V : Nat → Nat → Int) (w : World) : Prop where
  outer : 0 < n → ∃ b off, q = some ⟨b, off, none⟩ ∧ b < w.heap.size ∧ ∀ i, i < n → w.cell? ⟨b, off + i, none⟩ = some (.slice (Q i) (N i) (C i))
  inner : ∀ i, i < n → N i ≤ C i ∧ C i ≤ maxLen ∧ (0 < N i → ∃ b off, Q i = some ⟨b, off, none⟩ ∧ b < w.heap.size ∧ ∀ j, j < N i → w.cell? ⟨b, off + j, none⟩ = some (.int .i64 (V i j)))
theorem ints_cell {H : Type} {enc : TypeId × Value → H} {P : Program} {w : World} {base : Nat} {spare : Nat → Bool} {held : Bool} {t e : TypeId} {v : Value} {x : DataW H × List MemPlace} {fuel : Nat}
    (hu : P.underlying t = some (.slice e)) (he : P.underlying e = some (.int .i64)) (hc : P.cellsOf e = 1) (hf : DataW.trod enc P w base spare held fuel t [v] = some x) :
    ∃ y : Option Addr × Nat × Nat × (Nat → Int), v = .slice y.1 y.2.1 y.2.2.1 ∧ y.2.1 ≤ y.2.2.1 ∧ y.2.2.1 ≤ maxLen ∧ (0 < y.2.1 → ∃ b off, y.1 = some ⟨b, off, none⟩ ∧ b < w.heap.size ∧ ∀ j, j < y.2.1 → w.cell? ⟨b, off + j, none⟩ = some (.int .i64 (y.2.2.2 j))) := by
  rcases Go.Deep.open_slice1 hu hc hf with ⟨hcs, _⟩ | ⟨a, n0, c0, m, n, V, D, Pl, hcs, _, hl, hm, hmm, _, hx⟩
  · simp at hcs
    subst hcs
    exact ⟨(none, 0, 0, fun _ => 0), rfl, Nat.le_refl _, Nat.zero_le _, fun h => absurd h (Nat.lt_irrefl 0)⟩
  · simp at hcs
    subst hcs
    have hle : n0 ≤ m := by rw [hmm]; split <;> omega
    refine ⟨(some a, n0, c0, fun i => intOf (V i)), rfl, hl, hm, fun hn => ?_⟩
    obtain ⟨b, off, spot⟩ := a
    have hn : 0 < n0 := hn
    have h0 := (hx 0 (by omega)).1
    have hlt := World.block_lt_of_cell? w ⟨b, off, spot⟩ (by simpa [Addr.add_zero'] using h0)
    have hs : spot = none := by
      rw [Addr.add_zero'] at h0
      unfold World.cell? at h0
      cases spot with
      | none => rfl
      | some s => simp at h0; split at h0 <;> simp_all
    subst hs
    refine ⟨b, off, rfl, hlt, fun j hj => ?_⟩
    have hj : j < n0 := hj
    obtain ⟨h1, h2⟩ := hx j (by omega)
    rw [Addr.add_lit] at h1
    obtain ⟨y, hy, _, hw⟩ := DataW.trod_int he h2
    simp at hy
    simp [h1, hy, intOf]
theorem open_lists {H : Type} {enc : TypeId × Value → H} {P : Program} {w : World} {r : Reach} {b0 base : Nat} {spare : Nat → Bool} {held : Bool} {t s e : TypeId} {v : Value} {d : DataW H} {p : List MemPlace}
    (ht : P.underlying t = some (.slice s)) (hcs : P.cellsOf s = 1) (hu : P.underlying s = some (.slice e)) (he : P.underlying e = some (.int .i64)) (hc : P.cellsOf e = 1) (hv : Value.okWide P w r b0 t v) (h : DataW.Trod enc P w base spare held t v d p) :
    ∃ (q : Option Addr) (n cap : Nat) (Q : Nat → Option Addr) (N C : Nat → Nat) (V : Nat → Nat → Int), v = .slice q n cap ∧ n ≤ cap ∧ cap ≤ maxLen ∧ Raw q n Q N C V w := by
  obtain ⟨q, n, cap, b, off, V, rfl, hl, hm, hq, hx⟩ := open_slice_cells ht hcs hv h
  have hrow : ∀ i, i < n → ∃ y : Option Addr × Nat × Nat × (Nat → Int), V i = .slice y.1 y.2.1 y.2.2.1 ∧ y.2.1 ≤ y.2.2.1 ∧ y.2.2.1 ≤ maxLen ∧ (0 < y.2.1 → ∃ b off, y.1 = some ⟨b, off, none⟩ ∧ b < w.heap.size ∧ ∀ j, j < y.2.1 → w.cell? ⟨b, off + j, none⟩ = some (.int .i64 (y.2.2.2 j))) := by
    intro i hi
    obtain ⟨_, m, x, h2⟩ := hx i hi
    exact ints_cell hu he hc h2
  obtain ⟨Y, hY⟩ := Go.Deep.choose_lt (α := Option Addr × Nat × Nat × (Nat → Int)) (p := fun i y => V i = .slice y.1 y.2.1 y.2.2.1 ∧ y.2.1 ≤ y.2.2.1 ∧ y.2.2.1 ≤ maxLen ∧ (0 < y.2.1 → ∃ b off, y.1 = some ⟨b, off, none⟩ ∧ b < w.heap.size ∧ ∀ j, j < y.2.1 → w.cell? ⟨b, off + j, none⟩ = some (.int .i64 (y.2.2.2 j)))) hrow
  refine ⟨q, n, cap, fun i => (Y i).1, fun i => (Y i).2.1, fun i => (Y i).2.2.1, fun i => (Y i).2.2.2, rfl, hl, hm, ⟨fun h0 => ?_, fun i hi => (hY i hi).2⟩⟩
  obtain ⟨h1, h2⟩ := hq h0
  exact ⟨b, off, h1, h2, fun i hi => by rw [(hx i hi).1, (hY i hi).1]⟩
/-- the lists that it holds -/
def rawL (n : Nat) (N : Nat → Nat) (V : Nat → Nat → Int) : List (List Int) := (List.range n).map fun i => (List.range (N i)).map (V i)
theorem raw_ls {q : Option Addr} {n cap : Nat} {Q : Nat → Option Addr} {N C : Nat → Nat} {V : Nat → Nat → Int} {w : World} (h : Raw q n Q N C V w) (h1 : n ≤ cap) (h2 : cap ≤ maxLen) (h3 : n ≤ 20) (h4 : ∀ i, i < n → N i ≤ 60) : LsAt (fun _ => False) False q n cap (rawL n N V) w := by
  refine ⟨by simp [rawL], by omega, h1, h2, ?_⟩
  by_cases h0 : n = 0
  · subst h0; exact .inl rfl
  · obtain ⟨b, off, k1, k2, k3⟩ := h.outer (by omega)
    refine .inr ⟨b, off, k1, k2, fun h => h, fun i l hl => ?_⟩
    have hi : i < n := by have := (List.getElem?_eq_some_iff.1 hl).1; simpa [rawL] using this
    have e : l = (List.range (N i)).map (V i) := by
      unfold rawL at hl
      rw [List.getElem?_map, List.getElem?_range hi] at hl
      simpa using hl.symm
    subst e
    obtain ⟨j1, j2, j3⟩ := h.inner i hi
    have := h4 i hi
    refine ⟨Q i, N i, C i, k3 i hi, ⟨by simp, by omega, j1, j2, ?_⟩⟩
    by_cases hz : N i = 0
    · exact .inl (by rw [hz]; rfl)
    · obtain ⟨b', off', m1, m2, m3⟩ := j3 (by omega)
      refine .inr ⟨b', off', m1, m2, fun h => by rcases h with h | h; exact h; exact h.1, fun j x hx => ?_⟩
      by_cases hj : j < N i
      · simp only [List.getElem?_map, List.getElem?_range hj, Option.map_some, Option.some.injEq] at hx
        subst hx; exact m3 j hj
      · rw [List.getElem?_eq_none (by simp; omega)] at hx; cases hx
theorem ofR_len : ∀ (r : List (Int × Int)) (w seen : List Int), (ofR w seen r).2 = 0 → (ofR w seen r).1.length = w.length
  | [], _, _, _ => rfl
  | (a, h) :: r, w, seen, e => by
    unfold ofR at e ⊢
    split at e
    · simp at e
    · split at e
      · simp at e
      · rename_i h1 h2
        rw [if_neg h1, if_neg h2, ofR_len r _ _ e, joinL_len]
theorem fromblocks_walk {n : Int} {q : Option Addr} {m c : Nat} {Q : Nat → Option Addr} {N C : Nat → Nat} {V : Nat → Nat → Int} {W : World} (h1 : m ≤ c) (h2 : c ≤ maxLen) (hr : Raw q m Q N C V W) :
    Calls Try.prog 5 #[.int .i64 n, .slice q m c] W fun e w' => e = .returned (.bool true) ∧ ∃ x, w' = beyond W x := by
  have HK := Lib.hid known_calls
  have hm : m ≤ 9223372036854775807 := by unfold maxLen at h2; omega
  by_cases hA : 40 < n ∧ n ≤ 4096
  · obtain ⟨ha1, ha2⟩ := hA
    go_enter Try.func5, Try.ntmps5
    go_wp2_with (fail)
    go_at_call 13
    refine (HK.out _).mono ?_
    rintro e w2 ⟨rfl, h2⟩
    go_wp2
    go_ret
    exact ⟨rfl, beyond_of h2⟩
  by_cases hB : 20 < m
  · have hmi : (20 : Int) < (m : Int) := by omega
    by_cases h40 : 40 < n
    · have h4096 : ¬ n ≤ 4096 := by omega
      go_enter Try.func5, Try.ntmps5
      go_wp2_with (fail)
      go_at_call 13
      refine (HK.out _).mono ?_
      rintro e w2 ⟨rfl, h2⟩
      go_wp2
      go_ret
      exact ⟨rfl, beyond_of h2⟩
    · go_enter Try.func5, Try.ntmps5
      go_wp2_with (fail)
      go_at_call 13
      refine (HK.out _).mono ?_
      rintro e w2 ⟨rfl, h2⟩
      go_wp2
      go_ret
      exact ⟨rfl, beyond_of h2⟩
  have hmi : ¬ (20 : Int) < (m : Int) := by omega
  have HRAW := Lib.hid hr
  have H12 := Lib.hid (And.intro h1 h2)
  clear hr h1 h2
  go_enter Try.func5, Try.ntmps5
  go_upto_region 1 with fail
  go_cut [22] from 12 to 22 (fun v wx => v = .bool false ∧ W = wx)
  case first =>
    by_cases h40 : 40 < n
    · have h4096 : ¬ n ≤ 4096 := by omega
      go_wp2
      go_meet
      exact ⟨rfl, rfl⟩
    · go_wp2
      go_meet
      exact ⟨rfl, rfl⟩
  case rest =>
    obtain ⟨rfl, rfl⟩ := hcut
    go_wp2
    go_loopw [5] (fun i wr => ∃ k : Nat, k ≤ m ∧ i = .int .i64 k ∧ Hid (∀ i, i < k → N i ≤ 60) ∧ W = wr) (fun i _ => m - (intOf i).toNat)
    case atStart => exact ⟨0, Nat.zero_le _, rfl, Lib.hid (fun i hi => absurd hi (Nat.not_lt_zero _)), rfl⟩
    case round =>
      obtain ⟨k, hk, rfl, HN, rfl⟩ := hrel
      by_cases hlt : k < m
      · obtain ⟨b, off, rfl, hbw, hcs⟩ := HRAW.out.outer (by omega)
        have hcell := hcs k hlt
        have hnk : N k ≤ 9223372036854775807 := by have := HRAW.out.inner k hlt; unfold maxLen at this; omega
        have HS := Lib.hid (show N k ≤ 60 → ∀ i, i < k + 1 → N i ≤ 60 from fun h i hi => by
          by_cases e : i < k
          · exact HN.out i e
          · obtain rfl : i = k := by omega
            exact h)
        clear hcs
        generalize N k = x at hcell hnk HS
        generalize C k = y at hcell
        generalize Q k = z at hcell
        by_cases h60 : 60 < x
        · have hxi : (60 : Int) < (x : Int) := by omega
          clear HS
          go_wp2_with (fail)
          go_at_call 13
          refine (HK.out _).mono ?_
          rintro e w2 ⟨rfl, h2⟩
          go_wp2
          go_ret
          exact ⟨rfl, beyond_of h2⟩
        · have hxi : ¬ (60 : Int) < (x : Int) := by omega
          have HS2 := Lib.hid (HS.out (by omega))
          clear HS
          go_wp2
          go_roundw
          case rel => exact ⟨k + 1, by omega, by go_num, HS2, trivial⟩
          case measure => simp [intOf]; omega
      · obtain rfl : k = m := by omega
        have HL := Lib.hid (raw_ls HRAW.out H12.out.1 H12.out.2 (by omega) HN.out)
        clear HRAW HN
        generalize rawL k N V = L at HL
        by_cases hn : n < 0 ∨ 4096 < n
        · have HF := Lib.hid (fb_bad n hn q k c W)
          have HO := Lib.hid (of_bad n hn q k c W)
          go_wp2_with (fail)
          go_at_call 23
          refine HF.out.mono ?_
          rintro e w2 ⟨rfl, rfl⟩
          go_wp2_with (fail)
          go_at_call 24
          refine HO.out.mono ?_
          rintro e w2 ⟨rfl, rfl⟩
          go_wp2_with (fail)
          go_at_call 13
          refine (HK.out _).mono ?_
          rintro e w2 ⟨rfl, h2⟩
          go_wp2
          go_ret
          exact ⟨rfl, beyond_of h2⟩
        obtain ⟨n, rfl⟩ := Int.eq_ofNat_of_zero_le (show 0 ≤ n by omega)
        have HF := Lib.hid (fb_calls (n := n) (by omega) HL.out)
        have hn4 : n ≤ 4096 := by omega
        clear hn
        go_wp2_with (fail)
        go_at_call 23
        refine HF.out.mono ?_
        rintro e w1 ⟨hb1, hcase⟩
        have HB1 := Lib.hid hb1
        have hs1 := hb1.size
        have HL1 := Lib.hid (HL.out.below hb1)
        clear hb1 HF
        rcases hcase with ⟨h0, P, g, rfl, hP, hPW, hgW⟩ | ⟨h0, rfl⟩
        · have HP := Lib.hid hP
          have hpl := hP.pl
          have hgl := hP.gl
          have HO := Lib.hid (of_calls (M := fun k => k = g) (n := n) (by omega) HL1.out (fun k hk => by rw [hk]; exact hgl))
          have HLW := Lib.hid (show (ofR (idL n) [] (flat L)).1.length = n by rw [ofR_len _ _ _ h0, idL_len])
          have H00 := Lib.hid h0
          clear hP h0
          go_wp2_with (fail)
          go_at_call 24
          refine HO.out.mono ?_
          rintro e w2 ⟨hb2, hcase⟩
          rcases hcase with ⟨h0, q2, m2, c2, rfl, hA⟩ | ⟨h0, rfl⟩
          · have HA := Lib.hid hA
            have HP2 := Lib.hid (HP.out.below hb2)
            have HB2 := Lib.hid (HB1.out.trans (hb2.mono hs1))
            have hs2 := hb2.size
            clear hA h0 hb2 HO HP HB1
            generalize (ofR (idL n) [] (flat L)).1 = w at HP2 HA HLW
            have HBK := Lib.hid (blocks_calls (M := fun _ => False) HP2.out (fun _ h => h.elim))
            go_wp2_with (fail)
            go_at_call 25
            refine HBK.out.mono ?_
            rintro e w3 ⟨q3, m3, c3, rfl, h1, h2⟩
            have HP3 := Lib.hid h2.pt
            have HA3 := Lib.hid (HA.out.kept h2.kept (fun b hb => hb))
            have HB3 : Hid (Below W.heap.size W w3) := Lib.hid (HB2.out.trans (h2.kept.below (fun k hk => by omega) (by omega)))
            have hs3 := h2.kept.size
            have HF := Lib.hid (fb_calls (n := n) (by omega) h1)
            have HOB := Lib.hid (show ofR (idL n) [] (flat (blocksL w)) = (w, 0) by have := of_blocks HP3.out.rep; rw [HLW.out] at this; exact this)
            clear h1 h2 HBK HP2 HA HB2
            go_wp2_with (fail)
            go_at_call 23
            refine HF.out.mono ?_
            unfold FbRet
            rw [HOB.out]
            rintro e w4 ⟨hb4, hcase⟩
            have HB4 := Lib.hid (HB3.out.trans (hb4.mono (by omega)))
            have HP4 := Lib.hid (HP3.out.below hb4)
            have HA4 := Lib.hid (HA3.out.below hb4)
            have hs4 := hb4.size
            clear hb4 HB3 HP3 HA3 HF
            rcases hcase with ⟨_, P2, g2, rfl, hP2, hPW2, hgW2⟩ | ⟨h0, rfl⟩
            · have HO4 := Lib.hid hP2
              have hpl2 := hP2.pl
              have hgl2 := hP2.gl
              clear hP2
              have HSM := Lib.hid (same_calls HP4.out HA4.out rfl)
              go_wp2_with (fail)
              go_at_call 14
              refine HSM.out.mono ?_
              rintro e w5 ⟨rfl, h1⟩
              have HP5 := Lib.hid h1.pt
              have HO5 := Lib.hid (HO4.out.kept h1.kept (by omega) (by omega))
              have HB5 : Hid (Below W.heap.size W w5) := Lib.hid (HB4.out.trans (h1.kept.below (fun k hk => by omega) (by omega)))
              have hs5 := h1.kept.size
              clear h1 HSM HP4 HO4 HB4 HA4
              have HQ := Lib.hid (equal_pt HO5.out HP5.out ⟨by omega, by omega, by omega⟩)
              rw [decide_eq_true rfl] at HQ
              go_wp2_with (fail)
              go_at_call 26
              refine HQ.out.mono ?_
              rintro e w6 ⟨rfl, h1⟩
              have HB6 : Hid (Below W.heap.size W w6) := Lib.hid (HB5.out.trans (h1.kept.below (fun k hk => by (try dsimp only at hk); omega) (by omega)))
              clear h1 HQ
              go_wp2_with (fail)
              go_at_call 13
              refine (HK.out _).mono ?_
              rintro e w7 ⟨rfl, h3⟩
              go_wp2
              go_ret
              exact ⟨rfl, beyond_of (HB6.out.trans (h3.mono HB6.out.size))⟩
            · exact absurd rfl h0
          · exact absurd H00.out h0
        · have HO := Lib.hid (of_calls (M := fun _ => False) (n := n) (by omega) HL1.out (fun _ h => h.elim))
          have H00 := Lib.hid h0
          have hcode : ((((ofR (idL n) [] (flat L)).2 : Nat) : Int) == 0) = false := by rw [beq_eq_false_iff_ne]; omega
          clear h0
          unfold OfRet at HO
          generalize (ofR (idL n) [] (flat L)).2 = z at HO H00 hcode ⊢
          have hzz : ((z : Int) != (z : Int)) = false := by simp
          have hz0 : ((z : Int) != 0) = true := by rw [bne_iff_ne]; have := H00.out; omega
          go_wp2_with (fail)
          go_at_call 24
          refine HO.out.mono ?_
          rintro e w2 ⟨hb2, hcase⟩
          rcases hcase with ⟨h0, _⟩ | ⟨h0, rfl⟩
          · exact absurd h0 H00.out
          · have HB2 := Lib.hid (HB1.out.trans (hb2.mono hs1))
            clear hb2 HO h0
            go_wp2_with (fail)
            go_at_call 13
            refine (HK.out _).mono ?_
            rintro e w3 ⟨rfl, h3⟩
            go_wp2
            go_ret
            exact ⟨rfl, beyond_of (HB2.out.trans (h3.mono HB2.out.size))⟩
end Go.Proofs.Ytjlpjdpaingnkaa.pt
