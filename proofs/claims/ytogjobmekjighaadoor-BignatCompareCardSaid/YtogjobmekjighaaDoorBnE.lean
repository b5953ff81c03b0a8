/-
  Contracts of bignat: Mul.
-/
import Derived.Test.YtogjobmekjighaaDoorBnD
set_option linter.unusedSimpArgs false
set_option linter.unusedVariables false
namespace Go.Proofs.YtogjobmekjighaaDoor.bn
open Go.RowKit Go.Own Go.Bn
set_option maxHeartbeats 4000000
set_option maxRecDepth 100000

/-- a row that is being filled: zeros from z on -/
def Mrow (g n z : Nat) (d : List Nat) (w : World) : Prop := RowU g d w ∧ d.length = n ∧ Dig d ∧ ∀ j, z ≤ j → dg d j = 0
theorem Mrow.below {g n z : Nat} {d : List Nat} {w w' : World} (h : Mrow g n z d w) (hb : Below w.heap.size w w') : Mrow g n z d w' := ⟨h.1.below hb, h.2⟩
theorem dg_zeros (n j : Nat) : dg (List.replicate n 0) j = 0 := by
  unfold dg; rw [List.getD_eq_getElem?_getD, List.getElem?_replicate]; split <;> rfl
theorem Mrow.made {w : World} {g k L : Nat} (h : w.ownsRow L 68 1 (.slice (some ⟨g, 0, none⟩) k k) k (madeCells #[Value.int .u32 0] k).toList) (z : Nat) : Mrow g k z (List.replicate k 0) w :=
  ⟨RowU.made h, by simp, fun d hd => by rw [(List.mem_replicate.1 hd).2]; decide, fun j _ => dg_zeros k j⟩
theorem Mrow.set {g n z : Nat} {d : List Nat} {w : World} (h : Mrow g n z d w) {i x : Nat} (hi : i < n) (hz : i < z) (hx : x < B) : Mrow g n z (d.set i x) (w.setCell ⟨g, i, none⟩ (.int .u32 (x : Int))) :=
  ⟨h.1.set (by rw [h.2.1]; exact hi) x, by rw [List.length_set]; exact h.2.1, dig_set h.2.2.1 hx, fun j hj => by rw [dg_set (by rw [h.2.1]; exact hi), if_neg (by omega)]; exact h.2.2.2 j hj⟩
theorem mul_in {g n : Nat} {d b : List Nat} {w : World} {v0 x i k c z : Nat} (h : Mrow g n z d w) (hd : i + k < n) (hk : i + k < z) (hx : x < B) (hc : c < B) (hb : Dig b)
    (e : val d + B ^ (i + k) * c = v0 + x * B ^ i * valTo b k) :
    (c + x * dg b k + dg d (i + k)) / B < B ∧ c + x * dg b k + dg d (i + k) < 18446744073709551616 ∧ Mrow g n z (d.set (i + k) ((c + x * dg b k + dg d (i + k)) % B)) (w.setCell ⟨g, i + k, none⟩ (.int .u32 (((c + x * dg b k + dg d (i + k)) % B : Nat) : Int))) ∧
    val (d.set (i + k) ((c + x * dg b k + dg d (i + k)) % B)) + B ^ (i + (k + 1)) * ((c + x * dg b k + dg d (i + k)) / B) = v0 + x * B ^ i * valTo b (k + 1) := by
  have h1 := mul_carry hx (dg_lt hb k) hc (dg_lt h.2.2.1 (i + k))
  exact ⟨h1.1, h1.2, h.set hd hk (Nat.mod_lt _ (by decide)), mul_step (by rw [h.2.1]; exact hd) e⟩
theorem mul_out {g n : Nat} {d a b : List Nat} {w : World} {i c : Nat} (h : Mrow g n (i + b.length) d w) (hd : i + b.length < n) (hc : c < B)
    (e : val d + B ^ (i + b.length) * c = valTo a i * val b + dg a i * B ^ i * valTo b b.length) :
    Mrow g n (i + 1 + b.length) (d.set (i + b.length) c) (w.setCell ⟨g, i + b.length, none⟩ (.int .u32 (c : Int))) ∧ val (d.set (i + b.length) c) = valTo a (i + 1) * val b := by
  have hl : i + b.length < d.length := by rw [h.2.1]; exact hd
  refine ⟨⟨h.1.set hl c, by rw [List.length_set]; exact h.2.1, dig_set h.2.2.1 hc, fun j hj => by rw [dg_set hl, if_neg (by omega)]; exact h.2.2.2 j (by omega)⟩, ?_⟩
  have h1 := val_set (d := d) c hl
  rw [h.2.2.2 _ (Nat.le_refl _), Nat.mul_zero, Nat.add_zero] at h1
  rw [h1, e, valTo_all _ (Nat.le_refl _), valTo_succ, Nat.add_mul, Nat.mul_comm (dg a i) (B ^ i)]
theorem len_le {ds : List Nat} {M : Nat} (h : Nrm ds) (hM : val ds < B ^ M) : ds.length ≤ M := by
  rcases Nat.lt_or_ge M ds.length with hl | hl
  · have hne : ds ≠ [] := by rintro rfl; simp at hl
    have h1 := val_ge h hne
    have h2 : B ^ M ≤ B ^ (ds.length - 1) := Nat.pow_le_pow_right (by decide) (by omega)
    omega
  · exact hl
theorem Mul_calls {v v2 : Value} {n n2 : Nat} {W : World} (h : NatAt v n W) (h2 : NatAt v2 n2 W) (M M2 : Nat) (ha : n < B ^ M) (hb : n2 < B ^ M2) (hMM : M + M2 ≤ 999000) :
    Calls Tryd.prog 24 #[v, v2] W (RetN W (n * n2)) := by
  obtain ⟨q, m, c, a, rfl, hA, hN, hv⟩ := h.ex
  obtain ⟨q2, m2, c2, b, rfl, hA2, hN2, hv2⟩ := h2.ex
  have hL1 : m ≤ M := by rw [hA.all.1]; exact len_le hN (by rw [hv]; exact ha)
  have hL2 : m2 ≤ M2 := by rw [hA2.all.1]; exact len_le hN2 (by rw [hv2]; exact hb)
  have hms : m + m2 ≤ 999000 := by omega
  have HM := Lib.hid (show a.length = m from hA.all.1.symm)
  have HM2 := Lib.hid (show b.length = m2 from hA2.all.1.symm)
  have HV := Lib.hid (And.intro hv hv2)
  have HD := Lib.hid (And.intro hA.all.2.2.2.2.1 hA2.all.2.2.2.2.1)
  have HA := Lib.hid hA
  have HA2 := Lib.hid hA2
  clear h h2 hA hA2 hN hN2 hv hv2 ha hb hL1 hL2 hMM
  obtain ⟨i0, hi, hz0, hz1, hz2⟩ := info_parts uI
  have Hi := Lib.hid hi; clear hi
  go_enter Tryd.func24, Tryd.ntmps24
  go_wp2_with (first | (at_make; refine wpList_make_full _ rfl _ _ 25 rfl (W.heap.size + 3) 68 i0 (.int .u32 0) 1 uU Hi.out hz0 hz1 _ _ _ _ (m + m2) rfl rfl ?_ ?_ (by rw [hz2]; omega) (by unfold maxLen; omega) (by simp) ?_))
  all_goals first
    | omega
    | skip
  intro w1 hown hgr
  have HR0 := Lib.hid (Mrow.made hown (0 + m2))
  have hlt1 : W.heap.size + 1 + 1 + 1 < w1.heap.size := HR0.out.1.lt
  have hw0 : (((W.alloc (.cells #[.slice q m c] 27)).alloc (.cells #[.slice q2 m2 c2] 27)).alloc (.cells #[.slice none 0 0] 27)).heap.size = W.heap.size + 1 + 1 + 1 := by show (((W.heap.push _).push _).push _).size = _; simp
  have hbl : Below (W.heap.size + 1 + 1 + 1) (((W.alloc (.cells #[.slice q m c] 27)).alloc (.cells #[.slice q2 m2 c2] 27)).alloc (.cells #[.slice none 0 0] 27)) w1 := ⟨hgr.os, hgr.tape, hgr.output, hgr.size, fun k hk => hgr.block k (by rw [hw0]; exact hk) (by simp)⟩
  have hcA : w1.cell? ⟨W.heap.size, 0, none⟩ = some (.slice q m c) := (hbl.cell (by show W.heap.size < _; omega)).trans (by simp [go_sem])
  have hcB : w1.cell? ⟨W.heap.size + 1, 0, none⟩ = some (.slice q2 m2 c2) := (hbl.cell (by show W.heap.size + 1 < _; omega)).trans (by simp [go_sem])
  have hcR : w1.heap[W.heap.size + 1 + 1]? = some (.cells #[.slice none 0 0] 27 (0, 0)) := (hbl.block _ (by omega)).trans (by
    show (((W.heap.push _).push _).push _)[_]? = _
    rw [Array.getElem?_push, if_pos (by simp)])
  have HB0 := Lib.hid (show Below W.heap.size W w1 from (show Below W.heap.size W (((W.alloc (.cells #[.slice q m c] 27)).alloc (.cells #[.slice q2 m2 c2] 27)).alloc (.cells #[.slice none 0 0] 27)) from (by repeat (first | assumption | exact Below.refl _ _ | exact below_beyond _ _ | refine Below.beyond ?_ (by (try simp [size_beyond]) <;> omega) _ | refine Below.drew ?_ | refine Go.Rw.below_drewN ?_ _ | refine Go.Rw.below_setRow ?_ (by (try simp [size_beyond]) <;> omega) _ | refine Below.alloc ?_ (by (try simp [size_beyond]) <;> omega) _ | refine Below.setCell ?_ (by (try simp [size_beyond]) <;> omega) _))).trans (hbl.mono (by omega)))
  have HCR := Lib.hid hcR
  clear hown hgr hbl hw0 hcR
  go_wp2
  go_loopw [6, 7, 8, 9, 10, 22] (fun _ _ _ _ _ i wr => ∃ (j : Nat) (d : List Nat), j ≤ m ∧ i = .int .i64 j ∧ Hid (Mrow (W.heap.size + 1 + 1 + 1) (m + m2) (j + m2) d wr ∧ val d = valTo a j * n2) ∧ Hid (Below (W.heap.size + 1 + 1 + 1) w1 wr)) (fun _ _ _ _ _ i _ => m - (intOf i).toNat)
  case atStart => exact ⟨0, _, Nat.zero_le _, rfl, Lib.hid ⟨HR0.out, by rw [val_zeros, valTo_zero, Nat.zero_mul]⟩, Lib.hid (Below.refl _ _)⟩
  case round =>
    obtain ⟨j, d, hj, rfl, HR, HB⟩ := hrel
    have hrA := (HB.out.cell (p := ⟨W.heap.size, 0, none⟩) (by show W.heap.size < _; omega)).trans hcA
    have hrB := (HB.out.cell (p := ⟨W.heap.size + 1, 0, none⟩) (by show W.heap.size + 1 < _; omega)).trans hcB
    by_cases hlt : j < m
    · obtain ⟨p, off, rfl, hpw, hcs⟩ := HA.out.cell hlt
      have hBW : Below W.heap.size W wr := HB0.out.trans (HB.out.mono (by omega))
      have hcx := (hBW.cell hpw).trans (hcs j hlt)
      have HX := Lib.hid (dg_lt HD.out.1 j)
      clear hcs hBW
      generalize hx : dg a j = x at hcx HX
      have HXX := Lib.hid hx; clear hx
      have hxb : x < 4294967296 := HX.out
      go_wp2
      go_loopw [8, 9, 10, 30] (fun s _ _ i wr2 => ∃ (k e : Nat) (d : List Nat), k ≤ m2 ∧ i = .int .i64 k ∧ s = .int .u64 e ∧ e < 4294967296 ∧ Hid (Mrow (W.heap.size + 1 + 1 + 1) (m + m2) (j + m2) d wr2 ∧ val d + B ^ (j + k) * e = valTo a j * n2 + x * B ^ j * valTo b k) ∧ Hid (Below (W.heap.size + 1 + 1 + 1) w1 wr2)) (fun _ _ _ i _ => m2 - (intOf i).toNat)
      case atStart => exact ⟨0, 0, d, Nat.zero_le _, rfl, rfl, by omega, Lib.hid ⟨HR.out.1, by rw [HR.out.2, valTo_zero, Nat.mul_zero, Nat.mul_zero]⟩, HB⟩
      case round =>
        obtain ⟨k, e, d2, hk, rfl, rfl, he, HR2, HB2⟩ := hrel
        have hrB2 := (HB2.out.cell (p := ⟨W.heap.size + 1, 0, none⟩) (by show W.heap.size + 1 < _; omega)).trans hcB
        by_cases hlt2 : k < m2
        · obtain ⟨p2, off2, rfl, hpw2, hcs2⟩ := HA2.out.cell hlt2
          have hBW2 := HB0.out.trans (HB2.out.mono (show W.heap.size ≤ W.heap.size + 1 + 1 + 1 by omega))
          have hcy := (hBW2.cell hpw2).trans (hcs2 k hlt2)
          have hcd := HR2.out.1.1.cell (a := j + k) (by rw [HR2.out.1.2.1]; omega)
          have hfd := HR2.out.1.1.frozen (j + k)
          have HS := Lib.hid (mul_in HR2.out.1 (i := j) (k := k) (by omega) (by omega) HX.out he HD.out.2 HR2.out.2)
          have hyb : dg b k < 4294967296 := dg_lt HD.out.2 k
          have hdb : dg d2 (j + k) < 4294967296 := dg_lt HR2.out.1.2.2.1 _
          have hT := HS.out.2.1
          have hT1 := HS.out.1
          clear hcs2 hBW2
          generalize dg b k = y at hcy HS hyb hT hT1
          generalize dg d2 (j + k) = t at hcd HS hdb hT hT1
          generalize hz : x * y = z at HS hT hT1
          have hzi : (x : Int) * (y : Int) = (z : Int) := by rw [← hz]; simp
          have hsum : (e : Int) + ((z : Int) + (t : Int)) = ((e + z + t : Nat) : Int) := by omega
          have e1 : IntKind.u32.wrap ((e : Int) + ((z : Int) + (t : Int))) = (((e + z + t) % B : Nat) : Int) := by rw [wrapU]; unfold B; omega
          go_wp2
          have ev : ((e : Int) + (z : Int) + (t : Int)) % 4294967296 = (((e + z + t) % B : Nat) : Int) := by unfold B; omega
          have ed : ((e : Int) + (z : Int) + (t : Int)) / 4294967296 = (((e + z + t) / B : Nat) : Int) := by unfold B; omega
          rw [ev, ed]
          refine ⟨⟨k + 1, _, _, by omega, rfl, rfl, hT1, Lib.hid ⟨HS.out.2.2.1, HS.out.2.2.2⟩, Lib.hid (HB2.out.setCell (Nat.le_refl _) _)⟩, ?_⟩
          show m2 - ((k : Int) + 1).toNat < m2 - ((k : Int)).toNat
          omega
        · obtain rfl : k = m2 := by omega
          have hcd := HR2.out.1.1.cell (a := j + k) (by rw [HR2.out.1.2.1]; omega)
          have hfd := HR2.out.1.1.frozen (j + k)
          have HO := Lib.hid (mul_out (a := a) (b := b) (i := j) (c := e) (by rw [HM2.out]; exact HR2.out.1) (by rw [HM2.out]; omega) he (by rw [HM2.out, HV.out.2, HXX.out]; exact HR2.out.2))
          rw [HM2.out, HV.out.2] at HO
          generalize dg d2 (j + k) = t at hcd
          go_wp2
          refine ⟨⟨j + 1, _, by omega, rfl, HO, Lib.hid (HB2.out.setCell (Nat.le_refl _) _)⟩, ?_⟩
          show m - ((j : Int) + 1).toNat < m - ((j : Int)).toNat
          omega
    · obtain rfl : j = m := by omega
      have hA3 := HR.out.1.1.at_ (c := j + m2) (by rw [HR.out.1.2.1]; exact hms) HR.out.1.2.2.1 (by rw [HR.out.1.2.1]; exact Nat.le_refl _) (by unfold maxLen; omega)
      have HVV := Lib.hid (show val d = n * n2 by rw [HR.out.2, ← HM.out, valTo_all _ (Nat.le_refl _), HV.out.1])
      rw [HR.out.1.2.1] at hA3
      have HA3 := Lib.hid hA3; clear hA3
      have hlr : W.heap.size + 1 + 1 < wr.heap.size := Nat.lt_of_lt_of_le (by omega) HB.out.size
      have hcr := (HB.out.block (W.heap.size + 1 + 1) (by omega)).trans HCR.out
      have HBW := Lib.hid (HB0.out.trans (HB.out.mono (show W.heap.size ≤ W.heap.size + 1 + 1 + 1 by omega)))
      go_wp2_with (go_at_call 52
                   refine (trimmed_calls HA3.out).mono ?_
                   rw [HVV.out]
                   rintro e w2 ⟨v, rfl, hv, hb⟩
                   obtain ⟨qq, mm, cc, ds, rfl, hd⟩ := hv.ex
                   have hB2 := Lib.hid (HBW.out.trans (hb.mono HBW.out.size))
                   have hg2 : blockOf w2 (W.heap.size + 1 + 1) = some (.cells #[.slice none 0 0] 27 (0, 0)) := (hb.block _ hlr).trans hcr
                   have HVX := Lib.hid hv
                   obtain ⟨hc2, hf2⟩ := cell_of_row hg2
                   clear hd hv hb)
      rw [setCell_row hg2]
      refine bodyPost_ret (results_block rfl _ _ (W.heap.size + 1 + 1) 27 #[.slice qq mm cc] _ rfl (setRow_heap _ _ _ _ _ _ hg2) Tryd.underlying27 rfl nInfo) rfl ?_
      exact RetN.laid HVX.out hB2.out hg2 (fun _ h => by cases h) (by omega)
end Go.Proofs.YtogjobmekjighaaDoor.bn
