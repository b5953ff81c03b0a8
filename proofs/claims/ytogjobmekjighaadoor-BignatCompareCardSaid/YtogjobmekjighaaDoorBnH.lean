/-
  Contracts of bignat: divSmall.
-/
import Derived.Test.YtogjobmekjighaaDoorBnG
set_option linter.unusedSimpArgs false
set_option linter.unusedVariables false
namespace Go.Proofs.YtogjobmekjighaaDoor.bn
open Go.RowKit Go.Own Go.Bn
set_option maxHeartbeats 4000000
set_option maxRecDepth 100000

theorem divSmall_calls {v : Value} {n : Nat} {W : World} (h : NatAt v n W) (f : Nat) (hf0 : 0 < f) (hf : f < 4294967296) :
    Calls Tryd.prog 48 #[v, .int .u32 (f : Int)] W fun e w' => ∃ v, e = .returned (.tuple #[v, .int .u32 ((n % f : Nat) : Int)]) ∧ NatAt v (n / f) w' ∧ Below W.heap.size W w' ∧ ∀ b, nblk v = some b → W.heap.size ≤ b := by
  obtain ⟨q, m, c, a, rfl, hA, hN, hv⟩ := h.ex
  have hms : m ≤ 999000 := hA.all.2.1
  have HM := Lib.hid (show a.length = m from hA.all.1.symm)
  have HV := Lib.hid hv
  have HD := Lib.hid hA.all.2.2.2.2.1
  have HA := Lib.hid hA
  clear h hA hN hv
  obtain ⟨i0, hi, hz0, hz1, hz2⟩ := info_parts uI
  have Hi := Lib.hid hi; clear hi
  go_enter Tryd.func48, Tryd.ntmps48
  go_wp2_with (first | (at_make; refine wpList_make_full _ rfl _ _ 25 rfl (W.heap.size + 2) 68 i0 (.int .u32 0) 1 uU Hi.out hz0 hz1 _ _ _ _ m rfl rfl ?_ ?_ (by rw [hz2]; omega) (by unfold maxLen; omega) (by simp) ?_))
  all_goals first
    | omega
    | skip
  intro w1 hown hgr
  have HR0 := Lib.hid (Mrow.made hown m)
  have hlt1 : W.heap.size + 1 + 1 < w1.heap.size := HR0.out.1.lt
  have hw0 : ((W.alloc (.cells #[.slice q m c] 27)).alloc (.cells #[.slice none 0 0] 27)).heap.size = W.heap.size + 1 + 1 := by show ((W.heap.push _).push _).size = _; simp
  have hbl : Below (W.heap.size + 1 + 1) ((W.alloc (.cells #[.slice q m c] 27)).alloc (.cells #[.slice none 0 0] 27)) w1 := ⟨hgr.os, hgr.tape, hgr.output, hgr.size, fun k hk => hgr.block k (by rw [hw0]; exact hk) (by simp)⟩
  have hcA : w1.cell? ⟨W.heap.size, 0, none⟩ = some (.slice q m c) := (hbl.cell (by show W.heap.size < _; omega)).trans (by simp [go_sem])
  have hcR : w1.heap[W.heap.size + 1]? = some (.cells #[.slice none 0 0] 27 (0, 0)) := (hbl.block _ (by omega)).trans (by
    show ((W.heap.push _).push _)[_]? = _
    rw [Array.getElem?_push, if_pos (by simp)])
  have HB0 := Lib.hid (show Below W.heap.size W w1 from (show Below W.heap.size W ((W.alloc (.cells #[.slice q m c] 27)).alloc (.cells #[.slice none 0 0] 27)) from (by repeat (first | assumption | exact Below.refl _ _ | exact below_beyond _ _ | refine Below.beyond ?_ (by (try simp [size_beyond]) <;> omega) _ | refine Below.drew ?_ | refine Go.Rw.below_drewN ?_ _ | refine Go.Rw.below_setRow ?_ (by (try simp [size_beyond]) <;> omega) _ | refine Below.alloc ?_ (by (try simp [size_beyond]) <;> omega) _ | refine Below.setCell ?_ (by (try simp [size_beyond]) <;> omega) _))).trans (hbl.mono (by omega)))
  have HCR := Lib.hid hcR
  clear hown hgr hbl hw0 hcR
  go_wp2
  go_loopw [7, 8] (fun s i wr => ∃ (k r : Nat) (d : List Nat), k ≤ m ∧ i = .int .i64 ((k : Int) - 1) ∧ s = .int .u32 r ∧ r < f ∧ Hid (Mrow (W.heap.size + 1 + 1) m m d wr ∧ hi a k = hi d k * f + r) ∧ Hid (Below (W.heap.size + 1 + 1) w1 wr)) (fun _ i _ => (intOf i + 1).toNat)
  case atStart =>
    refine ⟨m, 0, _, Nat.le_refl _, rfl, rfl, hf0, Lib.hid ⟨HR0.out, ?_⟩, Lib.hid (Below.refl _ _)⟩
    have e1 : hi a m = 0 := by rw [← HM.out]; exact hi_end a
    have e2 : hi (List.replicate m 0) m = 0 := by simp [hi, val]
    rw [e1, e2, Nat.zero_mul]
  case round =>
    obtain ⟨k, r, d, hk, rfl, rfl, hr, HR, HB⟩ := hrel
    have hrA := (HB.out.cell (p := ⟨W.heap.size, 0, none⟩) (by show W.heap.size < _; omega)).trans hcA
    by_cases hk0 : 0 < k
    · obtain ⟨k, rfl⟩ : ∃ j, k = j + 1 := ⟨k - 1, by omega⟩
      have ek : (((k + 1 : Nat) : Int) - 1) = (k : Int) := by omega
      rw [ek]
      obtain ⟨p, off, rfl, hpw, hcs⟩ := HA.out.cell (k := k) (by omega)
      have hBW := HB0.out.trans (HB.out.mono (show W.heap.size ≤ W.heap.size + 1 + 1 by omega))
      have hcx := (hBW.cell hpw).trans (hcs k (by omega))
      have hcd := HR.out.1.1.cell (a := k) (by rw [HR.out.1.2.1]; omega)
      have hfd := HR.out.1.1.frozen k
      have hxb : dg a k < 4294967296 := dg_lt HD.out k
      have HC := Lib.hid (fun w => div32_calls r (dg a k) f hr hxb hf w)
      have hqb : (r * B + dg a k) / f < B := div_fit hr hxb
      have hgl : W.heap.size + 1 + 1 < wr.heap.size := HR.out.1.1.lt
      have HE := Lib.hid (div_step (a := a) (q := d) (n := f) (r := r) (i := k) (by rw [HM.out]; omega) (by rw [HR.out.1.2.1]; omega) HR.out.2)
      have hrr : (r * B + dg a k) % f < f := Nat.mod_lt _ hf0
      clear hcs hBW
      generalize dg d k = t at hcd
      generalize (r * B + dg a k) / f = qq at HC HE hqb
      generalize (r * B + dg a k) % f = rr at HC HE hrr
      generalize dg a k = x at hcx HC hxb
      have hkm : (k : Int) < (m : Int) := by omega
      go_wp2_with (go_at_call 66
                   refine (HC.out _).mono ?_
                   rintro e w2 ⟨rfl, y, rfl⟩
                   have hby := below_beyond wr y
                   have hcd2 := (hby.cell (p := ⟨W.heap.size + 1 + 1, k, none⟩) hgl).trans hcd
                   have hfd2 := (hby.frozen (p := ⟨W.heap.size + 1 + 1, k, none⟩) hgl).trans hfd
                   have HMR := Lib.hid (HR.out.1.below hby)
                   have HBy := Lib.hid (HB.out.trans (hby.mono (Nat.le_of_lt hgl)))
                   clear hcd hfd
                   generalize beyond wr y = w2 at hby hcd2 hfd2 HMR HBy ⊢
                   clear hby)
      refine ⟨⟨k, rr, _, by omega, rfl, rfl, hrr, Lib.hid ⟨HMR.out.set (by omega) (by omega) hqb, HE.out⟩, Lib.hid (HBy.out.setCell (Nat.le_refl _) _)⟩, ?_⟩
      show ((k : Int) - 1 + 1).toNat < ((k : Int) + 1).toNat
      omega
    · obtain rfl : k = 0 := by omega
      have HQ := Lib.hid (show val d = n / f ∧ r = n % f from by
        have e := HR.out.2
        rw [hi_all, hi_all, HV.out] at e
        constructor
        · rw [e, Nat.mul_comm, Nat.mul_add_div hf0, Nat.div_eq_of_lt hr, Nat.add_zero]
        · rw [e, Nat.mul_comm, Nat.mul_add_mod, Nat.mod_eq_of_lt hr])
      have hA3 := HR.out.1.1.at_ (c := m) (by rw [HR.out.1.2.1]; exact hms) HR.out.1.2.2.1 (by rw [HR.out.1.2.1]; exact Nat.le_refl _) (by unfold maxLen; omega)
      rw [HR.out.1.2.1] at hA3
      have HA3 := Lib.hid hA3; clear hA3
      have hlr : W.heap.size + 1 < wr.heap.size := Nat.lt_of_lt_of_le (by omega) HB.out.size
      have hcr := (HB.out.block (W.heap.size + 1) (by omega)).trans HCR.out
      have HBW := Lib.hid (HB0.out.trans (HB.out.mono (show W.heap.size ≤ W.heap.size + 1 + 1 by omega)))
      go_wp2_with (go_at_call 52
                   refine (trimmed_callsF HA3.out).mono ?_
                   rw [HQ.out.1]
                   rintro e w2 ⟨v, rfl, hv, hb, hfr⟩
                   have HFR := Lib.hid hfr
                   clear hfr
                   obtain ⟨qq, mm, cc, ds, rfl, hd⟩ := hv.ex
                   have hB2 := Lib.hid (HBW.out.trans (hb.mono HBW.out.size))
                   have hg2 : blockOf w2 (W.heap.size + 1) = some (.cells #[.slice none 0 0] 27 (0, 0)) := (hb.block _ hlr).trans hcr
                   have HVX := Lib.hid hv
                   obtain ⟨hc2, hf2⟩ := cell_of_row hg2
                   clear hd hv hb)
      rw [setCell_row hg2]
      refine bodyPost_ret (results_block2 rfl _ _ (W.heap.size + 1) 27 #[.slice qq mm cc] _ (.int .u32 (r : Int)) rfl rfl (setRow_heap _ _ _ _ _ _ hg2) Tryd.underlying27 rfl nInfo) rfl ?_
      obtain ⟨v, e, h1, h2⟩ := RetN.laid HVX.out hB2.out hg2 (fun _ h => by cases h) (show W.heap.size ≤ W.heap.size + 1 by omega)
      cases e
      exact ⟨_, by rw [← HQ.out.2], h1, h2, fun b hb => by have := HFR.out b hb; injection this with e; rw [← e]; show W.heap.size ≤ W.heap.size + 1 + 1; omega⟩
end Go.Proofs.YtogjobmekjighaaDoor.bn
