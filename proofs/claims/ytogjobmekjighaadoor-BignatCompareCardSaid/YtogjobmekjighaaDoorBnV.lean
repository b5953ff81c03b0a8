/-
  Contracts of bignat: DivMod by one digit.
-/
import Derived.Test.YtogjobmekjighaaDoorBnU
set_option linter.unusedSimpArgs false
set_option linter.unusedVariables false
namespace Go.Proofs.YtogjobmekjighaaDoor.bn
open Go.RowKit Go.Own Go.Bn
set_option maxHeartbeats 4000000
set_option maxRecDepth 100000

theorem _root_.Go.Own.KeptBut.sub {X Y : Nat → Prop} {A B : World} (h : KeptBut X A B) (hX : ∀ b, X b → Y b) : KeptBut Y A B := ⟨h.os, h.tape, h.output, h.size, fun k hk hy => h.block k hk (fun hx => hy (hX k hx))⟩
theorem agg_u32 : ∀ w, (isAgg 68).run Tryd.prog w = .ok false w := fun w => by unfold isAgg; rw [Sem.run_bind, run_underlying Tryd.underlying68 w]; rfl
theorem agg_digits : ∀ w, (isAgg 25).run Tryd.prog w = .ok false w := fun w => by unfold isAgg; rw [Sem.run_bind, run_underlying Tryd.underlying25 w]; rfl
theorem divmod_digit {v v2 : Value} {n n2 : Nat} {W : World} (h : NatAt v n W) (h2 : NatAt v2 n2 W) (h0 : 0 < n2) (hn2 : n2 < B) (hle : n2 ≤ n) :
    Calls Tryd.prog 26 #[v, v2] W (DivR W n n2) := by
  have HZ := Lib.hid (fun w (hb : Below W.heap.size W w) => by have := isZero_calls (h2.below hb); rw [decide_eq_false (by omega)] at this; exact this)
  have HC := Lib.hid (fun w (hb : Below W.heap.size W w) => Cmp_calls (h.below hb) (h2.below hb))
  have hz : decide (cmpV (n : Int) (n2 : Int) < 0) = false := by
    rcases Nat.lt_or_eq_of_le hle with h | rfl
    · rw [cmpV_gt h]; rfl
    · rw [cmpV_eq]; rfl
  generalize cmpV (n : Int) (n2 : Int) = z at HC hz
  have HD := Lib.hid (fun w (hb : Below W.heap.size W w) => divSmall_calls (h.below hb) n2 h0 hn2)
  have hr : (n % n2 : Nat) < 4294967296 := Nat.lt_of_le_of_lt (Nat.le_of_lt (Nat.mod_lt _ h0)) hn2
  have HF := Lib.hid (fun w => from_calls (n % n2) (Nat.lt_trans hr (by decide)) w)
  obtain ⟨q, m, c, rfl⟩ := h.shape
  obtain ⟨q2, m2, c2, ds, rfl, hA, hN, rfl, hDD, hL, hm⟩ := h2.digits (M := 1) (by simpa using hn2)
  obtain rfl : m2 = 1 := by
    rcases Nat.eq_zero_or_pos m2 with h | h
    · obtain rfl : ds = [] := List.eq_nil_of_length_eq_zero (by omega)
      simp [val] at h0
    · omega
  obtain ⟨p, off, rfl, hp, hcs⟩ := hA.cell (k := 0) (by omega)
  have hv : dg ds 0 = val ds := by
    have := valTo_all (ds := ds) 1 (by omega)
    rw [valTo_succ, valTo_zero] at this
    simpa using this
  have hcd := hcs 0 (by omega)
  rw [hv] at hcd
  simp only [Nat.add_zero] at hcd
  have HCD := Lib.hid hcd
  clear h h2 hA hN hDD hL hm hcs hv hcd h0 hn2 hle
  generalize val ds = b at *
  generalize hrr : n % b = r at *
  have HM := Lib.hid hrr; clear hrr
  generalize hqq : n / b = qq at HD
  have HE := Lib.hid hqq; clear hqq
  go_enter Tryd.func26, Tryd.ntmps26
  go_wp2_with (fail)
  go_at_call 21
  have h4 := four_blocks W (.slice q m c) (.slice (some ⟨p, off, none⟩) 1 c2) (.slice none 0 0) (.slice none 0 0)
  have hB0 : Below W.heap.size W ((((W.alloc (.cells #[.slice q m c] 27)).alloc (.cells #[.slice (some ⟨p, off, none⟩) 1 c2] 27)).alloc (.cells #[.slice none 0 0] 27)).alloc (.cells #[.slice none 0 0] 27)) := (by repeat (first | assumption | exact Below.refl _ _ | exact below_beyond _ _ | refine Below.beyond ?_ (by (try simp [size_beyond]) <;> omega) _ | refine Below.drew ?_ | refine Go.Rw.below_drewN ?_ _ | refine Go.Rw.below_setRow ?_ (by (try simp [size_beyond]) <;> omega) _ | refine Below.alloc ?_ (by (try simp [size_beyond]) <;> omega) _ | refine Below.setCell ?_ (by (try simp [size_beyond]) <;> omega) _))
  refine (HZ.out _ hB0).mono ?_
  generalize ((((W.alloc (.cells #[.slice q m c] 27)).alloc (.cells #[.slice (some ⟨p, off, none⟩) 1 c2] 27)).alloc (.cells #[.slice none 0 0] 27)).alloc (.cells #[.slice none 0 0] 27)) = w0 at h4 hB0 ⊢
  rintro e w1 ⟨rfl, hb⟩
  have hB1 := Lib.hid (below_step hb hB0)
  have H1 := Lib.hid (h4.1.below hb)
  have H2 := Lib.hid (h4.2.1.below hb)
  have H3 := Lib.hid (h4.2.2.1.below hb)
  have H4 := Lib.hid (h4.2.2.2.below hb)
  obtain ⟨hx1, hf1⟩ := H1.out.cell
  obtain ⟨hx2, hf2⟩ := H2.out.cell
  clear h4 hb hB0
  go_wp2_with (fail)
  go_at_call 39
  refine (HC.out _ hB1.out).mono ?_
  rintro e w2 ⟨rfl, hb⟩
  have hB2 := Lib.hid (below_step hb hB1.out)
  have J1 := Lib.hid (H1.out.below hb)
  have J2 := Lib.hid (H2.out.below hb)
  have J3 := Lib.hid (H3.out.below hb)
  have J4 := Lib.hid (H4.out.below hb)
  clear hx1 hx2 hf1 hf2 hb H1 H2 H3 H4
  obtain ⟨hx1, hf1⟩ := J1.out.cell
  obtain ⟨hx2, hf2⟩ := J2.out.cell
  go_wp2
  have hcd : ∀ w', Below w2.heap.size w2 w' → w'.cell? ⟨p, off, none⟩ = some (.int .u32 (b : Int)) := fun w' hw' => ((hB2.out.trans (hw'.mono hB2.out.size)).cell hp).trans HCD.out
  refine wp_region_tree (Below w2.heap.size w2) (.two [0, 1, 2, 3, 4] 5 (.one [6, 7, 8] 9 (.one [] 10 (.last [11]))) 9 (.one [] 5 (.one [6, 7, 8] 10 (.last [11])))) (by kernel_rfl) (by kernel_rfl) (by intro _ _ d _ _ h; cases d <;> exact h) (by repeat (first | assumption | exact Below.refl _ _ | exact below_beyond _ _ | refine Below.beyond ?_ (by (try simp [size_beyond]) <;> omega) _ | refine Below.drew ?_ | refine Go.Rw.below_drewN ?_ _ | refine Go.Rw.below_setRow ?_ (by (try simp [size_beyond]) <;> omega) _ | refine Below.alloc ?_ (by (try simp [size_beyond]) <;> omega) _ | refine Below.setCell ?_ (by (try simp [size_beyond]) <;> omega) _)) ?_
  simp only [wpPT, pick, List.filterMap, List.size_toArray, List.getElem?_toArray, List.getElem?_cons_zero, List.getElem?_cons_succ]
  refine wpQuiet_load_row (by kernel_rfl) 27 (.tmp 2) rfl W.heap.size #[.slice q m c] 27 _ rfl (fun w hw => (J1.out.below hw).blk) Tryd.underlying27 rfl nInfo ?_
  simp only [Act.put, List.setIfInBounds_toArray, List.set_cons_succ, List.set_cons_zero]
  go_big_quiet_step (exact fun _ => rfl)
  refine wpQuiet_load_one (by kernel_rfl) 25 (.tmp 34) rfl ⟨W.heap.size + 1, 0, none⟩ (.slice (some ⟨p, off, none⟩) 1 c2) rfl (fun w hw => (J2.out.below hw).cell.1) agg_digits ?_
  simp only [Act.put, List.setIfInBounds_toArray, List.set_cons_succ, List.set_cons_zero]
  go_big_quiet_step (exact fun _ => rfl)
  refine wpQuiet_load_one (by kernel_rfl) 68 (.tmp 36) rfl ⟨p, off, none⟩ (.int .u32 (b : Int)) rfl hcd agg_u32 ?_
  simp only [Act.put, List.setIfInBounds_toArray, List.set_cons_succ, List.set_cons_zero]
  refine wpQuiet_nil ⟨?_, ?_⟩
  · have hb0 : Below w2.heap.size w2 w2.drew := (by repeat (first | assumption | exact Below.refl _ _ | exact below_beyond _ _ | refine Below.beyond ?_ (by (try simp [size_beyond]) <;> omega) _ | refine Below.drew ?_ | refine Go.Rw.below_drewN ?_ _ | refine Go.Rw.below_setRow ?_ (by (try simp [size_beyond]) <;> omega) _ | refine Below.alloc ?_ (by (try simp [size_beyond]) <;> omega) _ | refine Below.setCell ?_ (by (try simp [size_beyond]) <;> omega) _))
    go_wp2_with (go_at_call 48; refine (HD.out _ (below_step hb0 hB2.out)).mono ?_; rintro e w3 ⟨v, rfl, hv, hb, -⟩)
    have hb3 := Lib.hid (below_step hb hb0)
    obtain ⟨q5, m5, c5, rfl⟩ := hv.shape
    have HV3 := Lib.hid hv
    clear hb hv hb0 hx1 hx2 hf1 hf2
    refine And.intro hb3.out ?_
    go_big_quiet_step (exact fun _ => rfl)
    go_big_quiet_step (exact fun _ => rfl)
    go_big_quiet_step (exact fun _ => rfl)
    refine wpQuiet_nil ?_
    go_wp2
    have ha : Below w3.heap.size w3 (w3.alloc (Obj.cells #[Value.slice none 0 0] 27)) := (by repeat (first | assumption | exact Below.refl _ _ | exact below_beyond _ _ | refine Below.beyond ?_ (by (try simp [size_beyond]) <;> omega) _ | refine Below.drew ?_ | refine Go.Rw.below_drewN ?_ _ | refine Go.Rw.below_setRow ?_ (by (try simp [size_beyond]) <;> omega) _ | refine Below.alloc ?_ (by (try simp [size_beyond]) <;> omega) _ | refine Below.setCell ?_ (by (try simp [size_beyond]) <;> omega) _))
    have HG := Lib.hid (NB.new w3 (.slice none 0 0))
    have hb4 := Lib.hid (below_step ha hb3.out)
    refine And.intro hb4.out ?_
    refine wpQuiet_nil ?_
    go_wp2
    have hba : Below w3.heap.size w3 (w3.alloc (Obj.cells #[Value.slice q5 m5 c5] 27)) := (by repeat (first | assumption | exact Below.refl _ _ | exact below_beyond _ _ | refine Below.beyond ?_ (by (try simp [size_beyond]) <;> omega) _ | refine Below.drew ?_ | refine Go.Rw.below_drewN ?_ _ | refine Go.Rw.below_setRow ?_ (by (try simp [size_beyond]) <;> omega) _ | refine Below.alloc ?_ (by (try simp [size_beyond]) <;> omega) _ | refine Below.setCell ?_ (by (try simp [size_beyond]) <;> omega) _))
    have HG2 := Lib.hid (NB.new w3 (.slice q5 m5 c5))
    have HV4 := Lib.hid (HV3.out.below hba)
    have hb5 := Lib.hid (below_step hba hb3.out)
    have hg := Lib.hid (show w2.heap.size ≤ w3.heap.size from hb3.out.size)
    clear hba ha HG hb4 HV3 hb3
    generalize w3.alloc (Obj.cells #[Value.slice q5 m5 c5] 27) = w4 at HG2 HV4 hb5 ⊢
    generalize w3.heap.size = g at HG2 hg ⊢
    refine And.intro hb5.out ?_
    go_big_quiet_step (exact fun _ => rfl)
    refine wpQuiet_nil ?_
    go_wp2
    have hr2 : (r : Int) ≤ 4294967295 := by omega
    have hkd : KeptBut (fun b => b = W.heap.size + 1 + 1 ∨ b = W.heap.size + 1 + 1 + 1) w4 w4.drew := KeptBut.of_below (by repeat (first | assumption | exact Below.refl _ _ | exact below_beyond _ _ | refine Below.beyond ?_ (by (try simp [size_beyond]) <;> omega) _ | refine Below.drew ?_ | refine Go.Rw.below_drewN ?_ _ | refine Go.Rw.below_setRow ?_ (by (try simp [size_beyond]) <;> omega) _ | refine Below.alloc ?_ (by (try simp [size_beyond]) <;> omega) _ | refine Below.setCell ?_ (by (try simp [size_beyond]) <;> omega) _))
    refine wp_region_plan (KeptBut (fun b => b = W.heap.size + 1 + 1 ∨ b = W.heap.size + 1 + 1 + 1) w4) [([0, 1, 2], 3), ([], 4), ([], 5)] [6] (by kernel_rfl) (by kernel_rfl) (by intro _ _ d _ _ h; cases d <;> exact h) hkd ?_
    simp only [wpSegs, pick, List.filterMap, List.size_toArray, List.getElem?_toArray, List.getElem?_cons_zero, List.getElem?_cons_succ]
    have hJ3 := J3.out.lt
    have hJ4 := J4.out.lt
    have hgW := hg.out
    refine wpQuiet_load_row (by kernel_rfl) 27 (.tmp 7) rfl g #[.slice q5 m5 c5] 27 _ rfl (fun w hw => (HG2.out.kept hw (by omega)).blk) Tryd.underlying27 rfl nInfo ?_
    simp only [Act.put, List.setIfInBounds_toArray, List.set_cons_succ, List.set_cons_zero]
    go_big_quiet_step (exact fun _ => rfl)
    go_big_quiet_step (exact fun _ => rfl)
    refine wpQuiet_nil ?_
    have hd4 : Below w4.heap.size w4 w4.drew := (by repeat (first | assumption | exact Below.refl _ _ | exact below_beyond _ _ | refine Below.beyond ?_ (by (try simp [size_beyond]) <;> omega) _ | refine Below.drew ?_ | refine Go.Rw.below_drewN ?_ _ | refine Go.Rw.below_setRow ?_ (by (try simp [size_beyond]) <;> omega) _ | refine Below.alloc ?_ (by (try simp [size_beyond]) <;> omega) _ | refine Below.setCell ?_ (by (try simp [size_beyond]) <;> omega) _))
    go_wp2_with (go_at_call 42; refine (HF.out _).mono ?_; rintro e w5 ⟨v, rfl, hv, hb⟩)
    obtain ⟨q6, m6, c6, rfl⟩ := hv.shape
    have hb45 := below_step hb hd4
    have HV6 := Lib.hid hv
    have HV5 := Lib.hid (HV4.out.below hb45)
    have K3 := Lib.hid ((J3.out.below hb5.out).below hb45)
    have K4 := Lib.hid ((J4.out.below hb5.out).below hb45)
    have hB5 := Lib.hid (below_step hb45 (below_step hb5.out hB2.out))
    have hk5 := KeptBut.of_below (X := fun b => b = W.heap.size + 1 + 1 ∨ b = W.heap.size + 1 + 1 + 1) hb45
    clear hb45 hv hb hd4 hkd hgW
    obtain ⟨hx3, hf3⟩ := K3.out.cell
    refine And.intro hk5 (wpQuiet_nil ?_)
    go_wp2
    obtain ⟨w6, hw6, L3, hB6, hN6, hk6⟩ := laid1 hB5.out K3.out (by omega) q5 m5 c5
    rw [hw6]
    have K4' := Lib.hid (K4.out.kept hk6 (by omega))
    have hk56 := hk5.trans (hk6.sub (fun b h => Or.inl h))
    have L3' := Lib.hid L3
    have HN6 := Lib.hid (And.intro (hN6 _ _ HV5.out) (hN6 _ _ HV6.out))
    have hB6' := Lib.hid hB6
    clear hx3 hf3 hw6 L3 hB6 hN6 hk5 hk6
    obtain ⟨hx4, hf4⟩ := K4'.out.cell
    refine And.intro hk56 (wpQuiet_nil ?_)
    go_wp2
    obtain ⟨w7, hw7, L4, hB7, hN7, hk7⟩ := laid1 hB6'.out K4'.out (by omega) q6 m6 c6
    rw [hw7]
    have hk67 := hk56.trans (hk7.sub (fun b h => Or.inr h))
    have L3'' := Lib.hid (L3'.out.kept hk7 (by omega))
    have L4' := Lib.hid L4
    have HR := Lib.hid (show DivR W n b (.returned (.tuple #[.agg #[.slice q5 m5 c5], .agg #[.slice q6 m6 c6], .int .i64 0])) w7 from ⟨_, _, rfl, by rw [HE.out]; exact hN7 _ _ HN6.out.1, by rw [HM.out]; exact hN7 _ _ HN6.out.2, hB7⟩)
    clear hx4 hf4 hw7 L4 hB7 hN7 hk7 hk56
    refine And.intro hk67 ?_
    go_big_quiet_step (exact fun _ => rfl)
    refine wpQuiet_nil ?_
    go_wp2
    exact bodyPost_ret (results_block3 rfl _ _ (W.heap.size + 1 + 1) (W.heap.size + 1 + 1 + 1) 27 27 #[.slice q5 m5 c5] #[.slice q6 m6 c6] _ (.int .i64 0) rfl rfl rfl L3''.out.blk L4'.out.blk Tryd.underlying27 rfl nInfo nInfo) rfl HR.out
  · have hb0 : Below w2.heap.size w2 (w2.alloc (Obj.cells #[Value.slice none 0 0] 27)).drew := (by repeat (first | assumption | exact Below.refl _ _ | exact below_beyond _ _ | refine Below.beyond ?_ (by (try simp [size_beyond]) <;> omega) _ | refine Below.drew ?_ | refine Go.Rw.below_drewN ?_ _ | refine Go.Rw.below_setRow ?_ (by (try simp [size_beyond]) <;> omega) _ | refine Below.alloc ?_ (by (try simp [size_beyond]) <;> omega) _ | refine Below.setCell ?_ (by (try simp [size_beyond]) <;> omega) _))
    have HG0 := Lib.hid (show NB w2.heap.size (.slice none 0 0) (w2.alloc (Obj.cells #[Value.slice none 0 0] 27)).drew from (NB.new w2 (.slice none 0 0)).below (by repeat (first | assumption | exact Below.refl _ _ | exact below_beyond _ _ | refine Below.beyond ?_ (by (try simp [size_beyond]) <;> omega) _ | refine Below.drew ?_ | refine Go.Rw.below_drewN ?_ _ | refine Go.Rw.below_setRow ?_ (by (try simp [size_beyond]) <;> omega) _ | refine Below.alloc ?_ (by (try simp [size_beyond]) <;> omega) _ | refine Below.setCell ?_ (by (try simp [size_beyond]) <;> omega) _)))
    go_wp2
    refine And.intro hb0 (wpQuiet_nil ?_)
    go_wp2_with (go_at_call 48; refine (HD.out _ (below_step hb0 hB2.out)).mono ?_; rintro e w3 ⟨v, rfl, hv, hb, -⟩)
    have hb3 := Lib.hid (below_step hb hb0)
    obtain ⟨q5, m5, c5, rfl⟩ := hv.shape
    have HV3 := Lib.hid hv
    have HG1 := Lib.hid (HG0.out.below hb)
    clear hb hv hb0 hx1 hx2 hf1 hf2 HG0
    obtain ⟨hx1, hf1⟩ := HG1.out.cell
    refine And.intro hb3.out ?_
    go_big_quiet_step (exact fun _ => rfl)
    go_big_quiet_step (exact fun _ => rfl)
    go_big_quiet_step (exact fun _ => rfl)
    refine wpQuiet_nil ?_
    go_wp2
    clear hx1 hf1
    obtain ⟨w4, hw4, HG2', hb5', HV4', hk4⟩ := laid1 hb3.out HG1.out (Nat.le_refl _) q5 m5 c5
    rw [hw4]
    have HG2 := Lib.hid HG2'
    have HV4 := Lib.hid (HV4' _ _ HV3.out)
    have hb5 := Lib.hid hb5'
    have hg := Lib.hid (Nat.le_refl w2.heap.size)
    clear hw4 HG2' hb5' HV4' hk4 HV3 hb3 HG1
    refine And.intro hb5.out ?_
    go_big_quiet_step (exact fun _ => rfl)
    refine wpQuiet_nil ?_
    go_wp2
    have hr2 : (r : Int) ≤ 4294967295 := by omega
    have hkd : KeptBut (fun b => b = W.heap.size + 1 + 1 ∨ b = W.heap.size + 1 + 1 + 1) w4 w4.drew := KeptBut.of_below (by repeat (first | assumption | exact Below.refl _ _ | exact below_beyond _ _ | refine Below.beyond ?_ (by (try simp [size_beyond]) <;> omega) _ | refine Below.drew ?_ | refine Go.Rw.below_drewN ?_ _ | refine Go.Rw.below_setRow ?_ (by (try simp [size_beyond]) <;> omega) _ | refine Below.alloc ?_ (by (try simp [size_beyond]) <;> omega) _ | refine Below.setCell ?_ (by (try simp [size_beyond]) <;> omega) _))
    refine wp_region_plan (KeptBut (fun b => b = W.heap.size + 1 + 1 ∨ b = W.heap.size + 1 + 1 + 1) w4) [([0, 1, 2], 3), ([], 4), ([], 5)] [6] (by kernel_rfl) (by kernel_rfl) (by intro _ _ d _ _ h; cases d <;> exact h) hkd ?_
    simp only [wpSegs, pick, List.filterMap, List.size_toArray, List.getElem?_toArray, List.getElem?_cons_zero, List.getElem?_cons_succ]
    have hJ3 := J3.out.lt
    have hJ4 := J4.out.lt
    have hgW := hg.out
    refine wpQuiet_load_row (by kernel_rfl) 27 (.tmp 7) rfl w2.heap.size #[.slice q5 m5 c5] 27 _ rfl (fun w hw => (HG2.out.kept hw (by omega)).blk) Tryd.underlying27 rfl nInfo ?_
    simp only [Act.put, List.setIfInBounds_toArray, List.set_cons_succ, List.set_cons_zero]
    go_big_quiet_step (exact fun _ => rfl)
    go_big_quiet_step (exact fun _ => rfl)
    refine wpQuiet_nil ?_
    have hd4 : Below w4.heap.size w4 w4.drew := (by repeat (first | assumption | exact Below.refl _ _ | exact below_beyond _ _ | refine Below.beyond ?_ (by (try simp [size_beyond]) <;> omega) _ | refine Below.drew ?_ | refine Go.Rw.below_drewN ?_ _ | refine Go.Rw.below_setRow ?_ (by (try simp [size_beyond]) <;> omega) _ | refine Below.alloc ?_ (by (try simp [size_beyond]) <;> omega) _ | refine Below.setCell ?_ (by (try simp [size_beyond]) <;> omega) _))
    go_wp2_with (go_at_call 42; refine (HF.out _).mono ?_; rintro e w5 ⟨v, rfl, hv, hb⟩)
    obtain ⟨q6, m6, c6, rfl⟩ := hv.shape
    have hb45 := below_step hb hd4
    have HV6 := Lib.hid hv
    have HV5 := Lib.hid (HV4.out.below hb45)
    have K3 := Lib.hid ((J3.out.below hb5.out).below hb45)
    have K4 := Lib.hid ((J4.out.below hb5.out).below hb45)
    have hB5 := Lib.hid (below_step hb45 (below_step hb5.out hB2.out))
    have hk5 := KeptBut.of_below (X := fun b => b = W.heap.size + 1 + 1 ∨ b = W.heap.size + 1 + 1 + 1) hb45
    clear hb45 hv hb hd4 hkd hgW
    obtain ⟨hx3, hf3⟩ := K3.out.cell
    refine And.intro hk5 (wpQuiet_nil ?_)
    go_wp2
    obtain ⟨w6, hw6, L3, hB6, hN6, hk6⟩ := laid1 hB5.out K3.out (by omega) q5 m5 c5
    rw [hw6]
    have K4' := Lib.hid (K4.out.kept hk6 (by omega))
    have hk56 := hk5.trans (hk6.sub (fun b h => Or.inl h))
    have L3' := Lib.hid L3
    have HN6 := Lib.hid (And.intro (hN6 _ _ HV5.out) (hN6 _ _ HV6.out))
    have hB6' := Lib.hid hB6
    clear hx3 hf3 hw6 L3 hB6 hN6 hk5 hk6
    obtain ⟨hx4, hf4⟩ := K4'.out.cell
    refine And.intro hk56 (wpQuiet_nil ?_)
    go_wp2
    obtain ⟨w7, hw7, L4, hB7, hN7, hk7⟩ := laid1 hB6'.out K4'.out (by omega) q6 m6 c6
    rw [hw7]
    have hk67 := hk56.trans (hk7.sub (fun b h => Or.inr h))
    have L3'' := Lib.hid (L3'.out.kept hk7 (by omega))
    have L4' := Lib.hid L4
    have HR := Lib.hid (show DivR W n b (.returned (.tuple #[.agg #[.slice q5 m5 c5], .agg #[.slice q6 m6 c6], .int .i64 0])) w7 from ⟨_, _, rfl, by rw [HE.out]; exact hN7 _ _ HN6.out.1, by rw [HM.out]; exact hN7 _ _ HN6.out.2, hB7⟩)
    clear hx4 hf4 hw7 L4 hB7 hN7 hk7 hk56
    refine And.intro hk67 ?_
    go_big_quiet_step (exact fun _ => rfl)
    refine wpQuiet_nil ?_
    go_wp2
    exact bodyPost_ret (results_block3 rfl _ _ (W.heap.size + 1 + 1) (W.heap.size + 1 + 1 + 1) 27 27 #[.slice q5 m5 c5] #[.slice q6 m6 c6] _ (.int .i64 0) rfl rfl rfl L3''.out.blk L4'.out.blk Tryd.underlying27 rfl nInfo nInfo) rfl HR.out
end Go.Proofs.YtogjobmekjighaaDoor.bn
