/-
  Contracts of bignat: GCD.
-/
import Derived.Test.YtogjobmekjighaaDoorBnV
import Derived.Deep.LoopGhost
set_option linter.unusedSimpArgs false
set_option linter.unusedVariables false
namespace Go.Proofs.YtogjobmekjighaaDoor.bn
open Go.RowKit Go.Own Go.Bn
set_option maxHeartbeats 4000000
set_option maxRecDepth 100000

/-- DivMod does well on these pairs, and on all that come of them -/
structure DivOk (Pd : Nat → Nat → Prop) : Prop where
  calls : ∀ {n n2 : Nat}, Pd n n2 → n2 ≠ 0 → ∀ {W : World} {v v2 : Value}, NatAt v n W → NatAt v2 n2 W → Calls Tryd.prog 26 #[v, v2] W (DivR W n n2)
  next : ∀ {n n2 : Nat}, Pd n n2 → n2 ≠ 0 → Pd n2 (n % n2)
theorem divOk_digit : DivOk (fun _ n2 => n2 < B) := by
  refine ⟨fun {n n2} h h0 {W v v2} h1 h2 => ?_, fun {n n2} h h0 => Nat.lt_trans (Nat.mod_lt _ (by omega)) h⟩
  rcases Nat.lt_or_ge n n2 with hl | hl
  · exact divmod_less h1 h2 hl
  · exact divmod_digit h1 h2 (by omega) h hl
theorem gcd_calls {Pd : Nat → Nat → Prop} (hP : DivOk Pd) {v v2 : Value} {n n2 : Nat} {W : World} (h : NatAt v n W) (h2 : NatAt v2 n2 W) (hp : Pd n n2) :
    Calls Tryd.prog 27 #[v, v2] W (RetN W (Nat.gcd n n2)) := by
  obtain ⟨q, m, c, rfl⟩ := h.shape
  obtain ⟨q2, m2, c2, rfl⟩ := h2.shape
  have HN := Lib.hid (And.intro h (And.intro h2 hp))
  clear h h2 hp
  have h3 := three_allocs W (.cells #[.slice q m c] 27) (.cells #[.slice q2 m2 c2] 27) (.cells #[.slice none 0 0] 27)
  have hB0 : Below W.heap.size W (((W.alloc (.cells #[.slice q m c] 27)).alloc (.cells #[.slice q2 m2 c2] 27)).alloc (.cells #[.slice none 0 0] 27)) := (by repeat (first | assumption | exact Below.refl _ _ | exact below_beyond _ _ | refine Below.beyond ?_ (by (try simp [size_beyond]) <;> omega) _ | refine Below.drew ?_ | refine Go.Rw.below_drewN ?_ _ | refine Go.Rw.below_setRow ?_ (by (try simp [size_beyond]) <;> omega) _ | refine Below.alloc ?_ (by (try simp [size_beyond]) <;> omega) _ | refine Below.setCell ?_ (by (try simp [size_beyond]) <;> omega) _))
  go_enter Tryd.func27, Tryd.ntmps27
  go_wp2
  have HI := Lib.hid (show Below W.heap.size W (((W.alloc (.cells #[.slice q m c] 27)).alloc (.cells #[.slice q2 m2 c2] 27)).alloc (.cells #[.slice none 0 0] 27)) ∧ NB (W.heap.size + 1 + 1) (.slice none 0 0) (((W.alloc (.cells #[.slice q m c] 27)).alloc (.cells #[.slice q2 m2 c2] 27)).alloc (.cells #[.slice none 0 0] 27)) ∧
    NB W.heap.size (.slice q m c) (((W.alloc (.cells #[.slice q m c] 27)).alloc (.cells #[.slice q2 m2 c2] 27)).alloc (.cells #[.slice none 0 0] 27)) ∧ NB (W.heap.size + 1) (.slice q2 m2 c2) (((W.alloc (.cells #[.slice q m c] 27)).alloc (.cells #[.slice q2 m2 c2] 27)).alloc (.cells #[.slice none 0 0] 27)) ∧
    NatAt (.agg #[.slice q m c]) n (((W.alloc (.cells #[.slice q m c] 27)).alloc (.cells #[.slice q2 m2 c2] 27)).alloc (.cells #[.slice none 0 0] 27)) ∧ NatAt (.agg #[.slice q2 m2 c2]) n2 (((W.alloc (.cells #[.slice q m c] 27)).alloc (.cells #[.slice q2 m2 c2] 27)).alloc (.cells #[.slice none 0 0] 27)) from
    ⟨hB0, ⟨h3.2.2.2⟩, ⟨h3.2.1⟩, ⟨h3.2.2.1⟩, HN.out.1.below hB0, HN.out.2.1.below hB0⟩)
  clear h3 hB0
  go_loopg [10] n2 (fun k _ wr => ∃ (a : Nat) (q m c q2 m2 c2 : _), Hid (Below W.heap.size W wr ∧ NB (W.heap.size + 1 + 1) (.slice none 0 0) wr ∧ NB W.heap.size (.slice q m c) wr ∧ NB (W.heap.size + 1) (.slice q2 m2 c2) wr ∧ NatAt (.agg #[.slice q m c]) a wr ∧ NatAt (.agg #[.slice q2 m2 c2]) k wr ∧ Pd a k ∧ Nat.gcd a k = Nat.gcd n n2))
  case atStart => exact ⟨n, q, m, c, q2, m2, c2, Lib.hid ⟨HI.out.1, HI.out.2.1, HI.out.2.2.1, HI.out.2.2.2.1, HI.out.2.2.2.2.1, HI.out.2.2.2.2.2, HN.out.2.2, rfl⟩⟩
  case round =>
    clear HI
    obtain ⟨a, q, m, c, q2, m2, c2, HR⟩ := hrel
    have H1 := Lib.hid HR.out.2.2.1
    have H2 := Lib.hid HR.out.2.2.2.1
    obtain ⟨hx1, hf1⟩ := H1.out.cell
    obtain ⟨hx2, hf2⟩ := H2.out.cell
    have HZ := Lib.hid (isZero_calls HR.out.2.2.2.2.2.1)
    by_cases hk : gk = 0
    · have HZ2 := Lib.hid (by have := HZ.out; rw [decide_eq_true hk] at this; exact this)
      clear HZ
      go_wp2_with (fail)
      go_at_call 21
      refine HZ2.out.mono ?_
      rintro e w1 ⟨rfl, hb⟩
      have J1 := Lib.hid (H1.out.below hb)
      have J3 := Lib.hid (HR.out.2.1.below hb)
      have JB := Lib.hid (below_step hb HR.out.1)
      have hgcd : a = Nat.gcd n n2 := by have := HR.out.2.2.2.2.2.2.2; rw [hk, Nat.gcd_zero_right] at this; exact this
      have HC := Lib.hid (by have := clone_calls (HR.out.2.2.2.2.1.below hb); rw [hgcd] at this; exact this)
      clear hx1 hf1 hx2 hf2 hb hgcd hk
      obtain ⟨hx1, hf1⟩ := J1.out.cell
      go_wp2_with (fail)
      go_at_call 53
      refine HC.out.mono ?_
      rintro e w2 ⟨v, rfl, hv, hb⟩
      obtain ⟨q5, m5, c5, rfl⟩ := hv.shape
      have K3 := Lib.hid (J3.out.below hb)
      have KB := Lib.hid (below_step hb JB.out)
      have HV := Lib.hid hv
      clear hx1 hf1 hb hv
      obtain ⟨hx3, hf3⟩ := K3.out.cell
      go_wp2
      obtain ⟨w', hw, L1, L2, L3, L4⟩ := laid1 KB.out K3.out (by omega) q5 m5 c5
      rw [hw]
      exact bodyPost_ret (results_block rfl _ _ (W.heap.size + 1 + 1) 27 #[.slice q5 m5 c5] _ rfl L1.blk Tryd.underlying27 rfl nInfo) rfl ⟨_, rfl, L3 _ _ HV.out, L2⟩
    · have HZ2 := Lib.hid (by have := HZ.out; rw [decide_eq_false hk] at this; exact this)
      have HK := Lib.hid (And.intro (Nat.mod_lt a (Nat.pos_of_ne_zero hk)) (And.intro (hP.next HR.out.2.2.2.2.2.2.1 hk) (show Nat.gcd gk (a % gk) = Nat.gcd n n2 by rw [← HR.out.2.2.2.2.2.2.2, Nat.gcd_comm a gk, Nat.gcd_rec gk a, Nat.gcd_comm])))
      have HDM := Lib.hid (fun w (hb : Below wr.heap.size wr w) => hP.calls HR.out.2.2.2.2.2.2.1 hk (HR.out.2.2.2.2.1.below hb) (HR.out.2.2.2.2.2.1.below hb))
      clear HZ hk
      go_wp2_with (fail)
      go_at_call 21
      refine HZ2.out.mono ?_
      rintro e w1 ⟨rfl, hb⟩
      have J1 := Lib.hid (H1.out.below hb)
      have J2 := Lib.hid (H2.out.below hb)
      have J3 := Lib.hid (HR.out.2.1.below hb)
      have JB := Lib.hid (below_step hb HR.out.1)
      have JW := Lib.hid hb
      have JN := Lib.hid (HR.out.2.2.2.2.2.1.below hb)
      clear hx1 hf1 hx2 hf2 hb
      obtain ⟨hx1, hf1⟩ := J1.out.cell
      obtain ⟨hx2, hf2⟩ := J2.out.cell
      go_wp2_with (fail)
      go_at_call 26
      refine (HDM.out _ JW.out).mono ?_
      rintro e w2 ⟨v, v2, rfl, hv, hv2, hb⟩
      obtain ⟨q5, m5, c5, rfl⟩ := hv.shape
      obtain ⟨q6, m6, c6, rfl⟩ := hv2.shape
      have hba : Below w2.heap.size w2 ((w2.alloc (Obj.cells #[Value.slice q5 m5 c5] 27)).alloc (Obj.cells #[Value.slice q6 m6 c6] 27)) := (by repeat (first | assumption | exact Below.refl _ _ | exact below_beyond _ _ | refine Below.beyond ?_ (by (try simp [size_beyond]) <;> omega) _ | refine Below.drew ?_ | refine Go.Rw.below_drewN ?_ _ | refine Go.Rw.below_setRow ?_ (by (try simp [size_beyond]) <;> omega) _ | refine Below.alloc ?_ (by (try simp [size_beyond]) <;> omega) _ | refine Below.setCell ?_ (by (try simp [size_beyond]) <;> omega) _))
      have K1 := Lib.hid ((J1.out.below hb).below hba)
      have K2 := Lib.hid ((J2.out.below hb).below hba)
      have K3 := Lib.hid ((J3.out.below hb).below hba)
      have KB := Lib.hid (below_step hba (below_step hb JB.out))
      have KN := Lib.hid ((JN.out.below hb).below hba)
      have HV := Lib.hid (hv2.below hba)
      have HG6 := Lib.hid (show NB (w2.heap.size + 1) (.slice q6 m6 c6) ((w2.alloc (Obj.cells #[Value.slice q5 m5 c5] 27)).alloc (Obj.cells #[Value.slice q6 m6 c6] 27)) from ⟨(two_allocs w2 _ _).2.2⟩)
      have hgs : W.heap.size + 1 < w2.heap.size + 1 := Nat.lt_of_lt_of_le HR.out.2.2.2.1.lt (Nat.le_trans (Nat.le_trans JW.out.size hb.size) (Nat.le_succ _))
      clear hx1 hf1 hx2 hf2 hb hv hv2 hba J1 J2 J3 JB JN JW H1 H2
      go_wp2
      generalize (w2.alloc (Obj.cells #[Value.slice q5 m5 c5] 27)).alloc (Obj.cells #[Value.slice q6 m6 c6] 27) = w4 at K1 K2 K3 KB KN HV HG6 ⊢
      generalize w2.heap.size + 1 = g6 at HG6 hgs ⊢
      obtain ⟨hx1, hf1⟩ := K1.out.cell
      obtain ⟨hx2, hf2⟩ := K2.out.cell
      obtain ⟨hx6, hf6⟩ := HG6.out.cell
      have hne : ¬ g6 = W.heap.size := by omega
      have hne2 : ¬ g6 = W.heap.size + 1 := by omega
      go_region
      obtain ⟨w', hw, L1, L2, L3, L4⟩ := laid2 KB.out K1.out K2.out (by omega) (by omega) (by omega) q2 q6 m2 c2 m6 c6
      rw [hw]
      have M3 := Lib.hid (K3.out)
      have HR2 := Lib.hid (show Below W.heap.size W w'.drew ∧ NB (W.heap.size + 1 + 1) (.slice none 0 0) w'.drew ∧ NB W.heap.size (.slice q2 m2 c2) w'.drew ∧ NB (W.heap.size + 1) (.slice q6 m6 c6) w'.drew ∧ NatAt (.agg #[.slice q2 m2 c2]) gk w'.drew ∧ NatAt (.agg #[.slice q6 m6 c6]) (a % gk) w'.drew from ⟨L3.drew, ?_, L1.below (by repeat (first | assumption | exact Below.refl _ _ | exact below_beyond _ _ | refine Below.beyond ?_ (by (try simp [size_beyond]) <;> omega) _ | refine Below.drew ?_ | refine Go.Rw.below_drewN ?_ _ | refine Go.Rw.below_setRow ?_ (by (try simp [size_beyond]) <;> omega) _ | refine Below.alloc ?_ (by (try simp [size_beyond]) <;> omega) _ | refine Below.setCell ?_ (by (try simp [size_beyond]) <;> omega) _)), L2.below (by repeat (first | assumption | exact Below.refl _ _ | exact below_beyond _ _ | refine Below.beyond ?_ (by (try simp [size_beyond]) <;> omega) _ | refine Below.drew ?_ | refine Go.Rw.below_drewN ?_ _ | refine Go.Rw.below_setRow ?_ (by (try simp [size_beyond]) <;> omega) _ | refine Below.alloc ?_ (by (try simp [size_beyond]) <;> omega) _ | refine Below.setCell ?_ (by (try simp [size_beyond]) <;> omega) _)), (L4 _ _ KN.out).below (by repeat (first | assumption | exact Below.refl _ _ | exact below_beyond _ _ | refine Below.beyond ?_ (by (try simp [size_beyond]) <;> omega) _ | refine Below.drew ?_ | refine Go.Rw.below_drewN ?_ _ | refine Go.Rw.below_setRow ?_ (by (try simp [size_beyond]) <;> omega) _ | refine Below.alloc ?_ (by (try simp [size_beyond]) <;> omega) _ | refine Below.setCell ?_ (by (try simp [size_beyond]) <;> omega) _)), (L4 _ _ HV.out).below (by repeat (first | assumption | exact Below.refl _ _ | exact below_beyond _ _ | refine Below.beyond ?_ (by (try simp [size_beyond]) <;> omega) _ | refine Below.drew ?_ | refine Go.Rw.below_drewN ?_ _ | refine Go.Rw.below_setRow ?_ (by (try simp [size_beyond]) <;> omega) _ | refine Below.alloc ?_ (by (try simp [size_beyond]) <;> omega) _ | refine Below.setCell ?_ (by (try simp [size_beyond]) <;> omega) _))⟩)
      · clear hx1 hf1 hx2 hf2 hx6 hf6 hw L1 L2 L3 L4 hne hne2
        go_wp2
        go_roundg (a % gk)
        case measure => exact HK.out.1
        case rel => exact ⟨gk, q2, m2, c2, q6, m6, c6, Lib.hid ⟨HR2.out.1, HR2.out.2.1, HR2.out.2.2.1, HR2.out.2.2.2.1, HR2.out.2.2.2.2.1, HR2.out.2.2.2.2.2, HK.out.2.1, HK.out.2.2⟩⟩
      · rw [← hw]
        exact ⟨((Below.heap_setCell _ ⟨W.heap.size + 1, 0, none⟩ _ (W.heap.size + 1 + 1) (by show W.heap.size + 1 + 1 ≠ W.heap.size + 1; omega)).trans (Below.heap_setCell w4 ⟨W.heap.size, 0, none⟩ _ (W.heap.size + 1 + 1) (by show W.heap.size + 1 + 1 ≠ W.heap.size; omega))).trans K3.out.blk⟩
end Go.Proofs.YtogjobmekjighaaDoor.bn
