/-
  Contracts of the reference: Div.
-/
import Derived.Test.YtogjobmekjighaaDoorBdR
import Derived.Laws.AppendOwnNone
set_option linter.unusedSimpArgs false
set_option linter.unusedVariables false
namespace Go.Proofs.YtogjobmekjighaaDoor.bd
open Go.RowKit Go.Own Go.Bd
open bn (below_step own_below own_kept own_lt cmpV)
set_option maxHeartbeats 4000000
set_option maxRecDepth 100000

theorem TnAt.far {q : Option Addr} {m c : Nat} {ds : List Nat} {w : World} (h : TnAt q m c ds w) {g i : Nat} (hf : ∀ a, q = some a → g < a.block) (v : Value) : TnAt q m c ds (w.setCell ⟨g, i, none⟩ v) := by
  obtain ⟨h1, h2, h3, h4, h5, h6⟩ := h.all
  refine ⟨h1, h2, h3, h4, h5, ?_⟩
  rcases h6 with h | ⟨b, off, k1, k2, k3⟩
  · exact .inl h
  · have hb : g < b := hf _ k1
    have e := Below.heap_setCell w ⟨g, i, none⟩ v b (by show b ≠ g; omega)
    refine .inr ⟨b, off, k1, ?_, fun j x hx => (World.cell?_of_block e).trans (k3 j x hx)⟩
    show b < (w.heap.modify g _).size
    rw [Array.size_modify]; exact k2
theorem RefN.far {q : Option Addr} {m c n : Nat} {w : World} (h : RefN q m c n w) {g i : Nat} (hf : ∀ a, q = some a → g < a.block) (v : Value) : RefN q m c n (w.setCell ⟨g, i, none⟩ v) := by
  obtain ⟨ds, h1, h2, h3⟩ := h.ex; exact ⟨ds, h1.far hf v, h2, h3⟩
theorem trim_same {q : Option Addr} {m c : Nat} {ds : List Nat} {W : World} (h : TnAt q m c ds W) : Calls Tryd.prog 45 #[.slice q m c] W (fun e w' => ∃ k, e = .returned (.slice q k c) ∧ RefN q k c (val ds) w' ∧ Below W.heap.size W w') := by
  have HM := Lib.hid (show m = ds.length from h.all.1)
  have hm2 : m ≤ 999000 := h.all.2.1
  have hmc : m ≤ c := h.all.2.2.1
  have hcx : c ≤ maxLen := h.all.2.2.2.1
  have HA := Lib.hid h; clear h
  go_enter Tryd.func45, Tryd.ntmps45
  go_wp2
  go_loopg [0] m (fun g s0 wr => g ≤ m ∧ s0 = .slice q g c ∧ Hid (val (ds.take g) = val ds) ∧ W = wr)
  case atStart => exact ⟨Nat.le_refl _, rfl, Lib.hid (by rw [HM.out, List.take_length]), rfl⟩
  case round =>
    obtain ⟨hg, rfl, HV, rfl⟩ := hrel
    by_cases h0 : 0 < gk
    · obtain ⟨k, rfl⟩ : ∃ k, gk = k + 1 := ⟨gk - 1, by omega⟩
      obtain ⟨b, off, rfl, hb, hcs⟩ := HA.out.cell (k := k) (by omega)
      have hc := hcs k (by omega)
      clear hcs
      by_cases hz : dg ds k = 0
      · have HZ := Lib.hid (show val (ds.take k) = val ds from by rw [← HV.out, ← val_take_zero (by rw [← HM.out]; omega) (by rw [dg_some (by rw [← HM.out]; omega), hz])])
        rw [hz] at hc
        clear hz
        go_wp2
        go_roundg k
        case measure => omega
        case rel => exact ⟨by omega, rfl, HZ, rfl⟩
      · have HR := Lib.hid (show RefN (some ⟨b, off, none⟩) (k + 1) c (val ds) W from ⟨ds.take (k + 1), HA.out.take hg (by omega) (by omega) hcx, nrm_take (by rw [← HM.out]; omega) (by rw [dg_some (by rw [← HM.out]; omega)]; simpa using hz), HV.out⟩)
        generalize dg ds k = x at hc hz
        have hxb : (((x : Nat) : Int) == 0) = false := by simp; omega
        go_wp2
        go_ret
        exact ⟨_, rfl, HR.out, Below.refl _ _⟩
    · obtain rfl : gk = 0 := by omega
      have HR := Lib.hid (show RefN q 0 c (val ds) W from ⟨[], ⟨rfl, Nat.zero_le _, Nat.zero_le _, hcx, fun _ h => by simp at h, .inl ⟨rfl, HA.out.none0⟩⟩, fun h => absurd rfl h, by rw [← HV.out]; rfl⟩)
      go_wp2
      go_ret
      exact ⟨_, rfl, HR.out, Below.refl _ _⟩
theorem Sub_fresh {q q2 : Option Addr} {m c m2 c2 n n2 : Nat} {W : World} (h : RefN q m c n W) (h2 : RefN q2 m2 c2 n2 W) (hle : n2 ≤ n) (hs : m ≤ 990000) :
    Calls Tryd.prog 20 #[.slice q m c, .slice q2 m2 c2] W (fun e w' => ∃ q m c, e = .returned (.slice q m c) ∧ RefN q m c (n - n2) w' ∧ Below W.heap.size W w' ∧ ∀ a, q = some a → W.heap.size ≤ a.block) := by
  obtain ⟨a, hA, hN, hv⟩ := h.ex
  obtain ⟨b, hA2, hN2, hv2⟩ := h2.ex
  have hm2 : m2 ≤ m := by
    rcases Nat.lt_or_ge m m2 with hl | hl
    · exfalso
      have := val_lt_len hA.all.2.2.2.2.1 hN2 (by rw [← hA.all.1, ← hA2.all.1]; exact hl)
      omega
    · exact hl
  have HM := Lib.hid (And.intro hA.all.1.symm hA2.all.1.symm)
  have HV := Lib.hid (And.intro hv hv2)
  have HD := Lib.hid (And.intro hA.all.2.2.2.2.1 hA2.all.2.2.2.2.1)
  have HA := Lib.hid hA
  have HA2 := Lib.hid hA2
  have HLE := Lib.hid hle
  clear h h2 hA hA2 hN hN2 hv hv2 hle
  go_enter Tryd.func20, Tryd.ntmps20
  go_wp2
  go_loopg [5, 6, 7, 8] m (fun g v s6 s7 _ wr => ∃ (k e : Nat) (l : List Nat), k + g = m ∧ s6 = .int .i64 (e : Int) ∧ s7 = .int .i64 (k : Int) ∧ e ≤ 1 ∧ Hid (SubL W a b k e v l wr))
  case atStart => exact ⟨0, 0, [], by omega, rfl, rfl, by omega, Lib.hid ⟨World.ownsRow_nil _ _ _ _, rfl, fun d hd => by simp at hd, by simp [valTo_zero, val], Below.refl _ _⟩⟩
  case round =>
    obtain ⟨k, e, l, hkg, rfl, rfl, he, HS⟩ := hrel
    by_cases hin : k < m
    · have HCA := Lib.hid (at_calls (HA.out.below HS.out.bel) k (by omega))
      have HCB := Lib.hid (at_calls (HA2.out.below HS.out.bel) k (by omega))
      have HST := Lib.hid (fun d e' h => sub_step a b (d := d) (c' := e') HS.out.eq h)
      have hx : dg a k < 10 := dg_lt HD.out.1 k
      have hy : dg b k < 10 := dg_lt HD.out.2 k
      have hll : l.length ≤ 10000000 := by rw [HS.out.len]; omega
      generalize dg a k = x at HCA HST hx
      generalize dg b k = y at HCB HST hy
      by_cases hbw : x < y + e
      · obtain ⟨r, hr⟩ : ∃ r, x + 10 = y + e + r := ⟨x + 10 - (y + e), by omega⟩
        have hsi : (x : Int) - (y : Int) - (e : Int) = (r : Int) - 10 := by omega
        have hsr : (r : Int) - 10 + 10 = (r : Int) := by omega
        have hr10 : r < 10 := by omega
        have HST2 := Lib.hid (HST.out r 1 hr)
        clear hr hbw HST
        have hba : Below wr.heap.size wr (wr.alloc (Obj.cells #[Value.int IntKind.i64 (r : Int)] 3)) := (by repeat (first | assumption | exact Below.refl _ _ | exact below_beyond _ _ | refine Below.beyond ?_ (by (try simp [size_beyond]) <;> omega) _ | refine Below.drew ?_ | refine Go.Rw.below_drewN ?_ _ | refine Go.Rw.below_setRow ?_ (by (try simp [size_beyond]) <;> omega) _ | refine Below.alloc ?_ (by (try simp [size_beyond]) <;> omega) _ | refine Below.setCell ?_ (by (try simp [size_beyond]) <;> omega) _))
        have HBA := Lib.hid hba
        clear hba
        go_wp2_with (fail)
        go_at_call 50
        refine HCA.out.mono ?_
        rintro e w1 ⟨rfl, rfl⟩
        go_wp2_with (fail)
        go_at_call 50
        refine HCB.out.mono ?_
        rintro e w1 ⟨rfl, rfl⟩
        go_wp2_with (refine wpList_appT _ rfl _ _ 30 rfl uU uI HS.out.own HS.out.bel.size hll r rfl rfl ?_; intro v' w5 hown hgr hblk; have HG5 := Lib.hid (And.intro hown (And.intro hgr hblk)); clear hown hgr hblk)
        go_roundg (gk - 1)
        case measure => omega
        case rel =>
          refine ⟨k + 1, 1, l ++ [r], by omega, rfl, by go_num, by omega, Lib.hid ⟨HG5.out.1, by simp [HS.out.len], dig_snoc HS.out.dig hr10, ?_, ?_⟩⟩
          · rw [val_snoc, HS.out.len]; exact HST2.out
          · exact (HS.out.bel.trans (Below.mono HBA.out HS.out.bel.size)).grown HG5.out.2.1 (Nat.le_trans HS.out.bel.size HBA.out.size) (fun b hb => (own_lt HS.out.own hb).1)
      · obtain ⟨r, hr⟩ : ∃ r, x = y + e + r := ⟨x - (y + e), by omega⟩
        have hsi : (x : Int) - (y : Int) - (e : Int) = (r : Int) := by omega
        have hr10 : r < 10 := by omega
        have HST2 := Lib.hid (HST.out r 0 (by omega))
        clear hr hbw HST
        have hba : Below wr.heap.size wr (wr.alloc (Obj.cells #[Value.int IntKind.i64 (r : Int)] 3)) := (by repeat (first | assumption | exact Below.refl _ _ | exact below_beyond _ _ | refine Below.beyond ?_ (by (try simp [size_beyond]) <;> omega) _ | refine Below.drew ?_ | refine Go.Rw.below_drewN ?_ _ | refine Go.Rw.below_setRow ?_ (by (try simp [size_beyond]) <;> omega) _ | refine Below.alloc ?_ (by (try simp [size_beyond]) <;> omega) _ | refine Below.setCell ?_ (by (try simp [size_beyond]) <;> omega) _))
        have HBA := Lib.hid hba
        clear hba
        go_wp2_with (fail)
        go_at_call 50
        refine HCA.out.mono ?_
        rintro e w1 ⟨rfl, rfl⟩
        go_wp2_with (fail)
        go_at_call 50
        refine HCB.out.mono ?_
        rintro e w1 ⟨rfl, rfl⟩
        go_wp2_with (refine wpList_appT _ rfl _ _ 30 rfl uU uI HS.out.own HS.out.bel.size hll r rfl rfl ?_; intro v' w5 hown hgr hblk; have HG5 := Lib.hid (And.intro hown (And.intro hgr hblk)); clear hown hgr hblk)
        go_roundg (gk - 1)
        case measure => omega
        case rel =>
          refine ⟨k + 1, 0, l ++ [r], by omega, rfl, by go_num, by omega, Lib.hid ⟨HG5.out.1, by simp [HS.out.len], dig_snoc HS.out.dig hr10, ?_, ?_⟩⟩
          · rw [val_snoc, HS.out.len]; exact HST2.out
          · exact (HS.out.bel.trans (Below.mono HBA.out HS.out.bel.size)).grown HG5.out.2.1 (Nat.le_trans HS.out.bel.size HBA.out.size) (fun b hb => (own_lt HS.out.own hb).1)
    · obtain rfl : k = m := by omega
      obtain ⟨q5, c5, rfl, ht⟩ := own_tn HS.out.own (by rw [HS.out.len]; omega) HS.out.dig
      have HV5 := Lib.hid (show val l = n - n2 from by
        have h := HS.out.eq
        have hl := val_lt HS.out.dig
        have hle := HLE.out
        rw [HS.out.len] at hl
        rw [valTo_all _ (by rw [HM.out.1]; exact Nat.le_refl _), valTo_all _ (by rw [HM.out.2]; exact hm2), HV.out.1, HV.out.2] at h
        rcases (by omega : e = 0 ∨ e = 1) with rfl | rfl
        · rw [Nat.mul_zero] at h; omega
        · rw [Nat.mul_one] at h; omega)
      have HTC := Lib.hid (trim_same ht)
      have HFR := Lib.hid (show ∀ a, q5 = some a → W.heap.size ≤ a.block from fun a ha => (own_lt HS.out.own (b := a.block) (by rw [ha]; rfl)).1)
      have HB5 := Lib.hid HS.out.bel
      clear ht HS
      generalize l.length = ll at *
      rw [HV5.out] at HTC
      go_wp2_with (fail)
      go_at_call 45
      refine HTC.out.mono ?_
      rintro e w2 ⟨m2, rfl, hn, hb⟩
      have HR := Lib.hid (And.intro hn (below_step hb HB5.out))
      clear hn hb
      go_wp2
      go_ret
      exact ⟨_, _, _, rfl, HR.out.1, HR.out.2, HFR.out⟩
theorem own_one (w : World) (T : TypeId) (x : Nat) : (w.alloc (.cells #[.int .i64 (x : Int)] T)).ownsRow w.heap.size T 1 (.slice (some ⟨w.heap.size, 0, none⟩) 1 1) 1 ([x].map dv) := by
  refine ⟨rfl, .inr ⟨w.heap.size, 1, #[.int .i64 (x : Int)], rfl, Nat.le_refl _, ?_, Nat.le_refl _, by decide, rfl, rfl⟩⟩
  show (w.heap.push _)[_]? = _
  rw [Array.getElem?_push, if_pos rfl]
/-- append([]int{x}, l...) -/
theorem wpList_consT {ops : Array Oper} {rest : List Oper} {o : Oper} {a : Act} {Q : Exit → Act → World → Prop} (w : World) (hgd : o.guard = none) (s x : Operand) (t : TypeId)
    (ho : o.op = .call { callee := .builtin .append, args := #[s, x], argTypes := #[t, t] }) (ht : Tryd.prog.underlying t = some (.slice 3))
    {q : Option Addr} {m c : Nat} {ds : List Nat} (y : Nat) (hT : TnAt q m c ds w) 
    (hs : a.eval s = .slice (some ⟨w.heap.size, 0, none⟩) 1 1) (hx : a.eval x = .slice q m c)
    (h : ∀ v' w', w'.ownsRow w.heap.size 3 1 v' (y :: ds).length ((y :: ds).map dv) → (w.alloc (.cells #[.int .i64 (y : Int)] 3)).grownBy w' (some w.heap.size) → wpList Tryd.prog ops Q rest (a.put o.dst v') w') : wpList Tryd.prog ops Q (o :: rest) a (w.alloc (.cells #[.int .i64 (y : Int)] 3)) := by
  obtain ⟨i0, hi, hz0, hz1, hz2⟩ := info_parts uI
  have hm := hT.all.1
  have hm2 := hT.all.2.1
  have hsz : (w.alloc (.cells #[.int .i64 (y : Int)] 3)).heap.size = w.heap.size + 1 := by show (w.heap.push _).size = _; simp
  rcases q with _ | ad
  · obtain ⟨hds, hc0⟩ : ds = [] ∧ c = 0 := by
      rcases hT.all.2.2.2.2.2 with h | ⟨b, off, h, _⟩
      · exact ⟨h.1, h.2 rfl⟩
      · cases h
    subst hds; subst hc0
    obtain rfl : m = 0 := hm
    exact wpList_append_own_none hgd s x t ho w.heap.size 3 i0 1 ht hi _ 1 ([y].map dv) hs (own_one w _ y) hx (h _ _ (own_one w _ y) ⟨rfl, rfl, rfl, Nat.le_refl _, fun _ _ _ => rfl⟩)
  · have hcell : ∀ j u, (ds.map dv)[j]? = some u → (w.alloc (.cells #[.int .i64 (y : Int)] 3)).cell? (ad.add j) = some u := by
      intro j u hu
      rcases hT.all.2.2.2.2.2 with h | ⟨b, off, h, hb, hcs⟩
      · rw [h.1] at hu; simp at hu
      · cases h
        rw [List.getElem?_map] at hu
        cases hx2 : ds[j]? with
        | none => rw [hx2] at hu; cases hu
        | some z =>
          rw [hx2] at hu
          injection hu with hu
          rw [← hu]
          have e : (⟨b, off, none⟩ : Addr).add j = ⟨b, off + j, none⟩ := by unfold Addr.add; split <;> simp_all
          rw [e]
          have hal : Below w.heap.size w (w.alloc (.cells #[.int .i64 (y : Int)] 3)) := (Below.refl _ _).alloc (Nat.le_refl _) _
          exact (hal.cell hb).trans (hcs j z hx2)
    refine wpList_append_own_at _ hgd s x t ho w.heap.size 3 i0 (.int .i64 0) 1 8 ht hi hz0 hz1 hz2 rfl (by decide) _ 1 ([y].map dv) hs (own_one w _ y) ad m c (ds.map dv) hx (by simp [hm]) hcell ?_ (by unfold maxLen; omega) (by omega) (by omega) ?_
    · intro u hu
      obtain ⟨z, _, rfl⟩ := List.mem_map.1 hu
      rfl
    · intro v' w' h1 h2 _ _
      refine h v' w' ?_ h2
      rw [List.length_cons, Nat.add_comm, ← hm]
      exact h1
/-- what the loop of Div keeps: i digits are still to come -/
structure DivL (W : World) (a : List Nat) (m n2 i r : Nat) (q : Option Addr) (mr c : Nat) (d : List Nat) (w : World) : Prop where
  row : RowT W.heap.size d w
  len : d.length = m
  dig : Dig d
  zero : ∀ j, j < i → dg d j = 0
  eq : hi a i = hi d i * n2 + r
  lt : r < n2
  rem : RefN q mr c r w
  bel : Below W.heap.size W w
  far : ∀ a, q = some a → W.heap.size < a.block
theorem DivL.below {W w w' : World} {a d : List Nat} {m n2 i r mr c : Nat} {q : Option Addr} (h : DivL W a m n2 i r q mr c d w) (hb : Below w.heap.size w w') : DivL W a m n2 i r q mr c d w' :=
  ⟨h.row.below hb, h.len, h.dig, h.zero, h.eq, h.lt, h.rem.below hb, h.bel.trans (hb.mono h.bel.size), h.far⟩
/-- the inner loop: the quotient's digit is t so far -/
structure InL (W : World) (m n2 i R r t : Nat) (q : Option Addr) (mr c : Nat) (d : List Nat) (w : World) : Prop where
  row : RowT W.heap.size (d.set i t) w
  eq : r + t * n2 = R
  rem : RefN q mr c r w
  bel : Below W.heap.size W w
  far : ∀ a, q = some a → W.heap.size < a.block
theorem Div_end {W w : World} {a d : List Nat} {m n2 i r R r' t mr c : Nat} {q : Option Addr} {w0 : World} {q0 : Option Addr} {m0 c0 : Nat} (h : DivL W a m n2 (i + 1) r q0 m0 c0 d w0) (hi1 : i < a.length) (hm : i < m) (ha : Dig a) (hR : R = r * B + dg a i) (g : InL W m n2 i R r' t q mr c d w) (hlt : r' < n2) :
    DivL W a m n2 i r' q mr c (d.set i t) w := by
  have hn : 0 < n2 := by omega
  have e1 : R / n2 = t := by rw [← g.eq, Nat.add_mul_div_right _ _ hn, Nat.div_eq_of_lt hlt, Nat.zero_add]
  have e2 : R % n2 = r' := by rw [← g.eq, Nat.add_mul_mod_self_right, Nat.mod_eq_of_lt hlt]
  have hil : i < d.length := by rw [h.len]; exact hm
  have hs := div_step hi1 hil h.eq
  rw [← hR, e1, e2] at hs
  have ht : t < B := by
    rw [← e1, hR]
    exact div_fit h.lt (dg_lt ha i)
  exact ⟨g.row, by rw [List.length_set]; exact h.len, dig_set h.dig ht, fun j hj => by rw [dg_set hil, if_neg (by omega)]; exact h.zero j (by omega), hs, hlt, g.rem, g.bel, g.far⟩
/-- hands back the quotient and the remainder -/
def DivRR (W : World) (n n2 : Nat) (e : Ending) (w' : World) : Prop := ∃ q m c q2 m2 c2, e = .returned (.tuple #[.slice q m c, .slice q2 m2 c2]) ∧ RefN q m c (n / n2) w' ∧ RefN q2 m2 c2 (n % n2) w' ∧ Below W.heap.size W w'
theorem set_same {d : List Nat} {k : Nat} (hk : k < d.length) (h : dg d k = 0) : d.set k 0 = d := by
  refine List.ext_getElem? fun i => ?_
  rw [List.getElem?_set]
  by_cases e : k = i
  · subst e; rw [if_pos rfl, if_pos hk, dg_some hk, h]
  · rw [if_neg e]
theorem InL.below {W w w' : World} {d : List Nat} {m n2 i R r t mr c : Nat} {q : Option Addr} (h : InL W m n2 i R r t q mr c d w) (hb : Below w.heap.size w w') : InL W m n2 i R r t q mr c d w' :=
  ⟨h.row.below hb, h.eq, h.rem.below hb, h.bel.trans (hb.mono h.bel.size), h.far⟩
theorem Div_calls {q q2 : Option Addr} {m c m2 c2 n n2 : Nat} {W : World} (h : RefN q m c n W) (h2 : RefN q2 m2 c2 n2 W) (h0 : 0 < n2) (hs : m ≤ 900000) (hs2 : m2 ≤ 900000) :
    Calls Tryd.prog 29 #[.slice q m c, .slice q2 m2 c2] W (DivRR W n n2) := by
  obtain ⟨a, hA, hN, hv⟩ := h.ex
  have HN2 := Lib.hid (show n2 < B ^ m2 from by obtain ⟨b, hA2, hN2, hv2⟩ := h2.ex; rw [← hv2, hA2.all.1]; exact val_lt hA2.all.2.2.2.2.1)
  have HM := Lib.hid (show a.length = m from hA.all.1.symm)
  have HV := Lib.hid hv
  have HD := Lib.hid (show Dig a from hA.all.2.2.2.2.1)
  have HA := Lib.hid hA
  have H2 := Lib.hid h2
  have H0 := Lib.hid h0
  clear h h2 hA hN hv h0
  obtain ⟨i0, hi', hz0, hz1, hz2⟩ := info_parts uI
  have Hi := Lib.hid hi'; clear hi'
  go_enter Tryd.func29, Tryd.ntmps29
  go_wp2_with (first | (at_make; refine wpList_make_full _ rfl _ _ 30 rfl W.heap.size 3 i0 (.int .i64 0) 1 uU Hi.out hz0 hz1 _ _ _ _ m rfl rfl ?_ ?_ (by rw [hz2]; omega) (by unfold maxLen; omega) (by simp) ?_))
  all_goals first
    | omega
    | skip
  intro w1 hown hgr
  have HR0 := Lib.hid (Mrow.made hown 0)
  have HB0 := Lib.hid (show Below W.heap.size W w1 from ⟨hgr.os, hgr.tape, hgr.output, hgr.size, fun k hk => hgr.block k hk (by simp)⟩)
  clear hown hgr
  have HST := Lib.hid (show DivL W a m n2 m 0 none 0 0 (List.replicate m 0) w1 from by
    have e1 : hi a m = 0 := by rw [← HM.out]; exact hi_end a
    have e2 : hi (List.replicate m 0) m = 0 := by have := hi_end (List.replicate m 0); rwa [List.length_replicate] at this
    exact ⟨HR0.out.1, HR0.out.2.1, HR0.out.2.2.1, fun j _ => dg_zeros m j, by rw [e1, e2]; simp, H0.out, ⟨[], tn_nil _, fun h => absurd rfl h, rfl⟩, HB0.out, fun a h => by cases h⟩)
  clear HR0 HB0
  go_wp2
  go_loopg [7, 8] m (fun g s7 s8 wr => ∃ (q3 : Option Addr) (m3 c3 r : Nat) (d : List Nat), s7 = .slice q3 m3 c3 ∧ s8 = .int .i64 ((g : Int) - 1) ∧ g ≤ m ∧ Hid (DivL W a m n2 g r q3 m3 c3 d wr))
  case atStart => exact ⟨_, _, _, _, _, rfl, rfl, Nat.le_refl _, HST⟩
  case round =>
    obtain ⟨q3, m3, c3, r, d, rfl, rfl, hg, HS⟩ := hrel
    by_cases hpos : 0 < gk
    · obtain ⟨k, rfl⟩ : ∃ k, gk = k + 1 := ⟨gk - 1, by omega⟩
      have ek : (((k + 1 : Nat) : Int) - 1) = (k : Int) := by omega
      rw [ek]
      obtain ⟨p, off, rfl, hpw, hcs⟩ := HA.out.cell (k := k) (by omega)
      have hcx := (HS.out.bel.cell hpw).trans (hcs k (by omega))
      obtain ⟨ds3, hT3, hN3, hv3⟩ := HS.out.rem.ex
      have HX := Lib.hid (dg_lt HD.out k)
      have hm3 : m3 ≤ m2 := HS.out.rem.len (Nat.lt_trans HS.out.lt HN2.out)
      have HT3 := Lib.hid (And.intro hT3 hv3)
      have HR := Lib.hid (show r * B + dg a k < B ^ (m2 + 1) from by
        have h1 := HS.out.lt
        have h2 := HX.out
        have h3 := HN2.out
        have h4 : (r + 1) * B ≤ B ^ m2 * B := Nat.mul_le_mul_right _ (by omega)
        rw [Nat.pow_succ, Nat.add_mul, Nat.one_mul] at *
        omega)
      have HRT := Lib.hid (show r * B + dg a k < n2 * B from by
        have h1 := HS.out.lt
        have h2 := HX.out
        have h4 : (r + 1) * B ≤ n2 * B := Nat.mul_le_mul_right _ (by omega)
        rw [Nat.add_mul, Nat.one_mul] at h4
        omega)
      have HE := Lib.hid (fun q' m' c' w' r' t' (g : InL W m n2 k (r * B + dg a k) r' t' q' m' c' d w') (hl : r' < n2) => Div_end HS.out (by rw [HM.out]; omega) (by omega) HD.out rfl g hl)
      have HVX := Lib.hid (show val (dg a k :: ds3) = r * B + dg a k from by rw [val_cons, hv3]; rw [Nat.mul_comm B r, Nat.add_comm])
      have HDX := Lib.hid (show Dig (dg a k :: ds3) from fun y hy => by
        rcases List.mem_cons.1 hy with h | h
        · rw [h]; exact HX.out
        · exact hT3.all.2.2.2.2.1 y h)
      have HLX := Lib.hid (show (dg a k :: ds3).length ≤ 999000 from by rw [List.length_cons, ← hT3.all.1]; omega)
      clear hcs hT3 hN3 hv3
      generalize dg a k = x at *
      generalize r * B + x = R at *
      have hx10 : x < 10 := HX.out
      have hba : Below wr.heap.size wr (wr.alloc (Obj.cells #[Value.int IntKind.i64 (x : Int)] 3)) := (by repeat (first | assumption | exact Below.refl _ _ | exact below_beyond _ _ | refine Below.beyond ?_ (by (try simp [size_beyond]) <;> omega) _ | refine Below.drew ?_ | refine Go.Rw.below_drewN ?_ _ | refine Go.Rw.below_setRow ?_ (by (try simp [size_beyond]) <;> omega) _ | refine Below.alloc ?_ (by (try simp [size_beyond]) <;> omega) _ | refine Below.setCell ?_ (by (try simp [size_beyond]) <;> omega) _))
      have HBA := Lib.hid hba
      clear hba
      go_wp2_with (refine wpList_consT _ rfl _ _ 30 rfl uU x HT3.out.1 rfl rfl ?_; intro v' w5 hown hgr; obtain ⟨q5, c5, hv5, ht5⟩ := own_tn hown HLX.out HDX.out; subst hv5; have HFA := Lib.hid (fun (a : Addr) (ha : q5 = some a) => (own_lt hown (b := a.block) (by rw [ha]; rfl)).1); have HG5 := Lib.hid (And.intro ht5 hgr); clear ht5 hown hgr)
      go_at_call 45
      refine (trim_same HG5.out.1).mono ?_
      rw [HVX.out]
      rintro e w6 ⟨m6, rfl, hn, hb⟩
      have HWL := Lib.hid HS.out.row.lt
      have HB6 := Lib.hid (show Below wr.heap.size wr w6 from below_step hb (Below.grown HBA.out HG5.out.2 HBA.out.size (fun k hk => by injection hk with hk; omega)))
      have HI0 := Lib.hid (show InL W m n2 k R R 0 q5 m6 c5 d w6 from ⟨by rw [set_same (by rw [HS.out.len]; omega) (HS.out.zero k (by omega))]; exact HS.out.row.below HB6.out, by simp, hn, HS.out.bel.trans (HB6.out.mono HS.out.bel.size), fun a ha => Nat.lt_of_lt_of_le HWL.out (HFA.out a ha)⟩)
      have HLEN := Lib.hid HS.out.len
      clear hn hb HG5 HB6 HBA HT3 HS hcx
      go_wp2
      go_loopg [7] R (fun g s7 wr2 => ∃ (q7 : Option Addr) (m7 c7 t : Nat), s7 = .slice q7 m7 c7 ∧ g ≤ R ∧ Hid (InL W m n2 k R g t q7 m7 c7 d wr2))
      case atStart => exact ⟨_, _, _, _, rfl, Nat.le_refl _, HI0⟩
      case round =>
        obtain ⟨q7, m7, c7, t, rfl, hgR, HI⟩ := hrel
        by_cases hge : n2 ≤ gk
        · have HGE := Lib.hid hge
          have hm7 : m7 ≤ 990000 := Nat.le_trans (HI.out.rem.len (Nat.lt_of_le_of_lt hgR HR.out)) (by omega)
          have HM7 := Lib.hid hm7; clear hm7
          have HCC := Lib.hid (RCmp_ge HI.out.rem (H2.out.below HI.out.bel) hge)
          have hmeas : gk - n2 < gk := by have := H0.out; omega
          have hgR2 : gk - n2 ≤ R := by omega
          have HEQ := Lib.hid (show gk - n2 + (t + 1) * n2 = R from by rw [Nat.add_mul, Nat.one_mul, ← HI.out.eq]; omega)
          have ht10 : t < 10 := by
            have h1 := HI.out.eq
            have h2 := HRT.out
            rcases Nat.lt_or_ge t 10 with h | h
            · exact h
            · exfalso
              have h3 : B * n2 ≤ t * n2 := Nat.mul_le_mul_right _ h
              rw [Nat.mul_comm n2 B] at h2
              omega
          clear hge
          go_wp2_with (fail)
          go_at_call 17
          refine HCC.out.mono ?_
          rintro e w7 ⟨z, rfl, hz0, hb⟩
          have HI7 := Lib.hid (HI.out.below hb)
          clear hb HI HCC
          have HSC := Lib.hid (Sub_fresh HI7.out.rem (H2.out.below HI7.out.bel) HGE.out HM7.out)
          go_wp2_with (fail)
          go_at_call 20
          refine HSC.out.mono ?_
          rintro e w8 ⟨q8, m8, c8, rfl, hn, hb, hfr⟩
          have HFA8 := Lib.hid (fun (a : Addr) (ha : q8 = some a) => Nat.lt_of_lt_of_le HI7.out.row.lt (hfr a ha))
          clear hfr
          have HI8 := Lib.hid (HI7.out.below hb)
          have HN8 := Lib.hid hn
          clear hb hn HI7 HSC
          have hkd : k < (d.set k t).length := by rw [List.length_set, HLEN.out]; omega
          have hcd := HI8.out.row.cell (a := k) hkd
          have hfd := HI8.out.row.frozen k
          have HRW := Lib.hid (show RowT W.heap.size (d.set k (t + 1)) (w8.setCell ⟨W.heap.size, k, none⟩ (.int .i64 ((t : Int) + 1))) from by
            have h1 := HI8.out.row.set (a := k) hkd (t + 1)
            rw [List.set_set] at h1
            exact h1)
          rw [dg_set (by rw [HLEN.out]; omega), if_pos rfl] at hcd
          clear hkd
          go_wp2
          go_roundg (gk - n2)
          case measure => exact hmeas
          case rel =>
            exact ⟨q8, m8, c8, t + 1, rfl, hgR2, Lib.hid ⟨HRW.out, HEQ.out, HN8.out.far HFA8.out _, HI8.out.bel.setCell (Nat.le_refl _) _, HFA8.out⟩⟩
        · have HLT := Lib.hid (show gk < n2 by omega)
          have HCC := Lib.hid (RCmp_lt HI.out.rem (H2.out.below HI.out.bel) HLT.out)
          clear hge
          go_wp2_with (fail)
          go_at_call 17
          refine HCC.out.mono ?_
          rintro e w7 ⟨rfl, hb⟩
          have HI7 := Lib.hid (HE.out _ _ _ _ _ _ (HI.out.below hb) HLT.out)
          clear hb HI HCC
          go_wp2
          go_roundg k
          case measure => omega
          case rel => exact ⟨_, _, _, _, _, rfl, rfl, by omega, HI7⟩
    · obtain rfl : gk = 0 := by omega
      have ht := HS.out.row.at_ (c := m) (by rw [HS.out.len]; omega) HS.out.dig (by rw [HS.out.len]; exact Nat.le_refl _) (by unfold maxLen; omega)
      have hq := HS.out.eq
      rw [hi_all, hi_all, HV.out] at hq
      have HQ1 := Lib.hid (show val d = n / n2 from by rw [hq, Nat.mul_comm, Nat.add_comm, Nat.add_mul_div_left _ _ H0.out, Nat.div_eq_of_lt HS.out.lt, Nat.zero_add])
      have HQ2 := Lib.hid (show r = n % n2 from by rw [hq, Nat.mul_comm, Nat.add_comm, Nat.add_mul_mod_self_left, Nat.mod_eq_of_lt HS.out.lt])
      rw [HS.out.len] at ht
      have HTC := Lib.hid (trim_calls ht)
      rw [HQ1.out] at HTC
      have HRM := Lib.hid (HQ2.out ▸ HS.out.rem)
      have HB5 := Lib.hid HS.out.bel
      clear ht hq HS
      go_wp2_with (fail)
      go_at_call 45
      refine HTC.out.mono ?_
      rintro e w2 ⟨q9, m9, c9, rfl, hn, hb⟩
      have HRR := Lib.hid (And.intro hn (And.intro (HRM.out.below hb) (below_step hb HB5.out)))
      clear hn hb
      go_wp2
      go_ret2
      exact ⟨_, _, _, _, _, _, rfl, HRR.out.1, HRR.out.2.1, HRR.out.2.2⟩
end Go.Proofs.YtogjobmekjighaaDoor.bd
