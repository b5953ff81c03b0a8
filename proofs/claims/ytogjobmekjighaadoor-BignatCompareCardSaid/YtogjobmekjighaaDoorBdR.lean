/-
  Contracts of the reference: at, Cmp; a row of digits that is appended to.
  Contracts of the reference: Add.
  Contracts of the reference: Sub.
  Contracts of the reference: Mul.
  The reference, as the laws call it.
  Contracts of the reference: Of, Parse.
  Contracts of the reference: Parse.
-/
import Derived.Test.YtogjobmekjighaaDoorBdB
import Derived.Test.YtogjobmekjighaaDoorBnX
import Derived.Test.YtogjobmekjighaaDoorBnD
import Derived.Test.YtogjobmekjighaaDoorBnTd
set_option linter.unusedSimpArgs false
set_option linter.unusedVariables false
namespace Go.Proofs.YtogjobmekjighaaDoor.bd
open Go.RowKit Go.Own Go.Bd
open bn (below_step own_below own_kept own_lt cmpV)
set_option maxHeartbeats 4000000
set_option maxRecDepth 100000

theorem at_calls {q : Option Addr} {m c : Nat} {ds : List Nat} {W : World} (h : TnAt q m c ds W) (i : Nat) (hi : (i : Int) ≤ 2000000) : Calls Tryd.prog 50 #[.slice q m c, .int .i64 (i : Int)] W fun e w' => e = .returned (.int .i64 (dg ds i : Int)) ∧ w' = W := by
  have hm2 : m ≤ 999000 := h.all.2.1
  by_cases hlt : i < m
  · obtain ⟨b, off, rfl, hb, hcs⟩ := h.cell hlt
    have hc := hcs i hlt
    clear hcs h
    generalize dg ds i = x at hc
    go_enter Tryd.func50, Tryd.ntmps50
    go_wp2
    go_ret
    exact ⟨rfl, rfl⟩
  · have e : dg ds i = 0 := dg_over (by have := h.all.1; omega)
    rw [e]
    clear h
    go_enter Tryd.func50, Tryd.ntmps50
    go_wp2
    go_ret
    exact ⟨rfl, rfl⟩
/-- out = append(out, r), digits -/
theorem wpList_appT {P : Program} {ops : Array Oper} {rest : List Oper} {o : Oper} {a : Act} {Q : Exit → Act → World → Prop} (w : World) (hgd : o.guard = none) (s x : Operand) (t : TypeId)
    (ho : o.op = .call { callee := .builtin .append, args := #[s, x], argTypes := #[t, t] }) {T : TypeId} (ht : P.underlying t = some (.slice T))
    (hT : (P.info? T).map (fun i => (i.zero, i.size, i.bytes)) = some (some (.int .i64 0), 1, 8))
    {v : Value} {l : List Nat} {L : Nat} (hown : w.ownsRow L T 1 v l.length (l.map dv)) (hB : L ≤ w.heap.size) (hl : l.length ≤ 10000000) (y : Nat)
    (hs : a.eval s = v) (hx : a.eval x = .slice (some ⟨w.heap.size, 0, none⟩) 1 1)
    (h : ∀ v' w', w'.ownsRow L T 1 v' (l ++ [y]).length ((l ++ [y]).map dv) → (w.alloc (.cells #[.int .i64 (y : Int)] T)).grownBy w' v.ownBlock → (v'.ownBlock = v.ownBlock ∨ v'.ownBlock = some (w.heap.size + 1)) → wpList P ops Q rest (a.put o.dst v') w') : wpList P ops Q (o :: rest) a (w.alloc (.cells #[.int .i64 (y : Int)] T)) := by
  obtain ⟨i0, hi, hz0, hz1, hz2⟩ := info_parts hT
  refine wpList_append_own_at _ hgd s x t ho L T i0 (.int .i64 0) 1 8 ht hi hz0 hz1 hz2 rfl (by decide) v l.length (l.map dv) hs (World.ownsRow.alloc hown _) _ 1 1 [.int .i64 (y : Int)] hx rfl ?_ ?_ (by unfold maxLen; omega) (by omega) (by simp; omega) ?_
  · intro j u hu
    match j with
    | 0 => simp at hu; subst hu; simp [go_sem, Addr.add]
    | j + 1 => simp at hu
  · intro u hu; simp at hu; subst hu; rfl
  · intro v' w' h1 h2 _ h4
    refine h v' w' ?_ h2 ?_
    · simpa [dv] using h1
    · simpa using h4
/-- the row, as digits -/
theorem own_tn {w : World} {L : Nat} {v : Value} {l : List Nat} (h : w.ownsRow L 3 1 v l.length (l.map dv)) (hl : l.length ≤ 999000) (hd : Dig l) : ∃ q c, v = .slice q l.length c ∧ TnAt q l.length c l w := by
  rcases h.2 with ⟨rfl, h0⟩ | ⟨g, cap, cur, rfl, hb, hgg, hn, hc, hs, ht⟩
  · rw [h0]; exact ⟨none, 0, rfl, by omega, by omega, Nat.le_refl _, Nat.zero_le _, hd, .inl ⟨List.eq_nil_of_length_eq_zero h0, fun _ => rfl⟩⟩
  · refine ⟨_, cap, rfl, rfl, hl, hn, hc, hd, .inr ⟨g, 0, rfl, (Array.getElem?_eq_some_iff.1 hgg).1, fun i x hx => ?_⟩⟩
    have h1 := (List.getElem?_eq_some_iff.1 hx).1
    have h2 : (cur.toList.take (l.length * 1))[i]? = some (dv x) := by rw [ht, List.getElem?_map, hx]; rfl
    rw [List.getElem?_take, if_pos (by omega)] at h2
    simp [World.cell?, hgg]
    simpa [dv] using h2
theorem Cmp_calls {q q2 : Option Addr} {m c m2 c2 n n2 : Nat} {W : World} (h : RefN q m c n W) (h2 : RefN q2 m2 c2 n2 W) :
    Calls Tryd.prog 17 #[.slice q m c, .slice q2 m2 c2] W fun e w' => e = .returned (.int .i64 (cmpV (n : Int) (n2 : Int))) ∧ Below W.heap.size W w' := by
  obtain ⟨ds, hA, hN, hv⟩ := h.ex
  obtain ⟨ds2, hA2, hN2, hv2⟩ := h2.ex
  have hm : m = ds.length := hA.all.1
  have hmm : m2 = ds2.length := hA2.all.1
  have hml : m ≤ 999000 := hA.all.2.1
  have hml2 : m2 ≤ 999000 := hA2.all.2.1
  have hD := hA.all.2.2.2.2.1
  have hD2 := hA2.all.2.2.2.2.1
  by_cases hne : m = m2
  · subst hne
    have HX := Lib.hid (And.intro hv hv2)
    have HM := Lib.hid (And.intro hm hmm)
    have HA := Lib.hid hA
    have HA2 := Lib.hid hA2
    have HDD := Lib.hid (And.intro hD hD2)
    clear hA hA2 hN hN2 hv hv2 hm hmm hD hD2 h h2 hml2
    go_enter Tryd.func17, Tryd.ntmps17
    go_wp2
    go_loopw [5] (fun i wr => ∃ k : Nat, k ≤ m ∧ i = .int .i64 ((k : Int) - 1) ∧ Hid (∀ i, k ≤ i → i < m → dg ds i = dg ds2 i) ∧ Hid (Below W.heap.size W wr)) (fun i _ => (intOf i + 1).toNat)
    case atStart => exact ⟨m, Nat.le_refl _, rfl, Lib.hid (fun i h1 h2 => by omega), Lib.hid (Below.refl _ _)⟩
    case round =>
      obtain ⟨k, hk, rfl, HQ, HB⟩ := hrel
      by_cases hk0 : 0 < k
      · obtain ⟨k, rfl⟩ : ∃ j, k = j + 1 := ⟨k - 1, by omega⟩
        have ek : (((k + 1 : Nat) : Int) - 1) = (k : Int) := by omega
        rw [ek]
        obtain ⟨p, off, rfl, hpw, hcs⟩ := HA.out.cell (k := k) (by omega)
        obtain ⟨p2, off2, rfl, hpw2, hcs2⟩ := HA2.out.cell (k := k) (by omega)
        have hb1 : (k : Int) < (m : Int) := by omega
        have hB := HB.out
        have hc1 := (hB.cell hpw).trans (hcs k (by omega))
        have hc2 := (hB.cell hpw2).trans (hcs2 k (by omega))
        clear hcs hcs2 hk hB
        have HLT := Lib.hid (show dg ds k < dg ds2 k → cmpV (n : Int) (n2 : Int) = -1 from fun h => by
          rw [bn.cmpV_lt]; rw [← HX.out.1, ← HX.out.2]
          exact cmp_dg HDD.out.1 (HM.out.1.symm.trans HM.out.2) (by rw [← HM.out.1]; omega) (fun i h1 h2 => HQ.out i h1 (by rw [HM.out.1]; exact h2)) h)
        have HGT := Lib.hid (show dg ds2 k < dg ds k → cmpV (n : Int) (n2 : Int) = 1 from fun h => by
          rw [bn.cmpV_gt]; rw [← HX.out.1, ← HX.out.2]
          exact cmp_dg HDD.out.2 (HM.out.2.symm.trans HM.out.1) (by rw [← HM.out.2]; omega) (fun i h1 h2 => (HQ.out i h1 (by rw [HM.out.2]; exact h2)).symm) h)
        have HEQ := Lib.hid (show dg ds k = dg ds2 k → ∀ i, k ≤ i → i < m → dg ds i = dg ds2 i from fun h i h1 h2 => by
          by_cases e : i = k
          · rw [e]; exact h
          · exact HQ.out i (by omega) h2)
        clear HQ
        generalize dg ds k = x at hc1 HLT HGT HEQ
        generalize dg ds2 k = y at hc2 HLT HGT HEQ
        rcases Nat.lt_trichotomy x y with h | h | h
        · have HR := Lib.hid (HLT.out h)
          clear HLT HGT HEQ
          have hB := HB.out
          go_wp2
          go_quiet (fail)
          go_wp2
          go_ret
          exact ⟨by rw [HR.out]; rfl, (by repeat (first | assumption | exact Below.refl _ _ | exact below_beyond _ _ | refine Below.beyond ?_ (by (try simp [size_beyond]) <;> omega) _ | refine Below.drew ?_ | refine Go.Rw.below_drewN ?_ _ | refine Go.Rw.below_setRow ?_ (by (try simp [size_beyond]) <;> omega) _ | refine Below.alloc ?_ (by (try simp [size_beyond]) <;> omega) _ | refine Below.setCell ?_ (by (try simp [size_beyond]) <;> omega) _))⟩
        · subst h
          have HH := Lib.hid (HEQ.out rfl)
          clear HLT HGT HEQ
          have hB := HB.out
          go_wp2
          go_quiet (fail)
          go_wp2
          go_quiet (fail)
          go_wp2
          refine ⟨⟨k, by omega, rfl, HH, Lib.hid (by repeat (first | assumption | exact Below.refl _ _ | exact below_beyond _ _ | refine Below.beyond ?_ (by (try simp [size_beyond]) <;> omega) _ | refine Below.drew ?_ | refine Go.Rw.below_drewN ?_ _ | refine Go.Rw.below_setRow ?_ (by (try simp [size_beyond]) <;> omega) _ | refine Below.alloc ?_ (by (try simp [size_beyond]) <;> omega) _ | refine Below.setCell ?_ (by (try simp [size_beyond]) <;> omega) _))⟩, ?_⟩
          show ((k : Int) - 1 + 1).toNat < ((k : Int) + 1).toNat
          omega
        · have HR := Lib.hid (HGT.out h)
          clear HLT HGT HEQ
          have hB := HB.out
          go_wp2
          go_quiet (fail)
          go_wp2
          go_quiet (fail)
          go_wp2
          go_ret
          exact ⟨by rw [HR.out]; rfl, (by repeat (first | assumption | exact Below.refl _ _ | exact below_beyond _ _ | refine Below.beyond ?_ (by (try simp [size_beyond]) <;> omega) _ | refine Below.drew ?_ | refine Go.Rw.below_drewN ?_ _ | refine Go.Rw.below_setRow ?_ (by (try simp [size_beyond]) <;> omega) _ | refine Below.alloc ?_ (by (try simp [size_beyond]) <;> omega) _ | refine Below.setCell ?_ (by (try simp [size_beyond]) <;> omega) _))⟩
      · obtain rfl : k = 0 := by omega
        have HE := Lib.hid (show cmpV (n : Int) (n2 : Int) = 0 by
          rw [← HX.out.1, ← HX.out.2, eq_dg (HM.out.1.symm.trans HM.out.2) (fun i hi => HQ.out i (Nat.zero_le _) (by rw [HM.out.1]; exact hi)), bn.cmpV_eq])
        go_wp2
        go_ret
        exact ⟨by rw [HE.out]; rfl, HB.out⟩
  · rcases Nat.lt_or_ge m m2 with hl | hl
    · have HE := Lib.hid (show cmpV (n : Int) (n2 : Int) = -1 by rw [bn.cmpV_lt (by rw [← hv, ← hv2]; exact val_lt_len hD hN2 (by omega))])
      rw [HE.out]
      clear hA hA2 hN hN2 hv hv2 hm hmm hD hD2 HE h h2
      go_enter Tryd.func17, Tryd.ntmps17
      go_wp2
      go_ret
      exact ⟨rfl, Below.refl _ _⟩
    · have HE := Lib.hid (show cmpV (n : Int) (n2 : Int) = 1 by rw [bn.cmpV_gt (by rw [← hv, ← hv2]; exact val_lt_len hD2 hN (by omega))])
      rw [HE.out]
      clear hA hA2 hN hN2 hv hv2 hm hmm hD hD2 HE h h2
      go_enter Tryd.func17, Tryd.ntmps17
      go_wp2
      go_ret
      exact ⟨rfl, Below.refl _ _⟩
end Go.Proofs.YtogjobmekjighaaDoor.bd
namespace Go.Proofs.YtogjobmekjighaaDoor.bd
open Go.RowKit Go.Own Go.Bd
open bn (below_step own_below own_kept own_lt cmpV)
set_option maxHeartbeats 4000000
set_option maxRecDepth 100000

theorem len_le {ds : List Nat} {M : Nat} (h : Nrm ds) (hM : val ds < B ^ M) : ds.length ≤ M := by
  rcases Nat.lt_or_ge M ds.length with hl | hl
  · have hne : ds ≠ [] := by rintro rfl; simp at hl
    have h1 := val_ge h hne
    have h2 : B ^ M ≤ B ^ (ds.length - 1) := Nat.pow_le_pow_right (by decide) (by omega)
    omega
  · exact hl
theorem RefN.len {q : Option Addr} {m c n M : Nat} {w : World} (h : RefN q m c n w) (hM : n < B ^ M) : m ≤ M := by
  obtain ⟨ds, hA, hN, hv⟩ := h.ex
  rw [hA.all.1]; exact len_le hN (by rw [hv]; exact hM)
theorem dig_snoc {l : List Nat} (h : Dig l) {r : Nat} (hr : r < B) : Dig (l ++ [r]) := dig_append h (fun d hd => by simp at hd; rw [hd]; exact hr)
/-- what the loop of Add keeps -/
structure AddL (W : World) (a b : List Nat) (k e : Nat) (v : Value) (l : List Nat) (w : World) : Prop where
  own : w.ownsRow W.heap.size 3 1 v l.length (l.map dv)
  len : l.length = k
  dig : Dig l
  eq : val l + B ^ k * e = valTo a k + valTo b k
  bel : Below W.heap.size W w
theorem Add_calls {q q2 : Option Addr} {m c m2 c2 n n2 : Nat} {W : World} (h : RefN q m c n W) (h2 : RefN q2 m2 c2 n2 W) (hs : m ≤ 990000) (hs2 : m2 ≤ 990000) :
    Calls Tryd.prog 23 #[.slice q m c, .slice q2 m2 c2] W (RefR W (n + n2)) := by
  obtain ⟨a, hA, hN, hv⟩ := h.ex
  obtain ⟨b, hA2, hN2, hv2⟩ := h2.ex
  have HM := Lib.hid (And.intro hA.all.1.symm hA2.all.1.symm)
  have HV := Lib.hid (And.intro hv hv2)
  have HD := Lib.hid (And.intro hA.all.2.2.2.2.1 hA2.all.2.2.2.2.1)
  have HA := Lib.hid hA
  have HA2 := Lib.hid hA2
  obtain ⟨M, hM1, hM2, hM3, hM4⟩ : ∃ M, m ≤ M ∧ m2 ≤ M ∧ (M = m ∨ M = m2) ∧ M ≤ 990000 := by
    rcases Nat.le_total m m2 with h | h
    · exact ⟨m2, h, Nat.le_refl _, .inr rfl, hs2⟩
    · exact ⟨m, Nat.le_refl _, h, .inl rfl, hs⟩
  clear h h2 hA hA2 hN hN2 hv hv2
  go_enter Tryd.func23, Tryd.ntmps23
  go_wp2
  go_loopg [5, 6, 7, 8] (M + 1) (fun g v s6 s7 _ wr => ∃ (k e : Nat) (l : List Nat), k + g = M + 1 ∧ s6 = .int .i64 (e : Int) ∧ s7 = .int .i64 (k : Int) ∧ e ≤ 1 ∧ (k ≤ M ∨ e = 0) ∧ Hid (AddL W a b k e v l wr))
  case atStart => exact ⟨0, 0, [], by omega, rfl, rfl, by omega, .inr rfl, Lib.hid ⟨World.ownsRow_nil _ _ _ _, rfl, fun d hd => by simp at hd, by simp [valTo_zero, val], Below.refl _ _⟩⟩
  case round =>
    obtain ⟨k, e, l, hkg, rfl, rfl, he, hke, HS⟩ := hrel
    by_cases hin : k < m ∨ k < m2 ∨ 0 < e
    · have hkM : k ≤ M := by omega
      have HCA := Lib.hid (at_calls (HA.out.below HS.out.bel) k (by omega))
      have HCB := Lib.hid (at_calls (HA2.out.below HS.out.bel) k (by omega))
      have HST := Lib.hid (add_step a b HS.out.eq)
      have hx : dg a k < 10 := dg_lt HD.out.1 k
      have hy : dg b k < 10 := dg_lt HD.out.2 k
      have hll : l.length ≤ 10000000 := by rw [HS.out.len]; omega
      have hxo : M ≤ k → dg a k = 0 := fun h => dg_over (by rw [HM.out.1]; omega)
      have hyo : M ≤ k → dg b k = 0 := fun h => dg_over (by rw [HM.out.2]; omega)
      generalize dg a k = x at HCA HST hx hxo
      generalize dg b k = y at HCB HST hy hyo
      obtain ⟨t, ht⟩ : ∃ t, x + y + e = t := ⟨_, rfl⟩
      rw [ht] at HST
      have hti : (x : Int) + (y : Int) + (e : Int) = (t : Int) := by omega
      obtain ⟨r, hr⟩ : ∃ r, t % B = r := ⟨_, rfl⟩
      obtain ⟨d, hd⟩ : ∃ d, t / B = d := ⟨_, rfl⟩
      rw [hr, hd] at HST
      unfold B at hr hd
      have hri : (t : Int) % 10 = (r : Int) := by omega
      have hdi : (t : Int) / 10 = (d : Int) := by omega
      have hr10 : r < 10 := by omega
      have hd1 : d ≤ 1 := by omega
      have ht19 : t ≤ 19 := by omega
      have hdM : k + 1 ≤ M ∨ d = 0 := by
        rcases Nat.lt_or_ge k M with h | h
        · exact .inl h
        · refine .inr ?_
          have e1 := hxo h
          have e2 := hyo h
          omega
      clear hxo hyo
      clear ht hr hd
      have hba : Below wr.heap.size wr (wr.alloc (Obj.cells #[Value.int IntKind.i64 (r : Int)] 3)) := (by repeat (first | assumption | exact Below.refl _ _ | exact below_beyond _ _ | refine Below.beyond ?_ (by (try simp [size_beyond]) <;> omega) _ | refine Below.drew ?_ | refine Go.Rw.below_drewN ?_ _ | refine Go.Rw.below_setRow ?_ (by (try simp [size_beyond]) <;> omega) _ | refine Below.alloc ?_ (by (try simp [size_beyond]) <;> omega) _ | refine Below.setCell ?_ (by (try simp [size_beyond]) <;> omega) _))
      have HBA := Lib.hid hba
      clear hba
      have hcase : k < m ∨ (m ≤ k ∧ k < m2) ∨ (m ≤ k ∧ m2 ≤ k ∧ 0 < e) := by omega
      clear hin
      rcases hcase with h1 | ⟨h1, h2⟩ | ⟨h1, h2, h3⟩
      all_goals
        go_wp2_with (fail)
        go_at_call 50
        refine HCA.out.mono ?_
        rintro e w1 ⟨rfl, rfl⟩
        go_wp2_with (fail)
        go_at_call 50
        refine HCB.out.mono ?_
        rintro e w1 ⟨rfl, rfl⟩
        go_wp2_with (refine wpList_appT _ rfl _ _ 30 rfl uU uI HS.out.own HS.out.bel.size hll r rfl rfl ?_; intro v' w5 hown hgr hblk; have HG5 := Lib.hid (And.intro hown (And.intro hgr hblk)); clear hown hgr hblk)
        go_roundg (gk - 1)
        case measure => omega
        case rel =>
          refine ⟨k + 1, d, l ++ [r], by omega, rfl, by go_num, hd1, hdM, Lib.hid ⟨HG5.out.1, by simp [HS.out.len], dig_snoc HS.out.dig hr10, ?_, ?_⟩⟩
          · rw [val_snoc, HS.out.len]; exact HST.out
          · exact (HS.out.bel.trans (Below.mono HBA.out HS.out.bel.size)).grown HG5.out.2.1 (Nat.le_trans HS.out.bel.size HBA.out.size) (fun b hb => (own_lt HS.out.own hb).1)
    · obtain rfl : e = 0 := by omega
      have h1 : m ≤ k := by omega
      have h2 : m2 ≤ k := by omega
      obtain ⟨q5, c5, rfl, ht⟩ := own_tn HS.out.own (by rw [HS.out.len]; omega) HS.out.dig
      have HV5 := Lib.hid (show val l = n + n2 from by
        have h := HS.out.eq
        rw [Nat.mul_zero, Nat.add_zero, valTo_all _ (by rw [HM.out.1]; exact h1), valTo_all _ (by rw [HM.out.2]; exact h2), HV.out.1, HV.out.2] at h
        exact h)
      have HTC := Lib.hid (trim_calls ht)
      have HB5 := Lib.hid HS.out.bel
      clear ht HS
      generalize l.length = ll at *
      rw [HV5.out] at HTC
      go_wp2_with (fail)
      go_at_call 45
      refine HTC.out.mono ?_
      rintro e w2 ⟨q2, m2, c2, rfl, hn, hb⟩
      have HR := Lib.hid (And.intro hn (below_step hb HB5.out))
      clear hn hb
      go_wp2
      go_ret
      exact ⟨_, _, _, rfl, HR.out.1, HR.out.2⟩
end Go.Proofs.YtogjobmekjighaaDoor.bd
namespace Go.Proofs.YtogjobmekjighaaDoor.bd
open Go.RowKit Go.Own Go.Bd
open bn (below_step own_below own_kept own_lt cmpV)
set_option maxHeartbeats 4000000
set_option maxRecDepth 100000

/-- what the loop of Sub keeps -/
structure SubL (W : World) (a b : List Nat) (k e : Nat) (v : Value) (l : List Nat) (w : World) : Prop where
  own : w.ownsRow W.heap.size 3 1 v l.length (l.map dv)
  len : l.length = k
  dig : Dig l
  eq : valTo a k + B ^ k * e = val l + valTo b k
  bel : Below W.heap.size W w
theorem Sub_calls {q q2 : Option Addr} {m c m2 c2 n n2 : Nat} {W : World} (h : RefN q m c n W) (h2 : RefN q2 m2 c2 n2 W) (hle : n2 ≤ n) (hs : m ≤ 990000) :
    Calls Tryd.prog 20 #[.slice q m c, .slice q2 m2 c2] W (RefR W (n - n2)) := by
  obtain ⟨a, hA, hN, hv⟩ := h.ex
  obtain ⟨b, hA2, hN2, hv2⟩ := h2.ex
  have hm2 : m2 ≤ m := by
    rcases Nat.lt_or_ge m m2 with hl | hl
    · exfalso
      have := val_lt_len hA.all.2.2.2.2.1 hN2 (by rw [← hA.all.1, ← hA2.all.1]; exact hl)
      omega
    · exact hl
  have HM := Lib.hid (And.intro hA.all.1.symm hA2.all.1.symm)
  have HV := Lib.hid (And.intro hv hv2)
  have HD := Lib.hid (And.intro hA.all.2.2.2.2.1 hA2.all.2.2.2.2.1)
  have HA := Lib.hid hA
  have HA2 := Lib.hid hA2
  have HLE := Lib.hid hle
  clear h h2 hA hA2 hN hN2 hv hv2 hle
  go_enter Tryd.func20, Tryd.ntmps20
  go_wp2
  go_loopg [5, 6, 7, 8] m (fun g v s6 s7 _ wr => ∃ (k e : Nat) (l : List Nat), k + g = m ∧ s6 = .int .i64 (e : Int) ∧ s7 = .int .i64 (k : Int) ∧ e ≤ 1 ∧ Hid (SubL W a b k e v l wr))
  case atStart => exact ⟨0, 0, [], by omega, rfl, rfl, by omega, Lib.hid ⟨World.ownsRow_nil _ _ _ _, rfl, fun d hd => by simp at hd, by simp [valTo_zero, val], Below.refl _ _⟩⟩
  case round =>
    obtain ⟨k, e, l, hkg, rfl, rfl, he, HS⟩ := hrel
    by_cases hin : k < m
    · have HCA := Lib.hid (at_calls (HA.out.below HS.out.bel) k (by omega))
      have HCB := Lib.hid (at_calls (HA2.out.below HS.out.bel) k (by omega))
      have HST := Lib.hid (fun d e' h => sub_step a b (d := d) (c' := e') HS.out.eq h)
      have hx : dg a k < 10 := dg_lt HD.out.1 k
      have hy : dg b k < 10 := dg_lt HD.out.2 k
      have hll : l.length ≤ 10000000 := by rw [HS.out.len]; omega
      generalize dg a k = x at HCA HST hx
      generalize dg b k = y at HCB HST hy
      by_cases hbw : x < y + e
      · obtain ⟨r, hr⟩ : ∃ r, x + 10 = y + e + r := ⟨x + 10 - (y + e), by omega⟩
        have hsi : (x : Int) - (y : Int) - (e : Int) = (r : Int) - 10 := by omega
        have hsr : (r : Int) - 10 + 10 = (r : Int) := by omega
        have hr10 : r < 10 := by omega
        have HST2 := Lib.hid (HST.out r 1 hr)
        clear hr hbw HST
        have hba : Below wr.heap.size wr (wr.alloc (Obj.cells #[Value.int IntKind.i64 (r : Int)] 3)) := (by repeat (first | assumption | exact Below.refl _ _ | exact below_beyond _ _ | refine Below.beyond ?_ (by (try simp [size_beyond]) <;> omega) _ | refine Below.drew ?_ | refine Go.Rw.below_drewN ?_ _ | refine Go.Rw.below_setRow ?_ (by (try simp [size_beyond]) <;> omega) _ | refine Below.alloc ?_ (by (try simp [size_beyond]) <;> omega) _ | refine Below.setCell ?_ (by (try simp [size_beyond]) <;> omega) _))
        have HBA := Lib.hid hba
        clear hba
        go_wp2_with (fail)
        go_at_call 50
        refine HCA.out.mono ?_
        rintro e w1 ⟨rfl, rfl⟩
        go_wp2_with (fail)
        go_at_call 50
        refine HCB.out.mono ?_
        rintro e w1 ⟨rfl, rfl⟩
        go_wp2_with (refine wpList_appT _ rfl _ _ 30 rfl uU uI HS.out.own HS.out.bel.size hll r rfl rfl ?_; intro v' w5 hown hgr hblk; have HG5 := Lib.hid (And.intro hown (And.intro hgr hblk)); clear hown hgr hblk)
        go_roundg (gk - 1)
        case measure => omega
        case rel =>
          refine ⟨k + 1, 1, l ++ [r], by omega, rfl, by go_num, by omega, Lib.hid ⟨HG5.out.1, by simp [HS.out.len], dig_snoc HS.out.dig hr10, ?_, ?_⟩⟩
          · rw [val_snoc, HS.out.len]; exact HST2.out
          · exact (HS.out.bel.trans (Below.mono HBA.out HS.out.bel.size)).grown HG5.out.2.1 (Nat.le_trans HS.out.bel.size HBA.out.size) (fun b hb => (own_lt HS.out.own hb).1)
      · obtain ⟨r, hr⟩ : ∃ r, x = y + e + r := ⟨x - (y + e), by omega⟩
        have hsi : (x : Int) - (y : Int) - (e : Int) = (r : Int) := by omega
        have hr10 : r < 10 := by omega
        have HST2 := Lib.hid (HST.out r 0 (by omega))
        clear hr hbw HST
        have hba : Below wr.heap.size wr (wr.alloc (Obj.cells #[Value.int IntKind.i64 (r : Int)] 3)) := (by repeat (first | assumption | exact Below.refl _ _ | exact below_beyond _ _ | refine Below.beyond ?_ (by (try simp [size_beyond]) <;> omega) _ | refine Below.drew ?_ | refine Go.Rw.below_drewN ?_ _ | refine Go.Rw.below_setRow ?_ (by (try simp [size_beyond]) <;> omega) _ | refine Below.alloc ?_ (by (try simp [size_beyond]) <;> omega) _ | refine Below.setCell ?_ (by (try simp [size_beyond]) <;> omega) _))
        have HBA := Lib.hid hba
        clear hba
        go_wp2_with (fail)
        go_at_call 50
        refine HCA.out.mono ?_
        rintro e w1 ⟨rfl, rfl⟩
        go_wp2_with (fail)
        go_at_call 50
        refine HCB.out.mono ?_
        rintro e w1 ⟨rfl, rfl⟩
        go_wp2_with (refine wpList_appT _ rfl _ _ 30 rfl uU uI HS.out.own HS.out.bel.size hll r rfl rfl ?_; intro v' w5 hown hgr hblk; have HG5 := Lib.hid (And.intro hown (And.intro hgr hblk)); clear hown hgr hblk)
        go_roundg (gk - 1)
        case measure => omega
        case rel =>
          refine ⟨k + 1, 0, l ++ [r], by omega, rfl, by go_num, by omega, Lib.hid ⟨HG5.out.1, by simp [HS.out.len], dig_snoc HS.out.dig hr10, ?_, ?_⟩⟩
          · rw [val_snoc, HS.out.len]; exact HST2.out
          · exact (HS.out.bel.trans (Below.mono HBA.out HS.out.bel.size)).grown HG5.out.2.1 (Nat.le_trans HS.out.bel.size HBA.out.size) (fun b hb => (own_lt HS.out.own hb).1)
    · obtain rfl : k = m := by omega
      obtain ⟨q5, c5, rfl, ht⟩ := own_tn HS.out.own (by rw [HS.out.len]; omega) HS.out.dig
      have HV5 := Lib.hid (show val l = n - n2 from by
        have h := HS.out.eq
        have hl := val_lt HS.out.dig
        have hle := HLE.out
        rw [HS.out.len] at hl
        rw [valTo_all _ (by rw [HM.out.1]; exact Nat.le_refl _), valTo_all _ (by rw [HM.out.2]; exact hm2), HV.out.1, HV.out.2] at h
        rcases (by omega : e = 0 ∨ e = 1) with rfl | rfl
        · rw [Nat.mul_zero] at h; omega
        · rw [Nat.mul_one] at h; omega)
      have HTC := Lib.hid (trim_calls ht)
      have HB5 := Lib.hid HS.out.bel
      clear ht HS
      generalize l.length = ll at *
      rw [HV5.out] at HTC
      go_wp2_with (fail)
      go_at_call 45
      refine HTC.out.mono ?_
      rintro e w2 ⟨q2, m2, c2, rfl, hn, hb⟩
      have HR := Lib.hid (And.intro hn (below_step hb HB5.out))
      clear hn hb
      go_wp2
      go_ret
      exact ⟨_, _, _, rfl, HR.out.1, HR.out.2⟩
end Go.Proofs.YtogjobmekjighaaDoor.bd
namespace Go.Proofs.YtogjobmekjighaaDoor.bd
open Go.RowKit Go.Own Go.Bd
open bn (below_step own_below own_kept own_lt cmpV)
set_option maxHeartbeats 4000000
set_option maxRecDepth 100000

/-- what the inner loop of Mul keeps -/
structure MulL (W : World) (b : List Nat) (m m2 i k e v0 x : Nat) (d : List Nat) (w : World) : Prop where
  row : Mrow W.heap.size (m + m2) (i + m2 + 1) d w
  tail : k ≤ m2 → dg d (i + m2) = 0
  eq : val d + B ^ (i + k) * e = v0 + x * B ^ i * valTo b k
  bel : Below W.heap.size W w
theorem MulL.below {W w w' : World} {b d : List Nat} {m m2 i k e v0 x : Nat} (h : MulL W b m m2 i k e v0 x d w) (hb : Below w.heap.size w w') : MulL W b m m2 i k e v0 x d w' :=
  ⟨h.row.below hb, h.tail, h.eq, h.bel.trans (hb.mono h.bel.size)⟩
theorem MulL.step {W w : World} {b d : List Nat} {m m2 i k e v0 x : Nat} (h : MulL W b m m2 i k e v0 x d w) (hk : k ≤ m2) (hi : i < m) (hl : b.length = m2) (he : e ≤ 9) (hx : x < B) (hb : Dig b) :
    e + x * dg b k + dg d (i + k) ≤ 99 ∧ (k = m2 → (e + x * dg b k + dg d (i + k)) / B = 0) ∧
    MulL W b m m2 i (k + 1) ((e + x * dg b k + dg d (i + k)) / B) v0 x (d.set (i + k) ((e + x * dg b k + dg d (i + k)) % B)) (w.setCell ⟨W.heap.size, i + k, none⟩ (.int .i64 (((e + x * dg b k + dg d (i + k)) % B : Nat) : Int))) := by
  have hd : i + k < d.length := by rw [h.row.2.1]; omega
  have h1 := dg_lt hb k
  have h2 := dg_lt h.row.2.2.1 (i + k)
  have h3 : x * dg b k ≤ 9 * 9 := Nat.mul_le_mul (by unfold B at hx; omega) (by unfold B at h1; omega)
  refine ⟨by unfold B at h2; omega, ?_, ?_⟩
  · intro hkm
    rw [hkm, dg_over (ds := b) (by omega), h.tail hk]
    simp only [Nat.mul_zero, Nat.add_zero]
    exact Nat.div_eq_of_lt (by unfold B; omega)
  · refine ⟨h.row.set (by omega) (by omega) (Nat.mod_lt _ (by decide)), fun hk1 => ?_, mul_step hd h.eq, h.bel.setCell (Nat.le_refl _) _⟩
    rw [dg_set hd, if_neg (by omega)]
    exact h.tail hk
theorem Mul_calls {q q2 : Option Addr} {m c m2 c2 n n2 : Nat} {W : World} (h : RefN q m c n W) (h2 : RefN q2 m2 c2 n2 W) (hs : m + m2 ≤ 990000) :
    Calls Tryd.prog 25 #[.slice q m c, .slice q2 m2 c2] W (RefR W (n * n2)) := by
  obtain ⟨a, hA, hN, hv⟩ := h.ex
  obtain ⟨b, hA2, hN2, hv2⟩ := h2.ex
  have HM := Lib.hid (And.intro hA.all.1.symm hA2.all.1.symm)
  have HV := Lib.hid (And.intro hv hv2)
  have HD := Lib.hid (And.intro hA.all.2.2.2.2.1 hA2.all.2.2.2.2.1)
  have HA := Lib.hid hA
  have HA2 := Lib.hid hA2
  clear h h2 hA hA2 hN hN2 hv hv2
  obtain ⟨i0, hi, hz0, hz1, hz2⟩ := info_parts uI
  have Hi := Lib.hid hi; clear hi
  go_enter Tryd.func25, Tryd.ntmps25
  go_wp2_with (first | (at_make; refine wpList_make_full _ rfl _ _ 30 rfl W.heap.size 3 i0 (.int .i64 0) 1 uU Hi.out hz0 hz1 _ _ _ _ (m + m2) rfl rfl ?_ ?_ (by rw [hz2]; omega) (by unfold maxLen; omega) (by simp) ?_))
  all_goals first
    | omega
    | skip
  intro w1 hown hgr
  have HR0 := Lib.hid (Mrow.made hown (0 + m2))
  have HB0 := Lib.hid (show Below W.heap.size W w1 from ⟨hgr.os, hgr.tape, hgr.output, hgr.size, fun k hk => hgr.block k hk (by simp)⟩)
  clear hown hgr
  go_wp2
  go_loopg [6, 7, 8, 9] m (fun g s6 _ _ _ wr => ∃ (j : Nat) (d : List Nat), j + g = m ∧ s6 = .int .i64 (j : Int) ∧ Hid (Mrow W.heap.size (m + m2) (j + m2) d wr ∧ val d = valTo a j * n2 ∧ Below W.heap.size W wr))
  case atStart => exact ⟨0, _, by omega, rfl, Lib.hid ⟨HR0.out, by rw [val_zeros, valTo_zero, Nat.zero_mul], HB0.out⟩⟩
  case round =>
    obtain ⟨j, d, hjg, rfl, HR⟩ := hrel
    by_cases hlt : j < m
    · obtain ⟨G, rfl⟩ : ∃ G, gk = G + 1 := ⟨gk - 1, by omega⟩
      obtain ⟨p, off, rfl, hpw, hcs⟩ := HA.out.cell hlt
      have hcx := hcs j hlt
      have HX := Lib.hid (dg_lt HD.out.1 j)
      have HST := Lib.hid (show valTo a (j + 1) * n2 = valTo a j * n2 + dg a j * B ^ j * valTo b m2 from by rw [valTo_succ, Nat.add_mul, valTo_all (ds := b) _ (by rw [HM.out.2]; exact Nat.le_refl _), HV.out.2, Nat.mul_comm (B ^ j)])
      clear hcs
      generalize dg a j = x at hcx HX HST
      have hxb : x < 10 := HX.out
      have HCX := Lib.hid hcx; clear hcx
      go_wp2
      go_loopg [7, 8, 9] (m2 + 1) (fun g s7 s8 _ wr2 => ∃ (k e : Nat) (d : List Nat), k + g = m2 + 1 ∧ s7 = .int .i64 (e : Int) ∧ s8 = .int .i64 (k : Int) ∧ e ≤ 9 ∧ (k ≤ m2 ∨ e = 0) ∧ Hid (MulL W b m m2 j k e (valTo a j * n2) x d wr2))
      case atStart => exact ⟨0, 0, d, by omega, rfl, rfl, by omega, .inr rfl, Lib.hid ⟨⟨HR.out.1.1, HR.out.1.2.1, HR.out.1.2.2.1, fun j hj => HR.out.1.2.2.2 j (by omega)⟩, fun _ => HR.out.1.2.2.2 _ (Nat.le_refl _), by rw [HR.out.2.1, valTo_zero, Nat.mul_zero, Nat.mul_zero], HR.out.2.2⟩⟩
      case round =>
        obtain ⟨k, e, d2, hkg, rfl, rfl, he, hke, HS⟩ := hrel
        by_cases hin : k < m2 ∨ 0 < e
        · have hkM : k ≤ m2 := by omega
          have HSS := Lib.hid (fun w' (hw : Below wr.heap.size wr w') => (HS.out.below hw).step hkM hlt HM.out.2 he HX.out HD.out.2)
          have HCB := Lib.hid (fun w (hw : Below W.heap.size W w) => at_calls (HA2.out.below hw) k (by omega))
          have hcx := (HS.out.bel.cell hpw).trans HCX.out
          have hcd := HS.out.row.1.cell (a := j + k) (by rw [HS.out.row.2.1]; omega)
          have hfd := HS.out.row.1.frozen (j + k)
          have hy : dg b k < 10 := dg_lt HD.out.2 k
          have ht10 : dg d2 (j + k) < 10 := dg_lt HS.out.row.2.2.1 _
          generalize dg b k = y at HSS HCB hy
          generalize dg d2 (j + k) = t at hcd HSS ht10
          generalize hz : x * y = z at HSS
          have hzi : (x : Int) * (y : Int) = (z : Int) := by rw [← hz]; simp
          obtain ⟨u, hu⟩ : ∃ u, e + z + t = u := ⟨_, rfl⟩
          rw [hu] at HSS
          have hui : (t : Int) + (z : Int) + (e : Int) = (u : Int) := by omega
          have hu99 : u ≤ 99 := (HSS.out _ (Below.refl _ _)).1
          obtain ⟨r, hr⟩ : ∃ r, u % B = r := ⟨_, rfl⟩
          obtain ⟨f, hf⟩ : ∃ f, u / B = f := ⟨_, rfl⟩
          rw [hr, hf] at HSS
          unfold B at hr hf
          have hri : (u : Int) % 10 = (r : Int) := by omega
          have hfi : (u : Int) / 10 = (f : Int) := by omega
          have hr10 : r < 10 := by omega
          have hf9 : f ≤ 9 := by omega
          have hfk : k + 1 ≤ m2 ∨ f = 0 := by
            rcases Nat.lt_or_ge k m2 with h | h
            · exact .inl h
            · exact .inr ((HSS.out _ (Below.refl _ _)).2.1 (by omega))
          have hz81 : z ≤ 81 := by rw [← hz]; exact Nat.mul_le_mul (show x ≤ 9 by omega) (show y ≤ 9 by omega)
          clear hz hu hr hf
          have hcase : k < m2 ∨ (m2 ≤ k ∧ 0 < e) := by omega
          clear hin
          rcases hcase with h1 | ⟨h1, h2⟩
          all_goals
            go_wp2
            have hBw := HS.out.bel
            go_quiet ((go_at_call 50; refine Calls.quiet_of_same (HCB.out _ ?_); exact (by repeat (first | assumption | exact Below.refl _ _ | exact below_beyond _ _ | refine Below.beyond ?_ (by (try simp [size_beyond]) <;> omega) _ | refine Below.drew ?_ | refine Go.Rw.below_drewN ?_ _ | refine Go.Rw.below_setRow ?_ (by (try simp [size_beyond]) <;> omega) _ | refine Below.alloc ?_ (by (try simp [size_beyond]) <;> omega) _ | refine Below.setCell ?_ (by (try simp [size_beyond]) <;> omega) _))))
            go_wp2
            go_roundg (gk - 1)
            case measure => omega
            case rel => exact ⟨k + 1, f, _, by omega, rfl, by go_num, hf9, hfk, Lib.hid (HSS.out _ (by repeat (first | assumption | exact Below.refl _ _ | exact below_beyond _ _ | refine Below.beyond ?_ (by (try simp [size_beyond]) <;> omega) _ | refine Below.drew ?_ | refine Go.Rw.below_drewN ?_ _ | refine Go.Rw.below_setRow ?_ (by (try simp [size_beyond]) <;> omega) _ | refine Below.alloc ?_ (by (try simp [size_beyond]) <;> omega) _ | refine Below.setCell ?_ (by (try simp [size_beyond]) <;> omega) _))).2.2⟩
        · obtain rfl : e = 0 := by omega
          have h1 : m2 ≤ k := by omega
          have HE := Lib.hid (show val d2 = valTo a (j + 1) * n2 from by
            have h := HS.out.eq
            rw [Nat.mul_zero, Nat.add_zero, valTo_all (ds := b) _ (by rw [HM.out.2]; exact h1), ← valTo_all (ds := b) m2 (by rw [HM.out.2]; exact Nat.le_refl _), ← HST.out] at h
            exact h)
          go_wp2
          go_roundg G
          case measure => omega
          case rel =>
            refine ⟨j + 1, d2, by omega, by go_num, Lib.hid ⟨?_, HE.out, HS.out.bel⟩⟩
            rw [show j + 1 + m2 = j + m2 + 1 by omega]
            exact HS.out.row
    · obtain rfl : j = m := by omega
      have ht := HR.out.1.1.at_ (c := j + m2) (by rw [HR.out.1.2.1]; omega) HR.out.1.2.2.1 (by rw [HR.out.1.2.1]; exact Nat.le_refl _) (by unfold maxLen; omega)
      have HV5 := Lib.hid (show val d = n * n2 by rw [HR.out.2.1, valTo_all _ (by rw [HM.out.1]; exact Nat.le_refl _), HV.out.1])
      rw [HR.out.1.2.1] at ht
      have HTC := Lib.hid (trim_calls ht)
      have HB5 := Lib.hid HR.out.2.2
      clear ht HR
      rw [HV5.out] at HTC
      go_wp2_with (fail)
      go_at_call 45
      refine HTC.out.mono ?_
      rintro e w2 ⟨q2, m2, c2, rfl, hn, hb⟩
      have HR := Lib.hid (And.intro hn (below_step hb HB5.out))
      clear hn hb
      go_wp2
      go_ret
      exact ⟨_, _, _, rfl, HR.out.1, HR.out.2⟩
end Go.Proofs.YtogjobmekjighaaDoor.bd
namespace Go.Proofs.YtogjobmekjighaaDoor.bd
open Go.RowKit Go.Own Go.Bd
open bn (below_step cmpV GeR)
set_option maxHeartbeats 4000000
set_option maxRecDepth 100000

theorem RCmp_lt {q q2 : Option Addr} {m c m2 c2 n n2 : Nat} {W : World} (h : RefN q m c n W) (h2 : RefN q2 m2 c2 n2 W) (e : n < n2) :
    Calls Tryd.prog 17 #[.slice q m c, .slice q2 m2 c2] W fun e w' => e = .returned (.int .i64 (-1)) ∧ Below W.heap.size W w' := by
  have := Cmp_calls h h2; rw [bn.cmpV_lt e] at this; exact this
theorem cmpV_nn {n n2 : Nat} (e : n2 ≤ n) : 0 ≤ cmpV (n : Int) (n2 : Int) := by
  rcases Nat.eq_or_lt_of_le e with rfl | h
  · rw [bn.cmpV_eq]; exact Int.le_refl _
  · rw [bn.cmpV_gt h]; decide
theorem RCmp_ge {q q2 : Option Addr} {m c m2 c2 n n2 : Nat} {W : World} (h : RefN q m c n W) (h2 : RefN q2 m2 c2 n2 W) (e : n2 ≤ n) :
    Calls Tryd.prog 17 #[.slice q m c, .slice q2 m2 c2] W (GeR W) :=
  (Cmp_calls h h2).mono fun _ _ ⟨h1, h2⟩ => ⟨_, h1, cmpV_nn e, h2⟩
theorem RAdd {q q2 : Option Addr} {m c m2 c2 n n2 : Nat} {W : World} (h : RefN q m c n W) (h2 : RefN q2 m2 c2 n2 W) (k : Nat) (hx : n < B ^ k) (hy : n2 < B ^ k) (hk : k ≤ 990000) :
    Calls Tryd.prog 23 #[.slice q m c, .slice q2 m2 c2] W (RefR W (n + n2)) := Add_calls h h2 (Nat.le_trans (h.len hx) hk) (Nat.le_trans (h2.len hy) hk)
theorem RSub {q q2 : Option Addr} {m c m2 c2 n n2 : Nat} {W : World} (h : RefN q m c n W) (h2 : RefN q2 m2 c2 n2 W) (k : Nat) (hx : n < B ^ k) (hk : k ≤ 990000) (hle : n2 ≤ n) :
    Calls Tryd.prog 20 #[.slice q m c, .slice q2 m2 c2] W (RefR W (n - n2)) := Sub_calls h h2 hle (Nat.le_trans (h.len hx) hk)
theorem RMul {q q2 : Option Addr} {m c m2 c2 n n2 : Nat} {W : World} (h : RefN q m c n W) (h2 : RefN q2 m2 c2 n2 W) (k k2 : Nat) (hx : n < B ^ k) (hy : n2 < B ^ k2) (hk : k + k2 ≤ 990000) :
    Calls Tryd.prog 25 #[.slice q m c, .slice q2 m2 c2] W (RefR W (n * n2)) := Mul_calls h h2 (Nat.le_trans (Nat.add_le_add (h.len hx) (h2.len hy)) hk)
theorem dnum_10 {xs : List Nat} {k : Nat} (h : xs.length ≤ k) : dnum xs < B ^ k := Nat.lt_of_lt_of_le (bn.dnum_lt xs) (Nat.pow_le_pow_right (by decide) h)
/-- of no digits is the number 0 -/
theorem nat_nil (w : World) : bn.NatAt (.agg #[.slice none 0 0]) 0 w := ⟨_, _, _, _, rfl, bn.dg_nil w, fun h => absurd rfl h, rfl⟩
end Go.Proofs.YtogjobmekjighaaDoor.bd
namespace Go.Proofs.YtogjobmekjighaaDoor.bd
open Go.RowKit Go.Own Go.Bd
open bn (below_step own_below own_kept own_lt cmpV)
open Go.Bn (isD isD_iff isDg dval dval_cons dval_append bt_list)
set_option maxHeartbeats 4000000
set_option maxRecDepth 100000

/-- what the loop of Of keeps -/
structure OfL (W : World) (n u : Nat) (v : Value) (l : List Nat) (w : World) : Prop where
  own : w.ownsRow W.heap.size 3 1 v l.length (l.map dv)
  len : l.length ≤ 20
  dig : Dig l
  eq : val l + B ^ l.length * u = n
  bnd : u < B ^ (20 - l.length)
  nrm : u = 0 → Nrm l
  bel : Below W.heap.size W w
theorem ROf_calls (n : Nat) (hn : n < 18446744073709551616) (W : World) :
    Calls Tryd.prog 43 #[.int .u64 (n : Int)] W (RefR W n) := by
  have HN := Lib.hid hn; clear hn
  go_enter Tryd.func43, Tryd.ntmps43
  go_wp2
  go_loopg [0, 3] n (fun g s0 v wr => ∃ (l : List Nat), s0 = .int .u64 (g : Int) ∧ g ≤ n ∧ Hid (OfL W n g v l wr))
  case atStart => exact ⟨[], rfl, Nat.le_refl _, Lib.hid ⟨World.ownsRow_nil _ _ _ _, by simp, fun d hd => by simp at hd, by simp [val], Nat.lt_of_lt_of_le HN.out (by decide), fun _ h => absurd rfl h, Below.refl _ _⟩⟩
  case round =>
    obtain ⟨l, rfl, hgn, HS⟩ := hrel
    by_cases h0 : 0 < gk
    · have hgb : (gk : Int) ≤ 18446744073709551615 := by have := HN.out; omega
      have hlen : l.length < 20 := by
        have h1 := HS.out.bnd
        have h2 := HS.out.len
        rcases Nat.lt_or_eq_of_le h2 with h | h
        · exact h
        · rw [h] at h1; simp at h1; omega
      have hll : l.length ≤ 10000000 := by omega
      obtain ⟨r, hr⟩ : ∃ r, gk % 10 = r := ⟨_, rfl⟩
      obtain ⟨f, hf⟩ : ∃ f, gk / 10 = f := ⟨_, rfl⟩
      have hr10 : r < 10 := by omega
      have HST := Lib.hid (show ∀ v' w', w'.ownsRow W.heap.size 3 1 v' (l ++ [r]).length ((l ++ [r]).map dv) → Below W.heap.size W w' → OfL W n f v' (l ++ [r]) w' from fun v' w' ho hb => by
        refine ⟨ho, by simp; omega, dig_snoc HS.out.dig hr10, ?_, ?_, ?_, hb⟩
        · rw [val_snoc, List.length_append, List.length_singleton, Nat.pow_succ, Nat.add_assoc, Nat.mul_assoc, ← Nat.mul_add, show r + B * f = gk from by unfold B; omega]
          exact HS.out.eq
        · have h1 := HS.out.bnd
          rw [List.length_append, List.length_singleton, show 20 - l.length = (20 - (l.length + 1)) + 1 by omega, Nat.pow_succ] at *
          rw [← hf]
          exact Nat.div_lt_of_lt_mul (by rw [Nat.mul_comm]; exact h1)
        · intro hf0 hne
          rw [List.getLast_append]
          simp
          omega)
      have hri : (gk : Int) % 10 = (r : Int) := by omega
      have hfi : (gk : Int) / 10 = (f : Int) := by omega
      have hfg : f < gk := by omega
      have hba : Below wr.heap.size wr (wr.alloc (Obj.cells #[Value.int IntKind.i64 (r : Int)] 3)) := (by repeat (first | assumption | exact Below.refl _ _ | exact below_beyond _ _ | refine Below.beyond ?_ (by (try simp [size_beyond]) <;> omega) _ | refine Below.drew ?_ | refine Go.Rw.below_drewN ?_ _ | refine Go.Rw.below_setRow ?_ (by (try simp [size_beyond]) <;> omega) _ | refine Below.alloc ?_ (by (try simp [size_beyond]) <;> omega) _ | refine Below.setCell ?_ (by (try simp [size_beyond]) <;> omega) _))
      have HBA := Lib.hid hba
      clear hba hr hf hlen
      go_wp2_with (refine wpList_appT _ rfl _ _ 30 rfl uU uI HS.out.own HS.out.bel.size hll r rfl rfl ?_; intro v' w5 hown hgr hblk; have HG5 := Lib.hid (And.intro hown (And.intro hgr hblk)); clear hown hgr hblk)
      go_roundg f
      case measure => exact hfg
      case rel => exact ⟨l ++ [r], rfl, by omega, Lib.hid (HST.out _ _ HG5.out.1 ((HS.out.bel.trans (Below.mono HBA.out HS.out.bel.size)).grown HG5.out.2.1 (Nat.le_trans HS.out.bel.size HBA.out.size) (fun b hb => (own_lt HS.out.own hb).1)))⟩
    · obtain rfl : gk = 0 := by omega
      obtain ⟨q5, c5, rfl, ht⟩ := own_tn HS.out.own (Nat.le_trans HS.out.len (by decide)) HS.out.dig
      have HR := Lib.hid (show RefN q5 l.length c5 n wr from ⟨l, ht, HS.out.nrm rfl, by have := HS.out.eq; rw [Nat.mul_zero, Nat.add_zero] at this; exact this⟩)
      have HB5 := Lib.hid HS.out.bel
      clear ht HS
      generalize l.length = ll at *
      go_wp2
      go_ret
      exact ⟨_, _, _, rfl, HR.out, HB5.out⟩
/-- the digits' values, the last first -/
def rdg (l : List UInt8) : List Nat := l.map fun c => c.toNat - 48
theorem rdg_val : ∀ (l : List UInt8), val (rdg l).reverse = dval l
  | [] => rfl
  | x :: r => by
    show val ((x.toNat - 48) :: rdg r).reverse = _
    rw [List.reverse_cons, val_snoc, rdg_val r, dval_cons, List.length_reverse]
    unfold rdg
    rw [List.length_map, Nat.mul_comm (B ^ r.length)]
    show dval r + (x.toNat - 48) * 10 ^ r.length = _
    omega
/-- parsed, or refused -/
def RParR (W : World) (l : List UInt8) (e : Ending) (w' : World) : Prop :=
  (isD l = true ∧ ∃ q m c, e = .returned (.tuple #[.slice q m c, .bool true]) ∧ RefN q m c (dval l) w' ∧ Below W.heap.size W w') ∨
  (isD l = false ∧ e = .returned (.tuple #[.slice none 0 0, .bool false]) ∧ Below W.heap.size W w')
end Go.Proofs.YtogjobmekjighaaDoor.bd
namespace Go.Proofs.YtogjobmekjighaaDoor.bd
open Go.RowKit Go.Own Go.Bd Go.PlainAid
open bn (below_step cmpV head_bt all_bt len_list)
open Go.Bn (isD isD_iff isDg dval dval_cons dval_append bt_list)
set_option maxHeartbeats 4000000
set_option maxRecDepth 100000

theorem RParse_calls (s : ByteArray) (hs : s.size ≤ 900000) (W : World) :
    Calls Tryd.prog 41 #[.string s] W (RParR W s.data.toList) := by
  have hb := get_bt s
  by_cases h0 : s.size = 0
  · have hn : s.toList = [] := by rw [ByteArray.toList_eq]; exact List.length_eq_zero_iff.1 h0
    have HR := Lib.hid (show isD s.data.toList = false from by rw [← ByteArray.toList_eq, hn]; rfl)
    go_enter Tryd.func41, Tryd.ntmps41
    go_wp2
    go_ret2
    exact .inr ⟨HR.out, rfl, Below.refl _ _⟩
  · have hp : 0 < s.size := by omega
    have hn : ¬ s.toList = [] := by rw [ByteArray.toList_eq]; intro h; exact h0 (by rw [← len_list, h]; rfl)
    have hn2 : s.toList.isEmpty = false := by simpa using hn
    have HNE := Lib.hid (show s.data.toList ≠ [] by intro h; exact h0 (by rw [← len_list, h]; rfl))
    have HHD := Lib.hid (head_bt s hp)
    have hp2 : (0 : Int) < (s.size : Int) := by omega
    clear h0
    by_cases hz : bt s 0 = 48 ∧ 1 < s.size
    · obtain ⟨hz1, hz2⟩ := hz
      have HR := Lib.hid (show isD s.data.toList = false from by
        rw [Bool.eq_false_iff]; intro h
        exact (isD_iff.1 h).2.1 ⟨HHD.out.2 hz1, hz2⟩)
      have hz3 : (bt s 0 == 48) = true := by simpa using hz1
      have hz4 : (1 : Int) < (s.size : Int) := by omega
      clear hz1
      go_enter Tryd.func41, Tryd.ntmps41
      go_wp2
      go_ret2
      exact .inr ⟨HR.out, rfl, Below.refl _ _⟩
    · have HZ := Lib.hid (show ¬ (s.data.toList.head? = some 48 ∧ 1 < s.data.toList.length) from fun h => hz ⟨HHD.out.1 h.1, h.2⟩)
      have HALL := Lib.hid (all_bt s)
      have HBT := Lib.hid (bt_list s)
      have HLL := Lib.hid (show (rdg s.data.toList).length = s.size from by unfold rdg; rw [List.length_map]; rfl)
      have hzz : ((bt s 0 == 48) = false ∧ (1 : Int) < (s.size : Int)) ∨ ((bt s 0 == 48) = false ∧ ¬ (1 : Int) < (s.size : Int)) ∨ ((bt s 0 == 48) = true ∧ ¬ (1 : Int) < (s.size : Int)) := by
        by_cases h : bt s 0 = 48
        · exact .inr (.inr ⟨by simpa using h, by omega⟩)
        · by_cases h1 : (1 : Int) < (s.size : Int)
          · exact .inl ⟨by simpa using h, h1⟩
          · exact .inr (.inl ⟨by simpa using h, h1⟩)
      clear hz
      obtain ⟨i0, hi, hy0, hy1, hy2⟩ := info_parts uI
      have Hi := Lib.hid hi; clear hi
      rcases hzz with ⟨hzz, hzy⟩ | ⟨hzz, hzy⟩ | ⟨hzz, hzy⟩
      all_goals
        go_enter Tryd.func41, Tryd.ntmps41
        go_wp2_with (first | (at_make; refine wpList_make_full _ rfl _ _ 30 rfl W.heap.size 3 i0 (.int .i64 0) 1 uU Hi.out hy0 hy1 _ _ _ _ s.size rfl rfl ?_ ?_ (by rw [hy2]; omega) (by unfold maxLen; omega) (by simp) ?_))
        all_goals first
          | omega
          | skip
        intro w1 hown hgr
        have HR0 := Lib.hid (RowT.made hown)
        have HB0 := Lib.hid (show Below W.heap.size W w1 from ⟨hgr.os, hgr.tape, hgr.output, hgr.size, fun k hk => hgr.block k hk (by simp)⟩)
        clear hown hgr hzz
        go_wp2
        go_loopg [5] s.size (fun g s5 wr => ∃ k : Nat, k + g = s.size ∧ s5 = .int .i64 (k : Int) ∧ Hid ((∀ j, j < k → 48 ≤ bt s j ∧ bt s j ≤ 57) ∧ RowT W.heap.size (List.replicate (s.size - k) 0 ++ ((rdg s.data.toList).take k).reverse) wr ∧ Below W.heap.size W wr))
        case atStart => exact ⟨0, by omega, rfl, Lib.hid ⟨fun j hj => absurd hj (by omega), by simpa using HR0.out, HB0.out⟩⟩
        case round =>
          obtain ⟨k, hkg, rfl, HS⟩ := hrel
          by_cases hlt : k < s.size
          · by_cases hd : 48 ≤ bt s k ∧ bt s k ≤ 57
            · obtain ⟨hd1, hd2⟩ := hd
              have HK2 := Lib.hid (show ∀ j, j < k + 1 → 48 ≤ bt s j ∧ bt s j ≤ 57 from fun j hj => by
                rcases Nat.lt_or_eq_of_le (Nat.le_of_lt_succ hj) with h | rfl
                · exact HS.out.1 j h
                · exact ⟨hd1, hd2⟩)
              have hl : ((rdg s.data.toList).take k).length = k := by rw [List.length_take, HLL.out]; omega
              have hlen : (List.replicate (s.size - k) 0 ++ ((rdg s.data.toList).take k).reverse).length = s.size := by simp; rw [HLL.out]; omega
              obtain ⟨ch, hc1, hc2⟩ := HBT.out k hlt
              have hxi : bt s k - 48 = ((ch.toNat - 48 : Nat) : Int) := by omega
              have HF := Lib.hid (show RowT W.heap.size (List.replicate (s.size - (k + 1)) 0 ++ ((rdg s.data.toList).take (k + 1)).reverse) (wr.setCell ⟨W.heap.size, s.size - 1 - k, none⟩ (.int .i64 (bt s k - 48))) from by
                have h1 := HS.out.2.1.set (a := s.size - 1 - k) (by rw [hlen]; omega) (ch.toNat - 48)
                rw [fill_set hlt hl] at h1
                have hx : (rdg s.data.toList)[k]? = some (ch.toNat - 48) := by unfold rdg; rw [List.getElem?_map, hc1]; rfl
                rw [List.take_add_one, hx, hxi]
                exact h1)
              have hcd := HS.out.2.1.cell (a := s.size - 1 - k) (by rw [hlen]; omega)
              have hfd := HS.out.2.1.frozen (s.size - 1 - k)
              generalize dg (List.replicate (s.size - k) 0 ++ ((rdg s.data.toList).take k).reverse) (s.size - 1 - k) = t at hcd
              clear hl hlen hc1 hc2 hxi
              obtain ⟨p, hp⟩ : ∃ p, s.size - 1 - k = p := ⟨_, rfl⟩
              have hpi : (s.size : Int) - 1 - (k : Int) = (p : Int) := by omega
              rw [hp] at hcd hfd HF
              clear hp
              go_wp2
              go_roundg (gk - 1)
              case measure => omega
              case rel => exact ⟨k + 1, by omega, by go_num, Lib.hid ⟨HK2.out, HF.out, HS.out.2.2.setCell (Nat.le_refl _) _⟩⟩
            · have HR := Lib.hid (show isD s.data.toList = false from by
                rw [Bool.eq_false_iff]; intro h
                exact hd (HALL.out.1 (isD_iff.1 h).2.2 k hlt))
              have hd' : bt s k < 48 ∨ (48 ≤ bt s k ∧ 57 < bt s k) := by omega
              have HB5 := Lib.hid HS.out.2.2
              clear hd HS
              rcases hd' with hd1 | ⟨hd1, hd2⟩
              all_goals (go_wp2; go_ret2; exact .inr ⟨HR.out, rfl, HB5.out⟩)
          · obtain rfl : gk = 0 := by omega
            obtain rfl : k = s.size := by omega
            have HR := Lib.hid (show isD s.data.toList = true from isD_iff.2 ⟨HNE.out, HZ.out, HALL.out.2 HS.out.1⟩)
            have hT : (List.replicate (s.size - s.size) 0 ++ ((rdg s.data.toList).take s.size).reverse) = (rdg s.data.toList).reverse := by
              rw [Nat.sub_self, List.replicate_zero, List.nil_append, List.take_of_length_le (by rw [HLL.out]; exact Nat.le_refl _)]
            have ht : TnAt (some ⟨W.heap.size, 0, none⟩) s.size s.size (rdg s.data.toList).reverse wr := by
              have h1 := HS.out.2.1
              rw [hT] at h1
              have h2 := h1.at_ (c := s.size) (by rw [List.length_reverse, HLL.out]; omega) (fun d hd => by
                unfold rdg at hd
                simp only [List.mem_reverse, List.mem_map] at hd
                obtain ⟨y, hy, rfl⟩ := hd
                have := List.all_eq_true.1 (HALL.out.2 HS.out.1) y hy
                have := of_decide_eq_true this
                unfold B; omega) (by rw [List.length_reverse, HLL.out]; exact Nat.le_refl _) (by unfold maxLen; omega)
              rw [List.length_reverse, HLL.out] at h2
              exact h2
            have HTC := Lib.hid (trim_calls ht)
            have HV := Lib.hid (rdg_val s.data.toList)
            rw [HV.out] at HTC
            have HB5 := Lib.hid HS.out.2.2
            clear ht hT HS
            go_wp2_with (fail)
            go_at_call 45
            refine HTC.out.mono ?_
            rintro e w2 ⟨q2, m2, c2, rfl, hn, hb⟩
            have HRR := Lib.hid (And.intro hn (below_step hb HB5.out))
            clear hn hb
            go_wp2
            go_ret2
            exact .inl ⟨HR.out, _, _, _, rfl, HRR.out.1, HRR.out.2⟩
end Go.Proofs.YtogjobmekjighaaDoor.bd
