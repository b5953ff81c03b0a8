/-
  Contracts of the reference: trim, Digits, Text.
-/
import Derived.Test.YtogjobmekjighaaDoorBdA
set_option linter.unusedSimpArgs false
set_option linter.unusedVariables false
namespace Go.Proofs.YtogjobmekjighaaDoor.bd
open Go.RowKit Go.Own Go.Bd
open bn (below_step infoU8)
set_option maxHeartbeats 4000000
set_option maxRecDepth 100000

/-- the slice is this number, here -/
structure RefN (q : Option Addr) (m c n : Nat) (w : World) : Prop where
  ex : ∃ ds, TnAt q m c ds w ∧ Nrm ds ∧ val ds = n
theorem RefN.below {q : Option Addr} {m c n : Nat} {w w' : World} (h : RefN q m c n w) (hb : Below w.heap.size w w') : RefN q m c n w' := by
  obtain ⟨ds, h1, h2, h3⟩ := h.ex; exact ⟨ds, h1.below hb, h2, h3⟩
/-- hands back this number -/
def RefR (W : World) (n : Nat) (e : Ending) (w' : World) : Prop := ∃ q m c, e = .returned (.slice q m c) ∧ RefN q m c n w' ∧ Below W.heap.size W w'
theorem TnAt.none0 {q : Option Addr} {m c : Nat} {ds : List Nat} {w : World} (h : TnAt q m c ds w) (e : q = none) : c = 0 := by
  rcases h.all.2.2.2.2.2 with h | ⟨b, off, h, _⟩
  · exact h.2 e
  · rw [e] at h; cases h
theorem trim_calls {q : Option Addr} {m c : Nat} {ds : List Nat} {W : World} (h : TnAt q m c ds W) : Calls Tryd.prog 45 #[.slice q m c] W (RefR W (val ds)) := by
  have HM := Lib.hid (show m = ds.length from h.all.1)
  have hm2 : m ≤ 999000 := h.all.2.1
  have hmc : m ≤ c := h.all.2.2.1
  have hcx : c ≤ maxLen := h.all.2.2.2.1
  have HA := Lib.hid h; clear h
  go_enter Tryd.func45, Tryd.ntmps45
  go_wp2
  go_loopg [0] m (fun g s0 wr => g ≤ m ∧ s0 = .slice q g c ∧ Hid (val (ds.take g) = val ds) ∧ W = wr)
  case atStart => exact ⟨Nat.le_refl _, rfl, Lib.hid (by rw [HM.out, List.take_length]), rfl⟩
  case round =>
    obtain ⟨hg, rfl, HV, rfl⟩ := hrel
    by_cases h0 : 0 < gk
    · obtain ⟨k, rfl⟩ : ∃ k, gk = k + 1 := ⟨gk - 1, by omega⟩
      obtain ⟨b, off, rfl, hb, hcs⟩ := HA.out.cell (k := k) (by omega)
      have hc := hcs k (by omega)
      clear hcs
      by_cases hz : dg ds k = 0
      · have HZ := Lib.hid (show val (ds.take k) = val ds from by rw [← HV.out, ← val_take_zero (by rw [← HM.out]; omega) (by rw [dg_some (by rw [← HM.out]; omega), hz])])
        rw [hz] at hc
        clear hz
        go_wp2
        go_roundg k
        case measure => omega
        case rel => exact ⟨by omega, rfl, HZ, rfl⟩
      · have HR := Lib.hid (show RefN (some ⟨b, off, none⟩) (k + 1) c (val ds) W from ⟨ds.take (k + 1), HA.out.take hg (by omega) (by omega) hcx, nrm_take (by rw [← HM.out]; omega) (by rw [dg_some (by rw [← HM.out]; omega)]; simpa using hz), HV.out⟩)
        generalize dg ds k = x at hc hz
        have hxb : (((x : Nat) : Int) == 0) = false := by simp; omega
        go_wp2
        go_ret
        exact ⟨_, _, _, rfl, HR.out, Below.refl _ _⟩
    · obtain rfl : gk = 0 := by omega
      have HR := Lib.hid (show RefN q 0 c (val ds) W from ⟨[], ⟨rfl, Nat.zero_le _, Nat.zero_le _, hcx, fun _ h => by simp at h, .inl ⟨rfl, HA.out.none0⟩⟩, fun h => absurd rfl h, by rw [← HV.out]; rfl⟩)
      go_wp2
      go_ret
      exact ⟨_, _, _, rfl, HR.out, Below.refl _ _⟩
/-- the number of digits, the first first -/
def dnum (xs : List Nat) : Nat := xs.foldl (fun a x => 10 * a + x % 10) 0
theorem dnum_from (l : List Nat) : ∀ a, l.foldl (fun a x => 10 * a + x % 10) a = a * 10 ^ l.length + dnum l := by
  unfold dnum
  induction l with
  | nil => intro a; simp
  | cons c r ih =>
    intro a
    simp only [List.foldl_cons, List.length_cons]
    rw [ih, ih (10 * 0 + c % 10), Nat.pow_succ, Nat.add_mul, Nat.mul_zero, Nat.zero_add, Nat.add_assoc, Nat.mul_comm (10 ^ r.length) 10, ← Nat.mul_assoc, Nat.mul_comm 10 a]
theorem dnum_cons (c : Nat) (r : List Nat) : dnum (c :: r) = (c % 10) * 10 ^ r.length + dnum r := by
  show List.foldl _ (10 * 0 + c % 10) r = _
  rw [dnum_from, Nat.mul_zero, Nat.zero_add]
theorem dnum_val : ∀ (xs : List Nat), val (xs.map (· % 10)).reverse = dnum xs
  | [] => rfl
  | x :: r => by
    rw [List.map_cons, List.reverse_cons, val_snoc, dnum_val r, dnum_cons, List.length_reverse, List.length_map, Nat.mul_comm (B ^ r.length)]
    show dnum r + x % 10 * 10 ^ r.length = _
    omega
/-- a row that is filled from its end -/
theorem fill_set {m k x : Nat} {l : List Nat} (hk : k < m) (hl : l.length = k) : (List.replicate (m - k) 0 ++ l.reverse).set (m - 1 - k) x = List.replicate (m - (k + 1)) 0 ++ (l ++ [x]).reverse := by
  obtain ⟨j, hj⟩ : ∃ j, m - k = j + 1 := ⟨m - k - 1, by omega⟩
  rw [hj, show m - 1 - k = j by omega, show m - (k + 1) = j by omega, List.reverse_append, List.replicate_succ', List.append_assoc, List.set_append_right _ _ (by simp)]
  simp
theorem Digits_calls {q : Option Addr} {m c : Nat} {xs : List Nat} {W : World} (h : U8At q m c xs W) : Calls Tryd.prog 15 #[.slice q m c] W (RefR W (dnum xs)) := by
  have HM := Lib.hid (show m = xs.length from h.all.1)
  have hms : m ≤ 999000 := h.all.2.1
  have HA := Lib.hid h; clear h
  obtain ⟨i0, hi, hz0, hz1, hz2⟩ := info_parts uI
  have Hi := Lib.hid hi; clear hi
  go_enter Tryd.func15, Tryd.ntmps15
  go_wp2_with (first | (at_make; refine wpList_make_full _ rfl _ _ 30 rfl W.heap.size 3 i0 (.int .i64 0) 1 uU Hi.out hz0 hz1 _ _ _ _ m rfl rfl ?_ ?_ (by rw [hz2]; omega) (by unfold maxLen; omega) (by simp) ?_))
  all_goals first
    | omega
    | skip
  intro w1 hown hgr
  have HR0 := Lib.hid (RowT.made hown)
  have HB0 := Lib.hid (show Below W.heap.size W w1 from ⟨hgr.os, hgr.tape, hgr.output, hgr.size, fun k hk => hgr.block k hk (by simp)⟩)
  clear hown hgr
  go_wp2
  go_loopg [4] m (fun g s4 wr => ∃ k : Nat, k + g = m ∧ s4 = .int .i64 (k : Int) ∧ Hid (RowT W.heap.size (List.replicate (m - k) 0 ++ ((xs.map (· % 10)).take k).reverse) wr ∧ Below W.heap.size W wr))
  case atStart => exact ⟨0, by omega, rfl, Lib.hid ⟨by simpa using HR0.out, HB0.out⟩⟩
  case round =>
    obtain ⟨k, hkg, rfl, HS⟩ := hrel
    by_cases hlt : k < m
    · obtain ⟨b, off, rfl, hb, hcs⟩ := HA.out.cell hlt
      have hcx := (HS.out.2.cell (p := ⟨b, off + k, none⟩) hb).trans (hcs k hlt)
      clear hcs
      have hl : ((xs.map (· % 10)).take k).length = k := by rw [List.length_take, List.length_map, ← HM.out]; omega
      have hlen : (List.replicate (m - k) 0 ++ ((xs.map (· % 10)).take k).reverse).length = m := by simp; rw [← HM.out]; omega
      have hx : xs[k]? = some (dg xs k) := dg_some (by rw [← HM.out]; exact hlt)
      have HF := Lib.hid (show RowT W.heap.size (List.replicate (m - (k + 1)) 0 ++ ((xs.map (· % 10)).take (k + 1)).reverse) (wr.setCell ⟨W.heap.size, m - 1 - k, none⟩ (.int .i64 ((dg xs k % 10 : Nat) : Int))) from by
        have h1 := HS.out.1.set (a := m - 1 - k) (by rw [hlen]; omega) (dg xs k % 10)
        rw [fill_set hlt hl] at h1
        rw [List.take_add_one, List.getElem?_map, hx]
        exact h1)
      have hx256 : (dg xs k : Int) ≤ 255 := by have := HA.out.all.2.2.2.2.1 (dg xs k) (List.mem_of_getElem? hx); omega
      have hcd := HS.out.1.cell (a := m - 1 - k) (by rw [hlen]; omega)
      have hfd := HS.out.1.frozen (m - 1 - k)
      generalize dg (List.replicate (m - k) 0 ++ ((xs.map (· % 10)).take k).reverse) (m - 1 - k) = t at hcd
      clear hl hlen hx
      generalize dg xs k = x at hcx HF hx256
      obtain ⟨p, hp⟩ : ∃ p, m - 1 - k = p := ⟨_, rfl⟩
      have hpi : (m : Int) - 1 - (k : Int) = (p : Int) := by omega
      rw [hp] at hcd hfd HF
      clear hp
      have HX10 := Lib.hid (show ((x % 10 : Nat) : Int) = (x : Int) % 10 from by omega)
      rw [HX10.out] at HF
      go_wp2
      go_roundg (gk - 1)
      case measure => omega
      case rel =>
        refine ⟨k + 1, by omega, by go_num, Lib.hid ⟨?_, HS.out.2.setCell (Nat.le_refl _) _⟩⟩
        exact HF.out
    · obtain rfl : k = m := by omega
      have hlen : ((xs.map (· % 10)).take k).reverse.length = k := by simp; rw [← HM.out]; omega
      have hT : (List.replicate (k - k) 0 ++ ((xs.map (· % 10)).take k).reverse) = (xs.map (· % 10)).reverse := by
        rw [Nat.sub_self, List.replicate_zero, List.nil_append, List.take_of_length_le (by rw [List.length_map, ← HM.out]; exact Nat.le_refl _)]
      have HT2 := Lib.hid (show TnAt (some ⟨W.heap.size, 0, none⟩) k k (xs.map (· % 10)).reverse wr from by
        have h1 := HS.out.1
        rw [hT] at h1
        have h2 := h1.at_ (c := k) (by simp; rw [← HM.out]; exact hms) (fun d hd => by
          simp only [List.mem_reverse, List.mem_map] at hd
          obtain ⟨y, _, rfl⟩ := hd
          exact Nat.mod_lt _ (by decide)) (by simp; rw [← HM.out]; exact Nat.le_refl _) (by unfold maxLen; omega)
        rw [List.length_reverse, List.length_map, ← HM.out] at h2
        exact h2)
      have HTC := Lib.hid (trim_calls HT2.out)
      have HV := Lib.hid (dnum_val xs)
      clear hlen hT
      go_wp2_with (fail)
      go_at_call 45
      refine HTC.out.mono ?_
      rw [HV.out]
      rintro e w2 ⟨q2, m2, c2, rfl, hn, hb⟩
      have HR := Lib.hid (And.intro hn (below_step hb HS.out.2))
      clear hn hb
      go_wp2
      go_ret
      exact ⟨_, _, _, rfl, HR.out.1, HR.out.2⟩
theorem uB : Tryd.prog.underlying 22 = some (.slice 5) := Tryd.underlying22
/-- the bytes of a row, as a string -/
theorem rowb_conv {w : World} {g n : Nat} {l : List Nat} (hl : l.length = n) (hb : Byt l) (h : RowB g l w) :
    (convert 22 9 (.slice (some ⟨g, 0, none⟩) n n)).run Tryd.prog w = .ok (.string ⟨(l.map UInt8.ofNat).toArray⟩) w := by
  subst hl
  have e : l.length = (l.map UInt8.ofNat).length := by simp
  conv => lhs; rw [show (Value.slice (some ⟨g, 0, none⟩) l.length l.length) = Value.slice (some ⟨g, 0, none⟩) (l.map UInt8.ofNat).length l.length by rw [← e]]
  refine run_convert_bytes_back w 22 9 5 ⟨g, 0, none⟩ l.length (l.map UInt8.ofNat) Tryd.underlying22 Tryd.underlying5 Tryd.underlying9 fun j hj => ?_
  have hj2 : j < l.length := by simpa using hj
  have e2 : (⟨g, 0, Option.none⟩ : Addr).add j = ⟨g, j, Option.none⟩ := by unfold Addr.add; split <;> simp_all
  rw [e2, h.cell hj2]
  have h3 : dg l j = l[j] := by have := dg_some hj2; rw [List.getElem?_eq_getElem hj2] at this; injection this with this; exact this.symm
  have h4 : l[j] < 256 := hb _ (List.getElem_mem hj2)
  simp only [List.getElem_map, h3]
  congr 2
  simp
  omega
theorem Text_calls {q : Option Addr} {m c n : Nat} {W : World} (h : RefN q m c n W) : Calls Tryd.prog 19 #[.slice q m c] W fun e w' => e = .returned (.string ⟨(Lib.decDigits n).toArray⟩) ∧ Below W.heap.size W w' := by
  obtain ⟨ds, hA, hN, rfl⟩ := h.ex
  have HM := Lib.hid (show m = ds.length from hA.all.1)
  have hms : m ≤ 999000 := hA.all.2.1
  have HD := Lib.hid (show Dig ds from hA.all.2.2.2.2.1)
  have HE := Lib.hid (text_dec HD.out hN)
  have HA := Lib.hid hA; clear h hA hN
  rw [← HE.out]
  by_cases h0 : m = 0
  · subst h0
    have hds : ds = [] := List.eq_nil_of_length_eq_zero HM.out.symm
    have HT := Lib.hid (show text ds = [48] from by rw [hds]; rfl)
    rw [HT.out]
    clear hds
    go_enter Tryd.func19, Tryd.ntmps19
    go_wp2
    go_ret
    exact ⟨rfl, Below.refl _ _⟩
  · have HT := Lib.hid (show text ds = ((ds.map (48 + ·)).reverse).map UInt8.ofNat from by
      unfold text
      rw [if_neg (by intro h; rw [h] at HM; exact h0 HM.out), ← List.map_reverse, List.map_map]
      rfl)
    rw [HT.out]
    generalize htl : ((ds.map (48 + ·)).reverse).map UInt8.ofNat = tl
    have HTL := Lib.hid htl; clear htl
    clear HT HE
    obtain ⟨i8, hi, hy0, hy1, hy2⟩ := info_parts infoU8
    have Hi := Lib.hid hi; clear hi
    have hm0 : 0 < m := by omega
    clear h0
    go_enter Tryd.func19, Tryd.ntmps19
    go_wp2_with (first | (at_make; refine wpList_make_full _ rfl _ _ 22 rfl W.heap.size 5 i8 (.int .u8 0) 1 uB Hi.out hy0 hy1 _ _ _ _ m rfl rfl ?_ ?_ (by rw [hy2]; omega) (by unfold maxLen; omega) (by simp) ?_))
    all_goals first
      | omega
      | skip
    intro w1 hown hgr
    have HR0 := Lib.hid (RowB.made hown)
    have HB0 := Lib.hid (show Below W.heap.size W w1 from ⟨hgr.os, hgr.tape, hgr.output, hgr.size, fun k hk => hgr.block k hk (by simp)⟩)
    clear hown hgr
    go_wp2
    go_loopg [4] m (fun g s4 wr => ∃ k : Nat, k + g = m ∧ s4 = .int .i64 (k : Int) ∧ Hid (RowB W.heap.size (List.replicate (m - k) 0 ++ ((ds.map (48 + ·)).take k).reverse) wr ∧ Below W.heap.size W wr))
    case atStart => exact ⟨0, by omega, rfl, Lib.hid ⟨by simpa using HR0.out, HB0.out⟩⟩
    case round =>
      obtain ⟨k, hkg, rfl, HS⟩ := hrel
      by_cases hlt : k < m
      · obtain ⟨b, off, rfl, hb, hcs⟩ := HA.out.cell hlt
        have hcx := (HS.out.2.cell (p := ⟨b, off + k, none⟩) hb).trans (hcs k hlt)
        clear hcs
        have hl : ((ds.map (48 + ·)).take k).length = k := by rw [List.length_take, List.length_map, ← HM.out]; omega
        have hlen : (List.replicate (m - k) 0 ++ ((ds.map (48 + ·)).take k).reverse).length = m := by simp; rw [← HM.out]; omega
        have hx : ds[k]? = some (dg ds k) := dg_some (by rw [← HM.out]; exact hlt)
        have hx10 : dg ds k < 10 := dg_lt HD.out k
        have HF := Lib.hid (show RowB W.heap.size (List.replicate (m - (k + 1)) 0 ++ ((ds.map (48 + ·)).take (k + 1)).reverse) (wr.setCell ⟨W.heap.size, m - 1 - k, none⟩ (.int .u8 ((48 + dg ds k : Nat) : Int))) from by
          have h1 := HS.out.1.set (a := m - 1 - k) (by rw [hlen]; omega) (48 + dg ds k)
          rw [fill_set hlt hl] at h1
          rw [List.take_add_one, List.getElem?_map, hx]
          exact h1)
        have hcd := HS.out.1.cell (a := m - 1 - k) (by rw [hlen]; omega)
        have hfd := HS.out.1.frozen (m - 1 - k)
        generalize dg (List.replicate (m - k) 0 ++ ((ds.map (48 + ·)).take k).reverse) (m - 1 - k) = t at hcd
        clear hl hlen hx
        generalize dg ds k = x at hcx HF hx10
        obtain ⟨p, hp⟩ : ∃ p, m - 1 - k = p := ⟨_, rfl⟩
        have hpi : (m : Int) - 1 - (k : Int) = (p : Int) := by omega
        rw [hp] at hcd hfd HF
        clear hp
        go_wp2
        go_roundg (gk - 1)
        case measure => omega
        case rel =>
          refine ⟨k + 1, by omega, by go_num, Lib.hid ⟨?_, HS.out.2.setCell (Nat.le_refl _) _⟩⟩
          have e : ((48 + x : Nat) : Int) = 48 + (x : Int) := by omega
          rw [e] at HF
          first
            | exact HF.out
            | (trace_state; sorry)
      · obtain rfl : k = m := by omega
        have hT : (List.replicate (k - k) 0 ++ ((ds.map (48 + ·)).take k).reverse) = (ds.map (48 + ·)).reverse := by
          rw [Nat.sub_self, List.replicate_zero, List.nil_append, List.take_of_length_le (by rw [List.length_map, ← HM.out]; exact Nat.le_refl _)]
        have HRB := HS.out.1
        rw [hT] at HRB
        have hcv := rowb_conv (n := k) (by simp; rw [← HM.out]) (fun d hd => by
          simp only [List.mem_reverse, List.mem_map] at hd
          obtain ⟨y, hy, rfl⟩ := hd
          have : y < 10 := HD.out y hy
          omega) HRB
        rw [HTL.out] at hcv
        clear HRB hT
        go_wp2
        go_ret
        exact ⟨rfl, HS.out.2⟩
end Go.Proofs.YtogjobmekjighaaDoor.bd
