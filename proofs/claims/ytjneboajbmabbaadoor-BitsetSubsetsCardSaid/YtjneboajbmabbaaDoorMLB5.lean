/-
  The iterator over all subsets of a set: for every loop body that keeps what lay below n₀.
-/
import Derived.Test.YtjneboajbmabbaaDoorMB1
import Derived.Test.YtjneboajbmabbaaDoorMB2
import Derived.Test.YtjneboajbmabbaaDoorMLB1
import Derived.Test.YtjneboajbmabbaaDoorMLB2
import Derived.Test.YtjneboajbmabbaaDoorMLB3
import Derived.Test.YtjneboajbmabbaaDoorMLB4
import Derived.Sort.LoopGhostIn
set_option linter.unusedSimpArgs false
set_option linter.unusedVariables false
namespace Go.Proofs.YtjneboajbmabbaaDoor.ref1
open Go.RowKit Go.Own Go.Rw Go.SetL Go.Bits Go.Tz Go.Shelf Go.Can
set_option maxHeartbeats 1000000
set_option maxRecDepth 100000
attribute [local go_sem] Oper.semAt_some
attribute [local irreducible] beyond grow over

section
variable {F : Fence} {n : Nat} {P : Program} {ops : Array Oper} {rest : List Oper} {o : Oper} {a : Act} {w : World} {Q : Exit → Act → World → Prop}
theorem wpListIn_store_fresh (hF : WideF F) (hno : ¬ LetsOut Q) (hgd : o.guard = none) (ty : TypeId) (x y : Operand) (ho : o.op = .store ty x y)
    (cells : Array Value) (t : TypeId) (old : Array Value) (g : Nat) (hx : a.eval x = .pointer (some ⟨g, 0, none⟩)) (hg : g = w.heap.size) (hy : a.eval y = .agg cells)
    (hi : (P.info? ty).map (·.size) = some cells.size) (hs : old.size = cells.size) (h1 : cells.all (·.oneCell') = true)
    (h : ∀ w', Below w.heap.size w w' → BlkAt g cells t w' → wpListIn F n P ops Q rest (a.put o.dst undef) w') : wpListIn F n P ops Q (o :: rest) a (w.alloc (.cells old t)) := by
  subst hg
  refine wpListIn_of_wp hF hno hgd (by unfold noDefer; rw [ho]) fun K hK => wp_store_row ty x y ho w.heap.size cells hx hy t old (blockOf_alloc_at _ _ _ rfl) hi hs h1 (hK _ _ ?_)
  rw [World.setRow_alloc_new]
  have hb : Below w.heap.size w (w.alloc (.cells cells t)) := (by repeat (first | assumption | exact Below.refl _ _ | exact below_beyond _ _ | refine Below.beyond ?_ (by (try simp [size_beyond]) <;> omega) _ | refine Below.drew ?_ | refine Go.Rw.below_drewN ?_ _ | refine Go.Rw.below_setRow ?_ (by (try simp [size_beyond]) <;> omega) _ | refine Below.alloc ?_ (by (try simp [size_beyond]) <;> omega) _ | refine Below.setCell ?_ (by (try simp [size_beyond]) <;> omega) _))
  exact h _ hb ⟨blockOf_alloc_at _ _ _ rfl⟩
theorem wpListIn_store_over (hF : WideF F) (hno : ¬ LetsOut Q) (hgd : o.guard = none) (ty : TypeId) (x y : Operand) (ho : o.op = .store ty x y)
    (cells : Array Value) (t : TypeId) (old : Array Value) (g : Nat) (hx : a.eval x = .pointer (some ⟨g, 0, none⟩)) (hg : BlkAt g old t w) (hy : a.eval y = .agg cells)
    (hi : (P.info? ty).map (·.size) = some cells.size) (hs : old.size = cells.size) (h1 : cells.all (·.oneCell') = true)
    (h : ∀ w', (∀ k, k ≠ g → w'.heap[k]? = w.heap[k]?) → w'.heap.size = w.heap.size → BlkAt g cells t w' → Below g w w' → wpListIn F n P ops Q rest (a.put o.dst undef) w') : wpListIn F n P ops Q (o :: rest) a w := by
  refine wpListIn_of_wp hF hno hgd (by unfold noDefer; rw [ho]) fun K hK => wp_store_row ty x y ho g cells hx hy t old hg.all hi hs h1 (hK _ _ ?_)
  refine h _ (fun k hne => ?_) (by simp [World.setRow]) ⟨?_⟩ (below_setRow (Below.refl _ _) (Nat.le_refl _) _)
  · simp only [World.setRow, Array.getElem?_modify]
    rw [if_neg (fun e => hne e.symm)]
  · have := hg.all
    unfold blockOf at this ⊢
    simp [World.setRow, Array.getElem?_modify, this]
end
theorem bodyPost_noOut {P : Program} {fn : Func} {R : Ending → World → Prop} (h : ∀ w, ¬ R .outgrown w) : ¬ LetsOut (bodyPost P fn R) := fun ⟨_, w, e⟩ => h w e
theorem BlkAt.keeps {g : Nat} {cs : Array Value} {t : TypeId} {X : Nat → Prop} {W W' : World} (h : BlkAt g cs t W) (hk : KeepsCells X W W') (hg : ¬ X g) : BlkAt g cs t W' := ⟨hk.cells hg h.all⟩
theorem TzW.keeps {X : Nat → Prop} {W W' : World} (h : TzW W) (hk : KeepsCells X W W') (h0 : ¬ X 0) : TzW W' := fun t ht => hk.cell h0 (h t ht)
theorem sub1_in (n : Nat) (l Br : Nat) (X : Nat → Prop) {xs : List W} (hx : xs.length = 16) (hlen : (elems xs).length ≤ 10) (J Jx : List (List Int) → World → Prop)
    (hY : ∀ pre x w, J pre w → pre.length < 1025 → YieldAt Fence.wide (n - 1) Tryd.prog l #[.agg (rowW (rowOf x))] w fun e w' =>
      (e = .returned (.bool true) ∧ J (pre ++ [x]) w' ∧ KeepsCells X w w') ∨ (e = .returned (.bool false) ∧ Jx (pre ++ [x]) w'))
    (w0 : World) (hX : ∀ k, X k → k < w0.heap.size) (hX0 : ¬ X 0) (hJ : AbidesFrom w0.heap.size J) {T : TypeId} (hXB : ¬ X Br) (hBr : blockOf w0 Br = some (.cells (rowW xs) T (0, 0))) (hT : TzW w0) (h0 : J [] w0) :
    CallsIn Fence.wide n Tryd.prog 58 #[.func (.yield l) #[] #[], .pointer (some ⟨Br, 0, none⟩)] w0 fun e w' => (∃ v, e = .returned v) ∧
      ((∃ ys, ys = subsL (elems xs) ∧ J ys w') ∨ (∃ pre, pre <+: subsL (elems xs) ∧ Jx pre w')) := by
  have HXL := Lib.hid hx
  have HZ := Lib.hid (show (rowW xs).size = 16 by rw [rowW_size, hx])
  have HT := Lib.hid hT; clear hT
  have HY := Lib.hid hY; clear hY
  have HJ0 := Lib.hid h0; clear h0
  have HA := Lib.hid hJ; clear hJ
  have HBr := Lib.hid (show BlkAt Br (rowW xs) T w0 from ⟨hBr⟩); clear hBr
  have hlenL : (subsL (elems xs)).length ≤ 1024 := by
    rw [subsL_len]; exact Nat.le_trans (Nat.pow_le_pow_right (by omega) hlen) (by decide)
  have HSub := Lib.hid (subsL_sub (elems xs))
  have HFst := Lib.hid (subsL_first (elems xs))
  have HCh := Lib.hid (subsL_chain (sorted_ofP (bitAt xs)))
  have hpos : 0 < (subsL (elems xs)).length := (List.getElem?_eq_some_iff.1 HFst.out).1
  obtain ⟨L, hL⟩ : ∃ L, L = subsL (elems xs) := ⟨_, rfl⟩
  rw [← hL] at hlenL HSub HFst hpos ⊢
  have HCh : Hid ((∀ k s t, L[k]? = some s → L[k + 1]? = some t → nextS s (elems xs) = (t, true)) ∧ (∀ k s, L[k]? = some s → L.length = k + 1 → nextS s (elems xs) = ([], false))) := by rw [hL]; exact HCh
  clear hL
  refine callsIn_of_wp Tryd.func58 rfl trivial ?_ rfl
  simp only [Tryd.ntmps58, List.size_toArray, List.length_cons, List.length_nil, Nat.reduceAdd, Nat.reduceSub, Array.replicate_succ, Array.replicate_zero, List.push_toArray, List.append_toArray, List.nil_append, List.cons_append]
  gi_wp2
  gi_loopg [3, 4] L.length (fun g p v wr => ∃ (k b : Nat), p = .pointer (some ⟨b, 0, none⟩) ∧ v = .bool (decide (k < L.length)) ∧ k ≤ L.length ∧ g = L.length - k ∧ w0.heap.size ≤ b ∧ Hid (k < L.length → ∃ s, L[k]? = some s ∧ BlkAt b (rowW (rowOf s)) 25 wr) ∧ Hid (J (L.take k) wr) ∧ Hid (KeepsCells X w0 wr))
  case atStart =>
    exact ⟨0, w0.heap.size, rfl, by rw [decide_eq_true hpos], Nat.zero_le _, rfl, Nat.le_refl _, Lib.hid (fun _ => ⟨[], HFst.out, ⟨blockOf_alloc_at _ _ _ rfl⟩⟩), Lib.hid (AbidesFrom.below HA.out HJ0.out (by repeat (first | assumption | exact Below.refl _ _ | exact below_beyond _ _ | refine Below.beyond ?_ (by (try simp [size_beyond]) <;> omega) _ | refine Below.drew ?_ | refine Go.Rw.below_drewN ?_ _ | refine Go.Rw.below_setRow ?_ (by (try simp [size_beyond]) <;> omega) _ | refine Below.alloc ?_ (by (try simp [size_beyond]) <;> omega) _ | refine Below.setCell ?_ (by (try simp [size_beyond]) <;> omega) _))), Lib.hid (KeepsCells.of_below (by repeat (first | assumption | exact Below.refl _ _ | exact below_beyond _ _ | refine Below.beyond ?_ (by (try simp [size_beyond]) <;> omega) _ | refine Below.drew ?_ | refine Go.Rw.below_drewN ?_ _ | refine Go.Rw.below_setRow ?_ (by (try simp [size_beyond]) <;> omega) _ | refine Below.alloc ?_ (by (try simp [size_beyond]) <;> omega) _ | refine Below.setCell ?_ (by (try simp [size_beyond]) <;> omega) _)))⟩
  case round =>
    obtain ⟨k, b, rfl, rfl, hk, rfl, hb, HBk, HJ, HB⟩ := hrel
    by_cases hlt : k < L.length
    · obtain ⟨s, hs, Hb⟩ := HBk.out hlt
      rw [decide_eq_true hlt]
      have hXb : ¬ X b := fun h => by have := hX b h; omega
      have HS := Lib.hid hs; clear hs
      have HZs := Lib.hid (show (rowW (rowOf s)).size = 16 by rw [rowW_size, rowOf_len])
      have htl : (L.take k).length < 1025 := by simp; omega
      obtain ⟨fn, tmps, assign, body, hyy, hR⟩ := HY.out _ s _ HJ.out htl
      gi_wp2_with (refine wpListIn_load_block rfl (fun _ => trivial) rfl 25 (.tmp 3) rfl b (rowW (rowOf s)) 25 _ rfl Hb.all Tryd.underlying25 rfl (by rw [HZs.out]; exact sInfo) ?_)
      refine ⟨(fun h => by cases h), hR.mono ?_⟩
      rintro e W3 (⟨rfl, hJ3, hk3⟩ | ⟨rfl, hJx3⟩)
      · have HJ3 := Lib.hid hJ3
        have HB3 := Lib.hid (HB.out.trans hk3)
        have Hb3 := Hb.keeps hk3 hXb
        clear hJ3 hk3 Hb hR hyy
        have hsub := HSub.out s (List.mem_of_getElem? HS.out)
        have HEs := Lib.hid (elems_part hsub)
        have HNL := Lib.hid (nextL_part hsub)
        clear hsub
        gi_wp2_with (first | (refine wpListIn_load_block rfl (fun _ => trivial) rfl 25 (.tmp 3) rfl b (rowW (rowOf s)) 25 _ rfl Hb3.all Tryd.underlying25 rfl (by rw [HZs.out]; exact sInfo) ?_) | (refine wpListIn_store_fresh wideF_0 (fun ⟨_, _, e⟩ => by obtain ⟨⟨v, hv⟩, _⟩ := e; cases hv) rfl 25 (.tmp 3) (.tmp 17) rfl (rowW (rowOf s)) 25 _ _ rfl rfl rfl (by rw [HZs.out]; exact sInfo) (by rw [HZs.out] <;> rfl) (rowW_one _) ?_; intro w4 hb4 K4; have HB4 := Lib.hid hb4; have HBr4 := Lib.hid ((HBr.out.keeps HB3.out hXB).below hb4); have HT4 := Lib.hid ((HT.out.keeps HB3.out hX0).below hb4); clear hb4) | (refine wpListIn_load_block rfl (fun _ => trivial) rfl 25 (.tmp 3) rfl W3.heap.size (rowW (rowOf s)) 25 _ rfl K4.all Tryd.underlying25 rfl (by rw [HZs.out]; exact sInfo) ?_) | (refine wpListIn_load_block rfl (fun _ => trivial) rfl 25 (.tmp 1) rfl Br (rowW xs) T _ rfl HBr4.out.all Tryd.underlying25 rfl (by rw [HZ.out]; exact sInfo) ?_))
        refine ⟨trivial, (fun h => by cases h), ?_⟩
        have HC := Lib.hid (nset_calls (rowOf_len s) HXL.out w4 HT4.out)
        rw [HEs.out, HNL.out] at HC
        have h3 : w0.heap.size ≤ W3.heap.size := HB3.out.size
        have htk : L.take k ++ [s] = L.take (k + 1) := by rw [List.take_add_one, HS.out]; rfl
        have HJ3' : Hid (J (L.take (k + 1)) W3) := Lib.hid (by rw [← htk]; exact HJ3.out)
        clear htk
        by_cases hlast : k + 1 < L.length
        · obtain ⟨t, ht⟩ : ∃ t, L[k + 1]? = some t := ⟨_, List.getElem?_eq_getElem hlast⟩
          have hcn := HC.out
          rw [HCh.out.1 k s t HS.out ht] at hcn
          have HTt := Lib.hid ht; clear ht HC
          have HZt := Lib.hid (show (rowW (rowOf t)).size = 16 by rw [rowW_size, rowOf_len])
          refine (callsIn_wide.2 hcn).mono ?_
          rintro e w5 ⟨rfl, y5, rfl⟩
          clear hcn
          have K5 := K4.below (below_beyond w4 y5)
          have hwa := HB4.out.size
          gi_wp2_with (refine wpListIn_store_over wideF_0 (fun ⟨_, _, e⟩ => by obtain ⟨⟨v, hv⟩, _⟩ := e; cases hv) rfl 25 (.tmp 3) (.tmp 11) rfl (rowW (rowOf t)) 25 _ _ rfl K5 rfl (by rw [HZt.out]; exact sInfo) (by rw [HZt.out, HZs.out]) (rowW_one _) ?_; intro w6 _ _ K6 hb6; have HB6 := Lib.hid (show Below W3.heap.size W3 w6 from (HB4.out.trans ((below_beyond w4 y5).mono hwa)).trans hb6); clear hb6)
          gi_roundg (L.length - (k + 1))
          case rel => exact ⟨k + 1, W3.heap.size, rfl, by rw [decide_eq_true hlast], by omega, rfl, h3, Lib.hid (fun _ => ⟨t, HTt.out, K6⟩), Lib.hid (AbidesFrom.below HA.out HJ3'.out HB6.out), Lib.hid (HB3.out.trans (KeepsCells.of_below HB6.out))⟩
          case measure => omega
        · have hl : L.length = k + 1 := by omega
          have hcn := HC.out
          rw [HCh.out.2 k s HS.out hl] at hcn
          clear HC
          have HZt := Lib.hid (show (rowW (rowOf [])).size = 16 by rw [rowW_size, rowOf_len])
          refine (callsIn_wide.2 hcn).mono ?_
          rintro e w5 ⟨rfl, y5, rfl⟩
          clear hcn
          have K5 := K4.below (below_beyond w4 y5)
          have hwa := HB4.out.size
          gi_wp2_with (refine wpListIn_store_over wideF_0 (fun ⟨_, _, e⟩ => by obtain ⟨⟨v, hv⟩, _⟩ := e; cases hv) rfl 25 (.tmp 3) (.tmp 11) rfl (rowW (rowOf [])) 25 _ _ rfl K5 rfl (by rw [HZt.out]; exact sInfo) (by rw [HZt.out, HZs.out]) (rowW_one _) ?_; intro w6 _ _ K6 hb6; have HB6 := Lib.hid (show Below W3.heap.size W3 w6 from (HB4.out.trans ((below_beyond w4 y5).mono hwa)).trans hb6); clear hb6)
          gi_roundg (L.length - (k + 1))
          case rel => exact ⟨k + 1, W3.heap.size, rfl, by rw [decide_eq_false (by omega)], by omega, rfl, h3, Lib.hid (fun h => absurd h hlast), Lib.hid (AbidesFrom.below HA.out HJ3'.out HB6.out), Lib.hid (HB3.out.trans (KeepsCells.of_below HB6.out))⟩
          case measure => omega
      · clear hR hyy Hb
        gi_wp2
        refine bodyPost_ret (results_none rfl _ _ _) rfl ?_
        refine ⟨⟨_, rfl⟩, .inr ⟨_, ?_, hJx3⟩⟩
        have htk : L.take k ++ [s] = L.take (k + 1) := by rw [List.take_add_one, HS.out]; rfl
        rw [htk]
        exact List.take_prefix _ _
    · obtain rfl : k = L.length := by omega
      rw [decide_eq_false hlt]
      gi_wp2
      go_end0
      exact ⟨⟨_, rfl⟩, .inl ⟨_, rfl, by have := HJ.out; rwa [List.take_length] at this⟩⟩
/-- the iterator's contract -/
theorem subs_stops (n : Nat) (Br : Nat) (X : Nat → Prop) {xs : List W} (hx : xs.length = 16) (hlen : (elems xs).length ≤ 10) (w : World) (hX : ∀ k, X k → k < w.heap.size) (hX0 : ¬ X 0) {T : TypeId} (hXB : ¬ X Br) (hB : Br < w.heap.size) (h0 : 0 < w.heap.size)
    (hBr : blockOf w Br = some (.cells (rowW xs) T (0, 0))) (hT : TzW w) :
    SeqStopsK Fence.wide n Tryd.prog 58 #[.pointer (some ⟨Br, 0, none⟩)] (fun x : List Int => #[Value.agg (rowW (rowOf x))]) (KeepsCells X) (fun ys => ys = subsL (elems xs)) (fun pre => pre <+: subsL (elems xs)) 1025 w := fun l J Jx W hW hJ _ hY h0' =>
  sub1_in n l Br X hx hlen J Jx hY W (fun k h => Nat.lt_of_lt_of_le (hX k h) hW.size) hX0 hJ hXB ((hW.block Br hB).trans hBr) (hT.belowN h0 hW) h0'
theorem subsets_calls (xs : List W) (w : World) : Calls Tryd.prog 48 #[.agg (rowW xs)] w fun e w' => e = .returned (.func (.func 58) #[] #[.pointer (some ⟨w.heap.size, 0, none⟩)]) ∧ w' = w.alloc (.cells (rowW xs) 25) := by
  go_enter Tryd.func48, Tryd.ntmps48
  go_wp2
  go_ret
  exact ⟨rfl, rfl⟩
end Go.Proofs.YtjneboajbmabbaaDoor.ref1
