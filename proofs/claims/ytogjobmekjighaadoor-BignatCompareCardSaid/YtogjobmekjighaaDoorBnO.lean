/-
  Contracts of bignat: clone, BitLen, Uint64.
-/
import Derived.Test.YtogjobmekjighaaDoorBnL
import Derived.Laws.AppendOwnNone
set_option linter.unusedSimpArgs false
set_option linter.unusedVariables false
namespace Go.Proofs.YtogjobmekjighaaDoor.bn
open Go.RowKit Go.Own Go.Bn
set_option maxHeartbeats 4000000
set_option maxRecDepth 100000

theorem dg_of_own {w : World} {L m : Nat} {v : Value} {ds : List Nat} (h : w.ownsRow L 68 1 v m (ds.map dv)) (hm : m ≤ 999000) (hd : Dig ds) : ∃ q c, v = .slice q m c ∧ DgAt q m c ds w := by
  have hl : m = ds.length := by have := h.1; simp at this; omega
  rcases h.2 with ⟨rfl, hk⟩ | ⟨g, cap, cur, rfl, hb, hgg, hn, hc, hs, ht⟩
  · obtain rfl : m = 0 := hk
    obtain rfl : ds = [] := List.eq_nil_of_length_eq_zero hl.symm
    exact ⟨_, _, rfl, dg_nil w⟩
  · refine ⟨_, cap, rfl, hl, hm, hn, hc, hd, .inr ⟨g, 0, rfl, (Array.getElem?_eq_some_iff.1 hgg).1, fun i x hx => ?_⟩⟩
    have e := World.ownsRow.cells h (g := g) rfl i (.int .u32 (x : Int)) (by simp [hx, dv])
    have e2 : (⟨g, 0, Option.none⟩ : Addr).add i = ⟨g, i, Option.none⟩ := by unfold Addr.add; split <;> simp_all
    rw [Nat.zero_add, ← e2]; exact e
theorem clone_calls {v : Value} {n : Nat} {W : World} (h : NatAt v n W) :
    Calls Tryd.prog 53 #[v] W (RetN W n) := by
  obtain ⟨q, m, c, ds, rfl, hA, hN, rfl⟩ := h.ex
  have hm2 : m ≤ 999000 := hA.all.2.1
  have HN := Lib.hid hN
  have HD := Lib.hid hA.all.2.2.2.2.1
  have HM := Lib.hid (show m = ds.length from hA.all.1)
  obtain ⟨i0, hi, hz0, hz1, hz2⟩ := info_parts uI
  have Hi := Lib.hid hi; clear hi h hN
  rcases hA.all.2.2.2.2.2 with ⟨rfl, rfl, rfl⟩ | ⟨b, off, rfl, hb, hcs⟩
  · obtain rfl : m = 0 := HM.out
    have HR := Lib.hid (show RetN W (val []) (.returned (.agg #[.slice none 0 0])) ((W.alloc (.cells #[.slice none 0 0] 27)).alloc (.cells #[.slice none 0 0] 27)) from ⟨_, rfl, ⟨_, _, _, _, rfl, dg_nil _, HN.out, rfl⟩, (by repeat (first | assumption | exact Below.refl _ _ | exact below_beyond _ _ | refine Below.beyond ?_ (by (try simp [size_beyond]) <;> omega) _ | refine Below.drew ?_ | refine Go.Rw.below_drewN ?_ _ | refine Go.Rw.below_setRow ?_ (by (try simp [size_beyond]) <;> omega) _ | refine Below.alloc ?_ (by (try simp [size_beyond]) <;> omega) _ | refine Below.setCell ?_ (by (try simp [size_beyond]) <;> omega) _))⟩)
    clear hA
    go_enter Tryd.func53, Tryd.ntmps53
    go_wp2_with (first | (refine wpList_append_own_none rfl _ _ 25 rfl W.heap.size 68 i0 1 uU Hi.out (.slice none 0 0) 0 [] rfl (World.ownsRow_nil _ _ _ _) rfl ?_))
    refine bodyPost_ret (results_block rfl _ _ (W.heap.size + 1) 27 #[.slice none 0 0] _ rfl (by simp [go_sem]) Tryd.underlying27 rfl nInfo) rfl ?_
    exact HR.out
  · have HCS := Lib.hid hcs
    clear hA hcs
    go_enter Tryd.func53, Tryd.ntmps53
    go_wp2_with (first
      | (refine wpList_append_own _ rfl _ _ 25 rfl (W.heap.size + 1 + 1) 68 i0 (.int .u32 0) 1 4 uU Hi.out hz0 hz1 hz2 rfl (by decide) (.slice none 0 0) 0 [] rfl (World.ownsRow_nil _ _ _ _) ⟨b, off, none⟩ m c (ds.map dv) rfl (by rw [List.length_map, ← HM.out, Nat.mul_one]) (fun j u hu => ?_) (fun u hu => by obtain ⟨x, _, rfl⟩ := List.mem_map.1 hu; rfl) (by unfold maxLen; omega) (by omega) (by simp) ?_))
    · rw [List.getElem?_map] at hu
      obtain ⟨x, hx, rfl⟩ := Option.map_eq_some_iff.1 hu
      have e2 : (⟨b, off, none⟩ : Addr).add j = ⟨b, off + j, none⟩ := by unfold Addr.add; split <;> simp_all
      rw [e2]
      exact (Below.cell (show Below W.heap.size W ((W.alloc (Obj.cells #[Value.slice (some ⟨b, off, none⟩) m c] 27)).alloc (Obj.cells #[Value.slice none 0 0] 27)) from (by repeat (first | assumption | exact Below.refl _ _ | exact below_beyond _ _ | refine Below.beyond ?_ (by (try simp [size_beyond]) <;> omega) _ | refine Below.drew ?_ | refine Go.Rw.below_drewN ?_ _ | refine Go.Rw.below_setRow ?_ (by (try simp [size_beyond]) <;> omega) _ | refine Below.alloc ?_ (by (try simp [size_beyond]) <;> omega) _ | refine Below.setCell ?_ (by (try simp [size_beyond]) <;> omega) _))) hb).trans (HCS.out j x hx)
    · intro v' w' hown hgr _
      obtain ⟨q', c', rfl, hA2⟩ := dg_of_own hown hm2 HD.out
      have h2 := two_allocs W (Obj.cells #[Value.slice (some ⟨b, off, none⟩) m c] 27) (Obj.cells #[Value.slice none 0 0] 27)
      have hB1 : Below W.heap.size W ((W.alloc (Obj.cells #[Value.slice (some ⟨b, off, none⟩) m c] 27)).alloc (Obj.cells #[Value.slice none 0 0] 27)) := (by repeat (first | assumption | exact Below.refl _ _ | exact below_beyond _ _ | refine Below.beyond ?_ (by (try simp [size_beyond]) <;> omega) _ | refine Below.drew ?_ | refine Go.Rw.below_drewN ?_ _ | refine Go.Rw.below_setRow ?_ (by (try simp [size_beyond]) <;> omega) _ | refine Below.alloc ?_ (by (try simp [size_beyond]) <;> omega) _ | refine Below.setCell ?_ (by (try simp [size_beyond]) <;> omega) _))
      have hB2 := Lib.hid (hB1.grown hgr hB1.size (fun r hr => by cases hr))
      have hg2 : blockOf w' (W.heap.size + 1) = some (.cells #[.slice none 0 0] 27 (0, 0)) := (hgr.block _ (by rw [h2.1]; omega) (by simp [Value.ownBlock])).trans h2.2.2
      obtain ⟨hc2, hf2⟩ := cell_of_row hg2
      have HVX := Lib.hid (show NatAt (.agg #[.slice q' m c']) (val ds) w' from ⟨_, _, _, _, rfl, hA2, HN.out, rfl⟩)
      clear hown hgr hA2 hB1 h2
      go_wp2
      rw [setCell_row hg2]
      refine bodyPost_ret (results_block rfl _ _ (W.heap.size + 1) 27 #[.slice q' m c'] _ rfl (setRow_heap _ _ _ _ _ _ hg2) Tryd.underlying27 rfl nInfo) rfl ?_
      exact RetN.laid HVX.out hB2.out hg2 (fun _ h => by cases h) (by omega)
end Go.Proofs.YtogjobmekjighaaDoor.bn
