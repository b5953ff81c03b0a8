/-
  Contracts of bignat: Sum.
-/
import Derived.Test.YtogjobmekjighaaDoorBnPe
set_option linter.unusedSimpArgs false
set_option linter.unusedVariables false
namespace Go.Proofs.YtogjobmekjighaaDoor.bn
open Go.RowKit Go.Own Go.Bn Go.PlainAid
set_option maxHeartbeats 4000000
set_option maxRecDepth 100000

/-- a slice of numbers -/
structure NLAt (q : Option Addr) (m c : Nat) (ns : List Nat) (w : World) : Prop where
  mk' :: (all : m = ns.length ∧ m ≤ 1000 ∧ m ≤ c ∧ c ≤ maxLen ∧ (ns = [] ∨ ∃ b off, q = some ⟨b, off, none⟩ ∧ b < w.heap.size ∧ ∀ (i x : Nat), ns[i]? = some x → ∃ q' m' c', w.cell? ⟨b, off + i, none⟩ = some (.slice q' m' c') ∧ NatAt (.agg #[.slice q' m' c']) x w))
theorem NLAt.below {q : Option Addr} {m c : Nat} {ns : List Nat} {w w' : World} (h : NLAt q m c ns w) (hb : Below w.heap.size w w') : NLAt q m c ns w' := by
  obtain ⟨h1, h2, h3, h4, h6⟩ := h.all
  refine ⟨h1, h2, h3, h4, ?_⟩
  rcases h6 with h | ⟨b, off, k1, k2, k3⟩
  · exact .inl h
  · refine .inr ⟨b, off, k1, Nat.lt_of_lt_of_le k2 hb.size, fun i x hx => ?_⟩
    obtain ⟨q', m', c', h1, h2⟩ := k3 i x hx
    exact ⟨q', m', c', (hb.cell k2).trans h1, h2.below hb⟩
theorem nl_nil (w : World) : NLAt none 0 0 [] w := ⟨rfl, Nat.zero_le _, Nat.le_refl _, Nat.zero_le _, .inl rfl⟩
theorem Sum_calls {q : Option Addr} {m c : Nat} {ns : List Nat} {W : World} (h : NLAt q m c ns W) (M : Nat) (hM : M ≤ 900000) (h1 : ∀ n ∈ ns, n < B ^ M) (h2 : ∀ k, (ns.take k).sum < B ^ M) :
    Calls Tryd.prog 44 #[.slice q m c] W (RetN W ns.sum) := by
  have HM := Lib.hid h.all.1
  have hm := h.all.2.1
  have HL := Lib.hid h
  have HS1 := Lib.hid (And.intro h1 h2)
  clear h h1 h2
  go_enter Tryd.func44, Tryd.ntmps44
  go_wp2
  have HI := Lib.hid (show Below W.heap.size W ((W.alloc (.cells #[.slice none 0 0] 27)).alloc (.cells #[.slice none 0 0] 27)) ∧ NB W.heap.size (.slice none 0 0) ((W.alloc (.cells #[.slice none 0 0] 27)).alloc (.cells #[.slice none 0 0] 27)) ∧ NB (W.heap.size + 1) (.slice none 0 0) ((W.alloc (.cells #[.slice none 0 0] 27)).alloc (.cells #[.slice none 0 0] 27)) from ⟨(by repeat (first | assumption | exact Below.refl _ _ | exact below_beyond _ _ | refine Below.beyond ?_ (by (try simp [size_beyond]) <;> omega) _ | refine Below.drew ?_ | refine Go.Rw.below_drewN ?_ _ | refine Go.Rw.below_setRow ?_ (by (try simp [size_beyond]) <;> omega) _ | refine Below.alloc ?_ (by (try simp [size_beyond]) <;> omega) _ | refine Below.setCell ?_ (by (try simp [size_beyond]) <;> omega) _)), (two_blocks W _ _).1, (two_blocks W _ _).2⟩)
  go_loopg [8] m (fun g s8 wr => ∃ (k : Nat) (q m' c : _), k + g = m ∧ s8 = .int .i64 (k : Int) ∧ Hid (Below W.heap.size W wr ∧ NB W.heap.size (.slice none 0 0) wr ∧ NB (W.heap.size + 1) (.slice q m' c) wr ∧ NatAt (.agg #[.slice q m' c]) (ns.take k).sum wr))
  case atStart => exact ⟨0, none, 0, 0, by omega, rfl, Lib.hid ⟨HI.out.1, HI.out.2.1, HI.out.2.2, nat_zero _⟩⟩
  case round =>
    clear HI
    obtain ⟨k, q2, m2, c2, hkg, rfl, HS⟩ := hrel
    have HB := Lib.hid HS.out.2.2.1
    obtain ⟨hx1, hf1⟩ := HB.out.cell
    by_cases hlt : k < m
    · rcases HL.out.all.2.2.2.2 with h | ⟨b, off, rfl, hb, hcs⟩
      · exfalso; have := HM.out; rw [h] at this; simp at this; omega
      obtain ⟨x, hx⟩ : ∃ x, ns[k]? = some x := ⟨_, List.getElem?_eq_getElem (by rw [← HM.out]; exact hlt)⟩
      obtain ⟨q3, m3, c3, hc3, hn3⟩ := hcs k x hx
      have hcw := (HS.out.1.cell (p := ⟨b, off + k, none⟩) hb).trans hc3
      have HX := Lib.hid (show (ns.take (k + 1)).sum = (ns.take k).sum + x from by rw [List.take_add_one, hx]; simp)
      have HXM := Lib.hid (And.intro (HS1.out.1 x (List.mem_of_getElem? hx)) (HS1.out.2 k))
      have HN3 := Lib.hid (hn3.below HS.out.1)
      clear hcs hc3 hn3 hx
      have hba : Below wr.heap.size wr (wr.alloc (.cells #[.slice q3 m3 c3] 27)) := (by repeat (first | assumption | exact Below.refl _ _ | exact below_beyond _ _ | refine Below.beyond ?_ (by (try simp [size_beyond]) <;> omega) _ | refine Below.drew ?_ | refine Go.Rw.below_drewN ?_ _ | refine Go.Rw.below_setRow ?_ (by (try simp [size_beyond]) <;> omega) _ | refine Below.alloc ?_ (by (try simp [size_beyond]) <;> omega) _ | refine Below.setCell ?_ (by (try simp [size_beyond]) <;> omega) _))
      have HADD := Lib.hid (Add_calls (HS.out.2.2.2.below hba) (HN3.out.below hba) M HXM.out.2 HXM.out.1 hM)
      have HBA := Lib.hid (HB.out.below hba)
      have HRA := Lib.hid (HS.out.2.1.below hba)
      have HWA := Lib.hid (below_step hba HS.out.1)
      have HBL := Lib.hid hba
      clear hba
      have hbl := HB.out.lt
      go_wp2_with (fail)
      go_at_call 22
      refine HADD.out.mono ?_
      rintro e w3 ⟨v, rfl, hv, hb3⟩
      obtain ⟨q4, m4, c4, rfl⟩ := hv.shape
      have HB4 := Lib.hid (HBA.out.below hb3)
      have HR4 := Lib.hid (HRA.out.below hb3)
      have HW4 := Lib.hid (below_step hb3 HWA.out)
      have HV4 := Lib.hid hv
      clear hx1 hf1 hb3 hv hcw
      obtain ⟨hx1, hf1⟩ := HB4.out.cell
      go_upto_region 6 with (fail)
      obtain ⟨w5, hw5, L1, L2, L3, L4⟩ := laid1 HW4.out HB4.out (by omega) q4 m4 c4
      rw [hw5]
      have HS5 := Lib.hid (show Below W.heap.size W w5 ∧ NB W.heap.size (.slice none 0 0) w5 ∧ NB (W.heap.size + 1) (.slice q4 m4 c4) w5 ∧ NatAt (.agg #[.slice q4 m4 c4]) (ns.take (k + 1)).sum w5 from ⟨L2, HR4.out.kept L4 (by omega), L1, by rw [HX.out]; exact L3 _ _ HV4.out⟩)
      clear hw5 L1 L2 L3 L4 hx1 hf1
      go_wp2
      go_roundg (gk - 1)
      case measure => omega
      case rel => exact ⟨k + 1, q4, m4, c4, by omega, by go_num, HS5⟩
    · obtain rfl : k = m := by omega
      have HN := Lib.hid (by have := HS.out.2.2.2; rw [HM.out, List.take_length] at this; exact this)
      obtain ⟨hx2, hf2⟩ := HS.out.2.1.cell
      go_wp2
      obtain ⟨w5, hw5, L1, L2, L3, L4⟩ := laid1 HS.out.1 HS.out.2.1 (Nat.le_refl _) q2 m2 c2
      rw [hw5]
      exact bodyPost_ret (results_block rfl _ _ W.heap.size 27 #[.slice q2 m2 c2] _ rfl L1.blk Tryd.underlying27 rfl nInfo) rfl ⟨_, rfl, L3 _ _ HN.out, L2⟩
end Go.Proofs.YtogjobmekjighaaDoor.bn
