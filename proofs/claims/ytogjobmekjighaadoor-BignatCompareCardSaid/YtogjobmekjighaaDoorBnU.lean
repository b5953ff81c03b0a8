/-
  Contracts of bignat: DivMod by nothing, by a greater number, by one digit.
-/
import Derived.Test.YtogjobmekjighaaDoorBnQ
import Derived.Test.YtogjobmekjighaaDoorTree
set_option linter.unusedSimpArgs false
set_option linter.unusedVariables false
namespace Go.Proofs.YtogjobmekjighaaDoor.bn
open Go.RowKit Go.Own Go.Bn
set_option maxHeartbeats 4000000
set_option maxRecDepth 100000

/-- two results that lie in blocks, and one in a slot -/
theorem results_block3 {P : Program} {fn : Func} {p q r : Tmp} {ty : TypeId} (h : fn.results = #[.cell p ty, .cell q ty, .tmp r]) (tmps : Array Value) (w : World) (g g2 : Nat) (t t2 : TypeId) (cs cs2 : Array Value) (d : TypeDesc) (v : Value)
    (hp : tmps.getD p undef = .pointer (some ⟨g, 0, none⟩)) (hq : tmps.getD q undef = .pointer (some ⟨g2, 0, none⟩)) (hr : tmps.getD r undef = v) (hg : blockOf w g = some (.cells cs t (0, 0))) (hg2 : blockOf w g2 = some (.cells cs2 t2 (0, 0)))
    (hu : P.underlying ty = some d) (hd : (match d with | .struct _ | .array _ _ => true | _ => false) = true) (hi : (P.info? ty).map (·.size) = some cs.size) (hi2 : (P.info? ty).map (·.size) = some cs2.size) :
    (results fn tmps).run P w = .ok (.tuple #[.agg cs, .agg cs2, v]) w := by
  have hp' : tmps[p]?.getD undef = .pointer (some ⟨g, 0, none⟩) := by simpa using hp
  have hq' : tmps[q]?.getD undef = .pointer (some ⟨g2, 0, none⟩) := by simpa using hq
  have hr' : tmps[r]?.getD undef = v := by simpa using hr
  simp [results, h, hp', hq', hr', asAddr, run_loadVar_row w g t ty cs (0, 0) d hg hu hd hi, run_loadVar_row w g2 t2 ty cs2 (0, 0) d hg2 hu hd hi2]
/-- a block that holds a number's slice -/
structure NB (g : Nat) (v : Value) (w : World) : Prop where
  blk : w.heap[g]? = some (.cells #[v] 27 (0, 0))
theorem NB.lt {g : Nat} {v : Value} {w : World} (h : NB g v w) : g < w.heap.size := (Array.getElem?_eq_some_iff.1 h.blk).1
theorem NB.below {g : Nat} {v : Value} {w w' : World} (h : NB g v w) (hb : Below w.heap.size w w') : NB g v w' := ⟨(hb.block g h.lt).trans h.blk⟩
theorem NB.kept {X : Nat → Prop} {g : Nat} {v : Value} {w w' : World} (h : NB g v w) (hk : KeptBut X w w') (hX : ¬ X g) : NB g v w' := ⟨(hk.block g h.lt hX).trans h.blk⟩
theorem NB.cell {g : Nat} {v : Value} {w : World} (h : NB g v w) : w.cell? ⟨g, 0, none⟩ = some v ∧ w.frozen? ⟨g, 0, none⟩ = false := cell_of_row h.blk
theorem NB.new (w : World) (v : Value) : NB w.heap.size v (w.alloc (.cells #[v] 27)) := ⟨heap_alloc_new _ _⟩
theorem NB.set {g : Nat} {v : Value} {w : World} (h : NB g v w) (v2 : Value) : NB g v2 (w.setRow g #[v2]) ∧ KeptBut (· = g) w (w.setRow g #[v2]) := by
  refine ⟨⟨setRow_heap _ _ _ _ _ _ h.blk⟩, ⟨rfl, rfl, rfl, by simp [World.setRow], fun k hk hx => ?_⟩⟩
  simp only [World.setRow, Array.getElem?_modify]
  rw [if_neg (fun e => hx e.symm)]
theorem four_blocks (W : World) (a b c d : Value) : NB W.heap.size a ((((W.alloc (.cells #[a] 27)).alloc (.cells #[b] 27)).alloc (.cells #[c] 27)).alloc (.cells #[d] 27)) ∧
    NB (W.heap.size + 1) b ((((W.alloc (.cells #[a] 27)).alloc (.cells #[b] 27)).alloc (.cells #[c] 27)).alloc (.cells #[d] 27)) ∧
    NB (W.heap.size + 1 + 1) c ((((W.alloc (.cells #[a] 27)).alloc (.cells #[b] 27)).alloc (.cells #[c] 27)).alloc (.cells #[d] 27)) ∧
    NB (W.heap.size + 1 + 1 + 1) d ((((W.alloc (.cells #[a] 27)).alloc (.cells #[b] 27)).alloc (.cells #[c] 27)).alloc (.cells #[d] 27)) := by
  have h3 := three_allocs W (.cells #[a] 27) (.cells #[b] 27) (.cells #[c] 27)
  generalize ((W.alloc (.cells #[a] 27)).alloc (.cells #[b] 27)).alloc (.cells #[c] 27) = w at h3 ⊢
  have hb : Below w.heap.size w (w.alloc (.cells #[d] 27)) := (by repeat (first | assumption | exact Below.refl _ _ | exact below_beyond _ _ | refine Below.beyond ?_ (by (try simp [size_beyond]) <;> omega) _ | refine Below.drew ?_ | refine Go.Rw.below_drewN ?_ _ | refine Go.Rw.below_setRow ?_ (by (try simp [size_beyond]) <;> omega) _ | refine Below.alloc ?_ (by (try simp [size_beyond]) <;> omega) _ | refine Below.setCell ?_ (by (try simp [size_beyond]) <;> omega) _))
  refine ⟨NB.below ⟨h3.2.1⟩ hb, NB.below ⟨h3.2.2.1⟩ hb, NB.below ⟨h3.2.2.2⟩ hb, ?_⟩
  rw [← h3.1]
  exact NB.new w d
theorem NatAt.setSlice {v : Value} {n g : Nat} {q : Option Addr} {m c : Nat} {w : World} (h : NatAt v n w) (H : NB g (.slice q m c) w) (s : Value) : NatAt v n (w.setRow g #[s]) := by
  obtain ⟨q', m', c', ds, rfl, h1, h2, h3⟩ := h.ex
  exact ⟨_, _, _, _, rfl, h1.row H.blk (fun _ h => by cases h) _, h2, h3⟩
/-- two results are laid into their cells -/
theorem laid2 {W w : World} {g g2 : Nat} {q q2 : Option Addr} {m c m2 c2 : Nat} (hB : Below W.heap.size W w) (H : NB g (.slice q m c) w) (H2 : NB g2 (.slice q2 m2 c2) w) (hne : g ≠ g2) (hg : W.heap.size ≤ g) (hg2 : W.heap.size ≤ g2) (q3 q4 : Option Addr) (m3 c3 m4 c4 : Nat) :
    ∃ w', (w.setCell ⟨g, 0, none⟩ (.slice q3 m3 c3)).setCell ⟨g2, 0, none⟩ (.slice q4 m4 c4) = w' ∧ NB g (.slice q3 m3 c3) w' ∧ NB g2 (.slice q4 m4 c4) w' ∧ Below W.heap.size W w' ∧ ∀ v n, NatAt v n w → NatAt v n w' := by
  have e1 := setCell_row H.blk (.slice q3 m3 c3)
  have h1 := H.set (.slice q3 m3 c3)
  have h2 := H2.kept h1.2 (fun h => hne h.symm)
  have e2 := setCell_row h2.blk (.slice q4 m4 c4)
  have h3 := h2.set (.slice q4 m4 c4)
  refine ⟨_, rfl, ?_⟩
  rw [e1, e2]
  exact ⟨h1.1.kept h3.2 (fun h => hne h), h3.1, Go.Rw.below_setRow (Go.Rw.below_setRow hB hg _) hg2 _, fun v n hn => (hn.setSlice H _).setSlice h2 _⟩
theorem laid1 {W w : World} {g : Nat} {q : Option Addr} {m c : Nat} (hB : Below W.heap.size W w) (H : NB g (.slice q m c) w) (hg : W.heap.size ≤ g) (q3 : Option Addr) (m3 c3 : Nat) :
    ∃ w', w.setCell ⟨g, 0, none⟩ (.slice q3 m3 c3) = w' ∧ NB g (.slice q3 m3 c3) w' ∧ Below W.heap.size W w' ∧ (∀ v n, NatAt v n w → NatAt v n w') ∧ KeptBut (· = g) w w' := by
  have e1 := setCell_row H.blk (.slice q3 m3 c3)
  have h1 := H.set (.slice q3 m3 c3)
  refine ⟨_, rfl, ?_⟩
  rw [e1]
  exact ⟨h1.1, Go.Rw.below_setRow hB hg _, fun v n hn => hn.setSlice H _, h1.2⟩
theorem divmod_zero {v v2 : Value} {n : Nat} {W : World} (h : NatAt v n W) (h2 : NatAt v2 0 W) :
    Calls Tryd.prog 26 #[v, v2] W fun e w' => e = .returned (.tuple #[.agg #[.slice none 0 0], .agg #[.slice none 0 0], .int .i64 1]) ∧ Below W.heap.size W w' := by
  have HZ := Lib.hid (fun w (hb : Below W.heap.size W w) => isZero_calls (h2.below hb))
  have HZ2 := Lib.hid (fun w (hb : Below W.heap.size W w) => by have := HZ.out w hb; rw [decide_eq_true rfl] at this; exact this)
  obtain ⟨q, m, c, rfl⟩ := h.shape
  obtain ⟨q2, m2, c2, rfl⟩ := h2.shape
  clear h h2 HZ
  go_enter Tryd.func26, Tryd.ntmps26
  go_wp2_with (fail)
  go_at_call 21
  have h4 := four_blocks W (.slice q m c) (.slice q2 m2 c2) (.slice none 0 0) (.slice none 0 0)
  have hB0 : Below W.heap.size W ((((W.alloc (.cells #[.slice q m c] 27)).alloc (.cells #[.slice q2 m2 c2] 27)).alloc (.cells #[.slice none 0 0] 27)).alloc (.cells #[.slice none 0 0] 27)) := (by repeat (first | assumption | exact Below.refl _ _ | exact below_beyond _ _ | refine Below.beyond ?_ (by (try simp [size_beyond]) <;> omega) _ | refine Below.drew ?_ | refine Go.Rw.below_drewN ?_ _ | refine Go.Rw.below_setRow ?_ (by (try simp [size_beyond]) <;> omega) _ | refine Below.alloc ?_ (by (try simp [size_beyond]) <;> omega) _ | refine Below.setCell ?_ (by (try simp [size_beyond]) <;> omega) _))
  refine (HZ2.out _ hB0).mono ?_
  generalize ((((W.alloc (.cells #[.slice q m c] 27)).alloc (.cells #[.slice q2 m2 c2] 27)).alloc (.cells #[.slice none 0 0] 27)).alloc (.cells #[.slice none 0 0] 27)) = w0 at h4 hB0 ⊢
  rintro e w1 ⟨rfl, hb⟩
  have hB1 := Lib.hid (below_step hb hB0)
  have H1 := Lib.hid (h4.2.2.1.below hb)
  have H2 := Lib.hid (h4.2.2.2.below hb)
  obtain ⟨hx1, hf1⟩ := H1.out.cell
  obtain ⟨hx2, hf2⟩ := H2.out.cell
  clear h4 hb hB0
  go_wp2
  obtain ⟨w', hw, K1, K2, K3, K4⟩ := laid2 hB1.out H1.out H2.out (by omega) (by omega) (by omega) none none 0 0 0 0
  rw [hw]
  exact bodyPost_ret (results_block3 rfl _ _ (W.heap.size + 1 + 1) (W.heap.size + 1 + 1 + 1) 27 27 #[.slice none 0 0] #[.slice none 0 0] _ (.int .i64 1) rfl rfl rfl K1.blk K2.blk Tryd.underlying27 rfl nInfo nInfo) rfl ⟨rfl, K3⟩
/-- quotient and remainder -/
def DivR (W : World) (n n2 : Nat) (e : Ending) (w' : World) : Prop := ∃ v v2, e = .returned (.tuple #[v, v2, .int .i64 0]) ∧ NatAt v (n / n2) w' ∧ NatAt v2 (n % n2) w' ∧ Below W.heap.size W w'
theorem nat_zero (w : World) : NatAt (.agg #[.slice none 0 0]) 0 w := ⟨_, _, _, _, rfl, dg_nil w, fun h => absurd rfl h, rfl⟩
theorem divmod_less {v v2 : Value} {n n2 : Nat} {W : World} (h : NatAt v n W) (h2 : NatAt v2 n2 W) (hlt : n < n2) :
    Calls Tryd.prog 26 #[v, v2] W (DivR W n n2) := by
  have HZ := Lib.hid (fun w (hb : Below W.heap.size W w) => by have := isZero_calls (h2.below hb); rw [decide_eq_false (by omega)] at this; exact this)
  have HC := Lib.hid (fun w (hb : Below W.heap.size W w) => by have := Cmp_calls (h.below hb) (h2.below hb); rw [cmpV_lt hlt] at this; exact this)
  have HK := Lib.hid (fun w (hb : Below W.heap.size W w) => clone_calls (h.below hb))
  have HE := Lib.hid (And.intro (Nat.div_eq_of_lt hlt) (Nat.mod_eq_of_lt hlt))
  obtain ⟨q, m, c, rfl⟩ := h.shape
  obtain ⟨q2, m2, c2, rfl⟩ := h2.shape
  clear h h2 hlt
  go_enter Tryd.func26, Tryd.ntmps26
  go_wp2_with (fail)
  go_at_call 21
  have h4 := four_blocks W (.slice q m c) (.slice q2 m2 c2) (.slice none 0 0) (.slice none 0 0)
  have hB0 : Below W.heap.size W ((((W.alloc (.cells #[.slice q m c] 27)).alloc (.cells #[.slice q2 m2 c2] 27)).alloc (.cells #[.slice none 0 0] 27)).alloc (.cells #[.slice none 0 0] 27)) := (by repeat (first | assumption | exact Below.refl _ _ | exact below_beyond _ _ | refine Below.beyond ?_ (by (try simp [size_beyond]) <;> omega) _ | refine Below.drew ?_ | refine Go.Rw.below_drewN ?_ _ | refine Go.Rw.below_setRow ?_ (by (try simp [size_beyond]) <;> omega) _ | refine Below.alloc ?_ (by (try simp [size_beyond]) <;> omega) _ | refine Below.setCell ?_ (by (try simp [size_beyond]) <;> omega) _))
  refine (HZ.out _ hB0).mono ?_
  generalize ((((W.alloc (.cells #[.slice q m c] 27)).alloc (.cells #[.slice q2 m2 c2] 27)).alloc (.cells #[.slice none 0 0] 27)).alloc (.cells #[.slice none 0 0] 27)) = w0 at h4 hB0 ⊢
  rintro e w1 ⟨rfl, hb⟩
  have hB1 := Lib.hid (below_step hb hB0)
  have H1 := Lib.hid (h4.1.below hb)
  have H2 := Lib.hid (h4.2.1.below hb)
  have H3 := Lib.hid (h4.2.2.1.below hb)
  have H4 := Lib.hid (h4.2.2.2.below hb)
  obtain ⟨hx1, hf1⟩ := H1.out.cell
  obtain ⟨hx2, hf2⟩ := H2.out.cell
  clear h4 hb hB0
  go_wp2_with (fail)
  go_at_call 39
  refine (HC.out _ hB1.out).mono ?_
  rintro e w2 ⟨rfl, hb⟩
  have hB2 := Lib.hid (below_step hb hB1.out)
  have J1 := Lib.hid (H1.out.below hb)
  have J3 := Lib.hid (H3.out.below hb)
  have J4 := Lib.hid (H4.out.below hb)
  clear hx1 hx2 hf1 hf2 hb
  obtain ⟨hx1, hf1⟩ := J1.out.cell
  go_wp2_with (fail)
  go_at_call 53
  refine (HK.out _ hB2.out).mono ?_
  rintro e w3 ⟨v, rfl, hv, hb⟩
  obtain ⟨qq, mm, cc, rfl⟩ := hv.shape
  have HV := Lib.hid hv
  have hB3 := Lib.hid (below_step hb hB2.out)
  have K3 := Lib.hid (J3.out.below hb)
  have K4 := Lib.hid (J4.out.below hb)
  clear hx1 hf1 hb hv
  obtain ⟨hx3, hf3⟩ := K3.out.cell
  obtain ⟨hx4, hf4⟩ := K4.out.cell
  go_wp2
  obtain ⟨w', hw, L1, L2, L3, L4⟩ := laid2 hB3.out K3.out K4.out (by omega) (by omega) (by omega) none qq 0 0 mm cc
  rw [hw]
  exact bodyPost_ret (results_block3 rfl _ _ (W.heap.size + 1 + 1) (W.heap.size + 1 + 1 + 1) 27 27 #[.slice none 0 0] #[.slice qq mm cc] _ (.int .i64 0) rfl rfl rfl L1.blk L2.blk Tryd.underlying27 rfl nInfo nInfo) rfl ⟨_, _, rfl, by rw [HE.out.1]; exact nat_zero _, by rw [HE.out.2]; exact L4 _ _ HV.out, L3⟩
end Go.Proofs.YtogjobmekjighaaDoor.bn
