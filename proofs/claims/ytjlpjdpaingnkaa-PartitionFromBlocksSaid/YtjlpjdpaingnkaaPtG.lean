/-
  Blocks of a partition: the map of the members, block by block.
-/
import Derived.Test.YtjlpjdpaingnkaaPtA
import Derived.Maps.OwnSet
import Derived.Maps.OwnRows
import Derived.Deep.CutBlock
set_option linter.unusedSimpArgs false
set_option linter.unusedVariables false
namespace Go.Proofs.Ytjlpjdpaingnkaa.pt
open Go.RowKit Go.Own Go.Pt Go.Rw Go.Maps Go.WideMaps Go.ChangeShapes Go.ChangeMaps
set_option maxHeartbeats 4000000
set_option maxRecDepth 100000

theorem lawK : Keyed Try.prog 3 := int_keyed Try.underlying3
theorem zeroS (w : World) : (zeroValue 23).run Try.prog w = .ok (.slice none 0 0) w := by kernel_rfl
theorem sI : (Try.prog.info? 23).map (fun i => (i.zero, i.size, i.bytes)) = some (some (.slice none 0 0), 1, 24) := by kernel_rfl
theorem llU : Try.prog.underlying 47 = some (.slice 23) := Try.underlying47
theorem bs1 (q : Option Addr) (m c : Nat) (w : World) : (Instr.buildSlice 47 1 #[(0, .slice q m c)]).run Try.prog w = .ok (.slice (some ⟨w.heap.size, 0, none⟩) 1 1) (w.alloc (.cells #[.slice q m c] 23)) := by kernel_rfl
theorem grown_below {W W' : World} (h : Below W.heap.size W W') : W.grownBy W' none := ⟨h.os, h.tape, h.output, h.size, fun k hk _ => h.block k hk⟩
theorem owns_below {w w' : World} {B : Nat} {T : TypeId} {v : Value} {n : Nat} {xs : List Value} (h : w.ownsRow B T 1 v n xs) (hb : Below w.heap.size w w') : w'.ownsRow B T 1 v n xs := h.kept (grown_below hb) (by cases v.ownBlock <;> simp)
/-- []T{x} of a slice, ahead of an append -/
theorem wpList_build1 {ops : Array Oper} {rest : List Oper} {o : Oper} {a : Act} {Q : Exit → Act → World → Prop} {w : World} (hgd : o.guard = none) (x : Operand) (ho : o.op = .buildSlice 47 1 #[(0, x)]) (q : Option Addr) (m c : Nat) (hx : a.eval x = .slice q m c)
    (h : wpList Try.prog ops Q rest (a.put o.dst (.slice (some ⟨w.heap.size, 0, none⟩) 1 1)) (w.alloc (.cells #[.slice q m c] 23))) : wpList Try.prog ops Q (o :: rest) a w := by
  refine wpList_plain hgd fun K hK => ?_
  unfold Oper.wp execOp
  simp only [ho, Sem.run_bind, Sem.run_pure, Result.andThen_ok, List.map_toArray, List.map_cons, List.map_nil, hx, bs1]
  exact hK _ _ h
/-- the map of the members of the blocks, after k elements -/
def G (w : List Int) : Nat → DataW Unit
  | 0 => .map []
  | k + 1 => (G w k).put (.int .i64 (gv w k)) (.slice (lits .i64 (blk w (gv w k) (k + 1))) [])
theorem G_isMap (w : List Int) : ∀ k, IsMap (G w k)
  | 0 => isMap_empty
  | k + 1 => (G_isMap w k).put _ _
theorem blk_same (w : List Int) (k : Nat) : blk w (gv w k) (k + 1) ≠ [] := by rw [blk_snoc, if_pos rfl]; simp
theorem blk_other {w : List Int} {k : Nat} {r : Int} (h : r ≠ gv w k) : blk w r (k + 1) = blk w r k := by rw [blk_snoc, if_neg (fun e => h e.symm), List.append_nil]
theorem G_at (w : List Int) (r : Int) : ∀ k, (G w k).atKey (.int .i64 r) .nil = if blk w r k = [] then .nil else .slice (lits .i64 (blk w r k)) []
  | 0 => rfl
  | k + 1 => by
    unfold G
    by_cases e : r = gv w k
    · subst e
      rw [atKey_put_same (G_isMap w k) (show WideAt.IsKeyLit (.int .i64 (gv w k)) from trivial), if_neg (blk_same w k)]
    · rw [atKey_put_other (fun h => e (by cases h; rfl)), G_at w r k, blk_other e]
theorem G_has (w : List Int) (r : Int) : ∀ k, Maps.has (G w k) (.int .i64 r) = decide (blk w r k ≠ [])
  | 0 => rfl
  | k + 1 => by
    unfold G
    by_cases e : r = gv w k
    · subst e
      rw [has_put_same (G_isMap w k) (show WideAt.IsKeyLit (.int .i64 (gv w k)) from trivial), decide_eq_true (blk_same w k)]
    · rw [has_put_other (fun h => e (by cases h; rfl)), G_has w r k, blk_other e]
theorem lits_inj {a b : List Int} (h : lits (H := Unit) .i64 a = lits .i64 b) : a = b := by
  unfold lits at h
  exact (List.map_inj_right (fun x y e => by cases e; rfl)).1 h
theorem G_row {w : List Int} {r : Int} {k : Nat} {W : World} {B : Nat} {v : Value} {zs : List Int} (ho : W.ownsInts B 3 .i64 v zs) (hat : (G w k).atKey (.int .i64 r) .nil = rowDatum .i64 v zs) : zs = blk w r k := by
  rw [G_at] at hat
  rcases ho.datum (H := Unit) with ⟨h1, h2⟩ | h1
  · rw [h1] at hat
    split at hat
    · rename_i e; rw [h2, e]
    · cases hat
  · rw [h1] at hat
    split at hat
    · cases hat
    · exact (lits_inj (by injection hat)).symm
theorem head_iff {w : List Int} (h : Rep w) {a : Nat} (ha : a < w.length) : blk w (a : Int) w.length ≠ [] ↔ gv w a = a := by
  constructor
  · intro hne
    obtain ⟨x, hx⟩ := List.exists_mem_of_ne_nil _ hne
    unfold blk at hx
    simp only [List.mem_map, List.mem_filter, List.mem_range, beq_iff_eq] at hx
    obtain ⟨i, ⟨hi, hg⟩, rfl⟩ := hx
    have := h.idem i hi
    rwa [hg, Int.toNat_natCast] at this
  · intro e hn
    have : (a : Int) ∈ blk w (a : Int) w.length := by unfold blk; simp only [List.mem_map, List.mem_filter, List.mem_range, beq_iff_eq]; exact ⟨a, ⟨ha, e⟩, rfl⟩
    rw [hn] at this; simp at this
theorem groups_kept {P : Program} {k : TypeId} {base b n : Nat} {e : TypeId} {q : IntKind} {D : DataW Unit} {w w' : World} {row : Option Nat} (h : w.ownsGroups P k base e q b n D) (hg : w.grownBy w' row) (hr : ∀ r, row = some r → r ≠ b ∧ r < base) : w'.ownsGroups P k base e q b n D := by
  obtain ⟨es, clock, hb, F, hs, rfl, hbb, hlen, hap⟩ := h
  have hrb : some b ≠ row := fun e => (hr b e.symm).1 rfl
  have keep : ∀ {v zs}, w.ownsInts base e q v zs → w'.ownsInts base e q v zs := fun {v zs} ho => by
    refine ho.kept hg ?_
    cases hv : v.ownBlock with
    | none => exact .inl rfl
    | some g => exact .inr (fun e => by have := (ho.1.lt g hv).1; have := (hr g e.symm).2; omega)
  obtain ⟨F1, hmap, _⟩ := F.stay (R' := rowElem (H := Unit) w' base e q) (fun x _ z hz => by
    obtain ⟨zs, ho, rfl⟩ := rowElem_inv hz
    exact rowElem_mk (keep ho))
  refine ⟨es, clock, (hg.block b (Array.getElem?_eq_some_iff.1 hb).1 hrb).trans hb, F1, hs, by rw [hmap], hbb, fun x hx zs ho => ?_, hap⟩
  obtain ⟨y, hy⟩ := F.reads x hx
  obtain ⟨z, hz, _⟩ := WideElems.rd_val hy
  obtain ⟨zs', ho', _⟩ := rowElem_inv hz
  rw [ho.unique (keep ho')]
  exact hlen x hx zs' ho'
theorem groups_map {P : Program} {k : TypeId} {base b n : Nat} {e : TypeId} {q : IntKind} {D : DataW Unit} {w : World} (h : w.ownsGroups P k base e q b n D) : w.ownsMap P k (rowElem w base e q) b n D := by
  obtain ⟨es, clock, hb, F, hs, rfl, _⟩ := h
  exact ⟨es, clock, hb, F, hs, rfl⟩
theorem kgrown {g : Nat} {W W' : World} (h : KeptBut (· = g) W W') : W.grownBy W' (some g) := ⟨h.os, h.tape, h.output, h.size, fun k hk hx => h.block k hk (fun e => hx (by rw [e]))⟩
/-- the slice reads as these lists, here; it and they lie in none of the blocks of M; if s, the lists lie in none of the slice's own -/
structure LsAt (M : Nat → Prop) (s : Prop) (q : Option Addr) (m c : Nat) (L : List (List Int)) (w : World) : Prop where
  mk' :: (all : m = L.length ∧ m ≤ 999000 ∧ m ≤ c ∧ c ≤ maxLen ∧ (L = [] ∨ ∃ b off, q = some ⟨b, off, none⟩ ∧ b < w.heap.size ∧ ¬ M b ∧ ∀ (i : Nat) (l : List Int), L[i]? = some l → ∃ q' m' c', w.cell? ⟨b, off + i, none⟩ = some (.slice q' m' c') ∧ At (fun k => M k ∨ (s ∧ k = b)) q' m' c' l w))
theorem LsAt.kept {M X : Nat → Prop} {s : Prop} {q : Option Addr} {m c : Nat} {L : List (List Int)} {w w' : World} (h : LsAt M s q m c L w) (hk : KeptBut X w w') (hX : ∀ b, X b → M b) : LsAt M s q m c L w' := by
  refine ⟨h.all.1, h.all.2.1, h.all.2.2.1, h.all.2.2.2.1, ?_⟩
  rcases h.all.2.2.2.2 with h | ⟨b, off, h1, h2, h4, h3⟩
  · exact .inl h
  · refine .inr ⟨b, off, h1, Nat.lt_of_lt_of_le h2 hk.size, h4, fun i l hl => ?_⟩
    obtain ⟨q', m', c', h5, h6⟩ := h3 i l hl
    exact ⟨q', m', c', by rw [World.cell?_of_block (hk.block b h2 (fun h => h4 (hX b h)))]; exact h5, h6.kept hk (fun b hb => .inl (hX b hb))⟩
theorem LsAt.below {M : Nat → Prop} {s : Prop} {q : Option Addr} {m c : Nat} {L : List (List Int)} {w w' : World} (h : LsAt M s q m c L w) (hb : Below w.heap.size w w') : LsAt M s q m c L w' := h.kept (X := fun _ => False) (KeptBut.of_below hb) (fun _ h => h.elim)
theorem LsAt.cell {M : Nat → Prop} {s : Prop} {q : Option Addr} {m c : Nat} {L : List (List Int)} {w : World} (h : LsAt M s q m c L w) {k : Nat} {l : List Int} (hk : L[k]? = some l) :
    ∃ b off q' m' c', q = some ⟨b, off, none⟩ ∧ b < w.heap.size ∧ w.cell? ⟨b, off + k, none⟩ = some (.slice q' m' c') ∧ At (fun k => M k ∨ (s ∧ k = b)) q' m' c' l w := by
  rcases h.all.2.2.2.2 with h | ⟨b, off, h1, h2, h4, h3⟩
  · rw [h] at hk; simp at hk
  · obtain ⟨q', m', c', h5, h6⟩ := h3 k l hk
    exact ⟨b, off, q', m', c', h1, h2, h5, h6⟩
/-- the values that a slice of the call's own holds are slices that read as these lists -/
def Held (M : Nat → Prop) (v : Value) (L : List (List Int)) (vs : List Value) (w : World) : Prop := vs.length = L.length ∧ ∀ (i : Nat) (l : List Int), L[i]? = some l → ∃ q m c, vs[i]? = some (Value.slice q m c) ∧ At (fun b => M b ∨ v.ownBlock = some b) q m c l w
theorem held_nil (M : Nat → Prop) (v : Value) (w : World) : Held M v [] [] w := ⟨rfl, fun i l h => by simp at h⟩
theorem Held.below {M : Nat → Prop} {v : Value} {L : List (List Int)} {vs : List Value} {w w' : World} (h : Held M v L vs w) (hb : Below w.heap.size w w') : Held M v L vs w' := ⟨h.1, fun i l hl => by
  obtain ⟨q, m, c, h1, h2⟩ := h.2 i l hl; exact ⟨q, m, c, h1, h2.below hb⟩⟩
/-- behind an append of one more -/
theorem Held.snoc {M : Nat → Prop} {v v' : Value} {L : List (List Int)} {vs : List Value} {w w' : World} (h : Held M v L vs w) {q : Option Addr} {m c : Nat} {l : List Int} (hi : At (fun b => M b ∨ v.ownBlock = some b) q m c l w)
    (hg : w.grownBy w' v.ownBlock) (hloc : v'.ownBlock = v.ownBlock ∨ v'.ownBlock = some w.heap.size) : Held M v' (L ++ [l]) (vs ++ [Value.slice q m c]) w' := by
  have mv : ∀ {q m c l}, At (fun b => M b ∨ v.ownBlock = some b) q m c l w → At (fun b => M b ∨ v'.ownBlock = some b) q m c l w' := fun {q m c l} h => by
    have h1 : At (fun b => M b ∨ v.ownBlock = some b ∨ v'.ownBlock = some b) q m c l w := h.more (fun b hb hh => by
      rcases hh with hh | hh | hh
      · exact .inl hh
      · exact .inr hh
      · rcases hloc with e | e
        · exact .inr (e ▸ hh)
        · rw [e] at hh; cases hh; exact absurd hb (Nat.lt_irrefl _))
    refine (h1.kept (X := fun b => v.ownBlock = some b) (KeptBut.of_grown hg (fun r e => e)) (fun b hb => .inr (.inl hb))).more (fun b _ hh => ?_)
    rcases hh with hh | hh
    · exact .inl hh
    · exact .inr (.inr hh)
  refine ⟨by simp [h.1], fun i l' hl => ?_⟩
  by_cases e : i < L.length
  · rw [List.getElem?_append_left e] at hl
    obtain ⟨q', m', c', h1, h2⟩ := h.2 i l' hl
    exact ⟨q', m', c', by rw [List.getElem?_append_left (by rw [h.1]; exact e)]; exact h1, mv h2⟩
  · rw [List.getElem?_append_right (by omega)] at hl
    have hz : i - L.length = 0 := by have := (List.getElem?_eq_some_iff.1 hl).1; simp at this; omega
    rw [hz] at hl
    simp at hl
    subst hl
    exact ⟨q, m, c, by rw [List.getElem?_append_right (by rw [h.1]; omega), h.1, hz]; rfl, mv hi⟩
theorem held_ls {M : Nat → Prop} {w : World} {B : Nat} {T : TypeId} {v : Value} {L : List (List Int)} {vs : List Value} (h : w.ownsRow B T 1 v L.length vs) (hh : Held M v L vs w) (hl : L.length ≤ 999000) (hM : ∀ k, M k → k < B) : ∃ q m c, v = .slice q m c ∧ LsAt M True q m c L w := by
  rcases h.2 with ⟨rfl, hk⟩ | ⟨g, cap, cur, rfl, hb, hgg, hn, hc, hs, ht⟩
  · exact ⟨_, _, _, rfl, ⟨hk.symm, Nat.zero_le _, Nat.le_refl _, Nat.zero_le _, .inl (List.eq_nil_of_length_eq_zero hk)⟩⟩
  · refine ⟨_, _, _, rfl, ⟨rfl, hl, hn, hc, .inr ⟨g, 0, rfl, (Array.getElem?_eq_some_iff.1 hgg).1, fun hm => by have := hM g hm; omega, fun i l hx => ?_⟩⟩⟩
    obtain ⟨q', m', c', h1, h2⟩ := hh.2 i l hx
    have e := World.ownsRow.cells h (g := g) rfl i _ h1
    have e2 : (⟨g, 0, Option.none⟩ : Addr).add i = ⟨g, i, Option.none⟩ := by unfold Addr.add; split <;> simp_all
    refine ⟨q', m', c', by rw [Nat.zero_add, ← e2]; exact e, h2.more (fun b _ hb => ?_)⟩
    rcases hb with hb | ⟨_, hb⟩
    · exact .inl hb
    · exact .inr (by rw [hb]; rfl)
/-- hands back such a slice -/
def RetL (M : Nat → Prop) (W : World) (L : List (List Int)) (e : Ending) (w' : World) : Prop := ∃ q m c, e = .returned (.slice q m c) ∧ LsAt M True q m c L w' ∧ Below W.heap.size W w'
end Go.Proofs.Ytjlpjdpaingnkaa.pt
