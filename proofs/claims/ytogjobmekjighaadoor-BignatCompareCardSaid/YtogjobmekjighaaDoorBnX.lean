/-
  Contracts of bignat: what String needs.
-/
import Derived.Test.YtogjobmekjighaaDoorBnW
import Derived.Test.YtogjobmekjighaaDoorBnS
import Derived.Maps.AppendAt
import Derived.Laws.IdiomStrings
set_option linter.unusedSimpArgs false
set_option linter.unusedVariables false
namespace Go.Proofs.YtogjobmekjighaaDoor.bn
open Go.RowKit Go.Own Go.Bn
set_option maxHeartbeats 4000000
set_option maxRecDepth 100000

/-- the first block behind the table of powers -/
def tabB : Nat := 1 + 1
/-- the table of powers is where it was laid, and stays so -/
def DecW (w : World) : Prop := Lib.TabBelow Tryd.prog tabB w "internal/strconv.uint64pow10" .u64 Lib.pow10Tab
theorem DecW.below {w w' : World} (h : DecW w) {L : Nat} (hB : tabB ≤ L) (hb : Below L w w') : DecW w' := fun w2 h2 => h w2 ((hb.mono hB).trans h2)
theorem appU {w : World} {L n u : Nat} (hu64 : u < 18446744073709551616) {sv : Value} {xs : List Value} (hown : w.ownsRow L 5 1 sv n xs) (hBw : L ≤ w.heap.size) (hlim : n + 20 ≤ 140737488355328) (hD : DecW w) :
    Calls Tryd.prog 49 #[sv, .int .u64 (u : Int), .int .i64 10] w fun e w' => ∃ v', e = .returned v' ∧ w'.ownsRow L 5 1 v' (n + (Lib.decDigits u).length) (xs ++ Lib.byteCells (Lib.decDigits u)) ∧ Below L w w' := by
  have HC := Lib.hid (show Calls Tryd.prog 67 #[sv, .int .u64 (u : Int), .int .i64 10] w (fun e w' => ∃ v', e = .returned v' ∧ w'.ownsRow L 5 1 v' (n + (Lib.decDigits u).length) (xs ++ Lib.byteCells (Lib.decDigits u)) ∧ Below L w w') from by
    by_cases h : u < 100
    · exact (Tryd.internal_strconv_AppendUint_10_small L n u h sv xs w hown hBw hlim).mono fun e w' ⟨v', h1, h2, h3, _⟩ => ⟨v', h1, h2, h3⟩
    · exact (Tryd.internal_strconv_AppendUint_10_big L n u (by omega) hu64 sv xs w hown hBw hlim hD.here).mono fun e w' ⟨v', h1, h2, h3, _⟩ => ⟨v', h1, h2, h3⟩)
  clear hown hD hu64 hlim
  generalize Lib.decDigits u = l at *
  generalize ((u : Nat) : Int) = z at *
  go_enter Tryd.func49, Tryd.ntmps49
  go_wp2_with (go_at_call 67; refine HC.out.mono ?_; rintro e w' ⟨v', rfl, h1, h2⟩; have H12 := Lib.hid (And.intro h1 h2); clear h1 h2)
  go_ret
  exact ⟨_, rfl, H12.out.1, H12.out.2⟩
theorem own_ne_nb {w : World} {L k g : Nat} {v s : Value} {xs : List Value} (h : w.ownsRow L 68 1 v k xs) (hn : NB g s w) : v.ownBlock ≠ some g := by
  intro e
  rcases h.2 with ⟨rfl, _⟩ | ⟨g', cap, cur, rfl, _, hgg, _⟩
  · simp [Value.ownBlock] at e
  · obtain rfl : g' = g := by simpa [Value.ownBlock] using e
    rw [hn.blk] at hgg
    injection hgg with hgg
    injection hgg with _ h2 _
    exact absurd h2 (by decide)
theorem own_kept {X : Nat → Prop} {w w' : World} {L k size : Nat} {e : TypeId} {v : Value} {xs : List Value} (h : w.ownsRow L e size v k xs) (hk : KeptBut X w w') (hX : ∀ b, v.ownBlock = some b → ¬ X b) : w'.ownsRow L e size v k xs := by
  refine ⟨h.1, ?_⟩
  rcases h.2 with hn | ⟨g, cap, cur, rfl, hb', hgg, rest⟩
  · exact .inl hn
  · exact .inr ⟨g, cap, cur, rfl, hb', (hk.block g (Array.getElem?_eq_some_iff.1 hgg).1 (hX g rfl)).trans hgg, rest⟩
theorem own_below {w w' : World} {L k size : Nat} {e : TypeId} {v : Value} {xs : List Value} (h : w.ownsRow L e size v k xs) (hb : Below w.heap.size w w') : w'.ownsRow L e size v k xs :=
  own_kept (X := fun _ => False) h (KeptBut.of_below hb) (fun _ _ h => h)
theorem own_lt {w : World} {L k size : Nat} {e : TypeId} {v : Value} {xs : List Value} (h : w.ownsRow L e size v k xs) {b : Nat} (hb : v.ownBlock = some b) : L ≤ b ∧ b < w.heap.size := by
  rcases h.2 with ⟨rfl, _⟩ | ⟨g, cap, cur, rfl, hb', hgg, rest⟩
  · simp [Value.ownBlock] at hb
  · obtain rfl : g = b := by simpa [Value.ownBlock] using hb
    exact ⟨hb', (Array.getElem?_eq_some_iff.1 hgg).1⟩
theorem NatAt.blk_lt {v : Value} {n b : Nat} {w : World} (h : NatAt v n w) (hb : nblk v = some b) : b < w.heap.size := by
  obtain ⟨q, m, c, ds, rfl, hA, _⟩ := h.ex
  rcases hA.all.2.2.2.2.2 with ⟨_, rfl, _⟩ | ⟨p, off, rfl, hp, _⟩
  · cases hb
  · have e : some p = some b := hb
    cases e; exact hp
theorem NatAt.grown {v : Value} {n : Nat} {row : Option Nat} {w w' : World} (h : NatAt v n w) (hg : w.grownBy w' row) (hr : ∀ b, nblk v = some b → row ≠ some b) : NatAt v n w' := by
  obtain ⟨q, m, c, ds, rfl, hA, h2, h3⟩ := h.ex
  obtain ⟨k1, k2, k3, k4, k5, k6⟩ := hA.all
  refine ⟨_, _, _, _, rfl, ⟨k1, k2, k3, k4, k5, ?_⟩, h2, h3⟩
  rcases k6 with hh | ⟨p, off, rfl, hp, hc⟩
  · exact .inl hh
  · refine .inr ⟨p, off, rfl, Nat.lt_of_lt_of_le hp hg.size, fun i x hx => ?_⟩
    have := hc i x hx
    unfold World.cell? at this ⊢
    rw [hg.block p hp (fun e => hr p rfl e.symm)]
    exact this
theorem NB.grown {g : Nat} {v : Value} {w w' : World} {row : Option Nat} (h : NB g v w) (hg : w.grownBy w' row) (hr : row ≠ some g) : NB g v w' := ⟨(hg.block g h.lt (fun e => hr e.symm)).trans h.blk⟩
/-- out = append(out, r), digits -/
theorem wpList_appU {P : Program} {ops : Array Oper} {rest : List Oper} {o : Oper} {a : Act} {Q : Exit → Act → World → Prop} (w : World) (hgd : o.guard = none) (s x : Operand) (t : TypeId)
    (ho : o.op = .call { callee := .builtin .append, args := #[s, x], argTypes := #[t, t] }) {T : TypeId} (ht : P.underlying t = some (.slice T))
    (hT : (P.info? T).map (fun i => (i.zero, i.size, i.bytes)) = some (some (.int .u32 0), 1, 4))
    {v : Value} {l : List Nat} {L : Nat} (hown : w.ownsRow L T 1 v l.length (l.map dv)) (hB : L ≤ w.heap.size) (hl : l.length ≤ 10000000) (y : Nat)
    (hs : a.eval s = v) (hx : a.eval x = .slice (some ⟨w.heap.size, 0, none⟩) 1 1)
    (h : ∀ v' w', w'.ownsRow L T 1 v' (l ++ [y]).length ((l ++ [y]).map dv) → (w.alloc (.cells #[.int .u32 (y : Int)] T)).grownBy w' v.ownBlock → (v'.ownBlock = v.ownBlock ∨ v'.ownBlock = some (w.heap.size + 1)) → wpList P ops Q rest (a.put o.dst v') w') : wpList P ops Q (o :: rest) a (w.alloc (.cells #[.int .u32 (y : Int)] T)) := by
  obtain ⟨i0, hi, hz0, hz1, hz2⟩ := info_parts hT
  refine wpList_append_own_at _ hgd s x t ho L T i0 (.int .u32 0) 1 4 ht hi hz0 hz1 hz2 rfl (by decide) v l.length (l.map dv) hs (World.ownsRow.alloc hown _) _ 1 1 [.int .u32 (y : Int)] hx rfl ?_ ?_ (by unfold maxLen; omega) (by omega) (by simp; omega) ?_
  · intro j u hu
    match j with
    | 0 => simp at hu; subst hu; simp [go_sem, Addr.add]
    | j + 1 => simp at hu
  · intro u hu; simp at hu; subst hu; rfl
  · intro v' w' h1 h2 _ h4
    refine h v' w' ?_ h2 ?_
    · simpa [dv] using h1
    · simpa using h4
end Go.Proofs.YtogjobmekjighaaDoor.bn
