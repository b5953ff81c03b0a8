/-
  Splitting blocks by labels: keys of two numbers; the map of the first elements; a region in which one of two operations may come up first.
-/
import Derived.Test.YtjlpjdpaingnkaaPtC
import Derived.Test.YtjlpjdpaingnkaaPlan
import Derived.DeepKeys4
set_option linter.unusedSimpArgs false
set_option linter.unusedVariables false
namespace Go.Own
open Go.RowKit
section
variable {P : Program} {ops : Array Oper} {S : World → Prop} {Q : Exit → Act → World → Prop}
/-- some operations in front, then one of these, each with a plan of its own -/
def forkOk (l : List Oper) (qs : List Nat) (bs : List (Nat × List (List Nat × Nat) × List Nat)) : Bool :=
  match takesOk l.toArray qs (Array.replicate l.length false) with
  | some L' => Region.ready .any l.toArray L' == bs.map (·.1) && bs.all fun b => segsOk l.toArray b.2.2 b.2.1 (L'.setIfInBounds b.1 true) && decide ((b.2.1.map (fun s => s.1.length + 1)).sum + b.2.2.length + 1 + qs.length ≤ l.length)
  | none => false
theorem wp_region_fork {id : Nat} {a : Act} {w : World} {l : List Oper} (S : World → Prop) (qs : List Nat) (bs : List (Nat × List (List Nat × Nat) × List Nat)) (hm : P.follows .mixedOrders = true)
    (hne : (Region.noSelect l.toArray && !bs.isEmpty) = true) (hB : forkOk l qs bs = true)
    (hQ : ∀ c a d v w, Q (.panic c) (a.put d v) w → Q (.panic c) a w) (hS : S w.drew)
    (h : wpQuiet P l.toArray S (fun a' => ∀ b ∈ bs, wpList P l.toArray (Exit.then (fun a'' w'' => S w'' ∧ wpSegs P l.toArray S Q b.2.2 b.2.1 a'' w'') Q) (pick l.toArray [b.1]) a' w.drew) (pick l.toArray qs) a) : (Code.region id l.toArray true).wp P Q a w := by
  simp only [Bool.and_eq_true] at hne
  unfold forkOk at hB
  split at hB
  case h_2 => cases hB
  rename_i L' hL
  simp only [Bool.and_eq_true, beq_iff_eq, List.all_eq_true, decide_eq_true_eq] at hB
  obtain ⟨hr, hall⟩ := hB
  refine wp_region_held (S := S) hm ?_
  obtain ⟨b0, hb0⟩ : ∃ b, b ∈ bs := by
    cases bs with
    | nil => simp at hne
    | cons b r => exact ⟨b, by simp⟩
  have hlen : qs.length + 1 ≤ l.length := by have := (hall b0 hb0).2; omega
  obtain ⟨g, hg⟩ : ∃ g, l.toArray.size = (g + 1) + qs.length := ⟨l.length - qs.length - 1, by simp; omega⟩
  have hL2 : takesOk l.toArray qs (Array.replicate (g + 1 + qs.length) false) = some L' := by rw [← hg]; simpa using hL
  rw [hg]
  refine takes_run hne.1 hQ qs _ L' (g + 1) _ a _ hL2 hS h (fun a' ha => ?_)
  refine wpAnyH_all hr (by simpa using List.ne_nil_of_mem hb0) (fun i hi => ?_)
  obtain ⟨b, hb, rfl⟩ := List.mem_map.1 hi
  have hab := ha b hb
  obtain ⟨hok, hsz⟩ := hall b hb
  have next : ∀ a'' w'', S w'' ∧ wpSegs P l.toArray S Q b.2.2 b.2.1 a'' w'' → S w'' ∧ wpAnyH P .any l.toArray Q S g (L'.setIfInBounds b.1 true) a'' w'' :=
    fun a'' w'' h => ⟨h.1, segs_run hne.1 hQ b.2.2 b.2.1 _ g a'' w'' hok h.1 (by simp at hg; omega) h.2⟩
  unfold wpOp
  cases ho : l.toArray[b.1]? with
  | none =>
    have : b.1 ∈ Region.ready .any l.toArray L' := by rw [hr]; exact hi
    obtain ⟨_, o, ho', _⟩ := mem_ready.1 this
    rw [ho] at ho'; cases ho'
  | some o =>
    have hp : pick l.toArray [b.1] = [o] := by unfold pick; simp only [List.filterMap_cons, List.filterMap_nil, ho]
    rw [hp] at hab
    simp only [wpList] at hab ⊢
    have key : ∀ {w1 : World} {a1 : Act}, o.wp P a1 w1 (fun a w => Exit.then (fun a'' w'' => S w'' ∧ wpSegs P l.toArray S Q b.2.2 b.2.1 a'' w'') Q .normal a w) (Exit.then (fun a'' w'' => S w'' ∧ wpSegs P l.toArray S Q b.2.2 b.2.1 a'' w'') Q) →
        o.wp P a1 w1 (fun a'' w'' => S w'' ∧ wpAnyH P .any l.toArray Q S g (L'.setIfInBounds b.1 true) a'' w'') Q := by
      intro w1 a1 h
      unfold Oper.wp at h ⊢
      generalize (execOp a1.eval o).run P w1 = res at h ⊢
      cases res with
      | ok n w2 =>
        cases n <;> simp only [Oper.upon, Exit.then] at h ⊢
        case value v => exact next _ _ h
        case skip => exact next _ _ h
        case defer d => exact next _ _ h
        case enter f args =>
          refine Calls.mono h fun e w3 he => ?_
          cases e with
          | returned v => exact next _ _ he
          | panicked c => exact he
          | outgrown => exact he
        case row row args => exact h.mono fun v w3 he => next _ _ he
      | halt x w2 =>
        cases x <;> simp only [Oper.upon, Exit.then] at h ⊢
        exact h
    split at hab
    · rename_i hwa
      rw [if_pos hwa]
      exact hab.imp key (fun h => h)
    · rename_i hwa
      rw [if_neg hwa]
      exact next _ _ hab
end
end Go.Own
namespace Go.Proofs.Ytjlpjdpaingnkaa.pt
open Go.RowKit Go.Own Go.Pt Go.Rw Go.Maps Go.WideMaps Go.ChangeShapes Go.ChangeMaps
set_option maxHeartbeats 4000000
set_option maxRecDepth 100000

theorem laidOut : laidOutB Try.prog = true := by kernel_rfl
theorem rowPart : (81 : TypeId) < Try.prog.types.size := of_decide_eq_true (by kernel_rfl)
theorem widePart : (match Try.prog.underlying 81 with | some (.array _ _) | some (.struct _) => true | _ => false) = true := by kernel_rfl
theorem lawP : Keyed Try.prog 81 := Keyed.of_law (deep_law_laid laidOut (m := 2) (by omega) rowPart (by kernel_rfl) widePart)
def part (r x : Int) : Value := .agg #[.int .i64 r, .int .i64 x]
theorem cellsI : Try.prog.cellsOf 3 = 1 := by kernel_rfl
theorem cellsPart : Try.prog.cellsOf 81 = 2 := by kernel_rfl
theorem keyTypePart : Try.prog.keyType 81 = true := by kernel_rfl
theorem key_part {r x : Int} (hr : (Lit.int .i64 r).wf = true) (hx : (Lit.int .i64 x).wf = true) : ∃ l, keyOf Try.prog 81 (part r x) = some l := by
  have hf : (part r x).formed Try.prog 81 = true := by
    simp [part, Value.formed, Try.underlying81, cellsPart]
  obtain ⟨n, hn0⟩ := Nat.exists_eq_succ_of_ne_zero (Nat.ne_of_gt (Nat.lt_of_le_of_lt (Nat.zero_le _) rowPart))
  have hn : Try.prog.types.size + 1 = n + 2 := by rw [hn0]
  have hi : ∀ (n : Nat) (y : Int), (Lit.int .i64 y).wf = true → Try.prog.keyLits (n + 1) 3 [.int .i64 y] = some [.int .i64 y] := fun n y hy => by simp [Program.keyLits, Try.underlying3, hy]
  unfold keyOf
  simp only [Try.underlying81, keyTypePart, hf, Bool.and_self, if_true, hn]
  refine ⟨.string (keyBytes [.int .i64 r, .int .i64 x]), ?_⟩
  have : Try.prog.keyLits (n + 2) 81 (part r x).cells.toList = some [.int .i64 r, .int .i64 x] := by
    simp [Program.keyLits, Try.underlying81, cellsPart, cellsI, part, Value.cells, Try.underlying3, hr, hx]
  rw [this]; rfl
open Classical in
/-- what such a key reads as -/
noncomputable def keyL (r x : Int) : Lit := (keyOf Try.prog 81 (part r x)).getD (.bool true)
theorem keyL_eq {r x : Int} (hr : (Lit.int .i64 r).wf = true) (hx : (Lit.int .i64 x).wf = true) : keyOf Try.prog 81 (part r x) = some (keyL r x) := by
  obtain ⟨l, hl⟩ := key_part hr hx
  unfold keyL; rw [hl]; rfl
theorem keyL_inj {r x r' x' : Int} (hr : (Lit.int .i64 r).wf = true) (hx : (Lit.int .i64 x).wf = true) (hr' : (Lit.int .i64 r').wf = true) (hx' : (Lit.int .i64 x').wf = true) (h : keyL r x = keyL r' x') : r = r' ∧ x = x' := by
  have := lawP.inj (keyL_eq hr hx) (h ▸ keyL_eq hr' hx')
  simpa [part] using this
/-- the map of the first element of each part, after k elements -/
noncomputable def Fm (w lab : List Int) : Nat → DataW Unit
  | 0 => .map []
  | k + 1 => if byAt w lab k = k then (Fm w lab k).put (keyL (gv w k) (gv lab k)) (.lit (.int .i64 k)) else Fm w lab k
theorem Fm_isMap (w lab : List Int) : ∀ k, IsMap (Fm w lab k)
  | 0 => isMap_empty
  | k + 1 => by
    unfold Fm
    split
    · exact (Fm_isMap w lab k).put _ _
    · exact Fm_isMap w lab k
theorem Fm_spec {w lab : List Int} (hw : ∀ i, (Lit.int .i64 (gv w i)).wf = true) (hl : ∀ i, (Lit.int .i64 (gv lab i)).wf = true) (j : Nat) : ∀ k, Maps.has (Fm w lab k) (keyL (gv w j) (gv lab j)) = decide (byAt w lab j < k) ∧ (byAt w lab j < k → ∀ z, (Fm w lab k).atKey (keyL (gv w j) (gv lab j)) z = .lit (.int .i64 (byAt w lab j)))
  | 0 => ⟨by rfl, fun h => absurd h (Nat.not_lt_zero _)⟩
  | k + 1 => by
    obtain ⟨i1, i2⟩ := Fm_spec hw hl j k
    obtain ⟨b1, b2, b3⟩ := byAt_spec w lab j
    obtain ⟨c1, c2, c3⟩ := byAt_spec w lab k
    unfold Fm
    by_cases e : agree w lab k j = true
    · obtain ⟨e1, e2⟩ := agree_eq.1 e
      have hle : byAt w lab j ≤ k := Nat.le_of_not_lt fun h => by rw [b3 k h] at e; cases e
      by_cases hk : byAt w lab k = k
      · have hj : byAt w lab j = k := by
          rcases Nat.lt_or_eq_of_le hle with h | h
          · have := c3 (byAt w lab j) (by omega)
            obtain ⟨d1, d2⟩ := agree_eq.1 b2
            rw [agree_eq.2 ⟨d1.trans e1.symm, d2.trans e2.symm⟩] at this; cases this
          · exact h
        rw [if_pos hk, e1, e2, hj]
        have hkl : WideAt.IsKeyLit (keyL (gv w j) (gv lab j)) := lawP.key (keyL_eq (hw j) (hl j))
        exact ⟨by rw [has_put_same (Fm_isMap w lab k) hkl]; simp, fun _ z => atKey_put_same (Fm_isMap w lab k) hkl _ z⟩
      · have hj : byAt w lab j < k := by
          rcases Nat.lt_or_eq_of_le hle with h | h
          · exact h
          · exfalso
            have := b3 (byAt w lab k) (by omega)
            obtain ⟨d1, d2⟩ := agree_eq.1 c2
            rw [agree_eq.2 ⟨d1.trans e1, d2.trans e2⟩] at this; cases this
        rw [if_neg hk]
        exact ⟨by rw [i1]; simp; omega, fun _ => i2 hj⟩
    · have hne : byAt w lab j ≠ k := fun h => e (h ▸ b2)
      have hs : decide (byAt w lab j < k + 1) = decide (byAt w lab j < k) := decide_eq_decide.2 (by omega)
      have hi : byAt w lab j < k + 1 → byAt w lab j < k := by omega
      split
      · have hkn : keyL (gv w j) (gv lab j) ≠ keyL (gv w k) (gv lab k) := fun h => e (by
          obtain ⟨d1, d2⟩ := keyL_inj (hw j) (hl j) (hw k) (hl k) h
          exact agree_eq.2 ⟨d1.symm, d2.symm⟩)
        rw [hs, has_put_other hkn]
        exact ⟨i1, fun h z => by rw [atKey_put_other hkn]; exact i2 (hi h) z⟩
      · rw [hs]; exact ⟨i1, fun h => i2 (hi h)⟩
/-- block g holds this row, here -/
structure BlkAt (g : Nat) (cs : Array Value) (t : TypeId) (w : World) : Prop where
  mk' :: (all : blockOf w g = some (.cells cs t (0, 0)))
theorem BlkAt.kept {X : Nat → Prop} {W w : World} {g : Nat} {cs : Array Value} {t : TypeId} (h : BlkAt g cs t W) (hk : KeptBut X W w) (hX : ¬ X g) : BlkAt g cs t w :=
  ⟨(hk.block g (Array.getElem?_eq_some_iff.1 h.all).1 hX).trans h.all⟩
theorem BlkAt.lt {w : World} {g : Nat} {cs : Array Value} {t : TypeId} (h : BlkAt g cs t w) : g < w.heap.size := (Array.getElem?_eq_some_iff.1 h.all).1
theorem kset (w : World) (b a : Nat) (v : Value) : KeptBut (· = b) w (w.setCell ⟨b, a, none⟩ v) := by
  refine ⟨rfl, rfl, rfl, by simp [World.setCell], fun k hk hx => ?_⟩
  show (w.heap.modify b _)[k]? = _
  rw [Array.getElem?_modify, if_neg (fun e => hx e.symm)]
theorem ksetRow (w : World) (b : Nat) (cs : Array Value) : KeptBut (· = b) w (w.setRow b cs) := by
  refine ⟨rfl, rfl, rfl, by simp [World.setRow], fun k hk hx => ?_⟩
  simp only [World.setRow, Array.getElem?_modify]
  rw [if_neg (fun e => hx e.symm)]
theorem blk_set {w : World} {g : Nat} {old cs : Array Value} {t : TypeId} (h : BlkAt g old t w) : BlkAt g cs t (w.setRow g cs) := by
  have := h.all
  unfold blockOf at this
  refine ⟨?_⟩
  simp [blockOf, World.setRow, Array.getElem?_modify, this]
theorem infoPart : (Try.prog.info? 81).map (·.size) = some 2 := by kernel_rfl
/-- what is done to blocks that are new does not count -/
theorem kept_new {X Y : Nat → Prop} {A B C : World} (h : KeptBut X A B) (h2 : KeptBut Y B C) (hY : ∀ b, Y b → A.heap.size ≤ b) : KeptBut X A C :=
  ⟨h2.os.trans h.os, h2.tape.trans h.tape, h2.output.trans h.output, Nat.le_trans h.size h2.size, fun k hk hx => (h2.block k (Nat.lt_of_lt_of_le hk h.size) (fun hy => by have := hY k hy; omega)).trans (h.block k hk hx)⟩
theorem _root_.Go.Own.KeptBut.mono0 {X Y : Nat → Prop} {A B : World} (h : KeptBut X A B) (hX : ∀ b, ¬ X b) : KeptBut Y A B := ⟨h.os, h.tape, h.output, h.size, fun k hk _ => h.block k hk (hX k)⟩
theorem Eff.new {P g : Nat} {v : List Int} {Y : Nat → Prop} {W A B : World} (h : Eff P g v W A) (hg : g < W.heap.size) (hP : P < W.heap.size) (hk : KeptBut Y A B) (hY : ∀ b, Y b → W.heap.size ≤ b) : Eff P g v W B := ⟨h.pt.kept hk (fun h => by have := hY _ h; omega) (fun h => by have := hY _ h; omega), kept_new h.kept hk hY⟩
theorem Eff.new2 {P g : Nat} {v : List Int} {W A B : World} (h : Eff P g v W A) (_ : g < A.heap.size) (_ : P < A.heap.size) (hk : Below A.heap.size A B) : Eff P g v A B := ⟨h.pt.below hk, KeptBut.of_below hk⟩
theorem _root_.Go.Own.KeptBut.sub {X Y : Nat → Prop} {A B : World} (h : KeptBut X A B) (hX : ∀ b, X b → Y b) : KeptBut Y A B := ⟨h.os, h.tape, h.output, h.size, fun k hk hy => h.block k hk (fun hx => hy (hX k hx))⟩
theorem grown_kept {A B : World} {row : Option Nat} (h : A.grownBy B row) : KeptBut (fun b => row = some b) A B := KeptBut.of_grown h (fun r e => e)
end Go.Proofs.Ytjlpjdpaingnkaa.pt
