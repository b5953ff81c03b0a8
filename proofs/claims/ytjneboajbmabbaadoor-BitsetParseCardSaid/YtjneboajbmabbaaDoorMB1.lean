/-
  The number of ones in a row of words is the number of its numbers.
-/
import Derived.Test.YtjneboajbmabbaaDoorBase
import Derived.ProofKit
import Derived.Test.YtjneboajbmabbaaDoorCanAF
import Derived.OrdersHeld
set_option linter.unusedSimpArgs false
set_option linter.unusedVariables false
namespace Go.Rw
open Go.RowKit Go.Own

/-- the slice's cells, from its address on, hold the numbers l -/
def Reads (w : World) (q : Option Addr) (l : List Int) : Prop :=
  l = [] ∨ ∃ b off, q = some ⟨b, off, none⟩ ∧ b < w.heap.size ∧ ∀ i x, l[i]? = some x → w.cell? ⟨b, off + i, none⟩ = some (.int .i64 x)
theorem Reads.nil (w : World) (q : Option Addr) : Reads w q [] := .inl rfl
theorem Reads.below {W w : World} {q : Option Addr} {l : List Int} (h : Reads W q l) (hb : Below W.heap.size W w) : Reads w q l := by
  rcases h with h | ⟨b, off, h1, h2, h3⟩
  · exact .inl h
  · exact .inr ⟨b, off, h1, Nat.lt_of_lt_of_le h2 hb.size, fun i x hx => (hb.cell h2).trans (h3 i x hx)⟩
theorem Reads.at {w : World} {q : Option Addr} {l : List Int} (h : Reads w q l) {k : Nat} (hk : k < l.length) :
    ∃ b off x, q = some ⟨b, off, none⟩ ∧ l[k]? = some x ∧ b < w.heap.size ∧ w.cell? ⟨b, off + k, none⟩ = some (.int .i64 x) := by
  rcases h with h | ⟨b, off, h1, h2, h3⟩
  · subst h; simp at hk
  · exact ⟨b, off, l[k], h1, List.getElem?_eq_getElem hk, h2, h3 k _ (List.getElem?_eq_getElem hk)⟩
/-- what a call hands back: a slice that reads as l; nothing that was there has changed -/
def Gives (W : World) (l : List Int) (e : Ending) (w' : World) : Prop :=
  ∃ q m c, e = .returned (.slice q m c) ∧ m = l.length ∧ m ≤ c ∧ c ≤ maxLen ∧ Reads w' q l ∧ Below W.heap.size W w'

/-- a slice that the call has made for itself, from block B on -/
def Own (w : World) (B : Nat) (T : TypeId) (v : Value) (l : List Int) : Prop := w.ownsRow B T 1 v l.length (l.map (Value.int .i64))
theorem Own.empty (w : World) (B : Nat) (T : TypeId) : Own w B T (.slice none 0 0) [] := World.ownsRow_nil w B T 1
theorem Own.made {w : World} {B : Nat} (T : TypeId) (hb : B ≤ w.heap.size) : Own (w.alloc (.cells #[] T)) B T (.slice (some ⟨w.heap.size, 0, none⟩) 0 0) [] := World.ownsRow_made w #[] 0 hb (Nat.zero_le _) (by simp)
theorem Own.below {w w' : World} {B : Nat} {T : TypeId} {v : Value} {l : List Int} (h : Own w B T v l) (hb : Below w.heap.size w w') : Own w' B T v l := by
  refine ⟨h.1, ?_⟩
  rcases h.2 with hn | ⟨g, cap, cur, rfl, hb', hgg, rest⟩
  · exact .inl hn
  · exact .inr ⟨g, cap, cur, rfl, hb', (hb.block g (Array.getElem?_eq_some_iff.1 hgg).1).trans hgg, rest⟩
theorem Own.slice {w : World} {B : Nat} {T : TypeId} {v : Value} {l : List Int} (h : Own w B T v l) : ∃ q c, v = .slice q l.length c ∧ l.length ≤ c ∧ c ≤ maxLen ∧ Reads w q l := by
  rcases h.2 with ⟨rfl, hk⟩ | ⟨g, cap, cur, rfl, hb, hgg, hn, hc, hs, ht⟩
  · obtain rfl := List.eq_nil_of_length_eq_zero hk
    exact ⟨.none, 0, rfl, Nat.le_refl _, Nat.zero_le _, .inl rfl⟩
  · refine ⟨_, cap, rfl, hn, hc, .inr ⟨g, 0, rfl, (Array.getElem?_eq_some_iff.1 hgg).1, fun i x hx => ?_⟩⟩
    have e := World.ownsRow.cells h (g := g) rfl i (.int .i64 x) (by simp [hx])
    have e2 : (⟨g, 0, Option.none⟩ : Addr).add i = ⟨g, i, Option.none⟩ := by unfold Addr.add; split <;> simp_all
    rw [Nat.zero_add, ← e2]; exact e
theorem Own.gives {W w : World} {B : Nat} {T : TypeId} {v : Value} {l : List Int} (h : Own w B T v l) (hb : Below W.heap.size W w) : Gives W l (.returned v) w := by
  obtain ⟨q, c, rfl, h1, h2, h3⟩ := h.slice
  exact ⟨q, _, c, rfl, rfl, h1, h2, h3, hb⟩
theorem Own.drew {w : World} {B : Nat} {T : TypeId} {v : Value} {l : List Int} (h : Own w B T v l) : Own w.drew B T v l := h

theorem below_drewN {B : Nat} {a w : World} (h : Below B a w) (n : Nat) : Below B a (w.drewN n) := h.trans ⟨rfl, rfl, rfl, Nat.le_refl _, fun _ _ => rfl⟩
theorem below_setRow {B : Nat} {a w : World} (h : Below B a w) {g : Nat} (hg : B ≤ g) (cs : Array Value) : Below B a (w.setRow g cs) := by
  refine ⟨h.os, h.tape, h.output, by simpa [World.setRow] using h.size, fun k hk => ?_⟩
  rw [← h.block k hk]
  simp only [World.setRow, Array.getElem?_modify]
  rw [if_neg (by omega)]
theorem cell_new (w : World) (y : Int) (T : TypeId) : ∀ (j : Nat) (u : Value), [Value.int .i64 y][j]? = some u → (w.alloc (.cells #[.int .i64 y] T)).cell? ((⟨w.heap.size, 0, none⟩ : Addr).add j) = some u := by
  intro j u hu
  match j with
  | 0 => simp at hu; subst hu; simp [go_sem, Addr.add]
  | j + 1 => simp at hu
theorem one_cell (v : Int) : ∀ u ∈ [Value.int .i64 v], u.oneCell' = true := by
  intro u hu; simp at hu; subst hu; rfl

section
variable {P : Program}
/-- out = append(out, y) -/
theorem wpList_app {ops : Array Oper} {rest : List Oper} {o : Oper} {a : Act} {Q : Exit → Act → World → Prop} (w : World) (hgd : o.guard = none) (s x : Operand) (t : TypeId)
    (ho : o.op = .call { callee := .builtin .append, args := #[s, x], argTypes := #[t, t] }) {T : TypeId} (ht : P.underlying t = some (.slice T))
    (hT : (P.info? T).map (fun i => (i.zero, i.size, i.bytes)) = some (some (.int .i64 0), 1, 8))
    {v : Value} {l : List Int} {B : Nat} (hown : Own w B T v l) (hB : B ≤ w.heap.size) (hl : l.length ≤ 1000000) (y : Int)
    (hs : a.eval s = v) (hx : a.eval x = .slice (some ⟨w.heap.size, 0, none⟩) 1 1)
    (h : ∀ v' w', Own w' B T v' (l ++ [y]) → Below B w w' → wpList P ops Q rest (a.put o.dst v') w') : wpList P ops Q (o :: rest) a (w.alloc (.cells #[.int .i64 y] T)) := by
  obtain ⟨i0, hi, hz0, hz1, hz2⟩ := info_parts hT
  refine wpList_append_own _ hgd s x t ho B T i0 (.int .i64 0) 1 8 ht hi hz0 hz1 hz2 rfl (by decide) v l.length (l.map (Value.int .i64)) hs (World.ownsRow.alloc hown _) _ 1 1 [.int .i64 y] hx rfl (cell_new _ _ _) (one_cell _) (by unfold maxLen; omega) (by omega) (by simp; omega) ?_
  intro v' w' h1 h2 _
  refine h v' w' ?_ ?_
  · unfold Own; simpa using h1
  · exact ((Below.refl _ _).alloc hB _).grown h2 (by simp; omega) (fun r hr => (hown.lt r hr).1)
end
end Go.Rw

namespace Go.SetL
theorem ext_sorted : ∀ {l m : List Int}, l.Pairwise (· < ·) → m.Pairwise (· < ·) → (∀ x, x ∈ l ↔ x ∈ m) → l = m
  | [], [], _, _, _ => rfl
  | [], b :: m, _, _, h => absurd ((h b).2 (by simp)) (by simp)
  | a :: l, [], _, _, h => absurd ((h a).1 (by simp)) (by simp)
  | a :: l, b :: m, hl, hm, h => by
    obtain ⟨ha, hl'⟩ := List.pairwise_cons.1 hl
    obtain ⟨hb, hm'⟩ := List.pairwise_cons.1 hm
    have e : a = b := by
      rcases List.mem_cons.1 ((h a).1 (by simp)) with e | e
      · exact e
      · rcases List.mem_cons.1 ((h b).2 (by simp)) with e' | e'
        · exact e'.symm
        · have := ha b e'; have := hb a e; omega
    subst e
    rw [ext_sorted hl' hm' fun x => ⟨fun hx => ?_, fun hx => ?_⟩]
    · rcases List.mem_cons.1 ((h x).1 (List.mem_cons_of_mem _ hx)) with e | e
      · subst e; exact absurd (ha x hx) (by omega)
      · exact e
    · rcases List.mem_cons.1 ((h x).2 (List.mem_cons_of_mem _ hx)) with e | e
      · subst e; exact absurd (hb x hx) (by omega)
      · exact e
/-- the numbers below 1024 that pass a test -/
def ofP (p : Nat → Bool) : List Int := ((List.range 1024).filter p).map Int.ofNat
/-- the first k numbers' -/
def ofN (p : Nat → Bool) (k : Nat) : List Int := ((List.range k).filter p).map Int.ofNat
theorem ofN_zero (p : Nat → Bool) : ofN p 0 = [] := rfl
theorem ofN_yes {p : Nat → Bool} {k : Nat} (h : p k = true) : ofN p (k + 1) = ofN p k ++ [(k : Int)] := by
  unfold ofN; rw [List.range_succ, List.filter_append, List.map_append]; simp [h]
theorem ofN_no {p : Nat → Bool} {k : Nat} (h : p k = false) : ofN p (k + 1) = ofN p k := by
  unfold ofN; rw [List.range_succ, List.filter_append, List.map_append]; simp [h]
theorem ofN_len (p : Nat → Bool) (k : Nat) : (ofN p k).length ≤ k := by
  unfold ofN; rw [List.length_map]; exact Nat.le_trans (List.length_filter_le _ _) (by simp)
theorem ofP_len (p : Nat → Bool) : (ofP p).length ≤ 1024 := ofN_len p 1024
theorem mem_ofN {p : Nat → Bool} {k : Nat} {x : Int} : x ∈ ofN p k ↔ ∃ i : Nat, x = i ∧ i < k ∧ p i = true := by
  unfold ofN
  simp only [List.mem_map, List.mem_filter, List.mem_range]
  constructor
  · rintro ⟨i, ⟨h1, h2⟩, rfl⟩; exact ⟨i, rfl, h1, h2⟩
  · rintro ⟨i, rfl, h1, h2⟩; exact ⟨i, ⟨h1, h2⟩, rfl⟩
theorem mem_ofP {p : Nat → Bool} {x : Int} : x ∈ ofP p ↔ ∃ i : Nat, x = i ∧ i < 1024 ∧ p i = true := mem_ofN
theorem sorted_ofN (p : Nat → Bool) (k : Nat) : (ofN p k).Pairwise (· < ·) := by
  unfold ofN
  refine List.Pairwise.map _ (fun a b h => ?_) (List.Pairwise.filter _ List.pairwise_lt_range)
  exact Int.ofNat_lt.2 h
theorem sorted_ofP (p : Nat → Bool) : (ofP p).Pairwise (· < ·) := sorted_ofN p 1024
theorem ofP_congr {p q : Nat → Bool} (h : ∀ i, i < 1024 → p i = q i) : ofP p = ofP q := by
  unfold ofP
  rw [List.filter_congr fun i hi => h i (List.mem_range.1 hi)]
theorem ofP_inj {p q : Nat → Bool} (h : ofP p = ofP q) : ∀ i, i < 1024 → p i = q i := by
  intro i hi
  have := congrArg (fun l => (i : Int) ∈ l) h
  simp only [mem_ofP, eq_iff_iff] at this
  rw [Bool.eq_iff_iff]
  constructor
  · intro hp; obtain ⟨j, e, _, h⟩ := this.1 ⟨i, rfl, hi, hp⟩; obtain rfl : i = j := by omega
    exact h
  · intro hp; obtain ⟨j, e, _, h⟩ := this.2 ⟨i, rfl, hi, hp⟩; obtain rfl : i = j := by omega
    exact h

/-- insertion, element by element: what is there so far, and whether n is in -/
def insStep (n : Int) (s : List Int × Bool) (x : Int) : List Int × Bool := if s.2 = false ∧ n < x then (s.1 ++ [n] ++ [x], true) else (s.1 ++ [x], s.2)
def insF (n : Int) (l : List Int) : List Int × Bool := l.foldl (insStep n) ([], false)
def insL (n : Int) (l : List Int) : List Int := if (insF n l).2 = false then (insF n l).1 ++ [n] else (insF n l).1
def withL (l : List Int) (n : Int) : List Int := if n < 0 ∨ 1023 < n ∨ n ∈ l then l else insL n l
def withoutL (l : List Int) (n : Int) : List Int := l.filter fun x => x != n
def andL (a b : List Int) : List Int := a.filter fun x => b.contains x
def minusL (a b : List Int) : List Int := a.filter fun x => !b.contains x
def orL (a b : List Int) : List Int := b.foldl withL a
def ofL (l : List Int) : List Int := l.foldl withL []
theorem insF_snoc (n : Int) (l : List Int) (x : Int) : insF n (l ++ [x]) = insStep n (insF n l) x := by unfold insF; rw [List.foldl_append]; rfl
theorem snoc_ind {P : List Int → Prop} (h0 : P []) (h1 : ∀ l x, P l → P (l ++ [x])) (l : List Int) : P l := by
  have : ∀ m : List Int, P m.reverse := fun m => by
    induction m with
    | nil => exact h0
    | cons a m ih => rw [List.reverse_cons]; exact h1 _ _ ih
  simpa using this l.reverse
theorem insF_len (n : Int) (l : List Int) : (insF n l).1.length = l.length + (insF n l).2.toNat := by
  refine snoc_ind (P := fun l => (insF n l).1.length = l.length + (insF n l).2.toNat) rfl (fun l x ih => ?_) l
  rw [insF_snoc, insStep]
  split
  · rename_i h; rw [h.1] at ih; simp at ih ⊢; omega
  · simp; omega
/-- the same from the front -/
def ins (n : Int) : List Int → List Int
  | [] => [n]
  | x :: l => if n < x then n :: x :: l else x :: ins n l
theorem insF_true (n : Int) : ∀ (l o : List Int), l.foldl (insStep n) (o, true) = (o ++ l, true)
  | [], o => by simp
  | x :: l, o => by
    rw [List.foldl_cons, show insStep n (o, true) x = (o ++ [x], true) by simp [insStep], insF_true n l]
    simp
theorem insF_false (n : Int) : ∀ (l o : List Int), (if (l.foldl (insStep n) (o, false)).2 = false then (l.foldl (insStep n) (o, false)).1 ++ [n] else (l.foldl (insStep n) (o, false)).1) = o ++ ins n l
  | [], o => by simp [ins]
  | x :: l, o => by
    rw [List.foldl_cons]
    by_cases h : n < x
    · rw [show insStep n (o, false) x = (o ++ [n] ++ [x], true) by simp [insStep, h], insF_true]
      simp [ins, h]
    · rw [show insStep n (o, false) x = (o ++ [x], false) by simp [insStep, h], insF_false n l]
      simp [ins, h]
theorem insL_eq (n : Int) (l : List Int) : insL n l = ins n l := by
  exact (insF_false n l []).trans (by simp)
theorem mem_ins {n x : Int} : ∀ {l : List Int}, x ∈ ins n l ↔ x = n ∨ x ∈ l
  | [] => by simp [ins]
  | a :: l => by
    unfold ins
    split
    · simp
    · simp only [List.mem_cons, mem_ins (l := l)]
      constructor
      · rintro (h | h | h) <;> simp [h]
      · rintro (h | h | h) <;> simp [h]
theorem sorted_ins {n : Int} : ∀ {l : List Int}, l.Pairwise (· < ·) → n ∉ l → (ins n l).Pairwise (· < ·)
  | [], _, _ => by simp [ins]
  | a :: l, h, hn => by
    obtain ⟨ha, hl⟩ := List.pairwise_cons.1 h
    simp only [List.mem_cons, not_or] at hn
    unfold ins
    split
    · rename_i hlt
      refine List.pairwise_cons.2 ⟨fun y hy => ?_, h⟩
      rcases List.mem_cons.1 hy with rfl | hy
      · exact hlt
      · have := ha y hy; omega
    · refine List.pairwise_cons.2 ⟨fun y hy => ?_, sorted_ins hl hn.2⟩
      rcases mem_ins.1 hy with rfl | hy
      · omega
      · exact ha y hy
theorem mem_withL {l : List Int} {n x : Int} : x ∈ withL l n ↔ x ∈ l ∨ (x = n ∧ 0 ≤ n ∧ n < 1024) := by
  unfold withL
  split
  · rename_i h
    constructor
    · exact .inl
    · rintro (h' | ⟨rfl, h1, h2⟩)
      · exact h'
      · rcases h with h | h | h
        · omega
        · omega
        · exact h
  · rename_i h
    rw [insL_eq, mem_ins]
    constructor
    · rintro (rfl | h')
      · exact .inr ⟨rfl, by omega, by omega⟩
      · exact .inl h'
    · rintro (h' | ⟨rfl, _⟩) <;> simp [*]
theorem sorted_withL {l : List Int} {n : Int} (h : l.Pairwise (· < ·)) : (withL l n).Pairwise (· < ·) := by
  unfold withL
  split
  · exact h
  · rename_i hn
    rw [insL_eq]
    exact sorted_ins h (fun hm => hn (.inr (.inr hm)))
theorem withL_ofP (p : Nat → Bool) (n : Int) : withL (ofP p) n = ofP (fun i => p i || (i : Int) == n) := by
  refine ext_sorted (sorted_withL (sorted_ofP p)) (sorted_ofP _) fun x => ?_
  simp only [mem_withL, mem_ofP, Bool.or_eq_true, beq_iff_eq]
  constructor
  · rintro (⟨i, rfl, h1, h2⟩ | ⟨rfl, h1, h2⟩)
    · exact ⟨i, rfl, h1, .inl h2⟩
    · exact ⟨x.toNat, by omega, by omega, .inr (by omega)⟩
  · rintro ⟨i, rfl, h1, h2 | rfl⟩
    · exact .inl ⟨i, rfl, h1, h2⟩
    · exact .inr ⟨rfl, by omega, by omega⟩
theorem withoutL_ofP (p : Nat → Bool) (n : Int) : withoutL (ofP p) n = ofP (fun i => p i && (i : Int) != n) := by
  refine ext_sorted ((sorted_ofP p).filter _) (sorted_ofP _) fun x => ?_
  simp only [withoutL, List.mem_filter, mem_ofP, Bool.and_eq_true]
  constructor
  · rintro ⟨⟨i, rfl, h1, h2⟩, h3⟩; exact ⟨i, rfl, h1, h2, h3⟩
  · rintro ⟨i, rfl, h1, h2, h3⟩; exact ⟨⟨i, rfl, h1, h2⟩, h3⟩
theorem contains_ofP (p : Nat → Bool) (i : Nat) (h : i < 1024) : (ofP p).contains (i : Int) = p i := by
  rw [Bool.eq_iff_iff, List.contains_iff_mem, mem_ofP]
  constructor
  · rintro ⟨j, e, _, h⟩; obtain rfl : i = j := by omega
    exact h
  · exact fun hp => ⟨i, rfl, h, hp⟩
theorem andL_ofP (p q : Nat → Bool) : andL (ofP p) (ofP q) = ofP (fun i => p i && q i) := by
  refine ext_sorted ((sorted_ofP p).filter _) (sorted_ofP _) fun x => ?_
  simp only [andL, List.mem_filter, mem_ofP, Bool.and_eq_true]
  constructor
  · rintro ⟨⟨i, rfl, h1, h2⟩, h3⟩; rw [contains_ofP q i h1] at h3; exact ⟨i, rfl, h1, h2, h3⟩
  · rintro ⟨i, rfl, h1, h2, h3⟩; exact ⟨⟨i, rfl, h1, h2⟩, by rw [contains_ofP q i h1]; exact h3⟩
theorem minusL_ofP (p q : Nat → Bool) : minusL (ofP p) (ofP q) = ofP (fun i => p i && !q i) := by
  refine ext_sorted ((sorted_ofP p).filter _) (sorted_ofP _) fun x => ?_
  simp only [minusL, List.mem_filter, mem_ofP, Bool.and_eq_true]
  constructor
  · rintro ⟨⟨i, rfl, h1, h2⟩, h3⟩; rw [contains_ofP q i h1] at h3; exact ⟨i, rfl, h1, h2, h3⟩
  · rintro ⟨i, rfl, h1, h2, h3⟩; exact ⟨⟨i, rfl, h1, h2⟩, by rw [contains_ofP q i h1]; exact h3⟩
theorem foldl_with : ∀ {l a : List Int} {x : Int}, x ∈ l.foldl withL a ↔ x ∈ a ∨ (x ∈ l ∧ 0 ≤ x ∧ x < 1024)
  | [], a, x => by simp
  | b :: l, a, x => by
    rw [List.foldl_cons, foldl_with (l := l), mem_withL, List.mem_cons]
    constructor
    · rintro ((h | ⟨rfl, h⟩) | ⟨h1, h2⟩) <;> simp [*]
    · rintro (h | ⟨rfl | h1, h2⟩) <;> simp [*]
theorem foldl_sorted : ∀ {l a : List Int}, a.Pairwise (· < ·) → (l.foldl withL a).Pairwise (· < ·)
  | [], _, h => h
  | _ :: l, _, h => by rw [List.foldl_cons]; exact foldl_sorted (l := l) (sorted_withL h)
theorem orL_ofP (p q : Nat → Bool) : orL (ofP p) (ofP q) = ofP (fun i => p i || q i) := by
  refine ext_sorted (foldl_sorted (sorted_ofP p)) (sorted_ofP _) fun x => ?_
  simp only [orL, foldl_with, mem_ofP, Bool.or_eq_true]
  constructor
  · rintro (⟨i, rfl, h1, h2⟩ | ⟨⟨i, rfl, h1, h2⟩, _⟩)
    · exact ⟨i, rfl, h1, .inl h2⟩
    · exact ⟨i, rfl, h1, .inr h2⟩
  · rintro ⟨i, rfl, h1, h2 | h2⟩
    · exact .inl ⟨i, rfl, h1, h2⟩
    · exact .inr ⟨⟨i, rfl, h1, h2⟩, by omega, by omega⟩
theorem minusL_nil (p q : Nat → Bool) : minusL (ofP p) (ofP q) = [] ↔ ∀ i, i < 1024 → p i = true → q i = true := by
  rw [minusL_ofP, List.eq_nil_iff_forall_not_mem]
  simp only [mem_ofP, Bool.and_eq_true]
  constructor
  · intro h i hi hp
    cases hq : q i
    · exact absurd ⟨i, rfl, hi, hp, by rw [hq]; rfl⟩ (h i)
    · rfl
  · rintro h x ⟨i, rfl, hi, hp, hq⟩
    rw [h i hi hp] at hq; cases hq
/-- the order of lists, the largest element first -/
def cmpR : List Int → List Int → Int
  | [], [] => 0
  | _ :: _, [] => 1
  | [], _ :: _ => -1
  | x :: l, y :: m => if y < x then 1 else if x < y then -1 else cmpR l m
def cmpL (a b : List Int) : Int := cmpR a.reverse b.reverse
theorem cmpR_zero : ∀ {a b : List Int}, cmpR a b = 0 ↔ a = b
  | [], [] => by simp [cmpR]
  | _ :: _, [] => by simp [cmpR]
  | [], _ :: _ => by simp [cmpR]
  | x :: l, y :: m => by
    unfold cmpR
    split
    · simp; omega
    · split
      · simp; omega
      · rw [cmpR_zero (a := l)]
        simp; omega
theorem cmpL_zero {a b : List Int} : cmpL a b = 0 ↔ a = b := by unfold cmpL; rw [cmpR_zero, List.reverse_inj]
theorem cmpL_step {a b : List Int} {i k : Nat} {x y : Int} (hx : a[i]? = some x) (hy : b[k]? = some y) : cmpL (a.take (i + 1)) (b.take (k + 1)) = if y < x then 1 else if x < y then -1 else cmpL (a.take i) (b.take k) := by
  unfold cmpL
  rw [List.take_add_one, List.take_add_one, hx, hy]
  simp [cmpR]
theorem cmpL_left {a : List Int} {i : Nat} (h : i < a.length) : cmpL (a.take (i + 1)) [] = 1 := by
  unfold cmpL
  rw [show a.take (i + 1) = a.take i ++ [a[i]] by rw [List.take_add_one, List.getElem?_eq_getElem h]; rfl, List.reverse_append]
  rfl
theorem cmpL_right {b : List Int} {k : Nat} (h : k < b.length) : cmpL [] (b.take (k + 1)) = -1 := by
  unfold cmpL
  rw [show b.take (k + 1) = b.take k ++ [b[k]] by rw [List.take_add_one, List.getElem?_eq_getElem h]; rfl, List.reverse_append]
  rfl
theorem take_snoc' {l : List Int} {k : Nat} (h : k < l.length) : l.take (k + 1) = l.take k ++ [l.getD k 0] := by
  rw [List.take_add_one, List.getElem?_eq_getElem h, List.getD_eq_getElem?_getD, List.getElem?_eq_getElem h]; rfl
end Go.SetL

namespace Go.Bits
open Go.Can
/-- words as integers -/
def orI (a b : Int) : Int := IntKind.u64.wrap ((BitVec.ofInt 64 a ||| BitVec.ofInt 64 b).toNat : Int)
def andI (a b : Int) : Int := IntKind.u64.wrap ((BitVec.ofInt 64 a &&& BitVec.ofInt 64 b).toNat : Int)
def subI (a b : Int) : Int := IntKind.u64.wrap ((BitVec.ofInt 64 a &&& ~~~BitVec.ofInt 64 b).toNat : Int)
abbrev W := BitVec 64
def toI (x : W) : Int := (x.toNat : Int)
theorem wrap_toI (x : W) : IntKind.u64.wrap (x.toNat : Int) = toI x := by
  have h : (x.toNat : Int) % 18446744073709551616 = (x.toNat : Int) := Int.emod_eq_of_lt (by omega) (by have := x.isLt; omega)
  exact h
theorem ofInt_toI (x : W) : BitVec.ofInt 64 (toI x) = x := by
  apply BitVec.eq_of_toNat_eq
  rw [toI, BitVec.toNat_ofInt]
  have := x.isLt
  omega
theorem orI_eq (a b : W) : orI (toI a) (toI b) = toI (a ||| b) := by rw [orI, ofInt_toI, ofInt_toI, wrap_toI]
theorem andI_eq (a b : W) : andI (toI a) (toI b) = toI (a &&& b) := by rw [andI, ofInt_toI, ofInt_toI, wrap_toI]
theorem subI_eq (a b : W) : subI (toI a) (toI b) = toI (a &&& ~~~b) := by rw [subI, ofInt_toI, ofInt_toI, wrap_toI]
theorem toI_of {a : Int} (h : IntKind.u64.has a) : ∃ x : W, a = toI x := by
  refine ⟨BitVec.ofInt 64 a, ?_⟩
  have h0 : 0 ≤ a := h.1
  have h1 : a < 18446744073709551616 := Int.lt_of_le_of_lt h.2 (by decide)
  rw [toI, BitVec.toNat_ofInt]
  omega
theorem toI_inj {x y : W} : toI x = toI y ↔ x = y := ⟨fun h => BitVec.eq_of_toNat_eq (by unfold toI at h; omega), fun h => by rw [h]⟩

/-- the order of two lists of pairs, the most significant first -/
def cmpT : List (Int × Int) → Int
  | [] => 0
  | p :: l => if p.1 < p.2 then -1 else if p.2 < p.1 then 1 else cmpT l
def cmpV (as bs : List Int) : Int := cmpT (as.zip bs).reverse
def rowI (l : List W) : List Int := l.map toI
/-- two lists, word by word, the most significant first -/
def swap : Int × Int → Int × Int := fun p => (p.2, p.1)
theorem cmpT_range : ∀ l, cmpT l = -1 ∨ cmpT l = 0 ∨ cmpT l = 1
  | [] => .inr (.inl rfl)
  | p :: l => by
    unfold cmpT
    split
    · exact .inl rfl
    · split
      · exact .inr (.inr rfl)
      · exact cmpT_range l
theorem cmpT_swap : ∀ l, cmpT (l.map swap) = - cmpT l
  | [] => rfl
  | p :: l => by
    simp only [List.map_cons, cmpT, swap]
    have ih := cmpT_swap l
    by_cases h1 : p.1 < p.2
    · rw [if_neg (by omega), if_pos h1, if_pos h1]; rfl
    · by_cases h2 : p.2 < p.1
      · rw [if_pos h2, if_neg h1, if_pos h2]
      · rw [if_neg h2, if_neg h1, if_neg h1, if_neg h2]; exact ih
theorem cmpV_swap (as bs : List Int) : cmpV bs as = - cmpV as bs := by
  unfold cmpV
  rw [← cmpT_swap, List.map_reverse]
  congr 2
  induction as generalizing bs with
  | nil => cases bs <;> rfl
  | cons a as ih => cases bs with
    | nil => rfl
    | cons b bs => simp [swap, ih]
/-- all pairs are alike -/
theorem cmpT_zero : ∀ {l : List (Int × Int)}, cmpT l = 0 ↔ ∀ p ∈ l, p.1 = p.2
  | [] => by simp [cmpT]
  | p :: l => by
    have ih := cmpT_zero (l := l)
    simp only [cmpT, List.mem_cons, forall_eq_or_imp]
    by_cases h1 : p.1 < p.2
    · simp only [h1, if_true]; constructor
      · intro h; omega
      · rintro ⟨h, _⟩; omega
    · by_cases h2 : p.2 < p.1
      · simp only [h1, h2, if_true, if_false]; constructor
        · intro h; omega
        · rintro ⟨h, _⟩; omega
      · simp only [h1, h2, if_false, ih]; constructor
        · exact fun h => ⟨by omega, h⟩
        · exact fun h => h.2
/-- each first is no greater -/
theorem cmpT_le : ∀ {l : List (Int × Int)}, (∀ p ∈ l, p.1 ≤ p.2) → cmpT l ≤ 0
  | [], _ => by simp [cmpT]
  | p :: l, h => by
    have h0 := h p (by simp)
    have ih := cmpT_le (l := l) fun q hq => h q (by simp [hq])
    simp only [cmpT]
    split
    · omega
    · rw [if_neg (by omega)]; exact ih
theorem cmpT_ge {l : List (Int × Int)} (h : ∀ p ∈ l, p.2 ≤ p.1) : 0 ≤ cmpT l := by
  have : cmpT (l.map swap) ≤ 0 := cmpT_le fun p hp => by
    obtain ⟨q, hq, rfl⟩ := List.mem_map.1 hp
    exact h q hq
  rw [cmpT_swap] at this
  omega
/-- triples: the order is transitive -/
theorem cmpT_trans : ∀ l : List (Int × Int × Int), cmpT (l.map fun t => (t.1, t.2.1)) ≤ 0 → cmpT (l.map fun t => (t.2.1, t.2.2)) ≤ 0 → cmpT (l.map fun t => (t.1, t.2.2)) ≤ 0
  | [], _, _ => by simp [cmpT]
  | t :: l, h1, h2 => by
    have ih := cmpT_trans l
    simp only [List.map_cons, cmpT] at h1 h2 ⊢
    by_cases a1 : t.1 < t.2.1
    · by_cases b1 : t.2.1 < t.2.2
      · rw [if_pos (by omega)]; decide
      · rw [if_neg b1] at h2
        by_cases b2 : t.2.2 < t.2.1
        · rw [if_pos b2] at h2; omega
        · rw [if_pos (by omega)]; decide
    · rw [if_neg a1] at h1
      by_cases a2 : t.2.1 < t.1
      · rw [if_pos a2] at h1; omega
      · rw [if_neg a2] at h1
        by_cases b1 : t.2.1 < t.2.2
        · rw [if_pos (by omega)]; decide
        · rw [if_neg b1] at h2
          by_cases b2 : t.2.2 < t.2.1
          · rw [if_pos b2] at h2; omega
          · rw [if_neg b2] at h2
            rw [if_neg (by omega), if_neg (by omega)]
            exact ih h1 h2
theorem zips : ∀ (as bs cs : List Int), as.length = bs.length → bs.length = cs.length →
    (as.zip (bs.zip cs)).map (fun t => (t.1, t.2.1)) = as.zip bs ∧ (as.zip (bs.zip cs)).map (fun t => (t.2.1, t.2.2)) = bs.zip cs ∧ (as.zip (bs.zip cs)).map (fun t => (t.1, t.2.2)) = as.zip cs
  | [], [], [], _, _ => ⟨rfl, rfl, rfl⟩
  | a :: as, b :: bs, c :: cs, h1, h2 => by
    obtain ⟨q1, q2, q3⟩ := zips as bs cs (by simpa using h1) (by simpa using h2)
    simp [q1, q2, q3]
  | [], _ :: _, _, h, _ => by cases h
  | _ :: _, [], _, h, _ => by cases h
  | [], [], _ :: _, _, h => by cases h
  | _ :: _, _ :: _, [], _, h => by cases h
theorem cmpV_trans {as bs cs : List Int} (h1 : as.length = bs.length) (h2 : bs.length = cs.length) (h3 : cmpV as bs ≤ 0) (h4 : cmpV bs cs ≤ 0) : cmpV as cs ≤ 0 := by
  obtain ⟨q1, q2, q3⟩ := zips as bs cs h1 h2
  unfold cmpV at *
  rw [← q1, ← List.map_reverse] at h3
  rw [← q2, ← List.map_reverse] at h4
  rw [← q3, ← List.map_reverse]
  exact cmpT_trans _ h3 h4
theorem cmpV_range (as bs : List Int) : cmpV as bs = -1 ∨ cmpV as bs = 0 ∨ cmpV as bs = 1 := cmpT_range _
theorem rowB_iff : ∀ {as bs : List Int}, as.length = bs.length → (rowB as bs = true ↔ as = bs)
  | [], [], _ => by simp [rowB]
  | a :: as, b :: bs, h => by
    have ih := rowB_iff (as := as) (bs := bs) (by simpa using h)
    simp [rowB, ih]
  | [], _ :: _, h => by cases h
  | _ :: _, [], h => by cases h
theorem zip_same : ∀ {as bs : List Int}, as.length = bs.length → ((∀ p ∈ as.zip bs, p.1 = p.2) ↔ as = bs)
  | [], [], _ => by simp
  | a :: as, b :: bs, h => by
    have ih := zip_same (as := as) (bs := bs) (by simpa using h)
    simp only [List.zip_cons_cons, List.mem_cons, forall_eq_or_imp, ih, List.cons.injEq]
  | [], _ :: _, h => by cases h
  | _ :: _, [], h => by cases h
theorem cmpV_zero {as bs : List Int} (h : as.length = bs.length) : cmpV as bs = 0 ↔ as = bs := by
  unfold cmpV
  rw [cmpT_zero, ← zip_same h]
  simp
/-- rows of words -/
def orR (as bs : List W) : List W := List.zipWith (· ||| ·) as bs
def andR (as bs : List W) : List W := List.zipWith (· &&& ·) as bs
def subR (as bs : List W) : List W := List.zipWith (fun a b => a &&& ~~~b) as bs
theorem or_ge (a b : W) : toI a ≤ toI (a ||| b) := by
  have := @Nat.left_le_or a.toNat b.toNat
  simp only [toI, BitVec.toNat_or]; omega
theorem and_le (a b : W) : toI (a &&& b) ≤ toI a := by
  have := @Nat.and_le_left a.toNat b.toNat
  simp only [toI, BitVec.toNat_and]; omega
theorem or_row : ∀ (as bs : List W), ∀ p ∈ (rowI (orR as bs)).zip (rowI as), p.2 ≤ p.1
  | [], _, p, h => by simp [rowI] at h
  | _ :: _, [], p, h => by simp [rowI, orR] at h
  | a :: as, b :: bs, p, h => by
    simp only [rowI, orR, List.zipWith_cons_cons, List.map_cons, List.zip_cons_cons, List.mem_cons] at h
    rcases h with rfl | h
    · exact or_ge a b
    · exact or_row as bs p h
theorem and_row : ∀ (as bs : List W), ∀ p ∈ (rowI (andR as bs)).zip (rowI as), p.1 ≤ p.2
  | [], _, p, h => by simp [rowI] at h
  | _ :: _, [], p, h => by simp [rowI, andR] at h
  | a :: as, b :: bs, p, h => by
    simp only [rowI, andR, List.zipWith_cons_cons, List.map_cons, List.zip_cons_cons, List.mem_cons] at h
    rcases h with rfl | h
    · exact and_le a b
    · exact and_row as bs p h
theorem cmp_or (as bs : List W) : 0 ≤ cmpV (rowI (orR as bs)) (rowI as) := cmpT_ge fun p hp => or_row as bs p (List.mem_reverse.1 hp)
theorem cmp_and (as bs : List W) : cmpV (rowI (andR as bs)) (rowI as) ≤ 0 := cmpT_le fun p hp => and_row as bs p (List.mem_reverse.1 hp)
theorem rowI_inj {as bs : List W} : rowI as = rowI bs ↔ as = bs := ⟨fun h => (List.map_inj_right fun x y => (toI_inj).1).1 h, fun h => by rw [h]⟩
theorem rowI_len (as : List W) : (rowI as).length = as.length := by simp [rowI]
theorem or_same_sub : ∀ {as bs : List W}, as.length = bs.length → (orR as bs = as ↔ subR bs as = bs.map fun _ => 0)
  | [], [], _ => by simp [orR, subR]
  | a :: as, b :: bs, h => by
    have ih := or_same_sub (as := as) (bs := bs) (by simpa using h)
    simp only [orR, subR, List.zipWith_cons_cons, List.map_cons, List.cons.injEq] at ih ⊢
    rw [ih]
    refine and_congr_left' ⟨fun h => ?_, fun h => ?_⟩
    · ext i hi
      have := congrArg (fun x : W => x.getLsbD i) h
      simp only [BitVec.getLsbD_or] at this
      simp only [← BitVec.getLsbD_eq_getElem]
      cases ha : a.getLsbD i <;> cases hb : b.getLsbD i <;> simp_all
    · ext i hi
      have := congrArg (fun x : W => x.getLsbD i) h
      simp only [BitVec.getLsbD_and, BitVec.getLsbD_not] at this
      simp only [← BitVec.getLsbD_eq_getElem]
      cases ha : a.getLsbD i <;> cases hb : b.getLsbD i <;> simp_all
  | [], _ :: _, h => by cases h
  | _ :: _, [], h => by cases h
end Go.Bits

namespace Go.Bits
open Go.SetL
/-- is i in the row? -/
def bitAt (xs : List W) (i : Nat) : Bool := (xs.getD (i / 64) 0).getLsbD (i % 64)
/-- the row's numbers -/
def elems (xs : List W) : List Int := ofP (bitAt xs)
/-- the row as the program holds it -/
def rowW (xs : List W) : Array Value := (xs.map fun x => Value.int .u64 (toI x)).toArray
theorem rowW_size (xs : List W) : (rowW xs).size = xs.length := by simp [rowW]
theorem rowW_at {xs : List W} {k : Nat} (h : k < xs.length) : (rowW xs)[k]? = some (.int .u64 (toI (xs.getD k 0))) := by
  unfold rowW; simp [h]
theorem toI_nonneg (x : W) : 0 ≤ toI x := by unfold toI; omega
theorem toI_lt (x : W) : toI x < 18446744073709551616 := by unfold toI; have := x.isLt; omega
/-- (x >> s) & 1 -/
theorem shr_and (x : W) (s : Nat) : andI ((toI x).fdiv (2 ^ s)) 1 = if x.getLsbD s then 1 else 0 := by
  have e : (toI x).fdiv (2 ^ s) = toI (x >>> s) := by
    unfold toI
    rw [BitVec.toNat_ushiftRight, Nat.shiftRight_eq_div_pow, Int.fdiv_eq_ediv_of_nonneg _ (by exact Int.pow_nonneg (by decide))]
    push_cast; rfl
  rw [e, show (1 : Int) = toI 1 from rfl, andI_eq]
  have : (x >>> s) &&& 1 = if x.getLsbD s then 1 else 0 := by
    apply BitVec.eq_of_getLsbD_eq
    intro i hi
    have e1 : (1 : W).getLsbD i = decide (i = 0) := by rw [show (1 : W) = 1#64 from rfl, BitVec.getLsbD_one]; simp
    rw [BitVec.getLsbD_and, BitVec.getLsbD_ushiftRight, e1]
    cases i with
    | zero => cases h : x.getLsbD s <;> simp [h]
    | succ i => cases h : x.getLsbD s <;> simp [e1]
  rw [this]
  cases x.getLsbD s <;> rfl
/-- the test that the program makes -/
theorem test_eq (x : W) (s : Nat) : (bits BinOp.and IntKind.u64 (toI x / 2 ^ s) 1 == 1) = x.getLsbD s := by
  have e : bits BinOp.and IntKind.u64 (toI x / 2 ^ s) 1 = andI ((toI x).fdiv (2 ^ s)) 1 := by
    rw [Int.fdiv_eq_ediv_of_nonneg _ (by exact Int.pow_nonneg (by decide))]; rfl
  rw [e, shr_and]
  cases x.getLsbD s <;> rfl
/-- n into, and out of, the row -/
def one (s : Nat) : W := 1#64 <<< s
def withW (xs : List W) (k : Nat) : List W := xs.set (k / 64) (xs.getD (k / 64) 0 ||| one (k % 64))
def withoutW (xs : List W) (k : Nat) : List W := xs.set (k / 64) (xs.getD (k / 64) 0 &&& ~~~one (k % 64))
def withS (xs : List W) (n : Int) : List W := if 0 ≤ n ∧ n < 1024 then withW xs n.toNat else xs
def withoutS (xs : List W) (n : Int) : List W := if 0 ≤ n ∧ n < 1024 then withoutW xs n.toNat else xs
theorem withS_len (xs : List W) (n : Int) : (withS xs n).length = xs.length := by unfold withS withW; split <;> simp
theorem withoutS_len (xs : List W) (n : Int) : (withoutS xs n).length = xs.length := by unfold withoutS withoutW; split <;> simp
theorem or16_len {xs ys : List W} (h : xs.length = 16) (h2 : ys.length = 16) : (orR xs ys).length = 16 := by simp [orR, h, h2]
theorem and16_len {xs ys : List W} (h : xs.length = 16) (h2 : ys.length = 16) : (andR xs ys).length = 16 := by simp [andR, h, h2]
theorem sub16_len {xs ys : List W} (h : xs.length = 16) (h2 : ys.length = 16) : (subR xs ys).length = 16 := by simp [subR, h, h2]
theorem toI_one {s : Nat} (h : s < 64) : IntKind.u64.wrap (2 ^ s) = toI (one s) := by
  have hp : (2 : Nat) ^ s < 2 ^ 64 := Nat.pow_lt_pow_right (by decide) h
  have e : (2 : Int) ^ s = ((2 ^ s : Nat) : Int) := by push_cast; rfl
  have : IntKind.u64.wrap (2 ^ s) = (2 : Int) ^ s := by
    show (2 : Int) ^ s % 18446744073709551616 = _
    rw [e]; exact Int.emod_eq_of_lt (Int.natCast_nonneg _) (Int.ofNat_lt.2 (show 2 ^ s < 18446744073709551616 from hp))
  rw [this, e]
  unfold toI one
  congr 1
  rw [BitVec.toNat_shiftLeft]
  simp [Nat.shiftLeft_eq, Nat.mod_eq_of_lt hp]
theorem or_one (x : W) {s : Nat} (h : s < 64) : bits BinOp.or IntKind.u64 (toI x) (IntKind.u64.wrap (2 ^ s)) = toI (x ||| one s) := by rw [toI_one h]; exact orI_eq _ _
theorem sub_one (x : W) {s : Nat} (h : s < 64) : bits BinOp.andNot IntKind.u64 (toI x) (IntKind.u64.wrap (2 ^ s)) = toI (x &&& ~~~one s) := by rw [toI_one h]; exact subI_eq _ _
theorem rowW_set (xs : List W) (i : Nat) (y : W) : (rowW xs).setIfInBounds i (.int .u64 (toI y)) = rowW (xs.set i y) := by
  unfold rowW; simp [List.map_set]
theorem one_bit {s i : Nat} (hi : i < 64) : (one s).getLsbD i = decide (i = s) := by
  unfold one
  rw [BitVec.getLsbD_shiftLeft, BitVec.getLsbD_one]
  rw [Bool.eq_iff_iff]; simp; omega
theorem bitAt_with {xs : List W} (hx : xs.length = 16) {k i : Nat} (hk : k < 1024) (hi : i < 1024) : bitAt (withW xs k) i = (bitAt xs i || i == k) := by
  unfold bitAt withW
  simp only [List.getD_eq_getElem?_getD, List.getElem?_set]
  by_cases h : k / 64 = i / 64
  · rw [if_pos h, if_pos (by omega), Option.getD_some, BitVec.getLsbD_or, h, one_bit (by omega)]
    congr 1
    rw [Bool.eq_iff_iff]; simp; omega
  · rw [if_neg h]
    have : (i == k) = false := by simp; omega
    rw [this, Bool.or_false]
theorem bitAt_without {xs : List W} (hx : xs.length = 16) {k i : Nat} (hk : k < 1024) (hi : i < 1024) : bitAt (withoutW xs k) i = (bitAt xs i && i != k) := by
  unfold bitAt withoutW
  simp only [List.getD_eq_getElem?_getD, List.getElem?_set]
  by_cases h : k / 64 = i / 64
  · rw [if_pos h, if_pos (by omega), Option.getD_some, BitVec.getLsbD_and, BitVec.getLsbD_not, h, one_bit (by omega)]
    congr 1
    rw [Bool.eq_iff_iff]; simp; omega
  · rw [if_neg h]
    have : (i != k) = true := by simp; omega
    rw [this, Bool.and_true]
theorem elems_with {xs : List W} (hx : xs.length = 16) (n : Int) : elems (withS xs n) = withL (elems xs) n := by
  unfold elems withS
  rw [withL_ofP]
  split
  · rename_i h
    refine ofP_congr fun i hi => ?_
    rw [bitAt_with hx (by omega) hi]
    congr 1
    rw [Bool.eq_iff_iff]; simp; omega
  · rename_i h
    refine ofP_congr fun i hi => ?_
    have : ((i : Int) == n) = false := by simp; omega
    rw [this, Bool.or_false]
theorem elems_without {xs : List W} (hx : xs.length = 16) (n : Int) : elems (withoutS xs n) = withoutL (elems xs) n := by
  unfold elems withoutS
  rw [withoutL_ofP]
  split
  · rename_i h
    refine ofP_congr fun i hi => ?_
    rw [bitAt_without hx (by omega) hi]
    congr 1
    rw [Bool.eq_iff_iff]; simp; omega
  · rename_i h
    refine ofP_congr fun i hi => ?_
    have : ((i : Int) != n) = true := by simp; omega
    rw [this, Bool.and_true]
theorem bitAt_zip (f : W → W → W) (g : Bool → Bool → Bool) (hf : ∀ a b i, i < 64 → (f a b).getLsbD i = g (a.getLsbD i) (b.getLsbD i)) {xs ys : List W} (hx : xs.length = 16) (hy : ys.length = 16) {i : Nat} (hi : i < 1024) :
    bitAt (List.zipWith f xs ys) i = g (bitAt xs i) (bitAt ys i) := by
  unfold bitAt
  have h1 : i / 64 < xs.length := by omega
  have h2 : i / 64 < ys.length := by omega
  simp only [List.getD_eq_getElem?_getD, List.getElem?_zipWith, List.getElem?_eq_getElem h1, List.getElem?_eq_getElem h2, Option.getD_some]
  exact hf _ _ _ (by omega)
theorem elems_or {xs ys : List W} (hx : xs.length = 16) (hy : ys.length = 16) : elems (orR xs ys) = orL (elems xs) (elems ys) := by
  unfold elems; rw [orL_ofP]
  exact ofP_congr fun i hi => bitAt_zip _ _ (fun a b i _ => by rw [BitVec.getLsbD_or]) hx hy hi
theorem elems_and {xs ys : List W} (hx : xs.length = 16) (hy : ys.length = 16) : elems (andR xs ys) = andL (elems xs) (elems ys) := by
  unfold elems; rw [andL_ofP]
  exact ofP_congr fun i hi => bitAt_zip _ _ (fun a b i _ => by rw [BitVec.getLsbD_and]) hx hy hi
theorem elems_sub {xs ys : List W} (hx : xs.length = 16) (hy : ys.length = 16) : elems (subR xs ys) = minusL (elems xs) (elems ys) := by
  unfold elems; rw [minusL_ofP]
  exact ofP_congr fun i hi => bitAt_zip (fun a b => a &&& ~~~b) (fun a b => a && !b) (fun a b i h => by simp [h]) hx hy hi
/-- a row is what its bits are -/
theorem row_ext {xs ys : List W} (hx : xs.length = 16) (hy : ys.length = 16) (h : ∀ i, i < 1024 → bitAt xs i = bitAt ys i) : xs = ys := by
  refine List.ext_getElem (hx.trans hy.symm) fun j h1 h2 => ?_
  refine BitVec.eq_of_getLsbD_eq fun i hi => ?_
  have := h (64 * j + i) (by omega)
  unfold bitAt at this
  rw [show (64 * j + i) / 64 = j by omega, show (64 * j + i) % 64 = i by omega] at this
  simpa [List.getD_eq_getElem?_getD, List.getElem?_eq_getElem h1, List.getElem?_eq_getElem h2] using this
def zeros : List W := List.replicate 16 0
theorem bitAt_zeros (i : Nat) : bitAt zeros i = false := by
  unfold bitAt zeros
  rw [List.getD_eq_getElem?_getD, List.getElem?_replicate]
  split <;> simp
theorem elems_inj {xs ys : List W} (hx : xs.length = 16) (hy : ys.length = 16) (h : elems xs = elems ys) : xs = ys := row_ext hx hy (ofP_inj h)
theorem elems_zeros : elems zeros = [] := by
  unfold elems ofP
  rw [show bitAt zeros = fun _ => false from funext bitAt_zeros]
  simp
theorem sub_zero {xs ys : List W} (hx : xs.length = 16) (hy : ys.length = 16) : subR xs ys = zeros ↔ (minusL (elems xs) (elems ys)).length = 0 := by
  rw [← elems_sub hx hy]
  constructor
  · intro h; rw [h, elems_zeros]; rfl
  · intro h; exact elems_inj (sub16_len hx hy) (by simp [zeros]) ((List.eq_nil_of_length_eq_zero h).trans elems_zeros.symm)
end Go.Bits

namespace Go.Rw
open Go.RowKit Go.Own Go.Can Go.Bits
section
variable {P : Program}
theorem ints_rowW (xs : List W) : (rowW xs).toList = (rowI xs).map (Value.int .u64) := by simp [rowW, rowI, List.map_map, Function.comp_def]
theorem rowV_rowW (xs : List W) : rowV .u64 (rowI xs) = .agg (rowW xs) := by simp [rowV, rowW, rowI, List.map_map, Function.comp_def]
theorem eq_run {t e : TypeId} {n : Nat} (hu : P.underlying t = some (.array n e)) (he : P.underlying e = some (.int .u64)) (hi : (P.info? e).map (·.size) = some 1) (hg : P.eqGuardType P.depth t = false)
    {xs ys : List W} (hx : xs.length = n) (hy : ys.length = n) (x y : Operand) (w : World) :
    (do eqGuard .eql t x y (.agg (rowW xs)) (.agg (rowW ys)); binOp .eql t (.agg (rowW xs)) (.agg (rowW ys))).run P w = .ok (.bool (decide (xs = ys))) w := by
  obtain ⟨i, hi', hs⟩ : ∃ i, P.info? e = some i ∧ i.size = 1 := by
    cases h : P.info? e with
    | none => rw [h] at hi; cases hi
    | some i => rw [h] at hi; exact ⟨i, rfl, by simpa using hi⟩
  have key : dry P (Op.equal t (.agg (rowW xs)) (.agg (rowW ys))) = some (rowB (rowI xs) (rowI ys)) :=
    dry_equalIn_array (d := 9998) hu hi' hs he _ _ (rowI xs) (rowI ys) (by rw [rowI_len]; exact hx) (by rw [rowI_len]; exact hy) (ints_rowW xs) (ints_rowW ys)
  refine dry_run _ ?_ w
  rw [dry_bind, show dry P (eqGuard .eql t x y (.agg (rowW xs)) (.agg (rowW ys))) = some () from (show dry P (if !(P.eqGuardType P.depth t) then pure () else _) = _ by rw [hg]; rfl)]
  show dry P (do pure (Value.bool (← Op.equal t (.agg (rowW xs)) (.agg (rowW ys)))) : Sem Value) = _
  rw [dry_bind, key]
  show some (Value.bool _) = _
  congr 2
  rw [Bool.eq_iff_iff, rowB_iff (by rw [rowI_len, rowI_len, hx, hy]), rowI_inj]
  simp
theorem ne_run {t e : TypeId} {n : Nat} (hu : P.underlying t = some (.array n e)) (he : P.underlying e = some (.int .u64)) (hi : (P.info? e).map (·.size) = some 1) (hg : P.eqGuardType P.depth t = false)
    {xs ys : List W} (hx : xs.length = n) (hy : ys.length = n) (x y : Operand) (w : World) :
    (do eqGuard .neq t x y (.agg (rowW xs)) (.agg (rowW ys)); binOp .neq t (.agg (rowW xs)) (.agg (rowW ys))).run P w = .ok (.bool (!decide (xs = ys))) w := by
  obtain ⟨i, hi', hs⟩ : ∃ i, P.info? e = some i ∧ i.size = 1 := by
    cases h : P.info? e with
    | none => rw [h] at hi; cases hi
    | some i => rw [h] at hi; exact ⟨i, rfl, by simpa using hi⟩
  have key : dry P (Op.equal t (.agg (rowW xs)) (.agg (rowW ys))) = some (rowB (rowI xs) (rowI ys)) :=
    dry_equalIn_array (d := 9998) hu hi' hs he _ _ (rowI xs) (rowI ys) (by rw [rowI_len]; exact hx) (by rw [rowI_len]; exact hy) (ints_rowW xs) (ints_rowW ys)
  refine dry_run _ ?_ w
  rw [dry_bind, show dry P (eqGuard .neq t x y (.agg (rowW xs)) (.agg (rowW ys))) = some () from (show dry P (if !(P.eqGuardType P.depth t) then pure () else _) = _ by rw [hg]; rfl)]
  show dry P (do pure (Value.bool (!(← Op.equal t (.agg (rowW xs)) (.agg (rowW ys))))) : Sem Value) = _
  rw [dry_bind, key]
  show some (Value.bool _) = _
  congr 3
  rw [Bool.eq_iff_iff, rowB_iff (by rw [rowI_len, rowI_len, hx, hy]), rowI_inj]
  simp
/-- == -/
theorem wpList_eqRow {ops : Array Oper} {rest : List Oper} {o : Oper} {a : Act} {w : World} {Q : Exit → Act → World → Prop} (hgd : o.guard = none) {t r e : TypeId} {n : Nat} (x y : Operand) (ho : o.op = .binOp .eql t x y r)
    (hu : P.underlying t = some (.array n e)) (he : P.underlying e = some (.int .u64)) (hi : (P.info? e).map (·.size) = some 1) (hg : P.eqGuardType P.depth t = false)
    {xs ys : List W} (hx : xs.length = n) (hy : ys.length = n) (ex : a.eval x = .agg (rowW xs)) (ey : a.eval y = .agg (rowW ys))
    (h : wpList P ops Q rest (a.put o.dst (.bool (decide (xs = ys)))) w) : wpList P ops Q (o :: rest) a w := by
  refine wpList_plain hgd fun _ hK => ?_
  unfold Oper.wp execOp
  simp only [ho, ex, ey]
  rw [Sem.run_bind, eq_run hu he hi hg hx hy x y w]
  exact hK _ _ h
/-- x[i] of a row of words -/
theorem wpList_indexRow {ops : Array Oper} {rest : List Oper} {o : Oper} {a : Act} {w : World} {Q : Exit → Act → World → Prop} (hgd : o.guard = none) {t e : TypeId} {n : Nat} (x y : Operand) (ho : o.op = .index t x y)
    (hu : P.underlying t = some (.array n e)) (he : P.underlying e = some (.int .u64)) (hi : (P.info? e).map (·.size) = some 1)
    {cs : Array Value} {k : Nat} {v : Value} (hk : k < n) (hc : cs[k]? = some v) (ex : a.eval x = .agg cs) (ey : a.eval y = .int .i64 k)
    (h : wpList P ops Q rest (a.put o.dst v) w) : wpList P ops Q (o :: rest) a w := by
  obtain ⟨i, hi', hs⟩ : ∃ i, P.info? e = some i ∧ i.size = 1 := by
    cases h : P.info? e with
    | none => rw [h] at hi; cases hi
    | some i => rw [h] at hi; exact ⟨i, rfl, by simpa using hi⟩
  have key : dry P (Instr.index t (.agg cs) (.int .i64 k)) = some v := by
    unfold Instr.index
    rw [dry_bind, show dry P (asIntOf (.int .i64 (k : Int))) = some (IntKind.i64, (k : Int)) from rfl]
    simp only [Option.bind_some, dry_bind, dry_underlying, hu]
    rw [if_pos ⟨Int.natCast_nonneg k, Int.ofNat_lt.2 hk⟩]
    simp only [dry_bind, dry_sizeOf hi', hs, Option.bind_some, Int.toNat_natCast, Nat.mul_one]
    exact dry_part he hc
  refine wpList_plain hgd fun _ hK => ?_
  unfold Oper.wp execOp
  simp only [ho, ex, ey]
  rw [Sem.run_bind, dry_run _ key w]
  exact hK _ _ h
end
end Go.Rw

namespace Go.Own
open Go.RowKit

/-- the operation ends in a value, by its kind -/
def valueOp (o : Oper) : Bool :=
  match o.op with
  | .build .. | .move _ | .assign _ | .pick .. | .load .. | .binOp .. | .unOp .. | .convert .. | .fieldAddr .. | .field .. | .indexAddr .. | .index .. | .extract .. | .slice .. => true
  | .call { callee := .builtin .len, .. } | .call { callee := .builtin .min, .. } | .call { callee := .builtin .max, .. } | .call { callee := .builtin .cap, .. } => true
  | _ => false

theorem value_of_pure {P : Program} {s : Sem Value} {w w' : World} {n : Next} (h : (do pure (.value (← s)) : Sem Next).run P w = .ok n w') : ∃ u, n = .value u := by
  rw [Sem.run_bind] at h
  cases hs : s.run P w with
  | ok v w1 => rw [hs] at h; simp at h; exact ⟨v, h.1.symm⟩
  | halt x w1 => rw [hs] at h; simp at h

theorem valueOp_spec {P : Program} {ρ : Operand → Value} {o : Oper} (h : valueOp o = true) {w w' : World} {n : Next} (hr : (execOp ρ o).run P w = .ok n w') : ∃ u, n = .value u := by
  obtain ⟨dst, op, ty, pos, after, guard⟩ := o
  unfold valueOp at h
  cases op <;> (try simp at h)
  case move x => simp [execOp] at hr; exact ⟨_, hr.1.symm⟩
  case assign x => simp [execOp] at hr; exact ⟨_, hr.1.symm⟩
  case pick c a b => exact value_of_pure (s := do pure (if ← asBool (ρ c) then ρ a else ρ b)) (by simpa [execOp] using hr)
  case build => exact value_of_pure hr
  case load => exact value_of_pure hr
  case binOp => exact value_of_pure hr
  case unOp => exact value_of_pure hr
  case convert => exact value_of_pure hr
  case fieldAddr => exact value_of_pure hr
  case field => exact value_of_pure hr
  case indexAddr => exact value_of_pure hr
  case index => exact value_of_pure hr
  case extract => exact value_of_pure hr
  case slice => exact value_of_pure hr
  case call c =>
    obtain ⟨callee, args, ats⟩ := c
    cases callee <;> (try simp at h)
    case builtin b =>
      cases b <;> (try simp at h)
      case len => rw [BigFrame.execOp_builtin, BigFrame.builtin_len] at hr; exact value_of_pure hr
      case min => rw [BigFrame.execOp_builtin, BigFrame.builtin_min] at hr; exact value_of_pure hr
      case max => rw [BigFrame.execOp_builtin, BigFrame.builtin_max] at hr; exact value_of_pure hr
      case cap => rw [BigFrame.execOp_builtin, BigFrame.builtin_cap] at hr; exact value_of_pure hr

def pick (ops : Array Oper) (is : List Nat) : List Oper := is.filterMap (ops[·]?)

section
variable {P : Program} {ops : Array Oper} {S : World → Prop} {Q : Exit → Act → World → Prop}

/-- the walk by a plan -/
def wpSegs (P : Program) (ops : Array Oper) (S : World → Prop) (Q : Exit → Act → World → Prop) (last : List Nat) : List (List Nat × Nat) → Act → World → Prop
  | [], a, w => wpQuiet P ops S (fun a' => Q .normal a' w) (pick ops last) a
  | (qs, e) :: r, a, w => wpQuiet P ops S (fun a' => wpList P ops (Exit.then (fun a'' w'' => S w'' ∧ wpSegs P ops S Q last r a'' w'') Q) (pick ops [e]) a' w) (pick ops qs) a

/-- these may be taken first, one behind the other -/
def takesOk (ops : Array Oper) : List Nat → Array Bool → Option (Array Bool)
  | [], L => some L
  | i :: r, L => if (Region.ready .any ops L).contains i && Region.free .any ops L i && ((ops[i]?).map valueOp).getD false then takesOk ops r (L.setIfInBounds i true) else none
def segsOk (ops : Array Oper) (last : List Nat) : List (List Nat × Nat) → Array Bool → Bool
  | [], L => match takesOk ops last L with | some L' => (Region.ready .any ops L').isEmpty | none => false
  | (qs, e) :: r, L => match takesOk ops qs L with | some L' => Region.ready .any ops L' == [e] && segsOk ops last r (L'.setIfInBounds e true) | none => false

theorem takes_run (hsel : Region.noSelect ops = true) (hQ : ∀ c a d v w, Q (.panic c) (a.put d v) w → Q (.panic c) a w) : ∀ (qs : List Nat) (L L' : Array Bool) (fuel : Nat) (K : Act → Prop) (a : Act) (w : World),
    takesOk ops qs L = some L' → S w → wpQuiet P ops S K (pick ops qs) a → (∀ a', K a' → wpAnyH P .any ops Q S fuel L' a' w) → wpAnyH P .any ops Q S (fuel + qs.length) L a w := by
  intro qs
  induction qs with
  | nil =>
    intro L L' fuel K a w hok hS hw hK
    simp [takesOk] at hok; subst hok
    exact hK a hw
  | cons i r ih =>
    intro L L' fuel K a w hok hS hw hK
    unfold takesOk at hok
    split at hok
    · rename_i hc
      simp only [Bool.and_eq_true] at hc
      obtain ⟨⟨hr, hf⟩, hv⟩ := hc
      cases ho : ops[i]? with
      | none => rw [ho] at hv; simp at hv
      | some o =>
        rw [ho] at hv
        have hv' : valueOp o = true := by simpa using hv
        have hp : pick ops (i :: r) = o :: pick ops r := by simp [pick, ho]
        rw [hp] at hw
        unfold wpQuiet at hw
        rw [List.length_cons, ← Nat.add_assoc]
        split at hw
        · rename_i hwa
          obtain ⟨v, h1, h2⟩ := hw
          refine wpAnyH_take ho hsel hf hr (fun c a' w' => hQ c a' _ _ w') (Or.inl ⟨hwa, fun w' hw' => ?_⟩) hS (ih _ L' fuel K _ w hok hS h2 hK)
          have h3 := h1 w' hw'
          unfold Oper.quietAt at h3
          cases hrun : (execOp a.eval o).run P w' with
          | ok n w1 =>
            obtain ⟨u, rfl⟩ := valueOp_spec hv' hrun
            rw [hrun] at h3
            simp only [Oper.quietUpon] at h3
            obtain ⟨rfl, rfl⟩ := h3
            rfl
          | halt x w1 => rw [hrun] at h3; simp only [Oper.quietUpon] at h3
        · rename_i hwa
          exact wpAnyH_take ho hsel hf hr (fun c a' w' => hQ c a' _ _ w') (Or.inr ⟨by simpa using hwa, rfl⟩) hS (ih _ L' fuel K _ w hok hS hw hK)
    · cases hok

theorem segs_run (hsel : Region.noSelect ops = true) (hQ : ∀ c a d v w, Q (.panic c) (a.put d v) w → Q (.panic c) a w) (last : List Nat) : ∀ (r : List (List Nat × Nat)) (L : Array Bool) (fuel : Nat) (a : Act) (w : World),
    segsOk ops last r L = true → S w → (r.map (fun s => s.1.length + 1)).sum + last.length ≤ fuel → wpSegs P ops S Q last r a w → wpAnyH P .any ops Q S fuel L a w := by
  intro r
  induction r with
  | nil =>
    intro L fuel a w hok hS hf hw
    unfold segsOk at hok
    split at hok
    · rename_i L' hL
      obtain ⟨g, rfl⟩ : ∃ g, fuel = g + last.length := ⟨fuel - last.length, by simp at hf; omega⟩
      exact takes_run hsel hQ last L L' g _ a w hL hS hw (fun a' ha => wpAnyH_done (by simpa using hok) ha g)
    · cases hok
  | cons s r ih =>
    obtain ⟨qs, e⟩ := s
    intro L fuel a w hok hS hf hw
    unfold segsOk at hok
    split at hok
    · rename_i L' hL
      simp only [Bool.and_eq_true, beq_iff_eq] at hok
      obtain ⟨hr, hok⟩ := hok
      simp only [List.map_cons, List.sum_cons] at hf
      obtain ⟨g, rfl⟩ : ∃ g, fuel = (g + 1) + qs.length := ⟨fuel - qs.length - 1, by omega⟩
      refine takes_run hsel hQ qs L L' (g + 1) _ a w hL hS hw (fun a' ha => ?_)
      refine wpAnyH_all hr (by simp) (fun i hi => ?_)
      simp only [List.mem_singleton] at hi
      subst hi
      have next : ∀ a'' w'', S w'' ∧ wpSegs P ops S Q last r a'' w'' → S w'' ∧ wpAnyH P .any ops Q S g (L'.setIfInBounds i true) a'' w'' :=
        fun a'' w'' h => ⟨h.1, ih _ g a'' w'' hok h.1 (by omega) h.2⟩
      unfold wpOp
      cases ho : ops[i]? with
      | none =>
        have : i ∈ Region.ready .any ops L' := by rw [hr]; simp
        obtain ⟨_, o, ho', _⟩ := mem_ready.1 this
        rw [ho] at ho'; cases ho'
      | some o =>
        have hp : pick ops [i] = [o] := by simp [pick, ho]
        rw [hp] at ha
        simp only [wpList] at ha ⊢
        have key : ∀ {w1 : World} {a1 : Act}, o.wp P a1 w1 (fun a w => Exit.then (fun a'' w'' => S w'' ∧ wpSegs P ops S Q last r a'' w'') Q .normal a w) (Exit.then (fun a'' w'' => S w'' ∧ wpSegs P ops S Q last r a'' w'') Q) →
            o.wp P a1 w1 (fun a'' w'' => S w'' ∧ wpAnyH P .any ops Q S g (L'.setIfInBounds i true) a'' w'') Q := by
          intro w1 a1 h
          unfold Oper.wp at h ⊢
          generalize (execOp a1.eval o).run P w1 = res at h ⊢
          cases res with
          | ok n w2 =>
            cases n <;> simp only [Oper.upon, Exit.then] at h ⊢
            case value v => exact next _ _ h
            case skip => exact next _ _ h
            case defer d => exact next _ _ h
            case enter f args =>
              refine Calls.mono h fun e w3 he => ?_
              cases e with
              | returned v => exact next _ _ he
              | panicked c => exact he
              | outgrown => exact he
            case row row args => exact h.mono fun v w3 he => next _ _ he
          | halt x w2 =>
            cases x <;> simp only [Oper.upon, Exit.then] at h ⊢
            exact h
        split at ha
        · rename_i hwa
          rw [if_pos hwa]
          exact ha.imp key id
        · rename_i hwa
          rw [if_neg hwa]
          exact next _ _ ha
    · cases hok

/-- THE LAW. -/
theorem wp_region_plan {id : Nat} {a : Act} {w : World} {l : List Oper} (S : World → Prop) (r : List (List Nat × Nat)) (last : List Nat) (hm : P.follows .mixedOrders = true)
    (hB : (Region.noSelect l.toArray && segsOk l.toArray last r (Array.replicate l.length false) && decide ((r.map (fun s => s.1.length + 1)).sum + last.length ≤ l.length)) = true)
    (hQ : ∀ c a d v w, Q (.panic c) (a.put d v) w → Q (.panic c) a w) (hS : S w.drew) (h : wpSegs P l.toArray S Q last r a w.drew) : (Code.region id l.toArray true).wp P Q a w := by
  simp only [Bool.and_eq_true, decide_eq_true_eq] at hB
  exact wp_region_held (S := S) hm (segs_run hB.1.1 hQ last r _ _ a _ hB.1.2 hS (by simpa using hB.2) h)
end
end Go.Own

namespace Go.Tz
/-- t is the lowest bit of x -/
def Low (x : BitVec 64) (t : Nat) : Prop := t < 64 ∧ x.getLsbD t = true ∧ ∀ i, i < t → x.getLsbD i = false
/-- t is the highest bit of x -/
def High (x : BitVec 64) (t : Nat) : Prop := t < 64 ∧ x.getLsbD t = true ∧ ∀ i, t < i → x.getLsbD i = false
theorem has_bit {x : BitVec 64} (h : x ≠ 0#64) : ∃ i, i < 64 ∧ x.getLsbD i = true := by
  by_cases hc : ∃ i, i < 64 ∧ x.getLsbD i = true
  · exact hc
  · exfalso
    apply h
    apply BitVec.eq_of_getLsbD_eq
    intro i hi
    rw [BitVec.getLsbD_zero]
    cases hb : x.getLsbD i with
    | false => rfl
    | true => exact absurd ⟨i, hi, hb⟩ hc
theorem least {p : Nat → Bool} : ∀ n, p n = true → ∃ t, t ≤ n ∧ p t = true ∧ ∀ i, i < t → p i = false
  | 0, h => ⟨0, Nat.le_refl _, h, fun i hi => absurd hi (Nat.not_lt_zero _)⟩
  | n + 1, h => by
    by_cases hc : ∃ j, j < n + 1 ∧ p j = true
    · obtain ⟨j, hj, hp⟩ := hc
      obtain ⟨t, h1, h2, h3⟩ := least j hp
      exact ⟨t, by omega, h2, h3⟩
    · exact ⟨n + 1, Nat.le_refl _, h, fun i hi => by
        cases hb : p i with
        | false => rfl
        | true => exact absurd ⟨i, hi, hb⟩ hc⟩
theorem low_of {x : BitVec 64} (h : x ≠ 0#64) : ∃ t, Low x t := by
  obtain ⟨i, hi, hb⟩ := has_bit h
  obtain ⟨t, h1, h2, h3⟩ := least (p := fun i => x.getLsbD i) i hb
  exact ⟨t, by omega, h2, h3⟩
theorem high_of {x : BitVec 64} (h : x ≠ 0#64) : ∃ t, High x t := by
  obtain ⟨i, hi, hb⟩ := has_bit h
  obtain ⟨t, h1, h2, h3⟩ := least (p := fun j => decide (j ≤ 63) && x.getLsbD (63 - j)) (63 - i) (by simp; rw [show 63 - (63 - i) = i by omega]; exact hb)
  simp only [Bool.and_eq_true, decide_eq_true_eq] at h2
  refine ⟨63 - t, by omega, h2.2, fun j hj => ?_⟩
  by_cases hj' : j < 64
  · have := h3 (63 - j) (by omega)
    simp only [Bool.and_eq_false_iff, decide_eq_false_iff_not] at this
    rcases this with h | h
    · omega
    · rw [show 63 - (63 - j) = j by omega] at h; exact h
  · exact BitVec.getLsbD_of_ge x j (by omega)
theorem and_neg {x : BitVec 64} {t : Nat} (h : Low x t) : x &&& -x = 1#64 <<< t := by
  obtain ⟨h1, h2, h3⟩ := h
  apply BitVec.eq_of_getLsbD_eq
  intro i hi
  rw [BitVec.getLsbD_and, BitVec.getLsbD_neg, BitVec.getLsbD_shiftLeft, BitVec.getLsbD_one]
  rcases Nat.lt_trichotomy i t with hlt | rfl | hgt
  · rw [h3 i hlt]; simp [hlt]
  · rw [h2]
    have : ¬ ∃ j, j < i ∧ x.getLsbD j = true := by rintro ⟨j, hj, hb⟩; rw [h3 j hj] at hb; cases hb
    simp [hi]
    exact fun j hj => h3 j hj
  · have : ∃ j, j < i ∧ x.getLsbD j = true := ⟨t, hgt, h2⟩
    have h0 : ¬ (i - t = 0) := by omega
    cases hb : x.getLsbD i
    · simp [h0]
    · simp [h0]
      refine ⟨hi, t, hgt, h2⟩
theorem high_bounds {x : BitVec 64} {t : Nat} (h : High x t) : 2 ^ t ≤ x.toNat ∧ x.toNat < 2 ^ (t + 1) := by
  obtain ⟨h1, h2, h3⟩ := h
  constructor
  · exact Nat.ge_two_pow_of_testBit h2
  · apply Nat.lt_pow_two_of_testBit
    intro i hi
    exact h3 i (by omega)
theorem low_unique {x : BitVec 64} {s t : Nat} (h : Low x s) (h' : Low x t) : s = t := by
  rcases Nat.lt_trichotomy s t with h1 | h1 | h1
  · have := h'.2.2 s h1; rw [h.2.1] at this; cases this
  · exact h1
  · have := h.2.2 t h1; rw [h'.2.1] at this; cases this
/-- 2 to the t is the greatest power in X -/
def Lg (X t : Nat) : Prop := 2 ^ t ≤ X ∧ X < 2 ^ (t + 1)
theorem lg_div {X t s : Nat} (h : Lg X t) (hs : 2 ^ s ≤ X) : s ≤ t ∧ Lg (X / 2 ^ s) (t - s) := by
  have hst : s < t + 1 := by
    rcases Nat.lt_or_ge s (t + 1) with h1 | h1
    · exact h1
    · have := Nat.pow_le_pow_right (n := 2) (by decide) h1
      have := h.2; omega
  refine ⟨by omega, ?_, ?_⟩
  · rw [Nat.le_div_iff_mul_le (Nat.two_pow_pos s), ← Nat.pow_add, show t - s + s = t by omega]; exact h.1
  · rw [Nat.div_lt_iff_lt_mul (Nat.two_pow_pos s), ← Nat.pow_add, show t - s + 1 + s = t + 1 by omega]; exact h.2
theorem lg_lt {X t s : Nat} (h : Lg X t) (hs : X < 2 ^ s) : t < s := by
  rcases Nat.lt_or_ge t s with h1 | h1
  · exact h1
  · have := Nat.pow_le_pow_right (n := 2) (by decide) h1
    have := h.1; omega
end Go.Tz

namespace Go.Bits
open Go.SetL Go.Tz
def IsMin (xs : List W) (n : Int) (b : Bool) : Prop := (b = true ∧ ∃ k : Nat, n = k ∧ k < 1024 ∧ bitAt xs k = true ∧ ∀ i, i < k → bitAt xs i = false) ∨ (b = false ∧ n = 0 ∧ ∀ i, i < 1024 → bitAt xs i = false)
def IsMax (xs : List W) (n : Int) (b : Bool) : Prop := (b = true ∧ ∃ k : Nat, n = k ∧ k < 1024 ∧ bitAt xs k = true ∧ ∀ i, k < i → i < 1024 → bitAt xs i = false) ∨ (b = false ∧ n = 0 ∧ ∀ i, i < 1024 → bitAt xs i = false)
theorem bitAt_word (xs : List W) (j t : Nat) (h : t < 64) : bitAt xs (64 * j + t) = (xs.getD j 0).getLsbD t := by
  unfold bitAt; rw [show (64 * j + t) / 64 = j by omega, show (64 * j + t) % 64 = t by omega]
theorem bitAt_none {xs : List W} {j : Nat} (h : xs.getD j 0 = 0#64) (i : Nat) (h1 : 64 * j ≤ i) (h2 : i < 64 * (j + 1)) : bitAt xs i = false := by
  obtain ⟨t, rfl⟩ : ∃ t, i = 64 * j + t := ⟨i - 64 * j, by omega⟩
  rw [bitAt_word xs j t (by omega), h, BitVec.getLsbD_zero]
theorem isMin_at {xs : List W} {j t : Nat} (hj : j < 16) (hlow : ∀ i, i < 64 * j → bitAt xs i = false) (h : Low (xs.getD j 0) t) : IsMin xs ((64 * j + t : Nat) : Int) true := by
  refine .inl ⟨rfl, 64 * j + t, rfl, by have := h.1; omega, by rw [bitAt_word xs j t h.1]; exact h.2.1, fun i hi => ?_⟩
  by_cases hi2 : i < 64 * j
  · exact hlow i hi2
  · obtain ⟨s, rfl⟩ : ∃ s, i = 64 * j + s := ⟨i - 64 * j, by omega⟩
    rw [bitAt_word xs j s (by have := h.1; omega)]; exact h.2.2 s (by omega)
theorem isMax_at {xs : List W} {j t : Nat} (hj : j < 16) (hhigh : ∀ i, 64 * (j + 1) ≤ i → i < 1024 → bitAt xs i = false) (h : High (xs.getD j 0) t) : IsMax xs ((64 * j + t : Nat) : Int) true := by
  refine .inl ⟨rfl, 64 * j + t, rfl, by have := h.1; omega, by rw [bitAt_word xs j t h.1]; exact h.2.1, fun i hi hi' => ?_⟩
  by_cases hi2 : 64 * (j + 1) ≤ i
  · exact hhigh i hi2 hi'
  · obtain ⟨s, rfl⟩ : ∃ s, i = 64 * j + s := ⟨i - 64 * j, by omega⟩
    rw [bitAt_word xs j s (by omega)]; exact h.2.2 s (by omega)
/-- the numbers below n -/
def bw (n : Int) (j : Nat) : W := if 64 * ((j : Int) + 1) ≤ n then 18446744073709551615#64 else if 64 * (j : Int) < n then BitVec.ofNat 64 (2 ^ (n - 64 * j).toNat - 1) else 0#64
def belowUp (n : Int) (k : Nat) : List W := (List.range 16).map fun j => if j < k then bw n j else 0#64
def belowS (n : Int) : List W := belowUp n 16
theorem belowUp_len (n : Int) (k : Nat) : (belowUp n k).length = 16 := by simp [belowUp]
theorem belowS_len (n : Int) : (belowS n).length = 16 := belowUp_len n 16
theorem belowUp_zero (n : Int) : belowUp n 0 = zeros := by simp [belowUp, zeros]; rfl
theorem belowUp_succ (n : Int) {k : Nat} (hk : k < 16) : belowUp n (k + 1) = (belowUp n k).set k (bw n k) := by
  refine List.ext_getElem (by simp [belowUp]) fun i h1 h2 => ?_
  simp only [belowUp, List.length_map, List.length_range] at h1
  simp only [belowUp, List.getElem_map, List.getElem_range, List.getElem_set]
  by_cases h : k = i
  · subst h; simp
  · simp only [h, if_false]
    by_cases h3 : i < k
    · rw [if_pos (by omega), if_pos h3]
    · rw [if_neg (by omega), if_neg h3]
theorem belowUp_same (n : Int) {k : Nat} (hk : k < 16) (h : bw n k = 0#64) : belowUp n (k + 1) = belowUp n k := by
  rw [belowUp_succ n hk, h]
  refine List.ext_getElem (by simp [belowUp]) fun i h1 h2 => ?_
  simp only [List.getElem_set]
  split
  · rename_i h; subst h; simp [belowUp]
  · rfl
theorem low_ones {s i : Nat} (hs : s ≤ 64) : (BitVec.ofNat 64 (2 ^ s - 1)).getLsbD i = decide (i < s) := by
  rw [BitVec.getLsbD_ofNat, Nat.testBit_two_pow_sub_one]
  rw [Bool.eq_iff_iff]; simp; omega
theorem ones_eq {s : Nat} (h : s < 64) : IntKind.u64.wrap (IntKind.u64.wrap (2 ^ s) - 1) = toI (BitVec.ofNat 64 (2 ^ s - 1)) := by
  have hp : (2 : Nat) ^ s < 2 ^ 64 := Nat.pow_lt_pow_right (by decide) h
  have hq := Nat.two_pow_pos s
  have e0 : (2 : Int) ^ s = ((2 ^ s : Nat) : Int) := by push_cast; rfl
  rw [e0]
  unfold toI
  rw [BitVec.toNat_ofNat]
  generalize 2 ^ s = p at hp hq
  have e64 : (2 : Nat) ^ 64 = 18446744073709551616 := rfl
  rw [e64] at hp ⊢
  show ((p : Int) % 18446744073709551616 - 1) % 18446744073709551616 = _
  rw [Nat.mod_eq_of_lt (by omega)]
  omega
theorem bitAt_below (n : Int) (i : Nat) (hi : i < 1024) : bitAt (belowS n) i = decide ((i : Int) < n) := by
  unfold bitAt
  have hj : i / 64 < 16 := by omega
  have e : (belowS n).getD (i / 64) 0 = bw n (i / 64) := by
    rw [List.getD_eq_getElem?_getD, List.getElem?_eq_getElem (by rw [belowS_len]; exact hj)]
    simp only [belowS, belowUp, List.getElem_map, List.getElem_range, Option.getD_some]
    rw [if_pos hj]
  rw [e, bw]
  split
  · rw [show (18446744073709551615#64 : W) = BitVec.ofNat 64 (2 ^ 64 - 1) from rfl, low_ones (by decide)]
    rw [Bool.eq_iff_iff]; simp; omega
  · split
    · rw [low_ones (by omega)]
      rw [Bool.eq_iff_iff]; simp; omega
    · rw [BitVec.getLsbD_zero, eq_comm, decide_eq_false_iff_not]; omega
/-- the row of a list -/
def rowOf (l : List Int) : List W := l.foldl withS zeros
theorem foldl_withS_len : ∀ (l : List Int) (xs : List W), xs.length = 16 → (l.foldl withS xs).length = 16
  | [], _, h => h
  | x :: l, xs, h => by rw [List.foldl_cons]; exact foldl_withS_len l _ (by rw [withS_len]; exact h)
theorem rowOf_len (l : List Int) : (rowOf l).length = 16 := foldl_withS_len l zeros (by simp [zeros])
theorem elems_foldl : ∀ (l : List Int) (xs : List W), xs.length = 16 → elems (l.foldl withS xs) = l.foldl withL (elems xs)
  | [], _, _ => by simp only [List.foldl_nil]
  | x :: l, xs, h => by rw [List.foldl_cons, List.foldl_cons, elems_foldl l _ (by rw [withS_len]; exact h), elems_with h]
theorem elems_rowOf (l : List Int) : elems (rowOf l) = ofL l := by
  unfold rowOf ofL; rw [elems_foldl l zeros (by simp [zeros]), elems_zeros]
theorem rowOf_snoc (l : List Int) (x : Int) : rowOf (l ++ [x]) = withS (rowOf l) x := by unfold rowOf; rw [List.foldl_append]; rfl
theorem ofL_ofP (p : Nat → Bool) : ofL (ofP p) = ofP p := by
  refine ext_sorted (foldl_sorted .nil) (sorted_ofP p) fun x => ?_
  simp only [ofL, foldl_with, List.not_mem_nil, false_or, mem_ofP]
  constructor
  · exact fun h => h.1
  · rintro ⟨i, rfl, h1, h2⟩; exact ⟨⟨i, rfl, h1, h2⟩, by omega, by omega⟩
theorem rowOf_elems {xs : List W} (hx : xs.length = 16) : rowOf (elems xs) = xs := elems_inj (rowOf_len _) hx (by rw [elems_rowOf]; exact ofL_ofP _)
/-- the first number of an ascending list, and the last -/
theorem min_head {xs : List W} {n : Int} {b : Bool} (h : IsMin xs n b) : (b = true ∧ (elems xs).head? = some n) ∨ (b = false ∧ n = 0 ∧ elems xs = []) := by
  rcases h with ⟨rfl, k, rfl, h1, h2, h3⟩ | ⟨rfl, rfl, h⟩
  · refine .inl ⟨rfl, ?_⟩
    have hm : (k : Int) ∈ elems xs := mem_ofP.2 ⟨k, rfl, h1, h2⟩
    cases he : elems xs with
    | nil => rw [he] at hm; cases hm
    | cons a l =>
      have hs := sorted_ofP (bitAt xs)
      rw [show ofP (bitAt xs) = a :: l from he] at hs
      have ha : a ∈ elems xs := by rw [he]; simp
      obtain ⟨i, rfl, h4, h5⟩ := mem_ofP.1 ha
      rw [he] at hm
      simp only [List.head?_cons, Option.some.injEq]
      rcases List.mem_cons.1 hm with e | e
      · exact e.symm
      · have := (List.pairwise_cons.1 hs).1 _ e
        have := h3 i (by omega)
        rw [h5] at this; cases this
  · refine .inr ⟨rfl, rfl, List.eq_nil_iff_forall_not_mem.2 fun x hx => ?_⟩
    obtain ⟨i, rfl, h1, h2⟩ := mem_ofP.1 hx
    rw [h i h1] at h2; cases h2
theorem max_last {xs : List W} {n : Int} {b : Bool} (h : IsMax xs n b) : (b = true ∧ (elems xs).getLast? = some n) ∨ (b = false ∧ n = 0 ∧ elems xs = []) := by
  rcases h with ⟨rfl, k, rfl, h1, h2, h3⟩ | ⟨rfl, rfl, h⟩
  · refine .inl ⟨rfl, ?_⟩
    have hm : (k : Int) ∈ elems xs := mem_ofP.2 ⟨k, rfl, h1, h2⟩
    rcases List.eq_nil_or_concat (elems xs) with he | ⟨l, a, he⟩
    · rw [he] at hm; cases hm
    · rw [List.concat_eq_append] at he
      have hs := sorted_ofP (bitAt xs)
      rw [show ofP (bitAt xs) = l ++ [a] from he] at hs
      have ha : a ∈ elems xs := by rw [he]; simp
      obtain ⟨i, rfl, h4, h5⟩ := mem_ofP.1 ha
      rw [he] at hm
      rw [he, List.getLast?_concat]
      refine congrArg some ?_
      rcases List.mem_append.1 hm with e | e
      · have := (List.pairwise_append.1 hs).2.2 _ e (i : Int) (by simp)
        have := h3 i (by omega) h4
        rw [h5] at this; cases this
      · simp at e; omega
  · refine .inr ⟨rfl, rfl, List.eq_nil_iff_forall_not_mem.2 fun x hx => ?_⟩
    obtain ⟨i, rfl, h1, h2⟩ := mem_ofP.1 hx
    rw [h i h1] at h2; cases h2
end Go.Bits

namespace Go.Own
open Go.RowKit

/-- the first n operations wait for none of the rest and ask none of the rest's guards; each of the rest waits for all before it -/
def tailOk (ops : Array Oper) (n : Nat) : Bool :=
  decide (n ≤ ops.size) && (List.range ops.size).all fun j =>
    match ops[j]? with
    | none => true
    | some o => (o.after.toList.all fun e => !Region.binds .any e || decide (e.on < j)) &&
        (match o.guard with | some (g, _) => decide (g < n) || decide (n ≤ j) | none => true) &&
        (decide (j < n) || (List.range j).all fun i => o.after.toList.any fun e => Region.binds .any e && e.on == i)

section
variable {P : Program} {ops : Array Oper} {n : Nat}

theorem tailOk_size (h : tailOk ops n = true) : n ≤ ops.size := by
  simp only [tailOk, Bool.and_eq_true, decide_eq_true_eq] at h; exact h.1

theorem tailOk_at (h : tailOk ops n = true) {j : Nat} {o : Oper} (hj : ops[j]? = some o) :
    (∀ e ∈ o.after, Region.binds .any e = true → e.on < j) ∧ (∀ g b, o.guard = some (g, b) → j < n → g < n) ∧
      (n ≤ j → ∀ i, i < j → ∃ e ∈ o.after, Region.binds .any e = true ∧ e.on = i) := by
  have hlt : j < ops.size := (Array.getElem?_eq_some_iff.1 hj).1
  simp only [tailOk, Bool.and_eq_true] at h
  have h1 := List.all_eq_true.1 h.2 j (List.mem_range.2 hlt)
  simp only [hj, Bool.and_eq_true] at h1
  obtain ⟨⟨ha, hg⟩, hw⟩ := h1
  refine ⟨fun e he hb => ?_, fun g b hgb hjn => ?_, fun hnj i hi => ?_⟩
  · have := List.all_eq_true.1 ha e (by simpa using he)
    simpa [hb] using this
  · rw [hgb] at hg
    simp only [Bool.or_eq_true, decide_eq_true_eq] at hg
    omega
  · simp only [Bool.or_eq_true, decide_eq_true_eq] at hw
    rcases hw with hw | hw
    · omega
    · have := List.all_eq_true.1 hw i (List.mem_range.2 hi)
      obtain ⟨e, he, h2⟩ := List.any_eq_true.1 this
      simp only [Bool.and_eq_true, beq_iff_eq] at h2
      exact ⟨e, by simpa using he, h2⟩

theorem ready_iff {ops : Array Oper} {L : Array Bool} {j : Nat} (hs : L.size = ops.size) : j ∈ Region.ready .any ops L ↔
    L[j]? = some false ∧ ∃ o, ops[j]? = some o ∧ ∀ e ∈ o.after, Region.binds .any e = true → L[e.on]? = some true := by
  rw [mem_ready]
  constructor
  · rintro ⟨h1, o, ho, h2⟩
    have hlt : j < L.size := by rw [hs]; exact (Array.getElem?_eq_some_iff.1 ho).1
    refine ⟨by simpa [hlt] using h1, o, ho, fun e he hb => ?_⟩
    have := h2 e he hb
    cases hq : L[e.on]? with
    | none => simp [hq] at this
    | some b => simp [hq] at this; rw [this]
  · rintro ⟨h1, o, ho, h2⟩
    exact ⟨by simp [h1], o, ho, fun e he hb => by simp [h2 e he hb]⟩

/-- the rest, in order -/
theorem tail_runs {Q : Exit → Act → World → Prop} (h : tailOk ops n = true) : ∀ (l : List Oper) (t fuel : Nat) (L : Array Bool) (a : Act) (w : World), L.size = ops.size →
    (∀ j, j < t → L[j]? = some true) → (∀ j, t ≤ j → j < ops.size → L[j]? = some false) → ops.toList.drop t = l → t ≤ ops.size → n ≤ t → l.length ≤ fuel → wpList P ops Q l a w → wpAny P .any ops Q fuel L a w := by
  intro l
  induction l with
  | nil =>
    intro t fuel L a w hs hd hu hl ht _ _ hw
    have hte : t = ops.size := by
      have := congrArg List.length hl; simp at this; omega
    have hr : Region.ready .any ops L = [] := by
      apply List.eq_nil_iff_forall_not_mem.2
      intro i hi
      obtain ⟨h1, o, ho, _⟩ := (ready_iff hs).1 hi
      have hlt := (Array.getElem?_eq_some_iff.1 ho).1
      rw [hd i (by omega)] at h1
      cases h1
    cases fuel with
    | zero => exact ⟨hr, hw⟩
    | succ f => exact ⟨fun _ => hw, fun i hi => by rw [hr] at hi; cases hi⟩
  | cons o l ih =>
    intro t fuel L a w hs hd hu hl ht hn hf hw
    have hlt : t < ops.size := by
      have := congrArg List.length hl; simp at this; omega
    have hot : ops[t]? = some o := by
      have := congrArg (·[0]?) hl
      simpa [hlt] using this
    obtain ⟨f, rfl⟩ : ∃ f, fuel = f + 1 := ⟨fuel - 1, by simp at hf; omega⟩
    have hrt : t ∈ Region.ready .any ops L := (ready_iff hs).2 ⟨hu t (Nat.le_refl _) hlt, o, hot, fun e he hb => hd _ ((tailOk_at h hot).1 e he hb)⟩
    refine ⟨fun h0 => (by rw [h0] at hrt; cases hrt), fun i hi => ?_⟩
    obtain ⟨h1, oi, hoi, h2⟩ := (ready_iff hs).1 hi
    have hil := (Array.getElem?_eq_some_iff.1 hoi).1
    have hit : i = t := by
      rcases Nat.lt_trichotomy i t with hlt' | he | hgt
      · rw [hd i hlt'] at h1; cases h1
      · exact he
      · obtain ⟨e, he, hb, hon⟩ := (tailOk_at h hoi).2.2 (by omega) t hgt
        have := h2 e he hb
        rw [hon, hu t (Nat.le_refl _) hlt] at this
        cases this
    subst hit
    have next : ∀ a' w', wpList P ops Q l a' w' → wpAny P .any ops Q f (L.setIfInBounds i true) a' w' := fun a' w' hw' =>
      ih (i + 1) f _ a' w' (by simp [hs]) (fun j hj => by
          by_cases hji : i = j
          · subst hji; simp [hs, hlt]
          · rw [Array.getElem?_setIfInBounds_ne hji]; exact hd j (by omega))
        (fun j hj hj' => by rw [Array.getElem?_setIfInBounds_ne (by omega)]; exact hu j (by omega) hj')
        (by rw [← List.drop_drop, hl]; rfl) (by omega) (by omega) (by simp at hf; omega) hw'
    unfold wpOp
    simp only [hot]
    unfold wpList at hw
    split
    · rename_i hwa
      rw [if_pos hwa] at hw
      exact hw.imp (Oper.wp_mono next) id
    · rename_i hwa
      rw [if_neg hwa] at hw
      exact next _ _ hw

theorem take_at {l : List Oper} {n j : Nat} : (l.take n).toArray[j]? = if j < n then l.toArray[j]? else none := by
  simp only [List.getElem?_toArray, List.getElem?_take]

/-- what the head's order is asked, asked of the whole region -/
theorem head_runs {l : List Oper} {C : World → Prop} {Q : Exit → Act → World → Prop} {Qh : Act → Prop} (h : tailOk l.toArray n = true)
    (hQ : ∀ a, Qh a → ∀ w, C w → wpList P l.toArray Q (l.drop n) a w) : ∀ (f : Nat) (L L' : Array Bool) (a : Act) (w : World), L.size = l.length → L'.size = n →
    (∀ j, j < n → L[j]? = L'[j]?) → (∀ j, n ≤ j → j < l.length → L[j]? = some false) → C w →
    wpAnyQ P .any (l.take n).toArray C Qh f L' a → wpAny P .any l.toArray Q (f + (l.length - n)) L a w := by
  have hnl : n ≤ l.length := by simpa using tailOk_size h
  have hs' : (l.take n).toArray.size = n := by simp [hnl]
  have done : ∀ (L' : Array Bool), L'.size = n → Region.ready .any (l.take n).toArray L' = [] → ∀ i, i < n → L'[i]? = some true := by
    intro L' hL' hr i
    induction i using Nat.strongRecOn with
    | _ i ih =>
      intro hi
      have hil : i < l.length := by omega
      cases hq : L'[i]? with
      | none => simp at hq; omega
      | some b =>
        cases b with
        | true => rfl
        | false =>
          exfalso
          have ho : (l.take n).toArray[i]? = some l[i] := by rw [take_at, if_pos hi]; simp [hil]
          have ho' : l.toArray[i]? = some l[i] := by simp [hil]
          have : i ∈ Region.ready .any (l.take n).toArray L' := (ready_iff (by rw [hL', hs'])).2 ⟨hq, _, ho, fun e he hb => ih _ ((tailOk_at h ho').1 e he hb) (by have := (tailOk_at h ho').1 e he hb; omega)⟩
          rw [hr] at this
          cases this
  intro f
  induction f with
  | zero =>
    intro L L' a w hs hs2 hh ht hC hq
    have hall := done L' hs2 hq.1
    exact tail_runs h (l.drop n) n _ L a w (by simpa using hs) (fun j hj => by rw [hh j hj]; exact hall j hj) (fun j hj hj' => ht j hj (by simpa using hj')) rfl (by simpa using hnl) (Nat.le_refl _) (by simp) (hQ a hq.2 w hC)
  | succ f ih =>
    intro L L' a w hs hs2 hh ht hC hq
    by_cases hr : Region.ready .any (l.take n).toArray L' = []
    · have hall := done L' hs2 hr
      exact tail_runs h (l.drop n) n _ L a w (by simpa using hs) (fun j hj => by rw [hh j hj]; exact hall j hj) (fun j hj hj' => ht j hj (by simpa using hj')) rfl (by simpa using hnl) (Nat.le_refl _) (by simp) (hQ a (hq.1 hr) w hC)
    · have same : ∀ i, i < n → (i ∈ Region.ready .any (l.take n).toArray L' ↔ i ∈ Region.ready .any l.toArray L) := by
        intro i hi
        rw [ready_iff (by rw [hs2, hs']), ready_iff (by simpa using hs), take_at, if_pos hi, hh i hi]
        refine and_congr_right fun _ => ⟨?_, ?_⟩
        · rintro ⟨o, ho, h2⟩
          exact ⟨o, ho, fun e he hb => by have := (tailOk_at h ho).1 e he hb; rw [hh _ (by omega)]; exact h2 e he hb⟩
        · rintro ⟨o, ho, h2⟩
          exact ⟨o, ho, fun e he hb => by have := (tailOk_at h ho).1 e he hb; rw [← hh _ (by omega)]; exact h2 e he hb⟩
      obtain ⟨i0, hi0⟩ := List.exists_mem_of_ne_nil _ hr
      have hi0n : i0 < n := by
        obtain ⟨_, o, ho, _⟩ := (ready_iff (by rw [hs2, hs'])).1 hi0
        have := (Array.getElem?_eq_some_iff.1 ho).1
        rw [hs'] at this; exact this
      have hi0u : L[i0]? = some false := by rw [hh i0 hi0n]; exact ((ready_iff (by rw [hs2, hs'])).1 hi0).1
      rw [Nat.succ_add]
      refine ⟨fun h0 => ?_, fun j hj => ?_⟩
      · have := (same i0 hi0n).1 hi0
        rw [h0] at this; cases this
      · have hjn : j < n := by
          rcases Nat.lt_or_ge j n with hlt | hge
          · exact hlt
          · obtain ⟨_, o, ho, h2⟩ := (ready_iff (by simpa using hs)).1 hj
            obtain ⟨e, he, hb, hon⟩ := (tailOk_at h ho).2.2 hge i0 (by omega)
            have := h2 e he hb
            rw [hon, hi0u] at this; cases this
        have hq2 := hq.2 j ((same j hjn).2 hj)
        have hq3 : qOp P l.toArray C j (wpAnyQ P .any (l.take n).toArray C Qh f (L'.setIfInBounds j true)) a := by
          unfold qOp at hq2 ⊢
          rw [take_at, if_pos hjn] at hq2
          cases ho : l.toArray[j]? with
          | none => rw [ho] at hq2; exact hq2
          | some o =>
            rw [ho] at hq2
            have hwant : Region.wanted o (yielded (l.take n).toArray a.tmps) = Region.wanted o (yielded l.toArray a.tmps) := by
              cases hg : o.guard with
              | none => simp [Region.wanted, hg]
              | some gb =>
                obtain ⟨g, b⟩ := gb
                have hgn := (tailOk_at h ho).2.1 g b hg hjn
                simp only [Region.wanted, hg, yielded, take_at, if_pos hgn]
            simp only [hwant] at hq2
            exact hq2
        exact wpOp_of_qOp hC (fun a' w' hw' hk => ih _ (L'.setIfInBounds j true) a' w' (by simp [hs]) (by simp [hs2]) (fun k hk' => by
            by_cases hjk : j = k
            · subst hjk
              have e1 : j < L.size := by rw [hs]; omega
              have e2 : j < L'.size := by rw [hs2]; exact hjn
              simp [e1, e2]
            · rw [Array.getElem?_setIfInBounds_ne hjk, Array.getElem?_setIfInBounds_ne hjk]; exact hh k hk')
          (fun k hk1 hk2 => by rw [Array.getElem?_setIfInBounds_ne (by omega)]; exact ht k hk1 hk2) hw' hk) hq3

/-- THE LAW. -/
theorem wp_region_tail {id : Nat} {Q : Exit → Act → World → Prop} {a : Act} {w : World} {l : List Oper} (n : Nat) (hm : P.follows .mixedOrders = true) (hB : Region.lexB .any (l.take n).toArray = true)
    (hT : tailOk l.toArray n = true)
    (h : wpQuiet P (l.take n).toArray (fun w' => ∃ x, w' = beyond w x) (fun a' => ∀ w', (∃ x, w' = beyond w x) → wpList P l.toArray Q (l.drop n) a' w') (l.take n) a) :
    (Code.region id l.toArray true).wp P Q a w := by
  simp only [Region.lexB, Bool.and_eq_true] at hB
  have hnl : n ≤ l.length := by simpa using tailOk_size hT
  have hlen : (l.take n).length = n := by simp [hnl]
  have h1 := wpAnyQ_lex (C := fun w' => ∃ x, w' = beyond w x) (md := .any) hB.1 (l.take n) 0 (Array.replicate n false) a (fun j => by simp) (by simpa [hlen] using hB.2) h
  rw [hlen] at h1
  refine wp_region_any hm ?_
  have h2 := head_runs (P := P) hT (Qh := fun a' => ∀ w', (∃ x, w' = beyond w x) → wpList P l.toArray Q (l.drop n) a' w') (fun a' ha w' hw' => ha w' hw') n (Array.replicate l.length false) (Array.replicate n false) a
    { w with drawn := w.drawn + 1 } (by simp) (by simp) (fun j hj => (by have e1 : j < l.length := (by omega); simp [hj, e1])) (fun j hj hj' => by simp [hj']) (beyond_of ((Below.refl _ _).drew)) h1
  have : n + (l.length - n) = l.toArray.size := by simp; omega
  rw [this] at h2
  simpa using h2
end
end Go.Own

namespace Go.Pop
theorem and_split (h l H L : Nat) (hl : l < 256) (hL : L < 256) : (256 * h + l) &&& (256 * H + L) = 256 * (h &&& H) + (l &&& L) := by
  have hlL : l &&& L < 2 ^ 8 := Nat.lt_of_le_of_lt Nat.and_le_left hl
  refine Nat.eq_of_testBit_eq fun i => ?_
  rw [Nat.testBit_and, show 256 = 2 ^ 8 from rfl, Nat.testBit_two_pow_mul_add _ hl, Nat.testBit_two_pow_mul_add _ hL, Nat.testBit_two_pow_mul_add _ hlL]
  split <;> simp
theorem or_split (h l H L : Nat) (hl : l < 256) (hL : L < 256) : (256 * h + l) ||| (256 * H + L) = 256 * (h ||| H) + (l ||| L) := by
  have hlL : l ||| L < 2 ^ 8 := Nat.or_lt_two_pow hl hL
  refine Nat.eq_of_testBit_eq fun i => ?_
  rw [Nat.testBit_or, show 256 = 2 ^ 8 from rfl, Nat.testBit_two_pow_mul_add _ hl, Nat.testBit_two_pow_mul_add _ hL, Nat.testBit_two_pow_mul_add _ hlL]
  split <;> simp
/-- a number by its bytes, the least first -/
def ofB : List Nat → Nat
  | [] => 0
  | b :: l => 256 * ofB l + b
def Bytes (l : List Nat) : Prop := ∀ b ∈ l, b < 256
theorem Bytes.tail {b : Nat} {l : List Nat} (h : Bytes (b :: l)) : Bytes l := fun c hc => h c (List.mem_cons_of_mem _ hc)
theorem Bytes.head {b : Nat} {l : List Nat} (h : Bytes (b :: l)) : b < 256 := h b (List.mem_cons.2 (.inl rfl))
def g1 (b : Nat) : Nat := (b / 2 &&& 0x55) + (b &&& 0x55)
def g2 (b : Nat) : Nat := (b / 4 &&& 0x33) + (b &&& 0x33)
def g3 (b : Nat) : Nat := (b / 16 + b) % 16
def msk (m : Nat) (l : List Nat) : Nat := ofB (l.map fun _ => m)
theorem step1 : ∀ {l : List Nat}, Bytes l → (ofB l / 2 &&& msk 0x55 l) + (ofB l &&& msk 0x55 l) = ofB (l.map g1)
  | [], _ => rfl
  | b :: l, h => by
    have hb := h.head
    have ih := step1 h.tail
    simp only [msk, List.map_cons, ofB] at ih ⊢
    generalize ofB l = u at ih ⊢
    generalize ofB (l.map fun _ => 0x55) = M at ih ⊢
    rw [show (256 * u + b) / 2 = 256 * (u / 2) + (u % 2 * 128 + b / 2) by omega, and_split _ _ _ _ (by omega) (by omega), and_split _ _ _ _ hb (by omega)]
    have e : (u % 2 * 128 + b / 2) &&& 0x55 = b / 2 &&& 0x55 := by
      have : ∀ x : Fin 2, ∀ y : Fin 128, (x.val * 128 + y.val) &&& 0x55 = y.val &&& 0x55 := by decide +kernel
      exact this ⟨u % 2, by omega⟩ ⟨b / 2, by omega⟩
    rw [e, ← ih, g1]
    omega
theorem step2 : ∀ {l : List Nat}, Bytes l → (ofB l / 4 &&& msk 0x33 l) + (ofB l &&& msk 0x33 l) = ofB (l.map g2)
  | [], _ => rfl
  | b :: l, h => by
    have hb := h.head
    have ih := step2 h.tail
    simp only [msk, List.map_cons, ofB] at ih ⊢
    generalize ofB l = u at ih ⊢
    generalize ofB (l.map fun _ => 0x33) = M at ih ⊢
    rw [show (256 * u + b) / 4 = 256 * (u / 4) + (u % 4 * 64 + b / 4) by omega, and_split _ _ _ _ (by omega) (by omega), and_split _ _ _ _ hb (by omega)]
    have e : (u % 4 * 64 + b / 4) &&& 0x33 = b / 4 &&& 0x33 := by
      have : ∀ x : Fin 4, ∀ y : Fin 64, (x.val * 64 + y.val) &&& 0x33 = y.val &&& 0x33 := by decide +kernel
      exact this ⟨u % 4, by omega⟩ ⟨b / 4, by omega⟩
    rw [e, ← ih, g2]
    omega
def Nib (b : Nat) : Prop := b % 16 ≤ 4 ∧ b / 16 ≤ 4
theorem step3 : ∀ {l : List Nat}, (∀ b ∈ l, Nib b) → (ofB l / 16 + ofB l) &&& msk 0x0f l = ofB (l.map g3) ∧ ofB l % 16 ≤ 4
  | [], _ => ⟨rfl, by decide⟩
  | b :: l, h => by
    obtain ⟨b1, b2⟩ := h b (List.mem_cons.2 (.inl rfl))
    obtain ⟨ih, hu⟩ := step3 (l := l) fun c hc => h c (List.mem_cons_of_mem _ hc)
    simp only [msk, List.map_cons, ofB] at ih ⊢
    generalize ofB l = u at ih hu ⊢
    generalize ofB (l.map fun _ => 0x0f) = M at ih ⊢
    refine ⟨?_, by omega⟩
    rw [show (256 * u + b) / 16 + (256 * u + b) = 256 * (u / 16 + u) + (b / 16 + b + 16 * (u % 16)) by omega, and_split _ _ _ _ (by omega) (by omega), ih, g3]
    congr 1
    rw [show (0x0f : Nat) = 2 ^ 4 - 1 from rfl, Nat.and_two_pow_sub_one_eq_mod]
    omega
def gg (b : Nat) : Nat := g3 (g2 (g1 b))
theorem g1_lt : ∀ b : Fin 256, g1 b.val < 256 := by decide +kernel
theorem g2_nib : ∀ b : Fin 256, (g2 (g1 b.val)) % 16 ≤ 4 ∧ (g2 (g1 b.val)) / 16 ≤ 4 := by decide +kernel
theorem gg_le : ∀ b : Fin 256, gg b.val ≤ 8 := by decide +kernel
/-- the count, step by step -/
def c1 (x : Nat) : Nat := (x / 2 &&& 0x5555555555555555) + (x &&& 0x5555555555555555)
def c2 (x : Nat) : Nat := (x / 4 &&& 0x3333333333333333) + (x &&& 0x3333333333333333)
def c3 (x : Nat) : Nat := (x / 16 + x) &&& 0x0f0f0f0f0f0f0f0f
def bytes (x : Nat) : List Nat := [x % 256, x / 256 % 256, x / 65536 % 256, x / 16777216 % 256, x / 4294967296 % 256, x / 1099511627776 % 256, x / 281474976710656 % 256, x / 72057594037927936 % 256]
theorem ofB_bytes {x : Nat} (h : x < 18446744073709551616) : ofB (bytes x) = x := by simp only [bytes, ofB]; omega
theorem bytes_lt (x : Nat) : Bytes (bytes x) := by
  intro b hb
  simp only [bytes, List.mem_cons, List.not_mem_nil, or_false] at hb
  rcases hb with rfl | rfl | rfl | rfl | rfl | rfl | rfl | rfl <;> exact Nat.mod_lt _ (by decide)
theorem msk_55 (x : Nat) : msk 0x55 (bytes x) = 0x5555555555555555 := by simp [msk, bytes, ofB]
theorem msk_33 (x : Nat) : msk 0x33 (bytes x) = 0x3333333333333333 := by simp [msk, bytes, ofB]
theorem msk_0f (x : Nat) : msk 0x0f (bytes x) = 0x0f0f0f0f0f0f0f0f := by simp [msk, bytes, ofB]
theorem msk_map (m : Nat) (f : Nat → Nat) (l : List Nat) : msk m (l.map f) = msk m l := by unfold msk; rw [List.map_map]; rfl
theorem c3_eq {x : Nat} (h : x < 18446744073709551616) : c3 (c2 (c1 x)) = ofB ((bytes x).map gg) := by
  have e := ofB_bytes h
  have hb := bytes_lt x
  have e1 : c1 x = ofB ((bytes x).map g1) := by
    have := step1 hb
    rw [e, msk_55] at this
    exact this
  have hb1 : Bytes ((bytes x).map g1) := by
    intro b hc
    obtain ⟨c, hd, rfl⟩ := List.mem_map.1 hc
    exact g1_lt ⟨c, hb c hd⟩
  have e2 : c2 (c1 x) = ofB (((bytes x).map g1).map g2) := by
    have := step2 hb1
    rw [← e1, msk_map, msk_33] at this
    exact this
  have hb2 : ∀ b ∈ ((bytes x).map g1).map g2, Nib b := by
    intro b hc
    rw [List.map_map] at hc
    obtain ⟨c, hd, rfl⟩ := List.mem_map.1 hc
    exact g2_nib ⟨c, hb c hd⟩
  have e3 := (step3 hb2).1
  rw [← e2, msk_map, msk_map, msk_0f] at e3
  rw [show c3 (c2 (c1 x)) = (c2 (c1 x) / 16 + c2 (c1 x)) &&& 0x0f0f0f0f0f0f0f0f from rfl, e3]
  simp only [List.map_map]
  rfl
def sumL : List Nat → Nat
  | [] => 0
  | a :: l => a + sumL l
def pop (x : Nat) : Nat := sumL ((bytes x).map gg)
def c4 (x : Nat) : Nat := x + x / 256
def c5 (x : Nat) : Nat := x + x / 65536
def c6 (x : Nat) : Nat := x + x / 4294967296
theorem fold_eq (a b c d e f g h : Nat) (ha : a ≤ 8) (hb : b ≤ 8) (hc : c ≤ 8) (hd : d ≤ 8) (he : e ≤ 8) (hf : f ≤ 8) (hg : g ≤ 8) (hh : h ≤ 8) :
    c4 (ofB [a, b, c, d, e, f, g, h]) < 18446744073709551616 ∧ c5 (c4 (ofB [a, b, c, d, e, f, g, h])) < 18446744073709551616 ∧ c6 (c5 (c4 (ofB [a, b, c, d, e, f, g, h]))) < 18446744073709551616 ∧ c6 (c5 (c4 (ofB [a, b, c, d, e, f, g, h]))) % 128 = a + (b + (c + (d + (e + (f + (g + (h + 0))))))) := by
  simp only [c4, c5, c6]
  have k7 : ofB [h] = h := by simp [ofB]
  have k6 : ofB [g, h] = 256 * ofB [h] + g := rfl
  have k5 : ofB [f, g, h] = 256 * ofB [g, h] + f := rfl
  have k4 : ofB [e, f, g, h] = 256 * ofB [f, g, h] + e := rfl
  have k3 : ofB [d, e, f, g, h] = 256 * ofB [e, f, g, h] + d := rfl
  have k2 : ofB [c, d, e, f, g, h] = 256 * ofB [d, e, f, g, h] + c := rfl
  have k1 : ofB [b, c, d, e, f, g, h] = 256 * ofB [c, d, e, f, g, h] + b := rfl
  have k0 : ofB [a, b, c, d, e, f, g, h] = 256 * ofB [b, c, d, e, f, g, h] + a := rfl
  generalize ofB [a, b, c, d, e, f, g, h] = t0 at k0 ⊢
  generalize ofB [b, c, d, e, f, g, h] = t1 at k0 k1
  generalize ofB [c, d, e, f, g, h] = t2 at k1 k2
  generalize ofB [d, e, f, g, h] = t3 at k2 k3
  generalize ofB [e, f, g, h] = t4 at k3 k4
  generalize ofB [f, g, h] = t5 at k4 k5
  generalize ofB [g, h] = t6 at k5 k6
  generalize ofB [h] = t7 at k6 k7
  have b7 : t7 ≤ 8 := by omega
  have b6 : t6 ≤ 2100 := by omega
  have b5 : t5 ≤ 540000 := by omega
  have b4 : t4 ≤ 139000000 := by omega
  have b3 : t3 ≤ 36000000000 := by omega
  have b2 : t2 ≤ 9300000000000 := by omega
  have b1 : t1 ≤ 2400000000000000 := by omega
  have b0 : t0 ≤ 615000000000000000 := by omega
  have e1 : t0 / 256 = t1 := by clear k1 k2 k3 k4 k5 k6 k7; omega
  rw [e1]
  have e2 : (t0 + t1) / 65536 = t2 + t3 := by clear k3 k4 k5 k6 k7 e1; omega
  rw [e2]
  have e3 : (t0 + t1 + (t2 + t3)) / 4294967296 = t4 + t5 + t6 + t7 := by
    obtain ⟨r0, f0, h0⟩ : ∃ r, t0 = 4294967296 * t4 + r ∧ r ≤ 134744072 := ⟨16777216 * d + 65536 * c + 256 * b + a, by omega, by omega⟩
    obtain ⟨r1, f1, h1⟩ : ∃ r, t1 = 4294967296 * t5 + r ∧ r ≤ 134744072 := ⟨16777216 * e + 65536 * d + 256 * c + b, by omega, by omega⟩
    obtain ⟨r2, f2, h2⟩ : ∃ r, t2 = 4294967296 * t6 + r ∧ r ≤ 134744072 := ⟨16777216 * f + 65536 * e + 256 * d + c, by omega, by omega⟩
    obtain ⟨r3, f3, h3⟩ : ∃ r, t3 = 4294967296 * t7 + r ∧ r ≤ 134744072 := ⟨16777216 * g + 65536 * f + 256 * e + d, by omega, by omega⟩
    clear k0 k1 k2 k3 k4 k5 k6 k7 e1 e2 ha hb hc hd he hf hg hh b0 b1 b2 b3 b4 b5 b6 b7
    omega
  rw [e3]
  refine ⟨?_, ?_, ?_, ?_⟩
  · clear k0 k1 k2 k3 k4 k5 k6 k7 e1 e2 e3 ha hb hc hd he hf hg hh
    omega
  · clear k0 k1 k2 k3 k4 k5 k6 k7 e1 e2 e3 ha hb hc hd he hf hg hh
    omega
  · clear k0 k1 k2 k3 k4 k5 k6 k7 e1 e2 e3 ha hb hc hd he hf hg hh
    omega
  · clear e1 e2 e3 b0 b1 b2 b3 b4 b5 b6 b7
    have e : t0 + t1 + (t2 + t3) + (t4 + t5 + t6 + t7) = 128 * (2 * (t1 + t2 + t3 + t4 + t5 + t6 + t7)) + (a + (b + (c + (d + (e + (f + (g + (h + 0)))))))) := by omega
    rw [e, Nat.mul_add_mod]
    exact Nat.mod_eq_of_lt (by clear e k0 k1 k2 k3 k4 k5 k6 k7; omega)
theorem sum_pop {x : Nat} (h : x < 18446744073709551616) : c4 (c3 (c2 (c1 x))) < 18446744073709551616 ∧ c5 (c4 (c3 (c2 (c1 x)))) < 18446744073709551616 ∧ c6 (c5 (c4 (c3 (c2 (c1 x))))) < 18446744073709551616 ∧ c6 (c5 (c4 (c3 (c2 (c1 x))))) % 128 = pop x := by
  rw [c3_eq h]
  have k : ∀ y, gg (y % 256) ≤ 8 := fun y => gg_le ⟨y % 256, Nat.mod_lt _ (by decide)⟩
  exact fold_eq _ _ _ _ _ _ _ _ (k _) (k _) (k _) (k _) (k _) (k _) (k _) (k _)
def bits8 (b : Nat) : Nat := b % 2 + b / 2 % 2 + b / 4 % 2 + b / 8 % 2 + b / 16 % 2 + b / 32 % 2 + b / 64 % 2 + b / 128 % 2
theorem gg_bits : ∀ b : Fin 256, gg b.val = bits8 b.val := by decide +kernel
theorem bit_or_and (a b k : Nat) : (a ||| b) / 2 ^ k % 2 + (a &&& b) / 2 ^ k % 2 = a / 2 ^ k % 2 + b / 2 ^ k % 2 := by
  have e1 : (a ||| b) / 2 ^ k % 2 = (a / 2 ^ k % 2) ||| (b / 2 ^ k % 2) := by
    refine Nat.eq_of_testBit_eq fun i => ?_
    rw [show (2 : Nat) = 2 ^ 1 from rfl]
    simp only [Nat.testBit_or, Nat.testBit_mod_two_pow, ← Nat.pow_mul, Nat.testBit_div_two_pow]
    by_cases h : i < 1 <;> simp [h]
  have e2 : (a &&& b) / 2 ^ k % 2 = (a / 2 ^ k % 2) &&& (b / 2 ^ k % 2) := by
    refine Nat.eq_of_testBit_eq fun i => ?_
    rw [show (2 : Nat) = 2 ^ 1 from rfl]
    simp only [Nat.testBit_and, Nat.testBit_mod_two_pow, ← Nat.pow_mul, Nat.testBit_div_two_pow]
    by_cases h : i < 1 <;> simp [h]
  rw [e1, e2]
  rcases Nat.mod_two_eq_zero_or_one (a / 2 ^ k) with h | h <;> rcases Nat.mod_two_eq_zero_or_one (b / 2 ^ k) with h' | h' <;> rw [h, h'] <;> rfl
theorem bits8_split (a b : Nat) : bits8 (a ||| b) + bits8 (a &&& b) = bits8 a + bits8 b := by
  have k0 := bit_or_and a b 0
  have k1 := bit_or_and a b 1
  have k2 := bit_or_and a b 2
  have k3 := bit_or_and a b 3
  have k4 := bit_or_and a b 4
  have k5 := bit_or_and a b 5
  have k6 := bit_or_and a b 6
  have k7 := bit_or_and a b 7
  simp only [Nat.reducePow, Nat.div_one] at k0 k1 k2 k3 k4 k5 k6 k7
  simp only [bits8]
  generalize a ||| b = o at k0 k1 k2 k3 k4 k5 k6 k7 ⊢
  generalize a &&& b = n at k0 k1 k2 k3 k4 k5 k6 k7 ⊢
  generalize o % 2 = o0 at *
  generalize n % 2 = n0 at *
  generalize a % 2 = a0 at *
  generalize b % 2 = b0 at *
  rw [show o0 + o / 2 % 2 + o / 4 % 2 + o / 8 % 2 + o / 16 % 2 + o / 32 % 2 + o / 64 % 2 + o / 128 % 2 + (n0 + n / 2 % 2 + n / 4 % 2 + n / 8 % 2 + n / 16 % 2 + n / 32 % 2 + n / 64 % 2 + n / 128 % 2) = (o0 + n0) + (o / 2 % 2 + n / 2 % 2) + (o / 4 % 2 + n / 4 % 2) + (o / 8 % 2 + n / 8 % 2) + (o / 16 % 2 + n / 16 % 2) + (o / 32 % 2 + n / 32 % 2) + (o / 64 % 2 + n / 64 % 2) + (o / 128 % 2 + n / 128 % 2) by ac_rfl, k0, k1, k2, k3, k4, k5, k6, k7]
  ac_rfl
theorem gg_split (a b : Fin 256) : gg (a.val ||| b.val) + gg (a.val &&& b.val) = gg a.val + gg b.val := by
  rw [gg_bits a, gg_bits b, show gg (a.val ||| b.val) = bits8 (a.val ||| b.val) from gg_bits ⟨_, Nat.or_lt_two_pow (n := 8) a.isLt b.isLt⟩, show gg (a.val &&& b.val) = bits8 (a.val &&& b.val) from gg_bits ⟨_, Nat.lt_of_le_of_lt Nat.and_le_left a.isLt⟩]
  exact bits8_split _ _
theorem byte_or (x y k : Nat) : (x ||| y) / 2 ^ k % 2 ^ 8 = (x / 2 ^ k % 2 ^ 8) ||| (y / 2 ^ k % 2 ^ 8) := by
  refine Nat.eq_of_testBit_eq fun i => ?_
  simp only [Nat.testBit_or, Nat.testBit_mod_two_pow, Nat.testBit_div_two_pow]
  by_cases h : i < 8 <;> simp [h]
theorem byte_and (x y k : Nat) : (x &&& y) / 2 ^ k % 2 ^ 8 = (x / 2 ^ k % 2 ^ 8) &&& (y / 2 ^ k % 2 ^ 8) := by
  refine Nat.eq_of_testBit_eq fun i => ?_
  simp only [Nat.testBit_and, Nat.testBit_mod_two_pow, Nat.testBit_div_two_pow]
  by_cases h : i < 8 <;> simp [h]
theorem pop_or_and (x y : Nat) : pop (x ||| y) + pop (x &&& y) = pop x + pop y := by
  have k : ∀ j, gg ((x ||| y) / 2 ^ j % 2 ^ 8) + gg ((x &&& y) / 2 ^ j % 2 ^ 8) = gg (x / 2 ^ j % 2 ^ 8) + gg (y / 2 ^ j % 2 ^ 8) := fun j => by
    rw [byte_or, byte_and]
    exact gg_split ⟨x / 2 ^ j % 2 ^ 8, Nat.mod_lt _ (by decide)⟩ ⟨y / 2 ^ j % 2 ^ 8, Nat.mod_lt _ (by decide)⟩
  have k0 := k 0
  have k1 := k 8
  have k2 := k 16
  have k3 := k 24
  have k4 := k 32
  have k5 := k 40
  have k6 := k 48
  have k7 := k 56
  simp only [pop, bytes, List.map_cons, List.map_nil, sumL]
  simp only [show (2:Nat) ^ 0 = 1 from rfl, Nat.div_one, show (2:Nat) ^ 8 = 256 from rfl, show (2:Nat) ^ 16 = 65536 from rfl, show (2:Nat) ^ 24 = 16777216 from rfl, show (2:Nat) ^ 32 = 4294967296 from rfl, show (2:Nat) ^ 40 = 1099511627776 from rfl, show (2:Nat) ^ 48 = 281474976710656 from rfl, show (2:Nat) ^ 56 = 72057594037927936 from rfl] at k0 k1 k2 k3 k4 k5 k6 k7
  omega
theorem pop_le (x : Nat) : pop x ≤ 64 := by
  have k : ∀ y, gg (y % 256) ≤ 8 := fun y => gg_le ⟨y % 256, Nat.mod_lt _ (by decide)⟩
  simp only [pop, bytes, List.map_cons, List.map_nil, sumL]
  have := k x; have := k (x / 256); have := k (x / 65536); have := k (x / 16777216); have := k (x / 4294967296); have := k (x / 1099511627776); have := k (x / 281474976710656); have := k (x / 72057594037927936)
  omega
end Go.Pop

namespace Go.Bits
open Go.Can
def addU (a b : Int) : Int := IntKind.u64.wrap (a + b)
def s1I (x : Int) : Int := addU (andI (x.fdiv (2 ^ 1)) 6148914691236517205) (andI x 6148914691236517205)
def s2I (x : Int) : Int := addU (andI (x.fdiv (2 ^ 2)) 3689348814741910323) (andI x 3689348814741910323)
def s3I (x : Int) : Int := andI (addU (x.fdiv (2 ^ 4)) x) 1085102592571150095
def s4I (x : Int) : Int := addU x (x.fdiv (2 ^ 8))
def s5I (x : Int) : Int := addU x (x.fdiv (2 ^ 16))
def s6I (x : Int) : Int := addU x (x.fdiv (2 ^ 32))
def s7I (x : Int) : Int := IntKind.i64.wrap ((BitVec.ofInt 64 (IntKind.i64.wrap x) &&& BitVec.ofInt 64 127).toNat : Int)
def popI (x : Int) : Int := s7I (s6I (s5I (s4I (s3I (s2I (s1I x))))))
def lenV (l : List Int) : Int := l.foldl (fun n x => IntKind.i64.wrap (n + popI x)) 0

theorem u64_nat {n : Nat} (h : n < 18446744073709551616) : IntKind.u64.wrap (n : Int) = (n : Int) := by
  show (n : Int) % 18446744073709551616 = n
  omega
theorem i64_eq (x : Int) : IntKind.i64.wrap x = if x % 18446744073709551616 ≥ 9223372036854775808 then x % 18446744073709551616 - 18446744073709551616 else x % 18446744073709551616 := by
  simp [IntKind.wrap, IntKind.signed, IntKind.bits]
theorem i64_nat {n : Nat} (h : n < 9223372036854775808) : IntKind.i64.wrap (n : Int) = (n : Int) := by
  rw [i64_eq]; split <;> omega
theorem ofInt_nat {n : Nat} (h : n < 18446744073709551616) : (BitVec.ofInt 64 (n : Int)).toNat = n := by
  rw [BitVec.toNat_ofInt]; omega
theorem andI_nat {a b : Nat} (ha : a < 18446744073709551616) (hb : b < 18446744073709551616) : andI (a : Int) (b : Int) = ((a &&& b : Nat) : Int) := by
  rw [andI, BitVec.toNat_and, ofInt_nat ha, ofInt_nat hb]
  exact u64_nat (Nat.lt_of_le_of_lt Nat.and_le_left ha)
theorem shr_nat (n k : Nat) : (n : Int).fdiv (2 ^ k) = ((n / 2 ^ k : Nat) : Int) := by
  rw [Int.fdiv_eq_ediv_of_nonneg _ (Int.pow_nonneg (by decide))]
  rw [show (2 : Int) ^ k = ((2 ^ k : Nat) : Int) by simp]
  exact (Int.natCast_ediv _ _).symm
theorem c1_lt (n : Nat) : Pop.c1 n < 18446744073709551616 := by
  unfold Pop.c1
  have h1 := @Nat.and_le_right (n / 2) 6148914691236517205
  have h2 := @Nat.and_le_right n 6148914691236517205
  omega
theorem c2_lt (n : Nat) : Pop.c2 n < 18446744073709551616 := by
  unfold Pop.c2
  have h1 := @Nat.and_le_right (n / 4) 3689348814741910323
  have h2 := @Nat.and_le_right n 3689348814741910323
  omega
theorem s1_nat {n : Nat} (h : n < 18446744073709551616) : s1I (n : Int) = (Pop.c1 n : Int) := by
  have hl := c1_lt n
  rw [s1I, shr_nat, show (6148914691236517205 : Int) = ((6148914691236517205 : Nat) : Int) from rfl, andI_nat (by omega) (by decide), andI_nat h (by decide), addU, ← Int.natCast_add]
  exact u64_nat hl
theorem s2_nat {n : Nat} (h : n < 18446744073709551616) : s2I (n : Int) = (Pop.c2 n : Int) := by
  have hl := c2_lt n
  rw [s2I, shr_nat, show (3689348814741910323 : Int) = ((3689348814741910323 : Nat) : Int) from rfl, andI_nat (by omega) (by decide), andI_nat h (by decide), addU, ← Int.natCast_add]
  exact u64_nat hl
theorem s3_nat {n : Nat} (h : n / 16 + n < 18446744073709551616) : s3I (n : Int) = (Pop.c3 n : Int) := by
  rw [s3I, shr_nat, addU, ← Int.natCast_add, u64_nat h, show (1085102592571150095 : Int) = ((1085102592571150095 : Nat) : Int) from rfl, andI_nat h (by decide)]
  rfl
theorem s4_nat {n : Nat} (h : Pop.c4 n < 18446744073709551616) : s4I (n : Int) = (Pop.c4 n : Int) := by
  rw [s4I, shr_nat, addU, ← Int.natCast_add]; exact u64_nat h
theorem s5_nat {n : Nat} (h : Pop.c5 n < 18446744073709551616) : s5I (n : Int) = (Pop.c5 n : Int) := by
  rw [s5I, shr_nat, addU, ← Int.natCast_add]; exact u64_nat h
theorem s6_nat {n : Nat} (h : Pop.c6 n < 18446744073709551616) : s6I (n : Int) = (Pop.c6 n : Int) := by
  rw [s6I, shr_nat, addU, ← Int.natCast_add]; exact u64_nat h
theorem s7_nat {n : Nat} (h : n < 18446744073709551616) : s7I (n : Int) = ((n % 128 : Nat) : Int) := by
  have hw : (BitVec.ofInt 64 (IntKind.i64.wrap (n : Int))).toNat = n := by
    rw [BitVec.toNat_ofInt, i64_eq]; split <;> omega
  rw [s7I, BitVec.toNat_and, hw, show (BitVec.ofInt 64 127).toNat = 2 ^ 7 - 1 from rfl, Nat.and_two_pow_sub_one_eq_mod]
  exact i64_nat (by omega)
/-- bytes of fours -/
theorem c2_le (n : Nat) : Pop.c2 n / 16 + Pop.c2 n < 18446744073709551616 := by
  unfold Pop.c2
  have h1 := @Nat.and_le_right (n / 4) 3689348814741910323
  have h2 := @Nat.and_le_right n 3689348814741910323
  omega
theorem popI_nat {n : Nat} (h : n < 18446744073709551616) : popI (n : Int) = (Pop.pop n : Int) := by
  obtain ⟨q4, q5, q6, q7⟩ := Pop.sum_pop h
  rw [popI, s1_nat h, s2_nat (c1_lt _), s3_nat (c2_le _), s4_nat q4, s5_nat q5, s6_nat q6, s7_nat q6, q7]
theorem popI_toI (x : W) : popI (toI x) = (Pop.pop x.toNat : Int) := popI_nat x.isLt
def popR (l : List W) : Nat := Pop.sumL (l.map fun x => Pop.pop x.toNat)
theorem lenV_from : ∀ (l : List W) (n : Nat), n + 64 * l.length < 9223372036854775808 → (rowI l).foldl (fun n x => IntKind.i64.wrap (n + popI x)) (n : Int) = ((n + popR l : Nat) : Int)
  | [], n, _ => rfl
  | x :: l, n, h => by
    have hp := Pop.pop_le x.toNat
    simp only [List.length_cons] at h
    have ih := lenV_from l (n + Pop.pop x.toNat) (by omega)
    simp only [rowI, List.map_cons, List.foldl_cons, popI_toI, ← Int.natCast_add] at ih ⊢
    rw [i64_nat (by omega), ih]
    simp only [popR, List.map_cons, Pop.sumL]
    congr 1
    omega
theorem lenV_eq {l : List W} (h : l.length = 16) : lenV (rowI l) = (popR l : Int) := by
  have := lenV_from l 0 (by omega)
  rw [Nat.zero_add] at this
  exact this
theorem popR_le : ∀ l : List W, popR l ≤ 64 * l.length
  | [] => Nat.le_refl _
  | x :: l => by
    have := popR_le l
    have := Pop.pop_le x.toNat
    simp only [popR, List.map_cons, Pop.sumL, List.length_cons] at *
    omega
theorem popR_or_and : ∀ p q : List W, p.length = q.length → popR (orR p q) + popR (andR p q) = popR p + popR q
  | [], [], _ => rfl
  | a :: p, b :: q, h => by
    have ih := popR_or_and p q (by simpa using h)
    have := Pop.pop_or_and a.toNat b.toNat
    simp only [popR, orR, andR, List.zipWith_cons_cons, List.map_cons, Pop.sumL, BitVec.toNat_or, BitVec.toNat_and] at ih this ⊢
    omega
  | [], _ :: _, h => by cases h
  | _ :: _, [], h => by cases h
/-- the laws of the algebra, row by row -/
theorem rows3 {f g : W → W → W → W} (h : ∀ a b c, f a b c = g a b c) : ∀ p q r : List W, p.length = q.length → q.length = r.length → (p.zip (q.zip r)).map (fun t => f t.1 t.2.1 t.2.2) = (p.zip (q.zip r)).map (fun t => g t.1 t.2.1 t.2.2) := by
  intro p q r _ _
  exact List.map_congr_left fun t _ => h _ _ _
theorem and_comm_row : ∀ p q : List W, andR p q = andR q p
  | [], q => by cases q <;> rfl
  | _ :: _, [] => rfl
  | a :: p, b :: q => by simp only [andR, List.zipWith_cons_cons]; rw [show List.zipWith (· &&& ·) p q = _ from and_comm_row p q, BitVec.and_comm]; rfl
theorem or_comm_row : ∀ p q : List W, orR p q = orR q p
  | [], q => by cases q <;> rfl
  | _ :: _, [] => rfl
  | a :: p, b :: q => by simp only [orR, List.zipWith_cons_cons]; rw [show List.zipWith (· ||| ·) p q = _ from or_comm_row p q, BitVec.or_comm]; rfl
theorem sub_or_row : ∀ p q r : List W, p.length = q.length → q.length = r.length → subR p (orR q r) = andR (subR p q) (subR p r)
  | [], _, _, _, _ => rfl
  | a :: p, b :: q, c :: r, h1, h2 => by
    have ih := sub_or_row p q r (by simpa using h1) (by simpa using h2)
    simp only [subR, orR, andR, List.zipWith_cons_cons, List.cons.injEq] at ih ⊢
    refine ⟨?_, ih⟩
    ext i hi
    simp only [BitVec.getElem_and, BitVec.getElem_not, BitVec.getElem_or]
    cases a[i] <;> cases b[i] <;> cases c[i] <;> rfl
  | _ :: _, [], _, h, _ => by cases h
  | _ :: _, _ :: _, [], _, h => by cases h
theorem and_or_row : ∀ p q r : List W, p.length = q.length → q.length = r.length → andR p (orR q r) = orR (andR p q) (andR p r)
  | [], _, _, _, _ => rfl
  | a :: p, b :: q, c :: r, h1, h2 => by
    have ih := and_or_row p q r (by simpa using h1) (by simpa using h2)
    simp only [orR, andR, List.zipWith_cons_cons, List.cons.injEq] at ih ⊢
    refine ⟨?_, ih⟩
    ext i hi
    simp only [BitVec.getElem_and, BitVec.getElem_or]
    cases a[i] <;> cases b[i] <;> cases c[i] <;> rfl
  | _ :: _, [], _, h, _ => by cases h
  | _ :: _, _ :: _, [], _, h => by cases h
theorem split_row : ∀ p q : List W, p.length = q.length → orR (subR p q) (andR p q) = p
  | [], _, _ => rfl
  | a :: p, b :: q, h => by
    have ih := split_row p q (by simpa using h)
    simp only [subR, orR, andR, List.zipWith_cons_cons, List.cons.injEq] at ih ⊢
    refine ⟨?_, ih⟩
    ext i hi
    simp only [BitVec.getElem_and, BitVec.getElem_not, BitVec.getElem_or]
    cases a[i] <;> cases b[i] <;> rfl
  | _ :: _, [], h => by cases h
theorem sub_zero_iff : ∀ p q : List W, p.length = q.length → (subR p q = p.map (fun _ => 0) ↔ andR p q = p)
  | [], [], _ => by simp [subR, andR]
  | a :: p, b :: q, h => by
    have ih := sub_zero_iff p q (by simpa using h)
    simp only [subR, andR, List.zipWith_cons_cons, List.map_cons, List.cons.injEq] at ih ⊢
    rw [ih]
    refine and_congr_left' ⟨fun h => ?_, fun h => ?_⟩
    · ext i hi
      have := congrArg (fun x : W => x.getLsbD i) h
      simp only [BitVec.getLsbD_and, BitVec.getLsbD_not] at this
      simp only [← BitVec.getLsbD_eq_getElem]
      cases ha : a.getLsbD i <;> cases hb : b.getLsbD i <;> simp_all
    · ext i hi
      have := congrArg (fun x : W => x.getLsbD i) h
      simp only [BitVec.getLsbD_and] at this
      simp only [← BitVec.getLsbD_eq_getElem]
      cases ha : a.getLsbD i <;> cases hb : b.getLsbD i <;> simp_all
  | [], _ :: _, h => by cases h
  | _ :: _, [], h => by cases h
theorem sub_self_row : ∀ p : List W, subR p p = p.map fun _ => 0
  | [] => rfl
  | a :: p => by
    have ih := sub_self_row p
    simp only [subR, List.zipWith_cons_cons, List.map_cons, List.cons.injEq] at ih ⊢
    exact ⟨by simp, ih⟩
theorem orI_row : ∀ p q : List W, List.zipWith orI (rowI p) (rowI q) = rowI (orR p q)
  | [], _ => rfl
  | _ :: _, [] => rfl
  | a :: p, b :: q => by
    have ih := orI_row p q
    simp only [rowI, orR, List.map_cons, List.zipWith_cons_cons, orI_eq] at ih ⊢
    rw [ih]
theorem andI_row : ∀ p q : List W, List.zipWith andI (rowI p) (rowI q) = rowI (andR p q)
  | [], _ => rfl
  | _ :: _, [] => rfl
  | a :: p, b :: q => by
    have ih := andI_row p q
    simp only [rowI, andR, List.map_cons, List.zipWith_cons_cons, andI_eq] at ih ⊢
    rw [ih]
theorem subI_row : ∀ p q : List W, List.zipWith subI (rowI p) (rowI q) = rowI (subR p q)
  | [], _ => rfl
  | _ :: _, [] => rfl
  | a :: p, b :: q => by
    have ih := subI_row p q
    simp only [rowI, subR, List.map_cons, List.zipWith_cons_cons, subI_eq] at ih ⊢
    rw [ih]
theorem orR_len {p q : List W} (h : p.length = q.length) : (orR p q).length = p.length := by simp [orR, h]
theorem andR_len {p q : List W} (h : p.length = q.length) : (andR p q).length = p.length := by simp [andR, h]
theorem subR_len {p q : List W} (h : p.length = q.length) : (subR p q).length = p.length := by simp [subR, h]
theorem rowB_rows {p q : List W} (h : p.length = q.length) : rowB (rowI p) (rowI q) = true ↔ p = q := by
  rw [rowB_iff (by rw [rowI_len, rowI_len, h]), rowI_inj]
/-- what the algebra of sets keeps -/
structure AFacts (a b c z : List Int) : Prop where
  e20 : rowB (List.zipWith subI a (List.zipWith orI b c)) (List.zipWith andI (List.zipWith subI a b) (List.zipWith subI a c)) = true
  e34 : rowB (List.zipWith andI a (List.zipWith orI b c)) (List.zipWith orI (List.zipWith andI a b) (List.zipWith andI a c)) = true
  e45 : rowB (List.zipWith orI (List.zipWith subI a b) (List.zipWith andI a b)) a = true
  e61 : (IntKind.i64.wrap (lenV (List.zipWith orI a b) + lenV (List.zipWith andI a b)) != IntKind.i64.wrap (lenV a + lenV b)) = false
  es : rowB (List.zipWith andI a b) a = rowB (List.zipWith subI a b) z
  e96 : rowB (List.zipWith andI a b) (List.zipWith andI b a) = true
  e105 : rowB (List.zipWith orI a b) (List.zipWith orI b a) = true
  eab : rowB b a = rowB a b
  same : rowB a a = true
  e121 : rowB (List.zipWith subI a a) z = true
  imp : rowB a b = true → rowB (List.zipWith subI a b) z = true
theorem afacts {p q r : List W} (h1 : p.length = q.length) (h2 : q.length = r.length) (h3 : p.length = 16) : AFacts (rowI p) (rowI q) (rowI r) (rowI (p.map fun _ => 0)) := by
  have hq : q.length = 16 := h1 ▸ h3
  have hr : p.length = r.length := h1.trans h2
  have hz : ∀ l : List W, l.length = p.length → l.length = (p.map fun _ => (0 : W)).length := fun l h => by simpa using h
  refine ⟨?_, ?_, ?_, ?_, ?_, ?_, ?_, ?_, (rowB_rows rfl).2 rfl, ?_, fun h => ?_⟩
  · rw [orI_row, subI_row, subI_row, subI_row, andI_row, sub_or_row p q r h1 h2]; exact (rowB_rows rfl).2 rfl
  · rw [orI_row, andI_row, andI_row, andI_row, orI_row, and_or_row p q r h1 h2]; exact (rowB_rows rfl).2 rfl
  · rw [subI_row, andI_row, orI_row, split_row p q h1]; exact (rowB_rows rfl).2 rfl
  · rw [orI_row, andI_row, lenV_eq (by rw [orR_len h1, h3]), lenV_eq (by rw [andR_len h1, h3]), lenV_eq h3, lenV_eq hq, ← Int.natCast_add, ← Int.natCast_add, popR_or_and p q h1]
    exact bne_self_eq_false _
  · rw [andI_row, subI_row, Bool.eq_iff_iff, rowB_rows (andR_len h1), rowB_rows (hz _ (subR_len h1)), sub_zero_iff p q h1]
  · rw [andI_row, andI_row, and_comm_row p q]; exact (rowB_rows rfl).2 rfl
  · rw [orI_row, orI_row, or_comm_row p q]; exact (rowB_rows rfl).2 rfl
  · rw [Bool.eq_iff_iff, rowB_rows h1.symm, rowB_rows h1]; exact eq_comm
  · rw [subI_row, sub_self_row]; exact (rowB_rows rfl).2 rfl
  · rw [rowB_rows h1] at h
    subst h
    rw [subI_row, sub_self_row]; exact (rowB_rows rfl).2 rfl
end Go.Bits

namespace Go.Bits
open Go.SetL Go.Pop
def cnt (f : Nat → Bool) (k : Nat) : Nat := ((List.range k).filter f).length
theorem cnt_zero (f : Nat → Bool) : cnt f 0 = 0 := rfl
theorem cnt_succ (f : Nat → Bool) (k : Nat) : cnt f (k + 1) = cnt f k + (f k).toNat := by
  unfold cnt; rw [List.range_succ, List.filter_append, List.length_append]
  cases h : f k <;> simp [h]
theorem cnt_add (f : Nat → Bool) (a : Nat) : ∀ b, cnt f (a + b) = cnt f a + cnt (fun i => f (a + i)) b
  | 0 => by simp [cnt_zero]
  | b + 1 => by rw [← Nat.add_assoc, cnt_succ, cnt_succ, cnt_add f a b]; omega
theorem cnt_congr {f g : Nat → Bool} {k : Nat} (h : ∀ i, i < k → f i = g i) : cnt f k = cnt g k := by
  unfold cnt; rw [List.filter_congr fun i hi => h i (List.mem_range.1 hi)]
theorem cnt_byte (X s : Nat) : cnt (fun i => X.testBit (s + i)) 8 = gg (X / 2 ^ s % 256) := by
  rw [gg_bits ⟨X / 2 ^ s % 256, Nat.mod_lt _ (by decide)⟩]
  have e : ∀ j, (X.testBit (s + j)).toNat = X / 2 ^ s / 2 ^ j % 2 := fun j => by rw [Nat.toNat_testBit, Nat.pow_add, Nat.div_div_eq_div_mul]
  show cnt _ (0 + 1 + 1 + 1 + 1 + 1 + 1 + 1 + 1) = _
  simp only [cnt_succ, cnt_zero, e, bits8]
  generalize X / 2 ^ s = Y
  simp only [show (2 : Nat) ^ 0 = 1 from rfl, show (2 : Nat) ^ (0 + 1) = 2 from rfl, show (2 : Nat) ^ (0 + 1 + 1) = 4 from rfl, show (2 : Nat) ^ (0 + 1 + 1 + 1) = 8 from rfl, show (2 : Nat) ^ (0 + 1 + 1 + 1 + 1) = 16 from rfl, show (2 : Nat) ^ (0 + 1 + 1 + 1 + 1 + 1) = 32 from rfl, show (2 : Nat) ^ (0 + 1 + 1 + 1 + 1 + 1 + 1) = 64 from rfl, show (2 : Nat) ^ (0 + 1 + 1 + 1 + 1 + 1 + 1 + 1) = 128 from rfl]
  omega
theorem cnt_word (x : W) : cnt (fun i => x.getLsbD i) 64 = pop x.toNat := by
  have e : ∀ s, cnt (fun i => x.getLsbD (s + i)) 8 = gg (x.toNat / 2 ^ s % 256) := fun s => cnt_byte x.toNat s
  have e0 := e 0; have e1 := e 8; have e2 := e 16; have e3 := e 24; have e4 := e 32; have e5 := e 40; have e6 := e 48; have e7 := e 56
  have a0 := cnt_add (fun i => x.getLsbD i) 0 8
  have a1 := cnt_add (fun i => x.getLsbD i) 8 8
  have a2 := cnt_add (fun i => x.getLsbD i) 16 8
  have a3 := cnt_add (fun i => x.getLsbD i) 24 8
  have a4 := cnt_add (fun i => x.getLsbD i) 32 8
  have a5 := cnt_add (fun i => x.getLsbD i) 40 8
  have a6 := cnt_add (fun i => x.getLsbD i) 48 8
  have a7 := cnt_add (fun i => x.getLsbD i) 56 8
  rw [cnt_zero] at a0
  simp only [e0, e1, e2, e3, e4, e5, e6, e7, Nat.reduceAdd] at a0 a1 a2 a3 a4 a5 a6 a7
  simp only [Nat.reducePow, Nat.div_one] at a0 a1 a2 a3 a4 a5 a6 a7
  simp only [pop, Pop.bytes, List.map_cons, List.map_nil, sumL]
  omega
theorem sumL_append : ∀ a b : List Nat, sumL (a ++ b) = sumL a + sumL b
  | [], b => by simp [sumL]
  | x :: a, b => by simp only [List.cons_append, sumL, sumL_append a b]; omega
theorem cnt_row (xs : List W) : ∀ k, k ≤ xs.length → cnt (bitAt xs) (64 * k) = popR (xs.take k)
  | 0, _ => rfl
  | k + 1, h => by
    have hk : k < xs.length := h
    have e : cnt (fun i => bitAt xs (64 * k + i)) 64 = pop (xs[k]).toNat := by
      rw [← cnt_word]
      refine cnt_congr fun i hi => ?_
      unfold bitAt
      rw [show (64 * k + i) / 64 = k by omega, show (64 * k + i) % 64 = i by omega, List.getD_eq_getElem?_getD, List.getElem?_eq_getElem hk, Option.getD_some]
    rw [show 64 * (k + 1) = 64 * k + 64 by omega, cnt_add, cnt_row xs k (by omega), e, List.take_add_one, List.getElem?_eq_getElem hk]
    unfold popR
    rw [List.map_append, sumL_append]
    simp [sumL]
theorem popR_elems {xs : List W} (hx : xs.length = 16) : popR xs = (elems xs).length := by
  have := cnt_row xs 16 (by omega)
  rw [List.take_of_length_le (by omega)] at this
  rw [← this]
  unfold elems ofP cnt
  rw [List.length_map]
end Go.Bits
