/-
  Sets of numbers below 1024 as sorted lists: the operations of the reference on lists that come of a test.
-/
import Derived.ProofKit
set_option linter.unusedSimpArgs false
set_option linter.unusedVariables false
namespace Go.SetL
theorem ext_sorted : ∀ {l m : List Int}, l.Pairwise (· < ·) → m.Pairwise (· < ·) → (∀ x, x ∈ l ↔ x ∈ m) → l = m
  | [], [], _, _, _ => rfl
  | [], b :: m, _, _, h => absurd ((h b).2 (by simp)) (by simp)
  | a :: l, [], _, _, h => absurd ((h a).1 (by simp)) (by simp)
  | a :: l, b :: m, hl, hm, h => by
    obtain ⟨ha, hl'⟩ := List.pairwise_cons.1 hl
    obtain ⟨hb, hm'⟩ := List.pairwise_cons.1 hm
    have e : a = b := by
      rcases List.mem_cons.1 ((h a).1 (by simp)) with e | e
      · exact e
      · rcases List.mem_cons.1 ((h b).2 (by simp)) with e' | e'
        · exact e'.symm
        · have := ha b e'; have := hb a e; omega
    subst e
    rw [ext_sorted hl' hm' fun x => ⟨fun hx => ?_, fun hx => ?_⟩]
    · rcases List.mem_cons.1 ((h x).1 (List.mem_cons_of_mem _ hx)) with e | e
      · subst e; exact absurd (ha x hx) (by omega)
      · exact e
    · rcases List.mem_cons.1 ((h x).2 (List.mem_cons_of_mem _ hx)) with e | e
      · subst e; exact absurd (hb x hx) (by omega)
      · exact e
/-- the numbers below 1024 that pass a test -/
def ofP (p : Nat → Bool) : List Int := ((List.range 1024).filter p).map Int.ofNat
/-- the first k numbers' -/
def ofN (p : Nat → Bool) (k : Nat) : List Int := ((List.range k).filter p).map Int.ofNat
theorem ofN_zero (p : Nat → Bool) : ofN p 0 = [] := rfl
theorem ofN_yes {p : Nat → Bool} {k : Nat} (h : p k = true) : ofN p (k + 1) = ofN p k ++ [(k : Int)] := by
  unfold ofN; rw [List.range_succ, List.filter_append, List.map_append]; simp [h]
theorem ofN_no {p : Nat → Bool} {k : Nat} (h : p k = false) : ofN p (k + 1) = ofN p k := by
  unfold ofN; rw [List.range_succ, List.filter_append, List.map_append]; simp [h]
theorem ofN_len (p : Nat → Bool) (k : Nat) : (ofN p k).length ≤ k := by
  unfold ofN; rw [List.length_map]; exact Nat.le_trans (List.length_filter_le _ _) (by simp)
theorem ofP_len (p : Nat → Bool) : (ofP p).length ≤ 1024 := ofN_len p 1024
theorem mem_ofN {p : Nat → Bool} {k : Nat} {x : Int} : x ∈ ofN p k ↔ ∃ i : Nat, x = i ∧ i < k ∧ p i = true := by
  unfold ofN
  simp only [List.mem_map, List.mem_filter, List.mem_range]
  constructor
  · rintro ⟨i, ⟨h1, h2⟩, rfl⟩; exact ⟨i, rfl, h1, h2⟩
  · rintro ⟨i, rfl, h1, h2⟩; exact ⟨i, ⟨h1, h2⟩, rfl⟩
theorem mem_ofP {p : Nat → Bool} {x : Int} : x ∈ ofP p ↔ ∃ i : Nat, x = i ∧ i < 1024 ∧ p i = true := mem_ofN
theorem sorted_ofN (p : Nat → Bool) (k : Nat) : (ofN p k).Pairwise (· < ·) := by
  unfold ofN
  refine List.Pairwise.map _ (fun a b h => ?_) (List.Pairwise.filter _ List.pairwise_lt_range)
  exact Int.ofNat_lt.2 h
theorem sorted_ofP (p : Nat → Bool) : (ofP p).Pairwise (· < ·) := sorted_ofN p 1024
theorem ofP_congr {p q : Nat → Bool} (h : ∀ i, i < 1024 → p i = q i) : ofP p = ofP q := by
  unfold ofP
  rw [List.filter_congr fun i hi => h i (List.mem_range.1 hi)]
theorem ofP_inj {p q : Nat → Bool} (h : ofP p = ofP q) : ∀ i, i < 1024 → p i = q i := by
  intro i hi
  have := congrArg (fun l => (i : Int) ∈ l) h
  simp only [mem_ofP, eq_iff_iff] at this
  rw [Bool.eq_iff_iff]
  constructor
  · intro hp; obtain ⟨j, e, _, h⟩ := this.1 ⟨i, rfl, hi, hp⟩; obtain rfl : i = j := by omega
    exact h
  · intro hp; obtain ⟨j, e, _, h⟩ := this.2 ⟨i, rfl, hi, hp⟩; obtain rfl : i = j := by omega
    exact h

/-- insertion, element by element: what is there so far, and whether n is in -/
def insStep (n : Int) (s : List Int × Bool) (x : Int) : List Int × Bool := if s.2 = false ∧ n < x then (s.1 ++ [n] ++ [x], true) else (s.1 ++ [x], s.2)
def insF (n : Int) (l : List Int) : List Int × Bool := l.foldl (insStep n) ([], false)
def insL (n : Int) (l : List Int) : List Int := if (insF n l).2 = false then (insF n l).1 ++ [n] else (insF n l).1
def withL (l : List Int) (n : Int) : List Int := if n < 0 ∨ 1023 < n ∨ n ∈ l then l else insL n l
def withoutL (l : List Int) (n : Int) : List Int := l.filter fun x => x != n
def andL (a b : List Int) : List Int := a.filter fun x => b.contains x
def minusL (a b : List Int) : List Int := a.filter fun x => !b.contains x
def orL (a b : List Int) : List Int := b.foldl withL a
def ofL (l : List Int) : List Int := l.foldl withL []
theorem insF_snoc (n : Int) (l : List Int) (x : Int) : insF n (l ++ [x]) = insStep n (insF n l) x := by unfold insF; rw [List.foldl_append]; rfl
theorem snoc_ind {P : List Int → Prop} (h0 : P []) (h1 : ∀ l x, P l → P (l ++ [x])) (l : List Int) : P l := by
  have : ∀ m : List Int, P m.reverse := fun m => by
    induction m with
    | nil => exact h0
    | cons a m ih => rw [List.reverse_cons]; exact h1 _ _ ih
  simpa using this l.reverse
theorem insF_len (n : Int) (l : List Int) : (insF n l).1.length = l.length + (insF n l).2.toNat := by
  refine snoc_ind (P := fun l => (insF n l).1.length = l.length + (insF n l).2.toNat) rfl (fun l x ih => ?_) l
  rw [insF_snoc, insStep]
  split
  · rename_i h; rw [h.1] at ih; simp at ih ⊢; omega
  · simp; omega
/-- the same from the front -/
def ins (n : Int) : List Int → List Int
  | [] => [n]
  | x :: l => if n < x then n :: x :: l else x :: ins n l
theorem insF_true (n : Int) : ∀ (l o : List Int), l.foldl (insStep n) (o, true) = (o ++ l, true)
  | [], o => by simp
  | x :: l, o => by
    rw [List.foldl_cons, show insStep n (o, true) x = (o ++ [x], true) by simp [insStep], insF_true n l]
    simp
theorem insF_false (n : Int) : ∀ (l o : List Int), (if (l.foldl (insStep n) (o, false)).2 = false then (l.foldl (insStep n) (o, false)).1 ++ [n] else (l.foldl (insStep n) (o, false)).1) = o ++ ins n l
  | [], o => by simp [ins]
  | x :: l, o => by
    rw [List.foldl_cons]
    by_cases h : n < x
    · rw [show insStep n (o, false) x = (o ++ [n] ++ [x], true) by simp [insStep, h], insF_true]
      simp [ins, h]
    · rw [show insStep n (o, false) x = (o ++ [x], false) by simp [insStep, h], insF_false n l]
      simp [ins, h]
theorem insL_eq (n : Int) (l : List Int) : insL n l = ins n l := by
  exact (insF_false n l []).trans (by simp)
theorem mem_ins {n x : Int} : ∀ {l : List Int}, x ∈ ins n l ↔ x = n ∨ x ∈ l
  | [] => by simp [ins]
  | a :: l => by
    unfold ins
    split
    · simp
    · simp only [List.mem_cons, mem_ins (l := l)]
      constructor
      · rintro (h | h | h) <;> simp [h]
      · rintro (h | h | h) <;> simp [h]
theorem sorted_ins {n : Int} : ∀ {l : List Int}, l.Pairwise (· < ·) → n ∉ l → (ins n l).Pairwise (· < ·)
  | [], _, _ => by simp [ins]
  | a :: l, h, hn => by
    obtain ⟨ha, hl⟩ := List.pairwise_cons.1 h
    simp only [List.mem_cons, not_or] at hn
    unfold ins
    split
    · rename_i hlt
      refine List.pairwise_cons.2 ⟨fun y hy => ?_, h⟩
      rcases List.mem_cons.1 hy with rfl | hy
      · exact hlt
      · have := ha y hy; omega
    · refine List.pairwise_cons.2 ⟨fun y hy => ?_, sorted_ins hl hn.2⟩
      rcases mem_ins.1 hy with rfl | hy
      · omega
      · exact ha y hy
theorem mem_withL {l : List Int} {n x : Int} : x ∈ withL l n ↔ x ∈ l ∨ (x = n ∧ 0 ≤ n ∧ n < 1024) := by
  unfold withL
  split
  · rename_i h
    constructor
    · exact .inl
    · rintro (h' | ⟨rfl, h1, h2⟩)
      · exact h'
      · rcases h with h | h | h
        · omega
        · omega
        · exact h
  · rename_i h
    rw [insL_eq, mem_ins]
    constructor
    · rintro (rfl | h')
      · exact .inr ⟨rfl, by omega, by omega⟩
      · exact .inl h'
    · rintro (h' | ⟨rfl, _⟩) <;> simp [*]
theorem sorted_withL {l : List Int} {n : Int} (h : l.Pairwise (· < ·)) : (withL l n).Pairwise (· < ·) := by
  unfold withL
  split
  · exact h
  · rename_i hn
    rw [insL_eq]
    exact sorted_ins h (fun hm => hn (.inr (.inr hm)))
theorem withL_ofP (p : Nat → Bool) (n : Int) : withL (ofP p) n = ofP (fun i => p i || (i : Int) == n) := by
  refine ext_sorted (sorted_withL (sorted_ofP p)) (sorted_ofP _) fun x => ?_
  simp only [mem_withL, mem_ofP, Bool.or_eq_true, beq_iff_eq]
  constructor
  · rintro (⟨i, rfl, h1, h2⟩ | ⟨rfl, h1, h2⟩)
    · exact ⟨i, rfl, h1, .inl h2⟩
    · exact ⟨x.toNat, by omega, by omega, .inr (by omega)⟩
  · rintro ⟨i, rfl, h1, h2 | rfl⟩
    · exact .inl ⟨i, rfl, h1, h2⟩
    · exact .inr ⟨rfl, by omega, by omega⟩
theorem withoutL_ofP (p : Nat → Bool) (n : Int) : withoutL (ofP p) n = ofP (fun i => p i && (i : Int) != n) := by
  refine ext_sorted ((sorted_ofP p).filter _) (sorted_ofP _) fun x => ?_
  simp only [withoutL, List.mem_filter, mem_ofP, Bool.and_eq_true]
  constructor
  · rintro ⟨⟨i, rfl, h1, h2⟩, h3⟩; exact ⟨i, rfl, h1, h2, h3⟩
  · rintro ⟨i, rfl, h1, h2, h3⟩; exact ⟨⟨i, rfl, h1, h2⟩, h3⟩
theorem contains_ofP (p : Nat → Bool) (i : Nat) (h : i < 1024) : (ofP p).contains (i : Int) = p i := by
  rw [Bool.eq_iff_iff, List.contains_iff_mem, mem_ofP]
  constructor
  · rintro ⟨j, e, _, h⟩; obtain rfl : i = j := by omega
    exact h
  · exact fun hp => ⟨i, rfl, h, hp⟩
theorem andL_ofP (p q : Nat → Bool) : andL (ofP p) (ofP q) = ofP (fun i => p i && q i) := by
  refine ext_sorted ((sorted_ofP p).filter _) (sorted_ofP _) fun x => ?_
  simp only [andL, List.mem_filter, mem_ofP, Bool.and_eq_true]
  constructor
  · rintro ⟨⟨i, rfl, h1, h2⟩, h3⟩; rw [contains_ofP q i h1] at h3; exact ⟨i, rfl, h1, h2, h3⟩
  · rintro ⟨i, rfl, h1, h2, h3⟩; exact ⟨⟨i, rfl, h1, h2⟩, by rw [contains_ofP q i h1]; exact h3⟩
theorem minusL_ofP (p q : Nat → Bool) : minusL (ofP p) (ofP q) = ofP (fun i => p i && !q i) := by
  refine ext_sorted ((sorted_ofP p).filter _) (sorted_ofP _) fun x => ?_
  simp only [minusL, List.mem_filter, mem_ofP, Bool.and_eq_true]
  constructor
  · rintro ⟨⟨i, rfl, h1, h2⟩, h3⟩; rw [contains_ofP q i h1] at h3; exact ⟨i, rfl, h1, h2, h3⟩
  · rintro ⟨i, rfl, h1, h2, h3⟩; exact ⟨⟨i, rfl, h1, h2⟩, by rw [contains_ofP q i h1]; exact h3⟩
theorem foldl_with : ∀ {l a : List Int} {x : Int}, x ∈ l.foldl withL a ↔ x ∈ a ∨ (x ∈ l ∧ 0 ≤ x ∧ x < 1024)
  | [], a, x => by simp
  | b :: l, a, x => by
    rw [List.foldl_cons, foldl_with (l := l), mem_withL, List.mem_cons]
    constructor
    · rintro ((h | ⟨rfl, h⟩) | ⟨h1, h2⟩) <;> simp [*]
    · rintro (h | ⟨rfl | h1, h2⟩) <;> simp [*]
theorem foldl_sorted : ∀ {l a : List Int}, a.Pairwise (· < ·) → (l.foldl withL a).Pairwise (· < ·)
  | [], _, h => h
  | _ :: l, _, h => by rw [List.foldl_cons]; exact foldl_sorted (l := l) (sorted_withL h)
theorem orL_ofP (p q : Nat → Bool) : orL (ofP p) (ofP q) = ofP (fun i => p i || q i) := by
  refine ext_sorted (foldl_sorted (sorted_ofP p)) (sorted_ofP _) fun x => ?_
  simp only [orL, foldl_with, mem_ofP, Bool.or_eq_true]
  constructor
  · rintro (⟨i, rfl, h1, h2⟩ | ⟨⟨i, rfl, h1, h2⟩, _⟩)
    · exact ⟨i, rfl, h1, .inl h2⟩
    · exact ⟨i, rfl, h1, .inr h2⟩
  · rintro ⟨i, rfl, h1, h2 | h2⟩
    · exact .inl ⟨i, rfl, h1, h2⟩
    · exact .inr ⟨⟨i, rfl, h1, h2⟩, by omega, by omega⟩
theorem minusL_nil (p q : Nat → Bool) : minusL (ofP p) (ofP q) = [] ↔ ∀ i, i < 1024 → p i = true → q i = true := by
  rw [minusL_ofP, List.eq_nil_iff_forall_not_mem]
  simp only [mem_ofP, Bool.and_eq_true]
  constructor
  · intro h i hi hp
    cases hq : q i
    · exact absurd ⟨i, rfl, hi, hp, by rw [hq]; rfl⟩ (h i)
    · rfl
  · rintro h x ⟨i, rfl, hi, hp, hq⟩
    rw [h i hi hp] at hq; cases hq
/-- the order of lists, the largest element first -/
def cmpR : List Int → List Int → Int
  | [], [] => 0
  | _ :: _, [] => 1
  | [], _ :: _ => -1
  | x :: l, y :: m => if y < x then 1 else if x < y then -1 else cmpR l m
def cmpL (a b : List Int) : Int := cmpR a.reverse b.reverse
theorem cmpR_zero : ∀ {a b : List Int}, cmpR a b = 0 ↔ a = b
  | [], [] => by simp [cmpR]
  | _ :: _, [] => by simp [cmpR]
  | [], _ :: _ => by simp [cmpR]
  | x :: l, y :: m => by
    unfold cmpR
    split
    · simp; omega
    · split
      · simp; omega
      · rw [cmpR_zero (a := l)]
        simp; omega
theorem cmpL_zero {a b : List Int} : cmpL a b = 0 ↔ a = b := by unfold cmpL; rw [cmpR_zero, List.reverse_inj]
theorem cmpL_step {a b : List Int} {i k : Nat} {x y : Int} (hx : a[i]? = some x) (hy : b[k]? = some y) : cmpL (a.take (i + 1)) (b.take (k + 1)) = if y < x then 1 else if x < y then -1 else cmpL (a.take i) (b.take k) := by
  unfold cmpL
  rw [List.take_add_one, List.take_add_one, hx, hy]
  simp [cmpR]
theorem cmpL_left {a : List Int} {i : Nat} (h : i < a.length) : cmpL (a.take (i + 1)) [] = 1 := by
  unfold cmpL
  rw [show a.take (i + 1) = a.take i ++ [a[i]] by rw [List.take_add_one, List.getElem?_eq_getElem h]; rfl, List.reverse_append]
  rfl
theorem cmpL_right {b : List Int} {k : Nat} (h : k < b.length) : cmpL [] (b.take (k + 1)) = -1 := by
  unfold cmpL
  rw [show b.take (k + 1) = b.take k ++ [b[k]] by rw [List.take_add_one, List.getElem?_eq_getElem h]; rfl, List.reverse_append]
  rfl
theorem take_snoc' {l : List Int} {k : Nat} (h : k < l.length) : l.take (k + 1) = l.take k ++ [l.getD k 0] := by
  rw [List.take_add_one, List.getElem?_eq_getElem h, List.getD_eq_getElem?_getD, List.getElem?_eq_getElem h]; rfl
end Go.SetL
