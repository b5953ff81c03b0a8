/-
  Rows of 64-bit words: their order, their union, intersection and difference.
-/
import Derived.Test.YtjneboajbmabbaaDoorCanAF
set_option linter.unusedSimpArgs false
set_option linter.unusedVariables false
namespace Go.Bits
open Go.Can
/-- words as integers -/
def orI (a b : Int) : Int := IntKind.u64.wrap ((BitVec.ofInt 64 a ||| BitVec.ofInt 64 b).toNat : Int)
def andI (a b : Int) : Int := IntKind.u64.wrap ((BitVec.ofInt 64 a &&& BitVec.ofInt 64 b).toNat : Int)
def subI (a b : Int) : Int := IntKind.u64.wrap ((BitVec.ofInt 64 a &&& ~~~BitVec.ofInt 64 b).toNat : Int)
abbrev W := BitVec 64
def toI (x : W) : Int := (x.toNat : Int)
theorem wrap_toI (x : W) : IntKind.u64.wrap (x.toNat : Int) = toI x := by
  have h : (x.toNat : Int) % 18446744073709551616 = (x.toNat : Int) := Int.emod_eq_of_lt (by omega) (by have := x.isLt; omega)
  exact h
theorem ofInt_toI (x : W) : BitVec.ofInt 64 (toI x) = x := by
  apply BitVec.eq_of_toNat_eq
  rw [toI, BitVec.toNat_ofInt]
  have := x.isLt
  omega
theorem orI_eq (a b : W) : orI (toI a) (toI b) = toI (a ||| b) := by rw [orI, ofInt_toI, ofInt_toI, wrap_toI]
theorem andI_eq (a b : W) : andI (toI a) (toI b) = toI (a &&& b) := by rw [andI, ofInt_toI, ofInt_toI, wrap_toI]
theorem subI_eq (a b : W) : subI (toI a) (toI b) = toI (a &&& ~~~b) := by rw [subI, ofInt_toI, ofInt_toI, wrap_toI]
theorem toI_of {a : Int} (h : IntKind.u64.has a) : ∃ x : W, a = toI x := by
  refine ⟨BitVec.ofInt 64 a, ?_⟩
  have h0 : 0 ≤ a := h.1
  have h1 : a < 18446744073709551616 := Int.lt_of_le_of_lt h.2 (by decide)
  rw [toI, BitVec.toNat_ofInt]
  omega
theorem toI_inj {x y : W} : toI x = toI y ↔ x = y := ⟨fun h => BitVec.eq_of_toNat_eq (by unfold toI at h; omega), fun h => by rw [h]⟩

/-- the order of two lists of pairs, the most significant first -/
def cmpT : List (Int × Int) → Int
  | [] => 0
  | p :: l => if p.1 < p.2 then -1 else if p.2 < p.1 then 1 else cmpT l
def cmpV (as bs : List Int) : Int := cmpT (as.zip bs).reverse
def rowI (l : List W) : List Int := l.map toI
/-- two lists, word by word, the most significant first -/
def swap : Int × Int → Int × Int := fun p => (p.2, p.1)
theorem cmpT_range : ∀ l, cmpT l = -1 ∨ cmpT l = 0 ∨ cmpT l = 1
  | [] => .inr (.inl rfl)
  | p :: l => by
    unfold cmpT
    split
    · exact .inl rfl
    · split
      · exact .inr (.inr rfl)
      · exact cmpT_range l
theorem cmpT_swap : ∀ l, cmpT (l.map swap) = - cmpT l
  | [] => rfl
  | p :: l => by
    simp only [List.map_cons, cmpT, swap]
    have ih := cmpT_swap l
    by_cases h1 : p.1 < p.2
    · rw [if_neg (by omega), if_pos h1, if_pos h1]; rfl
    · by_cases h2 : p.2 < p.1
      · rw [if_pos h2, if_neg h1, if_pos h2]
      · rw [if_neg h2, if_neg h1, if_neg h1, if_neg h2]; exact ih
theorem cmpV_swap (as bs : List Int) : cmpV bs as = - cmpV as bs := by
  unfold cmpV
  rw [← cmpT_swap, List.map_reverse]
  congr 2
  induction as generalizing bs with
  | nil => cases bs <;> rfl
  | cons a as ih => cases bs with
    | nil => rfl
    | cons b bs => simp [swap, ih]
/-- all pairs are alike -/
theorem cmpT_zero : ∀ {l : List (Int × Int)}, cmpT l = 0 ↔ ∀ p ∈ l, p.1 = p.2
  | [] => by simp [cmpT]
  | p :: l => by
    have ih := cmpT_zero (l := l)
    simp only [cmpT, List.mem_cons, forall_eq_or_imp]
    by_cases h1 : p.1 < p.2
    · simp only [h1, if_true]; constructor
      · intro h; omega
      · rintro ⟨h, _⟩; omega
    · by_cases h2 : p.2 < p.1
      · simp only [h1, h2, if_true, if_false]; constructor
        · intro h; omega
        · rintro ⟨h, _⟩; omega
      · simp only [h1, h2, if_false, ih]; constructor
        · exact fun h => ⟨by omega, h⟩
        · exact fun h => h.2
/-- each first is no greater -/
theorem cmpT_le : ∀ {l : List (Int × Int)}, (∀ p ∈ l, p.1 ≤ p.2) → cmpT l ≤ 0
  | [], _ => by simp [cmpT]
  | p :: l, h => by
    have h0 := h p (by simp)
    have ih := cmpT_le (l := l) fun q hq => h q (by simp [hq])
    simp only [cmpT]
    split
    · omega
    · rw [if_neg (by omega)]; exact ih
theorem cmpT_ge {l : List (Int × Int)} (h : ∀ p ∈ l, p.2 ≤ p.1) : 0 ≤ cmpT l := by
  have : cmpT (l.map swap) ≤ 0 := cmpT_le fun p hp => by
    obtain ⟨q, hq, rfl⟩ := List.mem_map.1 hp
    exact h q hq
  rw [cmpT_swap] at this
  omega
/-- triples: the order is transitive -/
theorem cmpT_trans : ∀ l : List (Int × Int × Int), cmpT (l.map fun t => (t.1, t.2.1)) ≤ 0 → cmpT (l.map fun t => (t.2.1, t.2.2)) ≤ 0 → cmpT (l.map fun t => (t.1, t.2.2)) ≤ 0
  | [], _, _ => by simp [cmpT]
  | t :: l, h1, h2 => by
    have ih := cmpT_trans l
    simp only [List.map_cons, cmpT] at h1 h2 ⊢
    by_cases a1 : t.1 < t.2.1
    · by_cases b1 : t.2.1 < t.2.2
      · rw [if_pos (by omega)]; decide
      · rw [if_neg b1] at h2
        by_cases b2 : t.2.2 < t.2.1
        · rw [if_pos b2] at h2; omega
        · rw [if_pos (by omega)]; decide
    · rw [if_neg a1] at h1
      by_cases a2 : t.2.1 < t.1
      · rw [if_pos a2] at h1; omega
      · rw [if_neg a2] at h1
        by_cases b1 : t.2.1 < t.2.2
        · rw [if_pos (by omega)]; decide
        · rw [if_neg b1] at h2
          by_cases b2 : t.2.2 < t.2.1
          · rw [if_pos b2] at h2; omega
          · rw [if_neg b2] at h2
            rw [if_neg (by omega), if_neg (by omega)]
            exact ih h1 h2
theorem zips : ∀ (as bs cs : List Int), as.length = bs.length → bs.length = cs.length →
    (as.zip (bs.zip cs)).map (fun t => (t.1, t.2.1)) = as.zip bs ∧ (as.zip (bs.zip cs)).map (fun t => (t.2.1, t.2.2)) = bs.zip cs ∧ (as.zip (bs.zip cs)).map (fun t => (t.1, t.2.2)) = as.zip cs
  | [], [], [], _, _ => ⟨rfl, rfl, rfl⟩
  | a :: as, b :: bs, c :: cs, h1, h2 => by
    obtain ⟨q1, q2, q3⟩ := zips as bs cs (by simpa using h1) (by simpa using h2)
    simp [q1, q2, q3]
  | [], _ :: _, _, h, _ => by cases h
  | _ :: _, [], _, h, _ => by cases h
  | [], [], _ :: _, _, h => by cases h
  | _ :: _, _ :: _, [], _, h => by cases h
theorem cmpV_trans {as bs cs : List Int} (h1 : as.length = bs.length) (h2 : bs.length = cs.length) (h3 : cmpV as bs ≤ 0) (h4 : cmpV bs cs ≤ 0) : cmpV as cs ≤ 0 := by
  obtain ⟨q1, q2, q3⟩ := zips as bs cs h1 h2
  unfold cmpV at *
  rw [← q1, ← List.map_reverse] at h3
  rw [← q2, ← List.map_reverse] at h4
  rw [← q3, ← List.map_reverse]
  exact cmpT_trans _ h3 h4
theorem cmpV_range (as bs : List Int) : cmpV as bs = -1 ∨ cmpV as bs = 0 ∨ cmpV as bs = 1 := cmpT_range _
theorem rowB_iff : ∀ {as bs : List Int}, as.length = bs.length → (rowB as bs = true ↔ as = bs)
  | [], [], _ => by simp [rowB]
  | a :: as, b :: bs, h => by
    have ih := rowB_iff (as := as) (bs := bs) (by simpa using h)
    simp [rowB, ih]
  | [], _ :: _, h => by cases h
  | _ :: _, [], h => by cases h
theorem zip_same : ∀ {as bs : List Int}, as.length = bs.length → ((∀ p ∈ as.zip bs, p.1 = p.2) ↔ as = bs)
  | [], [], _ => by simp
  | a :: as, b :: bs, h => by
    have ih := zip_same (as := as) (bs := bs) (by simpa using h)
    simp only [List.zip_cons_cons, List.mem_cons, forall_eq_or_imp, ih, List.cons.injEq]
  | [], _ :: _, h => by cases h
  | _ :: _, [], h => by cases h
theorem cmpV_zero {as bs : List Int} (h : as.length = bs.length) : cmpV as bs = 0 ↔ as = bs := by
  unfold cmpV
  rw [cmpT_zero, ← zip_same h]
  simp
/-- rows of words -/
def orR (as bs : List W) : List W := List.zipWith (· ||| ·) as bs
def andR (as bs : List W) : List W := List.zipWith (· &&& ·) as bs
def subR (as bs : List W) : List W := List.zipWith (fun a b => a &&& ~~~b) as bs
theorem or_ge (a b : W) : toI a ≤ toI (a ||| b) := by
  have := @Nat.left_le_or a.toNat b.toNat
  simp only [toI, BitVec.toNat_or]; omega
theorem and_le (a b : W) : toI (a &&& b) ≤ toI a := by
  have := @Nat.and_le_left a.toNat b.toNat
  simp only [toI, BitVec.toNat_and]; omega
theorem or_row : ∀ (as bs : List W), ∀ p ∈ (rowI (orR as bs)).zip (rowI as), p.2 ≤ p.1
  | [], _, p, h => by simp [rowI] at h
  | _ :: _, [], p, h => by simp [rowI, orR] at h
  | a :: as, b :: bs, p, h => by
    simp only [rowI, orR, List.zipWith_cons_cons, List.map_cons, List.zip_cons_cons, List.mem_cons] at h
    rcases h with rfl | h
    · exact or_ge a b
    · exact or_row as bs p h
theorem and_row : ∀ (as bs : List W), ∀ p ∈ (rowI (andR as bs)).zip (rowI as), p.1 ≤ p.2
  | [], _, p, h => by simp [rowI] at h
  | _ :: _, [], p, h => by simp [rowI, andR] at h
  | a :: as, b :: bs, p, h => by
    simp only [rowI, andR, List.zipWith_cons_cons, List.map_cons, List.zip_cons_cons, List.mem_cons] at h
    rcases h with rfl | h
    · exact and_le a b
    · exact and_row as bs p h
theorem cmp_or (as bs : List W) : 0 ≤ cmpV (rowI (orR as bs)) (rowI as) := cmpT_ge fun p hp => or_row as bs p (List.mem_reverse.1 hp)
theorem cmp_and (as bs : List W) : cmpV (rowI (andR as bs)) (rowI as) ≤ 0 := cmpT_le fun p hp => and_row as bs p (List.mem_reverse.1 hp)
theorem rowI_inj {as bs : List W} : rowI as = rowI bs ↔ as = bs := ⟨fun h => (List.map_inj_right fun x y => (toI_inj).1).1 h, fun h => by rw [h]⟩
theorem rowI_len (as : List W) : (rowI as).length = as.length := by simp [rowI]
theorem or_same_sub : ∀ {as bs : List W}, as.length = bs.length → (orR as bs = as ↔ subR bs as = bs.map fun _ => 0)
  | [], [], _ => by simp [orR, subR]
  | a :: as, b :: bs, h => by
    have ih := or_same_sub (as := as) (bs := bs) (by simpa using h)
    simp only [orR, subR, List.zipWith_cons_cons, List.map_cons, List.cons.injEq] at ih ⊢
    rw [ih]
    refine and_congr_left' ⟨fun h => ?_, fun h => ?_⟩
    · ext i hi
      have := congrArg (fun x : W => x.getLsbD i) h
      simp only [BitVec.getLsbD_or] at this
      simp only [← BitVec.getLsbD_eq_getElem]
      cases ha : a.getLsbD i <;> cases hb : b.getLsbD i <;> simp_all
    · ext i hi
      have := congrArg (fun x : W => x.getLsbD i) h
      simp only [BitVec.getLsbD_and, BitVec.getLsbD_not] at this
      simp only [← BitVec.getLsbD_eq_getElem]
      cases ha : a.getLsbD i <;> cases hb : b.getLsbD i <;> simp_all
  | [], _ :: _, h => by cases h
  | _ :: _, [], h => by cases h
end Go.Bits
