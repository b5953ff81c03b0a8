/-
  The number of ones, as the program computes it: the sum over the bytes; over a union and an intersection it is that of the two sets.
-/
import Derived.Test.YtjneboajbmabbaaDoorPop
import Derived.Test.YtjneboajbmabbaaDoorBitMath
set_option linter.unusedSimpArgs false
set_option linter.unusedVariables false
namespace Go.Bits
open Go.Can
def addU (a b : Int) : Int := IntKind.u64.wrap (a + b)
def s1I (x : Int) : Int := addU (andI (x.fdiv (2 ^ 1)) 6148914691236517205) (andI x 6148914691236517205)
def s2I (x : Int) : Int := addU (andI (x.fdiv (2 ^ 2)) 3689348814741910323) (andI x 3689348814741910323)
def s3I (x : Int) : Int := andI (addU (x.fdiv (2 ^ 4)) x) 1085102592571150095
def s4I (x : Int) : Int := addU x (x.fdiv (2 ^ 8))
def s5I (x : Int) : Int := addU x (x.fdiv (2 ^ 16))
def s6I (x : Int) : Int := addU x (x.fdiv (2 ^ 32))
def s7I (x : Int) : Int := IntKind.i64.wrap ((BitVec.ofInt 64 (IntKind.i64.wrap x) &&& BitVec.ofInt 64 127).toNat : Int)
def popI (x : Int) : Int := s7I (s6I (s5I (s4I (s3I (s2I (s1I x))))))
def lenV (l : List Int) : Int := l.foldl (fun n x => IntKind.i64.wrap (n + popI x)) 0

theorem u64_nat {n : Nat} (h : n < 18446744073709551616) : IntKind.u64.wrap (n : Int) = (n : Int) := by
  show (n : Int) % 18446744073709551616 = n
  omega
theorem i64_eq (x : Int) : IntKind.i64.wrap x = if x % 18446744073709551616 ≥ 9223372036854775808 then x % 18446744073709551616 - 18446744073709551616 else x % 18446744073709551616 := by
  simp [IntKind.wrap, IntKind.signed, IntKind.bits]
theorem i64_nat {n : Nat} (h : n < 9223372036854775808) : IntKind.i64.wrap (n : Int) = (n : Int) := by
  rw [i64_eq]; split <;> omega
theorem ofInt_nat {n : Nat} (h : n < 18446744073709551616) : (BitVec.ofInt 64 (n : Int)).toNat = n := by
  rw [BitVec.toNat_ofInt]; omega
theorem andI_nat {a b : Nat} (ha : a < 18446744073709551616) (hb : b < 18446744073709551616) : andI (a : Int) (b : Int) = ((a &&& b : Nat) : Int) := by
  rw [andI, BitVec.toNat_and, ofInt_nat ha, ofInt_nat hb]
  exact u64_nat (Nat.lt_of_le_of_lt Nat.and_le_left ha)
theorem shr_nat (n k : Nat) : (n : Int).fdiv (2 ^ k) = ((n / 2 ^ k : Nat) : Int) := by
  rw [Int.fdiv_eq_ediv_of_nonneg _ (Int.pow_nonneg (by decide))]
  rw [show (2 : Int) ^ k = ((2 ^ k : Nat) : Int) by simp]
  exact (Int.natCast_ediv _ _).symm
theorem c1_lt (n : Nat) : Pop.c1 n < 18446744073709551616 := by
  unfold Pop.c1
  have h1 := @Nat.and_le_right (n / 2) 6148914691236517205
  have h2 := @Nat.and_le_right n 6148914691236517205
  omega
theorem c2_lt (n : Nat) : Pop.c2 n < 18446744073709551616 := by
  unfold Pop.c2
  have h1 := @Nat.and_le_right (n / 4) 3689348814741910323
  have h2 := @Nat.and_le_right n 3689348814741910323
  omega
theorem s1_nat {n : Nat} (h : n < 18446744073709551616) : s1I (n : Int) = (Pop.c1 n : Int) := by
  have hl := c1_lt n
  rw [s1I, shr_nat, show (6148914691236517205 : Int) = ((6148914691236517205 : Nat) : Int) from rfl, andI_nat (by omega) (by decide), andI_nat h (by decide), addU, ← Int.natCast_add]
  exact u64_nat hl
theorem s2_nat {n : Nat} (h : n < 18446744073709551616) : s2I (n : Int) = (Pop.c2 n : Int) := by
  have hl := c2_lt n
  rw [s2I, shr_nat, show (3689348814741910323 : Int) = ((3689348814741910323 : Nat) : Int) from rfl, andI_nat (by omega) (by decide), andI_nat h (by decide), addU, ← Int.natCast_add]
  exact u64_nat hl
theorem s3_nat {n : Nat} (h : n / 16 + n < 18446744073709551616) : s3I (n : Int) = (Pop.c3 n : Int) := by
  rw [s3I, shr_nat, addU, ← Int.natCast_add, u64_nat h, show (1085102592571150095 : Int) = ((1085102592571150095 : Nat) : Int) from rfl, andI_nat h (by decide)]
  rfl
theorem s4_nat {n : Nat} (h : Pop.c4 n < 18446744073709551616) : s4I (n : Int) = (Pop.c4 n : Int) := by
  rw [s4I, shr_nat, addU, ← Int.natCast_add]; exact u64_nat h
theorem s5_nat {n : Nat} (h : Pop.c5 n < 18446744073709551616) : s5I (n : Int) = (Pop.c5 n : Int) := by
  rw [s5I, shr_nat, addU, ← Int.natCast_add]; exact u64_nat h
theorem s6_nat {n : Nat} (h : Pop.c6 n < 18446744073709551616) : s6I (n : Int) = (Pop.c6 n : Int) := by
  rw [s6I, shr_nat, addU, ← Int.natCast_add]; exact u64_nat h
theorem s7_nat {n : Nat} (h : n < 18446744073709551616) : s7I (n : Int) = ((n % 128 : Nat) : Int) := by
  have hw : (BitVec.ofInt 64 (IntKind.i64.wrap (n : Int))).toNat = n := by
    rw [BitVec.toNat_ofInt, i64_eq]; split <;> omega
  rw [s7I, BitVec.toNat_and, hw, show (BitVec.ofInt 64 127).toNat = 2 ^ 7 - 1 from rfl, Nat.and_two_pow_sub_one_eq_mod]
  exact i64_nat (by omega)
/-- bytes of fours -/
theorem c2_le (n : Nat) : Pop.c2 n / 16 + Pop.c2 n < 18446744073709551616 := by
  unfold Pop.c2
  have h1 := @Nat.and_le_right (n / 4) 3689348814741910323
  have h2 := @Nat.and_le_right n 3689348814741910323
  omega
theorem popI_nat {n : Nat} (h : n < 18446744073709551616) : popI (n : Int) = (Pop.pop n : Int) := by
  obtain ⟨q4, q5, q6, q7⟩ := Pop.sum_pop h
  rw [popI, s1_nat h, s2_nat (c1_lt _), s3_nat (c2_le _), s4_nat q4, s5_nat q5, s6_nat q6, s7_nat q6, q7]
theorem popI_toI (x : W) : popI (toI x) = (Pop.pop x.toNat : Int) := popI_nat x.isLt
def popR (l : List W) : Nat := Pop.sumL (l.map fun x => Pop.pop x.toNat)
theorem lenV_from : ∀ (l : List W) (n : Nat), n + 64 * l.length < 9223372036854775808 → (rowI l).foldl (fun n x => IntKind.i64.wrap (n + popI x)) (n : Int) = ((n + popR l : Nat) : Int)
  | [], n, _ => rfl
  | x :: l, n, h => by
    have hp := Pop.pop_le x.toNat
    simp only [List.length_cons] at h
    have ih := lenV_from l (n + Pop.pop x.toNat) (by omega)
    simp only [rowI, List.map_cons, List.foldl_cons, popI_toI, ← Int.natCast_add] at ih ⊢
    rw [i64_nat (by omega), ih]
    simp only [popR, List.map_cons, Pop.sumL]
    congr 1
    omega
theorem lenV_eq {l : List W} (h : l.length = 16) : lenV (rowI l) = (popR l : Int) := by
  have := lenV_from l 0 (by omega)
  rw [Nat.zero_add] at this
  exact this
theorem popR_le : ∀ l : List W, popR l ≤ 64 * l.length
  | [] => Nat.le_refl _
  | x :: l => by
    have := popR_le l
    have := Pop.pop_le x.toNat
    simp only [popR, List.map_cons, Pop.sumL, List.length_cons] at *
    omega
theorem popR_or_and : ∀ p q : List W, p.length = q.length → popR (orR p q) + popR (andR p q) = popR p + popR q
  | [], [], _ => rfl
  | a :: p, b :: q, h => by
    have ih := popR_or_and p q (by simpa using h)
    have := Pop.pop_or_and a.toNat b.toNat
    simp only [popR, orR, andR, List.zipWith_cons_cons, List.map_cons, Pop.sumL, BitVec.toNat_or, BitVec.toNat_and] at ih this ⊢
    omega
  | [], _ :: _, h => by cases h
  | _ :: _, [], h => by cases h
/-- the laws of the algebra, row by row -/
theorem rows3 {f g : W → W → W → W} (h : ∀ a b c, f a b c = g a b c) : ∀ p q r : List W, p.length = q.length → q.length = r.length → (p.zip (q.zip r)).map (fun t => f t.1 t.2.1 t.2.2) = (p.zip (q.zip r)).map (fun t => g t.1 t.2.1 t.2.2) := by
  intro p q r _ _
  exact List.map_congr_left fun t _ => h _ _ _
theorem and_comm_row : ∀ p q : List W, andR p q = andR q p
  | [], q => by cases q <;> rfl
  | _ :: _, [] => rfl
  | a :: p, b :: q => by simp only [andR, List.zipWith_cons_cons]; rw [show List.zipWith (· &&& ·) p q = _ from and_comm_row p q, BitVec.and_comm]; rfl
theorem or_comm_row : ∀ p q : List W, orR p q = orR q p
  | [], q => by cases q <;> rfl
  | _ :: _, [] => rfl
  | a :: p, b :: q => by simp only [orR, List.zipWith_cons_cons]; rw [show List.zipWith (· ||| ·) p q = _ from or_comm_row p q, BitVec.or_comm]; rfl
theorem sub_or_row : ∀ p q r : List W, p.length = q.length → q.length = r.length → subR p (orR q r) = andR (subR p q) (subR p r)
  | [], _, _, _, _ => rfl
  | a :: p, b :: q, c :: r, h1, h2 => by
    have ih := sub_or_row p q r (by simpa using h1) (by simpa using h2)
    simp only [subR, orR, andR, List.zipWith_cons_cons, List.cons.injEq] at ih ⊢
    refine ⟨?_, ih⟩
    ext i hi
    simp only [BitVec.getElem_and, BitVec.getElem_not, BitVec.getElem_or]
    cases a[i] <;> cases b[i] <;> cases c[i] <;> rfl
  | _ :: _, [], _, h, _ => by cases h
  | _ :: _, _ :: _, [], _, h => by cases h
theorem and_or_row : ∀ p q r : List W, p.length = q.length → q.length = r.length → andR p (orR q r) = orR (andR p q) (andR p r)
  | [], _, _, _, _ => rfl
  | a :: p, b :: q, c :: r, h1, h2 => by
    have ih := and_or_row p q r (by simpa using h1) (by simpa using h2)
    simp only [orR, andR, List.zipWith_cons_cons, List.cons.injEq] at ih ⊢
    refine ⟨?_, ih⟩
    ext i hi
    simp only [BitVec.getElem_and, BitVec.getElem_or]
    cases a[i] <;> cases b[i] <;> cases c[i] <;> rfl
  | _ :: _, [], _, h, _ => by cases h
  | _ :: _, _ :: _, [], _, h => by cases h
theorem split_row : ∀ p q : List W, p.length = q.length → orR (subR p q) (andR p q) = p
  | [], _, _ => rfl
  | a :: p, b :: q, h => by
    have ih := split_row p q (by simpa using h)
    simp only [subR, orR, andR, List.zipWith_cons_cons, List.cons.injEq] at ih ⊢
    refine ⟨?_, ih⟩
    ext i hi
    simp only [BitVec.getElem_and, BitVec.getElem_not, BitVec.getElem_or]
    cases a[i] <;> cases b[i] <;> rfl
  | _ :: _, [], h => by cases h
theorem sub_zero_iff : ∀ p q : List W, p.length = q.length → (subR p q = p.map (fun _ => 0) ↔ andR p q = p)
  | [], [], _ => by simp [subR, andR]
  | a :: p, b :: q, h => by
    have ih := sub_zero_iff p q (by simpa using h)
    simp only [subR, andR, List.zipWith_cons_cons, List.map_cons, List.cons.injEq] at ih ⊢
    rw [ih]
    refine and_congr_left' ⟨fun h => ?_, fun h => ?_⟩
    · ext i hi
      have := congrArg (fun x : W => x.getLsbD i) h
      simp only [BitVec.getLsbD_and, BitVec.getLsbD_not] at this
      simp only [← BitVec.getLsbD_eq_getElem]
      cases ha : a.getLsbD i <;> cases hb : b.getLsbD i <;> simp_all
    · ext i hi
      have := congrArg (fun x : W => x.getLsbD i) h
      simp only [BitVec.getLsbD_and] at this
      simp only [← BitVec.getLsbD_eq_getElem]
      cases ha : a.getLsbD i <;> cases hb : b.getLsbD i <;> simp_all
  | [], _ :: _, h => by cases h
  | _ :: _, [], h => by cases h
theorem sub_self_row : ∀ p : List W, subR p p = p.map fun _ => 0
  | [] => rfl
  | a :: p => by
    have ih := sub_self_row p
    simp only [subR, List.zipWith_cons_cons, List.map_cons, List.cons.injEq] at ih ⊢
    exact ⟨by simp, ih⟩
theorem orI_row : ∀ p q : List W, List.zipWith orI (rowI p) (rowI q) = rowI (orR p q)
  | [], _ => rfl
  | _ :: _, [] => rfl
  | a :: p, b :: q => by
    have ih := orI_row p q
    simp only [rowI, orR, List.map_cons, List.zipWith_cons_cons, orI_eq] at ih ⊢
    rw [ih]
theorem andI_row : ∀ p q : List W, List.zipWith andI (rowI p) (rowI q) = rowI (andR p q)
  | [], _ => rfl
  | _ :: _, [] => rfl
  | a :: p, b :: q => by
    have ih := andI_row p q
    simp only [rowI, andR, List.map_cons, List.zipWith_cons_cons, andI_eq] at ih ⊢
    rw [ih]
theorem subI_row : ∀ p q : List W, List.zipWith subI (rowI p) (rowI q) = rowI (subR p q)
  | [], _ => rfl
  | _ :: _, [] => rfl
  | a :: p, b :: q => by
    have ih := subI_row p q
    simp only [rowI, subR, List.map_cons, List.zipWith_cons_cons, subI_eq] at ih ⊢
    rw [ih]
theorem orR_len {p q : List W} (h : p.length = q.length) : (orR p q).length = p.length := by simp [orR, h]
theorem andR_len {p q : List W} (h : p.length = q.length) : (andR p q).length = p.length := by simp [andR, h]
theorem subR_len {p q : List W} (h : p.length = q.length) : (subR p q).length = p.length := by simp [subR, h]
theorem rowB_rows {p q : List W} (h : p.length = q.length) : rowB (rowI p) (rowI q) = true ↔ p = q := by
  rw [rowB_iff (by rw [rowI_len, rowI_len, h]), rowI_inj]
/-- what the algebra of sets keeps -/
structure AFacts (a b c z : List Int) : Prop where
  e20 : rowB (List.zipWith subI a (List.zipWith orI b c)) (List.zipWith andI (List.zipWith subI a b) (List.zipWith subI a c)) = true
  e34 : rowB (List.zipWith andI a (List.zipWith orI b c)) (List.zipWith orI (List.zipWith andI a b) (List.zipWith andI a c)) = true
  e45 : rowB (List.zipWith orI (List.zipWith subI a b) (List.zipWith andI a b)) a = true
  e61 : (IntKind.i64.wrap (lenV (List.zipWith orI a b) + lenV (List.zipWith andI a b)) != IntKind.i64.wrap (lenV a + lenV b)) = false
  es : rowB (List.zipWith andI a b) a = rowB (List.zipWith subI a b) z
  e96 : rowB (List.zipWith andI a b) (List.zipWith andI b a) = true
  e105 : rowB (List.zipWith orI a b) (List.zipWith orI b a) = true
  eab : rowB b a = rowB a b
  same : rowB a a = true
  e121 : rowB (List.zipWith subI a a) z = true
  imp : rowB a b = true → rowB (List.zipWith subI a b) z = true
theorem afacts {p q r : List W} (h1 : p.length = q.length) (h2 : q.length = r.length) (h3 : p.length = 16) : AFacts (rowI p) (rowI q) (rowI r) (rowI (p.map fun _ => 0)) := by
  have hq : q.length = 16 := h1 ▸ h3
  have hr : p.length = r.length := h1.trans h2
  have hz : ∀ l : List W, l.length = p.length → l.length = (p.map fun _ => (0 : W)).length := fun l h => by simpa using h
  refine ⟨?_, ?_, ?_, ?_, ?_, ?_, ?_, ?_, (rowB_rows rfl).2 rfl, ?_, fun h => ?_⟩
  · rw [orI_row, subI_row, subI_row, subI_row, andI_row, sub_or_row p q r h1 h2]; exact (rowB_rows rfl).2 rfl
  · rw [orI_row, andI_row, andI_row, andI_row, orI_row, and_or_row p q r h1 h2]; exact (rowB_rows rfl).2 rfl
  · rw [subI_row, andI_row, orI_row, split_row p q h1]; exact (rowB_rows rfl).2 rfl
  · rw [orI_row, andI_row, lenV_eq (by rw [orR_len h1, h3]), lenV_eq (by rw [andR_len h1, h3]), lenV_eq h3, lenV_eq hq, ← Int.natCast_add, ← Int.natCast_add, popR_or_and p q h1]
    exact bne_self_eq_false _
  · rw [andI_row, subI_row, Bool.eq_iff_iff, rowB_rows (andR_len h1), rowB_rows (hz _ (subR_len h1)), sub_zero_iff p q h1]
  · rw [andI_row, andI_row, and_comm_row p q]; exact (rowB_rows rfl).2 rfl
  · rw [orI_row, orI_row, or_comm_row p q]; exact (rowB_rows rfl).2 rfl
  · rw [Bool.eq_iff_iff, rowB_rows h1.symm, rowB_rows h1]; exact eq_comm
  · rw [subI_row, sub_self_row]; exact (rowB_rows rfl).2 rfl
  · rw [rowB_rows h1] at h
    subst h
    rw [subI_row, sub_self_row]; exact (rowB_rows rfl).2 rfl
end Go.Bits
