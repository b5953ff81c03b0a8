/-
  Rows of 64-bit words as sets of numbers.
-/
import Derived.Test.YtjneboajbmabbaaDoorBitMath
import Derived.Test.YtjneboajbmabbaaDoorSetMath
set_option linter.unusedSimpArgs false
set_option linter.unusedVariables false
namespace Go.Bits
open Go.SetL
/-- is i in the row? -/
def bitAt (xs : List W) (i : Nat) : Bool := (xs.getD (i / 64) 0).getLsbD (i % 64)
/-- the row's numbers -/
def elems (xs : List W) : List Int := ofP (bitAt xs)
/-- the row as the program holds it -/
def rowW (xs : List W) : Array Value := (xs.map fun x => Value.int .u64 (toI x)).toArray
theorem rowW_size (xs : List W) : (rowW xs).size = xs.length := by simp [rowW]
theorem rowW_at {xs : List W} {k : Nat} (h : k < xs.length) : (rowW xs)[k]? = some (.int .u64 (toI (xs.getD k 0))) := by
  unfold rowW; simp [h]
theorem toI_nonneg (x : W) : 0 ≤ toI x := by unfold toI; omega
theorem toI_lt (x : W) : toI x < 18446744073709551616 := by unfold toI; have := x.isLt; omega
/-- (x >> s) & 1 -/
theorem shr_and (x : W) (s : Nat) : andI ((toI x).fdiv (2 ^ s)) 1 = if x.getLsbD s then 1 else 0 := by
  have e : (toI x).fdiv (2 ^ s) = toI (x >>> s) := by
    unfold toI
    rw [BitVec.toNat_ushiftRight, Nat.shiftRight_eq_div_pow, Int.fdiv_eq_ediv_of_nonneg _ (by exact Int.pow_nonneg (by decide))]
    push_cast; rfl
  rw [e, show (1 : Int) = toI 1 from rfl, andI_eq]
  have : (x >>> s) &&& 1 = if x.getLsbD s then 1 else 0 := by
    apply BitVec.eq_of_getLsbD_eq
    intro i hi
    have e1 : (1 : W).getLsbD i = decide (i = 0) := by rw [show (1 : W) = 1#64 from rfl, BitVec.getLsbD_one]; simp
    rw [BitVec.getLsbD_and, BitVec.getLsbD_ushiftRight, e1]
    cases i with
    | zero => cases h : x.getLsbD s <;> simp [h]
    | succ i => cases h : x.getLsbD s <;> simp [e1]
  rw [this]
  cases x.getLsbD s <;> rfl
/-- the test that the program makes -/
theorem test_eq (x : W) (s : Nat) : (bits BinOp.and IntKind.u64 (toI x / 2 ^ s) 1 == 1) = x.getLsbD s := by
  have e : bits BinOp.and IntKind.u64 (toI x / 2 ^ s) 1 = andI ((toI x).fdiv (2 ^ s)) 1 := by
    rw [Int.fdiv_eq_ediv_of_nonneg _ (by exact Int.pow_nonneg (by decide))]; rfl
  rw [e, shr_and]
  cases x.getLsbD s <;> rfl
/-- n into, and out of, the row -/
def one (s : Nat) : W := 1#64 <<< s
def withW (xs : List W) (k : Nat) : List W := xs.set (k / 64) (xs.getD (k / 64) 0 ||| one (k % 64))
def withoutW (xs : List W) (k : Nat) : List W := xs.set (k / 64) (xs.getD (k / 64) 0 &&& ~~~one (k % 64))
def withS (xs : List W) (n : Int) : List W := if 0 ≤ n ∧ n < 1024 then withW xs n.toNat else xs
def withoutS (xs : List W) (n : Int) : List W := if 0 ≤ n ∧ n < 1024 then withoutW xs n.toNat else xs
theorem withS_len (xs : List W) (n : Int) : (withS xs n).length = xs.length := by unfold withS withW; split <;> simp
theorem withoutS_len (xs : List W) (n : Int) : (withoutS xs n).length = xs.length := by unfold withoutS withoutW; split <;> simp
theorem orR_len {xs ys : List W} (h : xs.length = 16) (h2 : ys.length = 16) : (orR xs ys).length = 16 := by simp [orR, h, h2]
theorem andR_len {xs ys : List W} (h : xs.length = 16) (h2 : ys.length = 16) : (andR xs ys).length = 16 := by simp [andR, h, h2]
theorem subR_len {xs ys : List W} (h : xs.length = 16) (h2 : ys.length = 16) : (subR xs ys).length = 16 := by simp [subR, h, h2]
theorem toI_one {s : Nat} (h : s < 64) : IntKind.u64.wrap (2 ^ s) = toI (one s) := by
  have hp : (2 : Nat) ^ s < 2 ^ 64 := Nat.pow_lt_pow_right (by decide) h
  have e : (2 : Int) ^ s = ((2 ^ s : Nat) : Int) := by push_cast; rfl
  have : IntKind.u64.wrap (2 ^ s) = (2 : Int) ^ s := by
    show (2 : Int) ^ s % 18446744073709551616 = _
    rw [e]; exact Int.emod_eq_of_lt (Int.natCast_nonneg _) (Int.ofNat_lt.2 (show 2 ^ s < 18446744073709551616 from hp))
  rw [this, e]
  unfold toI one
  congr 1
  rw [BitVec.toNat_shiftLeft]
  simp [Nat.shiftLeft_eq, Nat.mod_eq_of_lt hp]
theorem or_one (x : W) {s : Nat} (h : s < 64) : bits BinOp.or IntKind.u64 (toI x) (IntKind.u64.wrap (2 ^ s)) = toI (x ||| one s) := by rw [toI_one h]; exact orI_eq _ _
theorem sub_one (x : W) {s : Nat} (h : s < 64) : bits BinOp.andNot IntKind.u64 (toI x) (IntKind.u64.wrap (2 ^ s)) = toI (x &&& ~~~one s) := by rw [toI_one h]; exact subI_eq _ _
theorem rowW_set (xs : List W) (i : Nat) (y : W) : (rowW xs).setIfInBounds i (.int .u64 (toI y)) = rowW (xs.set i y) := by
  unfold rowW; simp [List.map_set]
theorem one_bit {s i : Nat} (hi : i < 64) : (one s).getLsbD i = decide (i = s) := by
  unfold one
  rw [BitVec.getLsbD_shiftLeft, BitVec.getLsbD_one]
  rw [Bool.eq_iff_iff]; simp; omega
theorem bitAt_with {xs : List W} (hx : xs.length = 16) {k i : Nat} (hk : k < 1024) (hi : i < 1024) : bitAt (withW xs k) i = (bitAt xs i || i == k) := by
  unfold bitAt withW
  simp only [List.getD_eq_getElem?_getD, List.getElem?_set]
  by_cases h : k / 64 = i / 64
  · rw [if_pos h, if_pos (by omega), Option.getD_some, BitVec.getLsbD_or, h, one_bit (by omega)]
    congr 1
    rw [Bool.eq_iff_iff]; simp; omega
  · rw [if_neg h]
    have : (i == k) = false := by simp; omega
    rw [this, Bool.or_false]
theorem bitAt_without {xs : List W} (hx : xs.length = 16) {k i : Nat} (hk : k < 1024) (hi : i < 1024) : bitAt (withoutW xs k) i = (bitAt xs i && i != k) := by
  unfold bitAt withoutW
  simp only [List.getD_eq_getElem?_getD, List.getElem?_set]
  by_cases h : k / 64 = i / 64
  · rw [if_pos h, if_pos (by omega), Option.getD_some, BitVec.getLsbD_and, BitVec.getLsbD_not, h, one_bit (by omega)]
    congr 1
    rw [Bool.eq_iff_iff]; simp; omega
  · rw [if_neg h]
    have : (i != k) = true := by simp; omega
    rw [this, Bool.and_true]
theorem elems_with {xs : List W} (hx : xs.length = 16) (n : Int) : elems (withS xs n) = withL (elems xs) n := by
  unfold elems withS
  rw [withL_ofP]
  split
  · rename_i h
    refine ofP_congr fun i hi => ?_
    rw [bitAt_with hx (by omega) hi]
    congr 1
    rw [Bool.eq_iff_iff]; simp; omega
  · rename_i h
    refine ofP_congr fun i hi => ?_
    have : ((i : Int) == n) = false := by simp; omega
    rw [this, Bool.or_false]
theorem elems_without {xs : List W} (hx : xs.length = 16) (n : Int) : elems (withoutS xs n) = withoutL (elems xs) n := by
  unfold elems withoutS
  rw [withoutL_ofP]
  split
  · rename_i h
    refine ofP_congr fun i hi => ?_
    rw [bitAt_without hx (by omega) hi]
    congr 1
    rw [Bool.eq_iff_iff]; simp; omega
  · rename_i h
    refine ofP_congr fun i hi => ?_
    have : ((i : Int) != n) = true := by simp; omega
    rw [this, Bool.and_true]
theorem bitAt_zip (f : W → W → W) (g : Bool → Bool → Bool) (hf : ∀ a b i, i < 64 → (f a b).getLsbD i = g (a.getLsbD i) (b.getLsbD i)) {xs ys : List W} (hx : xs.length = 16) (hy : ys.length = 16) {i : Nat} (hi : i < 1024) :
    bitAt (List.zipWith f xs ys) i = g (bitAt xs i) (bitAt ys i) := by
  unfold bitAt
  have h1 : i / 64 < xs.length := by omega
  have h2 : i / 64 < ys.length := by omega
  simp only [List.getD_eq_getElem?_getD, List.getElem?_zipWith, List.getElem?_eq_getElem h1, List.getElem?_eq_getElem h2, Option.getD_some]
  exact hf _ _ _ (by omega)
theorem elems_or {xs ys : List W} (hx : xs.length = 16) (hy : ys.length = 16) : elems (orR xs ys) = orL (elems xs) (elems ys) := by
  unfold elems; rw [orL_ofP]
  exact ofP_congr fun i hi => bitAt_zip _ _ (fun a b i _ => by rw [BitVec.getLsbD_or]) hx hy hi
theorem elems_and {xs ys : List W} (hx : xs.length = 16) (hy : ys.length = 16) : elems (andR xs ys) = andL (elems xs) (elems ys) := by
  unfold elems; rw [andL_ofP]
  exact ofP_congr fun i hi => bitAt_zip _ _ (fun a b i _ => by rw [BitVec.getLsbD_and]) hx hy hi
theorem elems_sub {xs ys : List W} (hx : xs.length = 16) (hy : ys.length = 16) : elems (subR xs ys) = minusL (elems xs) (elems ys) := by
  unfold elems; rw [minusL_ofP]
  exact ofP_congr fun i hi => bitAt_zip (fun a b => a &&& ~~~b) (fun a b => a && !b) (fun a b i h => by simp [h]) hx hy hi
/-- a row is what its bits are -/
theorem row_ext {xs ys : List W} (hx : xs.length = 16) (hy : ys.length = 16) (h : ∀ i, i < 1024 → bitAt xs i = bitAt ys i) : xs = ys := by
  refine List.ext_getElem (hx.trans hy.symm) fun j h1 h2 => ?_
  refine BitVec.eq_of_getLsbD_eq fun i hi => ?_
  have := h (64 * j + i) (by omega)
  unfold bitAt at this
  rw [show (64 * j + i) / 64 = j by omega, show (64 * j + i) % 64 = i by omega] at this
  simpa [List.getD_eq_getElem?_getD, List.getElem?_eq_getElem h1, List.getElem?_eq_getElem h2] using this
def zeros : List W := List.replicate 16 0
theorem bitAt_zeros (i : Nat) : bitAt zeros i = false := by
  unfold bitAt zeros
  rw [List.getD_eq_getElem?_getD, List.getElem?_replicate]
  split <;> simp
theorem elems_inj {xs ys : List W} (hx : xs.length = 16) (hy : ys.length = 16) (h : elems xs = elems ys) : xs = ys := row_ext hx hy (ofP_inj h)
theorem elems_zeros : elems zeros = [] := by
  unfold elems ofP
  rw [show bitAt zeros = fun _ => false from funext bitAt_zeros]
  simp
theorem sub_zero {xs ys : List W} (hx : xs.length = 16) (hy : ys.length = 16) : subR xs ys = zeros ↔ (minusL (elems xs) (elems ys)).length = 0 := by
  rw [← elems_sub hx hy]
  constructor
  · intro h; rw [h, elems_zeros]; rfl
  · intro h; exact elems_inj (subR_len hx hy) (by simp [zeros]) ((List.eq_nil_of_length_eq_zero h).trans elems_zeros.symm)
end Go.Bits
