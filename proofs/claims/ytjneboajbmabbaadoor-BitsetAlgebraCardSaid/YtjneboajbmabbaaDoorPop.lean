/-
  The number of ones of a 64-bit word, as it is summed up in steps: the sum over the eight bytes; or and and have as many as the two words.
-/
import Derived.ProofKit
set_option linter.unusedSimpArgs false
set_option linter.unusedVariables false
namespace Go.Pop
theorem and_split (h l H L : Nat) (hl : l < 256) (hL : L < 256) : (256 * h + l) &&& (256 * H + L) = 256 * (h &&& H) + (l &&& L) := by
  have hlL : l &&& L < 2 ^ 8 := Nat.lt_of_le_of_lt Nat.and_le_left hl
  refine Nat.eq_of_testBit_eq fun i => ?_
  rw [Nat.testBit_and, show 256 = 2 ^ 8 from rfl, Nat.testBit_two_pow_mul_add _ hl, Nat.testBit_two_pow_mul_add _ hL, Nat.testBit_two_pow_mul_add _ hlL]
  split <;> simp
theorem or_split (h l H L : Nat) (hl : l < 256) (hL : L < 256) : (256 * h + l) ||| (256 * H + L) = 256 * (h ||| H) + (l ||| L) := by
  have hlL : l ||| L < 2 ^ 8 := Nat.or_lt_two_pow hl hL
  refine Nat.eq_of_testBit_eq fun i => ?_
  rw [Nat.testBit_or, show 256 = 2 ^ 8 from rfl, Nat.testBit_two_pow_mul_add _ hl, Nat.testBit_two_pow_mul_add _ hL, Nat.testBit_two_pow_mul_add _ hlL]
  split <;> simp
/-- a number by its bytes, the least first -/
def ofB : List Nat → Nat
  | [] => 0
  | b :: l => 256 * ofB l + b
def Bytes (l : List Nat) : Prop := ∀ b ∈ l, b < 256
theorem Bytes.tail {b : Nat} {l : List Nat} (h : Bytes (b :: l)) : Bytes l := fun c hc => h c (List.mem_cons_of_mem _ hc)
theorem Bytes.head {b : Nat} {l : List Nat} (h : Bytes (b :: l)) : b < 256 := h b (List.mem_cons.2 (.inl rfl))
def g1 (b : Nat) : Nat := (b / 2 &&& 0x55) + (b &&& 0x55)
def g2 (b : Nat) : Nat := (b / 4 &&& 0x33) + (b &&& 0x33)
def g3 (b : Nat) : Nat := (b / 16 + b) % 16
def msk (m : Nat) (l : List Nat) : Nat := ofB (l.map fun _ => m)
theorem step1 : ∀ {l : List Nat}, Bytes l → (ofB l / 2 &&& msk 0x55 l) + (ofB l &&& msk 0x55 l) = ofB (l.map g1)
  | [], _ => rfl
  | b :: l, h => by
    have hb := h.head
    have ih := step1 h.tail
    simp only [msk, List.map_cons, ofB] at ih ⊢
    generalize ofB l = u at ih ⊢
    generalize ofB (l.map fun _ => 0x55) = M at ih ⊢
    rw [show (256 * u + b) / 2 = 256 * (u / 2) + (u % 2 * 128 + b / 2) by omega, and_split _ _ _ _ (by omega) (by omega), and_split _ _ _ _ hb (by omega)]
    have e : (u % 2 * 128 + b / 2) &&& 0x55 = b / 2 &&& 0x55 := by
      have : ∀ x : Fin 2, ∀ y : Fin 128, (x.val * 128 + y.val) &&& 0x55 = y.val &&& 0x55 := by decide +kernel
      exact this ⟨u % 2, by omega⟩ ⟨b / 2, by omega⟩
    rw [e, ← ih, g1]
    omega
theorem step2 : ∀ {l : List Nat}, Bytes l → (ofB l / 4 &&& msk 0x33 l) + (ofB l &&& msk 0x33 l) = ofB (l.map g2)
  | [], _ => rfl
  | b :: l, h => by
    have hb := h.head
    have ih := step2 h.tail
    simp only [msk, List.map_cons, ofB] at ih ⊢
    generalize ofB l = u at ih ⊢
    generalize ofB (l.map fun _ => 0x33) = M at ih ⊢
    rw [show (256 * u + b) / 4 = 256 * (u / 4) + (u % 4 * 64 + b / 4) by omega, and_split _ _ _ _ (by omega) (by omega), and_split _ _ _ _ hb (by omega)]
    have e : (u % 4 * 64 + b / 4) &&& 0x33 = b / 4 &&& 0x33 := by
      have : ∀ x : Fin 4, ∀ y : Fin 64, (x.val * 64 + y.val) &&& 0x33 = y.val &&& 0x33 := by decide +kernel
      exact this ⟨u % 4, by omega⟩ ⟨b / 4, by omega⟩
    rw [e, ← ih, g2]
    omega
def Nib (b : Nat) : Prop := b % 16 ≤ 4 ∧ b / 16 ≤ 4
theorem step3 : ∀ {l : List Nat}, (∀ b ∈ l, Nib b) → (ofB l / 16 + ofB l) &&& msk 0x0f l = ofB (l.map g3) ∧ ofB l % 16 ≤ 4
  | [], _ => ⟨rfl, by decide⟩
  | b :: l, h => by
    obtain ⟨b1, b2⟩ := h b (List.mem_cons.2 (.inl rfl))
    obtain ⟨ih, hu⟩ := step3 (l := l) fun c hc => h c (List.mem_cons_of_mem _ hc)
    simp only [msk, List.map_cons, ofB] at ih ⊢
    generalize ofB l = u at ih hu ⊢
    generalize ofB (l.map fun _ => 0x0f) = M at ih ⊢
    refine ⟨?_, by omega⟩
    rw [show (256 * u + b) / 16 + (256 * u + b) = 256 * (u / 16 + u) + (b / 16 + b + 16 * (u % 16)) by omega, and_split _ _ _ _ (by omega) (by omega), ih, g3]
    congr 1
    rw [show (0x0f : Nat) = 2 ^ 4 - 1 from rfl, Nat.and_two_pow_sub_one_eq_mod]
    omega
def gg (b : Nat) : Nat := g3 (g2 (g1 b))
theorem g1_lt : ∀ b : Fin 256, g1 b.val < 256 := by decide +kernel
theorem g2_nib : ∀ b : Fin 256, (g2 (g1 b.val)) % 16 ≤ 4 ∧ (g2 (g1 b.val)) / 16 ≤ 4 := by decide +kernel
theorem gg_le : ∀ b : Fin 256, gg b.val ≤ 8 := by decide +kernel
/-- the count, step by step -/
def c1 (x : Nat) : Nat := (x / 2 &&& 0x5555555555555555) + (x &&& 0x5555555555555555)
def c2 (x : Nat) : Nat := (x / 4 &&& 0x3333333333333333) + (x &&& 0x3333333333333333)
def c3 (x : Nat) : Nat := (x / 16 + x) &&& 0x0f0f0f0f0f0f0f0f
def bytes (x : Nat) : List Nat := [x % 256, x / 256 % 256, x / 65536 % 256, x / 16777216 % 256, x / 4294967296 % 256, x / 1099511627776 % 256, x / 281474976710656 % 256, x / 72057594037927936 % 256]
theorem ofB_bytes {x : Nat} (h : x < 18446744073709551616) : ofB (bytes x) = x := by simp only [bytes, ofB]; omega
theorem bytes_lt (x : Nat) : Bytes (bytes x) := by
  intro b hb
  simp only [bytes, List.mem_cons, List.not_mem_nil, or_false] at hb
  rcases hb with rfl | rfl | rfl | rfl | rfl | rfl | rfl | rfl <;> exact Nat.mod_lt _ (by decide)
theorem msk_55 (x : Nat) : msk 0x55 (bytes x) = 0x5555555555555555 := by simp [msk, bytes, ofB]
theorem msk_33 (x : Nat) : msk 0x33 (bytes x) = 0x3333333333333333 := by simp [msk, bytes, ofB]
theorem msk_0f (x : Nat) : msk 0x0f (bytes x) = 0x0f0f0f0f0f0f0f0f := by simp [msk, bytes, ofB]
theorem msk_map (m : Nat) (f : Nat → Nat) (l : List Nat) : msk m (l.map f) = msk m l := by unfold msk; rw [List.map_map]; rfl
theorem c3_eq {x : Nat} (h : x < 18446744073709551616) : c3 (c2 (c1 x)) = ofB ((bytes x).map gg) := by
  have e := ofB_bytes h
  have hb := bytes_lt x
  have e1 : c1 x = ofB ((bytes x).map g1) := by
    have := step1 hb
    rw [e, msk_55] at this
    exact this
  have hb1 : Bytes ((bytes x).map g1) := by
    intro b hc
    obtain ⟨c, hd, rfl⟩ := List.mem_map.1 hc
    exact g1_lt ⟨c, hb c hd⟩
  have e2 : c2 (c1 x) = ofB (((bytes x).map g1).map g2) := by
    have := step2 hb1
    rw [← e1, msk_map, msk_33] at this
    exact this
  have hb2 : ∀ b ∈ ((bytes x).map g1).map g2, Nib b := by
    intro b hc
    rw [List.map_map] at hc
    obtain ⟨c, hd, rfl⟩ := List.mem_map.1 hc
    exact g2_nib ⟨c, hb c hd⟩
  have e3 := (step3 hb2).1
  rw [← e2, msk_map, msk_map, msk_0f] at e3
  rw [show c3 (c2 (c1 x)) = (c2 (c1 x) / 16 + c2 (c1 x)) &&& 0x0f0f0f0f0f0f0f0f from rfl, e3]
  simp only [List.map_map]
  rfl
def sumL : List Nat → Nat
  | [] => 0
  | a :: l => a + sumL l
def pop (x : Nat) : Nat := sumL ((bytes x).map gg)
def c4 (x : Nat) : Nat := x + x / 256
def c5 (x : Nat) : Nat := x + x / 65536
def c6 (x : Nat) : Nat := x + x / 4294967296
theorem fold_eq (a b c d e f g h : Nat) (ha : a ≤ 8) (hb : b ≤ 8) (hc : c ≤ 8) (hd : d ≤ 8) (he : e ≤ 8) (hf : f ≤ 8) (hg : g ≤ 8) (hh : h ≤ 8) :
    c4 (ofB [a, b, c, d, e, f, g, h]) < 18446744073709551616 ∧ c5 (c4 (ofB [a, b, c, d, e, f, g, h])) < 18446744073709551616 ∧ c6 (c5 (c4 (ofB [a, b, c, d, e, f, g, h]))) < 18446744073709551616 ∧ c6 (c5 (c4 (ofB [a, b, c, d, e, f, g, h]))) % 128 = a + (b + (c + (d + (e + (f + (g + (h + 0))))))) := by
  simp only [c4, c5, c6]
  have k7 : ofB [h] = h := by simp [ofB]
  have k6 : ofB [g, h] = 256 * ofB [h] + g := rfl
  have k5 : ofB [f, g, h] = 256 * ofB [g, h] + f := rfl
  have k4 : ofB [e, f, g, h] = 256 * ofB [f, g, h] + e := rfl
  have k3 : ofB [d, e, f, g, h] = 256 * ofB [e, f, g, h] + d := rfl
  have k2 : ofB [c, d, e, f, g, h] = 256 * ofB [d, e, f, g, h] + c := rfl
  have k1 : ofB [b, c, d, e, f, g, h] = 256 * ofB [c, d, e, f, g, h] + b := rfl
  have k0 : ofB [a, b, c, d, e, f, g, h] = 256 * ofB [b, c, d, e, f, g, h] + a := rfl
  generalize ofB [a, b, c, d, e, f, g, h] = t0 at k0 ⊢
  generalize ofB [b, c, d, e, f, g, h] = t1 at k0 k1
  generalize ofB [c, d, e, f, g, h] = t2 at k1 k2
  generalize ofB [d, e, f, g, h] = t3 at k2 k3
  generalize ofB [e, f, g, h] = t4 at k3 k4
  generalize ofB [f, g, h] = t5 at k4 k5
  generalize ofB [g, h] = t6 at k5 k6
  generalize ofB [h] = t7 at k6 k7
  have b7 : t7 ≤ 8 := by omega
  have b6 : t6 ≤ 2100 := by omega
  have b5 : t5 ≤ 540000 := by omega
  have b4 : t4 ≤ 139000000 := by omega
  have b3 : t3 ≤ 36000000000 := by omega
  have b2 : t2 ≤ 9300000000000 := by omega
  have b1 : t1 ≤ 2400000000000000 := by omega
  have b0 : t0 ≤ 615000000000000000 := by omega
  have e1 : t0 / 256 = t1 := by clear k1 k2 k3 k4 k5 k6 k7; omega
  rw [e1]
  have e2 : (t0 + t1) / 65536 = t2 + t3 := by clear k3 k4 k5 k6 k7 e1; omega
  rw [e2]
  have e3 : (t0 + t1 + (t2 + t3)) / 4294967296 = t4 + t5 + t6 + t7 := by
    obtain ⟨r0, f0, h0⟩ : ∃ r, t0 = 4294967296 * t4 + r ∧ r ≤ 134744072 := ⟨16777216 * d + 65536 * c + 256 * b + a, by omega, by omega⟩
    obtain ⟨r1, f1, h1⟩ : ∃ r, t1 = 4294967296 * t5 + r ∧ r ≤ 134744072 := ⟨16777216 * e + 65536 * d + 256 * c + b, by omega, by omega⟩
    obtain ⟨r2, f2, h2⟩ : ∃ r, t2 = 4294967296 * t6 + r ∧ r ≤ 134744072 := ⟨16777216 * f + 65536 * e + 256 * d + c, by omega, by omega⟩
    obtain ⟨r3, f3, h3⟩ : ∃ r, t3 = 4294967296 * t7 + r ∧ r ≤ 134744072 := ⟨16777216 * g + 65536 * f + 256 * e + d, by omega, by omega⟩
    clear k0 k1 k2 k3 k4 k5 k6 k7 e1 e2 ha hb hc hd he hf hg hh b0 b1 b2 b3 b4 b5 b6 b7
    omega
  rw [e3]
  refine ⟨?_, ?_, ?_, ?_⟩
  · clear k0 k1 k2 k3 k4 k5 k6 k7 e1 e2 e3 ha hb hc hd he hf hg hh
    omega
  · clear k0 k1 k2 k3 k4 k5 k6 k7 e1 e2 e3 ha hb hc hd he hf hg hh
    omega
  · clear k0 k1 k2 k3 k4 k5 k6 k7 e1 e2 e3 ha hb hc hd he hf hg hh
    omega
  · clear e1 e2 e3 b0 b1 b2 b3 b4 b5 b6 b7
    have e : t0 + t1 + (t2 + t3) + (t4 + t5 + t6 + t7) = 128 * (2 * (t1 + t2 + t3 + t4 + t5 + t6 + t7)) + (a + (b + (c + (d + (e + (f + (g + (h + 0)))))))) := by omega
    rw [e, Nat.mul_add_mod]
    exact Nat.mod_eq_of_lt (by clear e k0 k1 k2 k3 k4 k5 k6 k7; omega)
theorem sum_pop {x : Nat} (h : x < 18446744073709551616) : c4 (c3 (c2 (c1 x))) < 18446744073709551616 ∧ c5 (c4 (c3 (c2 (c1 x)))) < 18446744073709551616 ∧ c6 (c5 (c4 (c3 (c2 (c1 x))))) < 18446744073709551616 ∧ c6 (c5 (c4 (c3 (c2 (c1 x))))) % 128 = pop x := by
  rw [c3_eq h]
  have k : ∀ y, gg (y % 256) ≤ 8 := fun y => gg_le ⟨y % 256, Nat.mod_lt _ (by decide)⟩
  exact fold_eq _ _ _ _ _ _ _ _ (k _) (k _) (k _) (k _) (k _) (k _) (k _) (k _)
def bits8 (b : Nat) : Nat := b % 2 + b / 2 % 2 + b / 4 % 2 + b / 8 % 2 + b / 16 % 2 + b / 32 % 2 + b / 64 % 2 + b / 128 % 2
theorem gg_bits : ∀ b : Fin 256, gg b.val = bits8 b.val := by decide +kernel
theorem bit_or_and (a b k : Nat) : (a ||| b) / 2 ^ k % 2 + (a &&& b) / 2 ^ k % 2 = a / 2 ^ k % 2 + b / 2 ^ k % 2 := by
  have e1 : (a ||| b) / 2 ^ k % 2 = (a / 2 ^ k % 2) ||| (b / 2 ^ k % 2) := by
    refine Nat.eq_of_testBit_eq fun i => ?_
    rw [show (2 : Nat) = 2 ^ 1 from rfl]
    simp only [Nat.testBit_or, Nat.testBit_mod_two_pow, ← Nat.pow_mul, Nat.testBit_div_two_pow]
    by_cases h : i < 1 <;> simp [h]
  have e2 : (a &&& b) / 2 ^ k % 2 = (a / 2 ^ k % 2) &&& (b / 2 ^ k % 2) := by
    refine Nat.eq_of_testBit_eq fun i => ?_
    rw [show (2 : Nat) = 2 ^ 1 from rfl]
    simp only [Nat.testBit_and, Nat.testBit_mod_two_pow, ← Nat.pow_mul, Nat.testBit_div_two_pow]
    by_cases h : i < 1 <;> simp [h]
  rw [e1, e2]
  rcases Nat.mod_two_eq_zero_or_one (a / 2 ^ k) with h | h <;> rcases Nat.mod_two_eq_zero_or_one (b / 2 ^ k) with h' | h' <;> rw [h, h'] <;> rfl
theorem bits8_split (a b : Nat) : bits8 (a ||| b) + bits8 (a &&& b) = bits8 a + bits8 b := by
  have k0 := bit_or_and a b 0
  have k1 := bit_or_and a b 1
  have k2 := bit_or_and a b 2
  have k3 := bit_or_and a b 3
  have k4 := bit_or_and a b 4
  have k5 := bit_or_and a b 5
  have k6 := bit_or_and a b 6
  have k7 := bit_or_and a b 7
  simp only [Nat.reducePow, Nat.div_one] at k0 k1 k2 k3 k4 k5 k6 k7
  simp only [bits8]
  generalize a ||| b = o at k0 k1 k2 k3 k4 k5 k6 k7 ⊢
  generalize a &&& b = n at k0 k1 k2 k3 k4 k5 k6 k7 ⊢
  generalize o % 2 = o0 at *
  generalize n % 2 = n0 at *
  generalize a % 2 = a0 at *
  generalize b % 2 = b0 at *
  rw [show o0 + o / 2 % 2 + o / 4 % 2 + o / 8 % 2 + o / 16 % 2 + o / 32 % 2 + o / 64 % 2 + o / 128 % 2 + (n0 + n / 2 % 2 + n / 4 % 2 + n / 8 % 2 + n / 16 % 2 + n / 32 % 2 + n / 64 % 2 + n / 128 % 2) = (o0 + n0) + (o / 2 % 2 + n / 2 % 2) + (o / 4 % 2 + n / 4 % 2) + (o / 8 % 2 + n / 8 % 2) + (o / 16 % 2 + n / 16 % 2) + (o / 32 % 2 + n / 32 % 2) + (o / 64 % 2 + n / 64 % 2) + (o / 128 % 2 + n / 128 % 2) by ac_rfl, k0, k1, k2, k3, k4, k5, k6, k7]
  ac_rfl
theorem gg_split (a b : Fin 256) : gg (a.val ||| b.val) + gg (a.val &&& b.val) = gg a.val + gg b.val := by
  rw [gg_bits a, gg_bits b, show gg (a.val ||| b.val) = bits8 (a.val ||| b.val) from gg_bits ⟨_, Nat.or_lt_two_pow (n := 8) a.isLt b.isLt⟩, show gg (a.val &&& b.val) = bits8 (a.val &&& b.val) from gg_bits ⟨_, Nat.lt_of_le_of_lt Nat.and_le_left a.isLt⟩]
  exact bits8_split _ _
theorem byte_or (x y k : Nat) : (x ||| y) / 2 ^ k % 2 ^ 8 = (x / 2 ^ k % 2 ^ 8) ||| (y / 2 ^ k % 2 ^ 8) := by
  refine Nat.eq_of_testBit_eq fun i => ?_
  simp only [Nat.testBit_or, Nat.testBit_mod_two_pow, Nat.testBit_div_two_pow]
  by_cases h : i < 8 <;> simp [h]
theorem byte_and (x y k : Nat) : (x &&& y) / 2 ^ k % 2 ^ 8 = (x / 2 ^ k % 2 ^ 8) &&& (y / 2 ^ k % 2 ^ 8) := by
  refine Nat.eq_of_testBit_eq fun i => ?_
  simp only [Nat.testBit_and, Nat.testBit_mod_two_pow, Nat.testBit_div_two_pow]
  by_cases h : i < 8 <;> simp [h]
theorem pop_or_and (x y : Nat) : pop (x ||| y) + pop (x &&& y) = pop x + pop y := by
  have k : ∀ j, gg ((x ||| y) / 2 ^ j % 2 ^ 8) + gg ((x &&& y) / 2 ^ j % 2 ^ 8) = gg (x / 2 ^ j % 2 ^ 8) + gg (y / 2 ^ j % 2 ^ 8) := fun j => by
    rw [byte_or, byte_and]
    exact gg_split ⟨x / 2 ^ j % 2 ^ 8, Nat.mod_lt _ (by decide)⟩ ⟨y / 2 ^ j % 2 ^ 8, Nat.mod_lt _ (by decide)⟩
  have k0 := k 0
  have k1 := k 8
  have k2 := k 16
  have k3 := k 24
  have k4 := k 32
  have k5 := k 40
  have k6 := k 48
  have k7 := k 56
  simp only [pop, bytes, List.map_cons, List.map_nil, sumL]
  simp only [show (2:Nat) ^ 0 = 1 from rfl, Nat.div_one, show (2:Nat) ^ 8 = 256 from rfl, show (2:Nat) ^ 16 = 65536 from rfl, show (2:Nat) ^ 24 = 16777216 from rfl, show (2:Nat) ^ 32 = 4294967296 from rfl, show (2:Nat) ^ 40 = 1099511627776 from rfl, show (2:Nat) ^ 48 = 281474976710656 from rfl, show (2:Nat) ^ 56 = 72057594037927936 from rfl] at k0 k1 k2 k3 k4 k5 k6 k7
  omega
theorem pop_le (x : Nat) : pop x ≤ 64 := by
  have k : ∀ y, gg (y % 256) ≤ 8 := fun y => gg_le ⟨y % 256, Nat.mod_lt _ (by decide)⟩
  simp only [pop, bytes, List.map_cons, List.map_nil, sumL]
  have := k x; have := k (x / 256); have := k (x / 65536); have := k (x / 16777216); have := k (x / 4294967296); have := k (x / 1099511627776); have := k (x / 281474976710656); have := k (x / 72057594037927936)
  omega
end Go.Pop
