/-
  Contracts of bignat: Sub32, Add, Sub.
-/
import Derived.Test.YtogjobmekjighaaDoorBnJ
import Derived.Laws.BitsLemmas
set_option linter.unusedSimpArgs false
set_option linter.unusedVariables false
namespace Go.Proofs.YtogjobmekjighaaDoor.bn
open Go.RowKit Go.Own Go.Bn
set_option maxHeartbeats 4000000
set_option maxRecDepth 100000

theorem u32_wraps (n : Int) (h₀ : 0 ≤ n) (h₁ : n < 2 ^ 32) : IntKind.u32.wrap n = n := by rw [IntKind.wrap_u32]; omega
theorem and_u32 (a b : Nat) (ha : a < 4294967296) (hb : b < 4294967296) : bits .and .u32 (a : Int) (b : Int) = ((a &&& b : Nat) : Int) := (bits_nat .u32 32 (by decide) u32_wraps a b ha hb).1
theorem or_u32 (a b : Nat) (ha : a < 4294967296) (hb : b < 4294967296) : bits .or .u32 (a : Int) (b : Int) = ((a ||| b : Nat) : Int) := (bits_nat .u32 32 (by decide) u32_wraps a b ha hb).2
theorem xor_u32 (a b : Nat) (ha : a < 4294967296) (hb : b < 4294967296) : bits .xor .u32 (a : Int) (b : Int) = ((a ^^^ b : Nat) : Int) := by
  have hx : a ^^^ b < 2 ^ 32 := Nat.xor_lt_two_pow (by omega) (by omega)
  have h1 : (BitVec.ofInt 32 (a : Int)).toNat = a := by
    rw [BitVec.ofInt_natCast, BitVec.toNat_ofNat]; exact Nat.mod_eq_of_lt (by omega)
  have h2 : (BitVec.ofInt 32 (b : Int)).toNat = b := by
    rw [BitVec.ofInt_natCast, BitVec.toNat_ofNat]; exact Nat.mod_eq_of_lt (by omega)
  show IntKind.u32.wrap ((BitVec.ofInt 32 (a : Int) ^^^ BitVec.ofInt 32 (b : Int)).toNat : Int) = _
  rw [BitVec.toNat_xor, h1, h2, IntKind.wrap_u32]
  omega
theorem top_bit {n : Nat} (h : n < 4294967296) : n.testBit 31 = decide (2147483648 ≤ n) := by
  rw [Nat.testBit_eq_decide_div_mod_eq]
  exact decide_eq_decide.2 (by omega)
/-- the borrow of a difference of words -/
theorem borrow_bit (x y c : Nat) (hx : x < 4294967296) (hy : y < 4294967296) (hc : c < 2) :
    (((4294967295 ^^^ x) &&& y) ||| ((4294967295 ^^^ (x ^^^ y)) &&& ((x + 4294967296 - (y + c)) % 4294967296))) / 2147483648 = if x < y + c then 1 else 0 := by
  have hd : (x + 4294967296 - (y + c)) % 4294967296 < 4294967296 := Nat.mod_lt _ (by decide)
  have hD := Nat.div_add_mod (x + 4294967296 - (y + c)) 4294967296
  have hn : (((4294967295 ^^^ x) &&& y) ||| ((4294967295 ^^^ (x ^^^ y)) &&& ((x + 4294967296 - (y + c)) % 4294967296))) < 4294967296 :=
    Nat.or_lt_two_pow (n := 32) (Nat.and_lt_two_pow _ hy) (Nat.and_lt_two_pow _ hd)
  have hb : (((4294967295 ^^^ x) &&& y) ||| ((4294967295 ^^^ (x ^^^ y)) &&& ((x + 4294967296 - (y + c)) % 4294967296))).testBit 31 =
      ((!decide (2147483648 ≤ x) && decide (2147483648 ≤ y)) || ((!(decide (2147483648 ≤ x) ^^ decide (2147483648 ≤ y))) && decide (2147483648 ≤ (x + 4294967296 - (y + c)) % 4294967296))) := by
    simp only [Nat.testBit_or, Nat.testBit_and, Nat.testBit_xor, top_bit hx, top_bit hy, top_bit hd, show (4294967295 : Nat).testBit 31 = true by decide, Bool.true_xor]
  rw [top_bit hn] at hb
  generalize (((4294967295 ^^^ x) &&& y) ||| ((4294967295 ^^^ (x ^^^ y)) &&& ((x + 4294967296 - (y + c)) % 4294967296))) = n at hn hb ⊢
  generalize (x + 4294967296 - (y + c)) % 4294967296 = d at hd hD hb
  by_cases h1 : 2147483648 ≤ x <;> by_cases h2 : 2147483648 ≤ y <;> by_cases h3 : 2147483648 ≤ d <;> simp [h1, h2, h3] at hb <;> split <;> omega
theorem sub32_calls (x y c : Nat) (hx : x < 4294967296) (hy : y < 4294967296) (hc : c < 2) (w : World) :
    Calls Tryd.prog 47 #[.int .u32 (x : Int), .int .u32 (y : Int), .int .u32 (c : Int)] w fun e w' => e = .returned (.tuple #[.int .u32 (((x + 4294967296 - (y + c)) % 4294967296 : Nat) : Int), .int .u32 (((if x < y + c then 1 else 0) : Nat) : Int)]) ∧ w' = w := by
  have hd : (x + 4294967296 - (y + c)) % 4294967296 < 4294967296 := Nat.mod_lt _ (by decide)
  have hb := borrow_bit x y c hx hy hc
  have e1 : ((x : Int) - (y : Int) - (c : Int)) % 4294967296 = (((x + 4294967296 - (y + c)) % 4294967296 : Nat) : Int) := by omega
  generalize (x + 4294967296 - (y + c)) % 4294967296 = d at hd hb e1 ⊢
  have hm : IntKind.u32.max = ((4294967295 : Nat) : Int) := by decide
  have x1 : 4294967295 ^^^ x < 4294967296 := Nat.xor_lt_two_pow (n := 32) (by decide) hx
  have x2 : x ^^^ y < 4294967296 := Nat.xor_lt_two_pow (n := 32) hx hy
  have x3 : 4294967295 ^^^ (x ^^^ y) < 4294967296 := Nat.xor_lt_two_pow (n := 32) (by decide) x2
  have x4 : (4294967295 ^^^ x) &&& y < 4294967296 := Nat.and_lt_two_pow (n := 32) _ hy
  have x5 : (4294967295 ^^^ (x ^^^ y)) &&& d < 4294967296 := Nat.and_lt_two_pow (n := 32) _ hd
  have HE := Lib.hid (show bits BinOp.or IntKind.u32 (bits BinOp.and IntKind.u32 (bits BinOp.xor IntKind.u32 IntKind.u32.max (x : Int)) (y : Int)) (bits BinOp.and IntKind.u32 (bits BinOp.xor IntKind.u32 IntKind.u32.max (bits BinOp.xor IntKind.u32 (x : Int) (y : Int))) (((x : Int) - (y : Int) - (c : Int)) % 4294967296)) / 2147483648 = (((if x < y + c then 1 else 0) : Nat) : Int) by
    rw [e1, hm, xor_u32 _ _ (by decide) hx, xor_u32 _ _ hx hy, xor_u32 _ _ (by decide) x2, and_u32 _ _ x1 hy, and_u32 _ _ x3 hd, or_u32 _ _ x4 x5, ← hb]
    rfl)
  have HD := Lib.hid e1
  rw [← HE.out, ← HD.out]
  clear hb e1 hm x1 x2 x3 x4 x5 hd
  go_enter Tryd.func47, Tryd.ntmps47
  go_wp2
  go_ret2
  exact ⟨rfl, rfl⟩
theorem stepAdd (a b : List Nat) (ha : Dig a) (hb : Dig b) (N : Nat) : StepOk 51 a b N (fun k s c => s + B ^ k * c = valTo a k + valTo b k) := by
  intro k s c hk hc hI
  refine ⟨(dg a k + dg b k + c) % B, (dg a k + dg b k + c) / B, Nat.mod_lt _ (by decide), ?_, ?_, fun w => (add32_calls _ _ _ (dg_lt ha k) (dg_lt hb k) hc w).mono fun e w' h => ⟨h.1, beyond_of (h.2 ▸ Below.refl _ _)⟩⟩
  · have h1 := dg_lt ha k
    have h2 := dg_lt hb k
    rw [Nat.div_lt_iff_lt_mul (by decide)]
    unfold B at *; omega
  · exact add_step a b hI
theorem stepSub (a b : List Nat) (ha : Dig a) (hb : Dig b) (N : Nat) : StepOk 47 a b N (fun k s c => c < 2 ∧ valTo a k + B ^ k * c = s + valTo b k) := by
  intro k s c hk hc hI
  have h1 : dg a k < 4294967296 := dg_lt ha k
  have h2 : dg b k < 4294967296 := dg_lt hb k
  refine ⟨(dg a k + 4294967296 - (dg b k + c)) % 4294967296, if dg a k < dg b k + c then 1 else 0, Nat.mod_lt _ (by decide), by split <;> decide, ⟨by split <;> decide, ?_⟩, fun w => (sub32_calls _ _ _ h1 h2 hI.1 w).mono fun e w' h => ⟨h.1, beyond_of (h.2 ▸ Below.refl _ _)⟩⟩
  refine sub_step a b hI.2 ?_
  have := hI.1
  unfold B
  split <;> omega
theorem add_end {a b : List Nat} {m N n c : Nat} (ha : val a < B ^ m) (hb : val b < B ^ m) (hN : m < N) (h1 : a.length ≤ N) (h2 : b.length ≤ N) (h : n + B ^ N * c = valTo a N + valTo b N) : n = val a + val b := by
  rw [valTo_all N h1, valTo_all N h2] at h
  have hp : B ^ m * 2 ≤ B ^ N := Nat.le_trans (Nat.mul_le_mul_left _ (by decide : 2 ≤ B)) (by rw [← Nat.pow_succ]; exact Nat.pow_le_pow_right (by decide) hN)
  rcases Nat.eq_zero_or_pos c with rfl | hc
  · omega
  · have : B ^ N * 1 ≤ B ^ N * c := Nat.mul_le_mul_left _ hc
    omega
theorem sub_end {a b : List Nat} {N n c : Nat} (h1 : a.length ≤ N) (h2 : b.length ≤ N) (hn : n < B ^ N) (hle : val b ≤ val a) (h : valTo a N + B ^ N * c = n + valTo b N) : n = val a - val b := by
  rw [valTo_all N h1, valTo_all N h2] at h
  rcases Nat.eq_zero_or_pos c with rfl | hc
  · omega
  · have : B ^ N * 1 ≤ B ^ N * c := Nat.mul_le_mul_left _ hc
    omega
theorem isAdd : IsFn 51 := by unfold IsFn; kernel_rfl
theorem isSub : IsFn 47 := by unfold IsFn; kernel_rfl
/-- a number, as its digits -/
theorem NatAt.digits {v : Value} {n : Nat} {W : World} (h : NatAt v n W) {M : Nat} (hM : n < B ^ M) : ∃ q m c ds, v = .agg #[.slice q m c] ∧ DgAt q m c ds W ∧ Nrm ds ∧ val ds = n ∧ Dig ds ∧ ds.length = m ∧ m ≤ M := by
  obtain ⟨q, m, c, ds, rfl, hA, hN, hv⟩ := h.ex
  exact ⟨q, m, c, ds, rfl, hA, hN, hv, hA.all.2.2.2.2.1, hA.all.1.symm, by rw [hA.all.1]; exact len_le hN (by rw [hv]; exact hM)⟩
/-- three blocks are laid one behind the other -/
theorem three_allocs (W : World) (a b c : Obj) : (((W.alloc a).alloc b).alloc c).heap.size = W.heap.size + 1 + 1 + 1 ∧ (((W.alloc a).alloc b).alloc c).heap[W.heap.size]? = some a ∧ (((W.alloc a).alloc b).alloc c).heap[W.heap.size + 1]? = some b ∧ (((W.alloc a).alloc b).alloc c).heap[W.heap.size + 1 + 1]? = some c := by
  refine ⟨?_, ?_, ?_, ?_⟩
  · show (((W.heap.push a).push b).push c).size = _; simp
  · show (((W.heap.push a).push b).push c)[_]? = _
    rw [Array.getElem?_push, if_neg (by simp; omega), Array.getElem?_push, if_neg (by simp), Array.getElem?_push, if_pos (by simp)]
  · show (((W.heap.push a).push b).push c)[_]? = _
    rw [Array.getElem?_push, if_neg (by simp), Array.getElem?_push, if_pos (by simp)]
  · show (((W.heap.push a).push b).push c)[_]? = _
    rw [Array.getElem?_push, if_pos (by simp)]
theorem Add_calls {v v2 : Value} {n n2 : Nat} {W : World} (h : NatAt v n W) (h2 : NatAt v2 n2 W) (M : Nat) (ha : n < B ^ M) (hb : n2 < B ^ M) (hM : M ≤ 900000) :
    Calls Tryd.prog 22 #[v, v2] W (RetN W (n + n2)) := by
  obtain ⟨q, m, c, a, rfl, hA, hN, rfl, hD, hL, hm⟩ := h.digits ha
  obtain ⟨q2, m2, c2, b, rfl, hA2, hN2, rfl, hD2, hL2, hm2⟩ := h2.digits hb
  have HC := Lib.hid (show ∀ w, Below W.heap.size W w → Calls Tryd.prog 46 #[.agg #[.slice q m c], .agg #[.slice q2 m2 c2], .func (.func 51) #[] #[]] w (RetN w (val a + val b)) from fun w hb => by
    refine (combine_calls (hA.below hb) (hA2.below hb) (by omega) (by omega) _ rfl _ ?_ (stepAdd a b hD hD2 _) isAdd).mono ?_
    · simp [valTo_zero, val_nil]
    · rintro e w' ⟨v, n, c, h1, h2, h3, h4, h5⟩
      have h6 := add_end (a := a) (b := b) (m := max m m2) (Nat.lt_of_lt_of_le (val_lt hD) (Nat.pow_le_pow_right (by decide) (by omega))) (Nat.lt_of_lt_of_le (val_lt hD2) (Nat.pow_le_pow_right (by decide) (by omega))) (Nat.lt_succ_self _) (by omega) (by omega) h5
      subst h6
      exact ⟨v, h1, h2, h3⟩)
  clear h h2 hA hA2 ha hb hN hN2 hD hD2 hL hL2
  generalize val a + val b = s at HC ⊢
  go_enter Tryd.func22, Tryd.ntmps22
  go_wp2_with (go_at_call 46
               have h3 := three_allocs W (.cells #[.slice q m c] 27) (.cells #[.slice q2 m2 c2] 27) (.cells #[.slice none 0 0] 27)
               have hB0 : Below W.heap.size W (((W.alloc (.cells #[.slice q m c] 27)).alloc (.cells #[.slice q2 m2 c2] 27)).alloc (.cells #[.slice none 0 0] 27)) := (by repeat (first | assumption | exact Below.refl _ _ | exact below_beyond _ _ | refine Below.beyond ?_ (by (try simp [size_beyond]) <;> omega) _ | refine Below.drew ?_ | refine Go.Rw.below_drewN ?_ _ | refine Go.Rw.below_setRow ?_ (by (try simp [size_beyond]) <;> omega) _ | refine Below.alloc ?_ (by (try simp [size_beyond]) <;> omega) _ | refine Below.setCell ?_ (by (try simp [size_beyond]) <;> omega) _))
               refine (HC.out _ hB0).mono ?_
               generalize (((W.alloc (.cells #[.slice q m c] 27)).alloc (.cells #[.slice q2 m2 c2] 27)).alloc (.cells #[.slice none 0 0] 27)) = w1 at h3 hB0 ⊢
               rintro e w2 ⟨v, rfl, hv, hb⟩
               obtain ⟨qq, mm, cc, ds, rfl, hd⟩ := hv.ex
               have hB2 := Lib.hid (hB0.trans (hb.mono hB0.size))
               have hg2 : blockOf w2 (W.heap.size + 1 + 1) = some (.cells #[.slice none 0 0] 27 (0, 0)) := (hb.block _ (by omega)).trans h3.2.2.2
               have HVX := Lib.hid hv
               obtain ⟨hc2, hf2⟩ := cell_of_row hg2
               clear hd hv hb hB0 h3)
  rw [setCell_row hg2]
  refine bodyPost_ret (results_block rfl _ _ (W.heap.size + 1 + 1) 27 #[.slice qq mm cc] _ rfl (setRow_heap _ _ _ _ _ _ hg2) Tryd.underlying27 rfl nInfo) rfl ?_
  exact RetN.laid HVX.out hB2.out hg2 (fun _ h => by cases h) (by omega)
theorem Sub_calls {v v2 : Value} {n n2 : Nat} {W : World} (h : NatAt v n W) (h2 : NatAt v2 n2 W) (M : Nat) (ha : n < B ^ M) (hb : n2 < B ^ M) (hM : M ≤ 900000) (hle : n2 ≤ n) :
    Calls Tryd.prog 16 #[v, v2] W fun e w' => ∃ v, e = .returned (.tuple #[v, .int .i64 0]) ∧ NatAt v (n - n2) w' ∧ Below W.heap.size W w' := by
  have HCM := Lib.hid (show ∀ w, Below W.heap.size W w → Calls Tryd.prog 39 #[v, v2] w (fun e w' => e = .returned (.int .i64 (cmpV (n : Int) (n2 : Int))) ∧ Below w.heap.size w w') from fun w hb => Cmp_calls (h.below hb) (h2.below hb))
  have hcm : decide (cmpV (n : Int) (n2 : Int) < 0) = false := by
    rcases Nat.lt_or_eq_of_le hle with h | rfl
    · rw [cmpV_gt h]; rfl
    · rw [cmpV_eq]; rfl
  generalize cmpV (n : Int) (n2 : Int) = z at HCM hcm
  obtain ⟨q, m, c, a, rfl, hA, hN, rfl, hD, hL, hm⟩ := h.digits ha
  obtain ⟨q2, m2, c2, b, rfl, hA2, hN2, rfl, hD2, hL2, hm2⟩ := h2.digits hb
  have HC := Lib.hid (show ∀ w, Below W.heap.size W w → Calls Tryd.prog 46 #[.agg #[.slice q m c], .agg #[.slice q2 m2 c2], .func (.func 47) #[] #[]] w (RetN w (val a - val b)) from fun w hb => by
    refine (combine_calls (hA.below hb) (hA2.below hb) (by omega) (by omega) _ rfl _ ?_ (stepSub a b hD hD2 _) isSub).mono ?_
    · simp [valTo_zero, val_nil]
    · rintro e w' ⟨v, n, c, h1, h2, h3, h4, h5, h6⟩
      have h7 := sub_end (a := a) (b := b) (by omega) (by omega) h4 hle h6
      subst h7
      exact ⟨v, h1, h2, h3⟩)
  clear h h2 hA hA2 ha hb hN hN2 hD hD2 hL hL2 hle
  generalize val a - val b = s at HC ⊢
  go_enter Tryd.func16, Tryd.ntmps16
  go_wp2_with (fail)
  go_at_call 39
  have h3 := three_allocs W (.cells #[.slice q m c] 27) (.cells #[.slice q2 m2 c2] 27) (.cells #[.slice none 0 0] 27)
  have hB0 : Below W.heap.size W (((W.alloc (.cells #[.slice q m c] 27)).alloc (.cells #[.slice q2 m2 c2] 27)).alloc (.cells #[.slice none 0 0] 27)) := (by repeat (first | assumption | exact Below.refl _ _ | exact below_beyond _ _ | refine Below.beyond ?_ (by (try simp [size_beyond]) <;> omega) _ | refine Below.drew ?_ | refine Go.Rw.below_drewN ?_ _ | refine Go.Rw.below_setRow ?_ (by (try simp [size_beyond]) <;> omega) _ | refine Below.alloc ?_ (by (try simp [size_beyond]) <;> omega) _ | refine Below.setCell ?_ (by (try simp [size_beyond]) <;> omega) _))
  refine (HCM.out _ hB0).mono ?_
  generalize (((W.alloc (.cells #[.slice q m c] 27)).alloc (.cells #[.slice q2 m2 c2] 27)).alloc (.cells #[.slice none 0 0] 27)) = w1 at h3 hB0 ⊢
  rintro e w3 ⟨rfl, hb⟩
  have hB3 := hB0.trans (hb.mono hB0.size)
  have hlt3 : W.heap.size + 1 + 1 < w3.heap.size := by have := hb.size; omega
  obtain ⟨hx1, _⟩ := cell_of_row ((hb.block _ (by omega)).trans h3.2.1)
  obtain ⟨hx2, _⟩ := cell_of_row ((hb.block _ (by omega)).trans h3.2.2.1)
  have HX3 := Lib.hid ((hb.block _ (by omega)).trans h3.2.2.2)
  clear hb hB0 h3
  go_wp2_with (go_at_call 46
               refine (HC.out _ hB3).mono ?_
               rintro e w2 ⟨v, rfl, hv, hb⟩
               obtain ⟨qq, mm, cc, ds, rfl, hd⟩ := hv.ex
               have hB2 := Lib.hid (hB3.trans (hb.mono hB3.size))
               have hg2 : blockOf w2 (W.heap.size + 1 + 1) = some (.cells #[.slice none 0 0] 27 (0, 0)) := (hb.block _ hlt3).trans HX3.out
               have HVX := Lib.hid hv
               obtain ⟨hc2, hf2⟩ := cell_of_row hg2
               clear hd hv hb)
  rw [setCell_row hg2]
  refine bodyPost_ret (results_block2 rfl _ _ (W.heap.size + 1 + 1) 27 #[.slice qq mm cc] _ (.int .i64 0) rfl rfl (setRow_heap _ _ _ _ _ _ hg2) Tryd.underlying27 rfl nInfo) rfl ?_
  obtain ⟨v, e, h1, h2⟩ := RetN.laid HVX.out hB2.out hg2 (fun _ h => by cases h) (show W.heap.size ≤ W.heap.size + 1 + 1 by omega)
  cases e
  exact ⟨_, rfl, h1, h2⟩
theorem Sub_no {v v2 : Value} {n n2 : Nat} {W : World} (h : NatAt v n W) (h2 : NatAt v2 n2 W) (hlt : n < n2) :
    Calls Tryd.prog 16 #[v, v2] W fun e w' => e = .returned (.tuple #[.agg #[.slice none 0 0], .int .i64 2]) ∧ Below W.heap.size W w' := by
  have HCM := Lib.hid (show ∀ w, Below W.heap.size W w → Calls Tryd.prog 39 #[v, v2] w (fun e w' => e = .returned (.int .i64 (-1)) ∧ Below w.heap.size w w') from fun w hb => by have := Cmp_calls (h.below hb) (h2.below hb); rw [cmpV_lt hlt] at this; exact this)
  obtain ⟨q, m, c, rfl⟩ := h.shape
  obtain ⟨q2, m2, c2, rfl⟩ := h2.shape
  clear h h2 hlt
  go_enter Tryd.func16, Tryd.ntmps16
  go_wp2_with (fail)
  go_at_call 39
  have h3 := three_allocs W (.cells #[.slice q m c] 27) (.cells #[.slice q2 m2 c2] 27) (.cells #[.slice none 0 0] 27)
  have hB0 : Below W.heap.size W (((W.alloc (.cells #[.slice q m c] 27)).alloc (.cells #[.slice q2 m2 c2] 27)).alloc (.cells #[.slice none 0 0] 27)) := (by repeat (first | assumption | exact Below.refl _ _ | exact below_beyond _ _ | refine Below.beyond ?_ (by (try simp [size_beyond]) <;> omega) _ | refine Below.drew ?_ | refine Go.Rw.below_drewN ?_ _ | refine Go.Rw.below_setRow ?_ (by (try simp [size_beyond]) <;> omega) _ | refine Below.alloc ?_ (by (try simp [size_beyond]) <;> omega) _ | refine Below.setCell ?_ (by (try simp [size_beyond]) <;> omega) _))
  refine (HCM.out _ hB0).mono ?_
  generalize (((W.alloc (.cells #[.slice q m c] 27)).alloc (.cells #[.slice q2 m2 c2] 27)).alloc (.cells #[.slice none 0 0] 27)) = w1 at h3 hB0 ⊢
  rintro e w3 ⟨rfl, hb⟩
  have hB3 := hB0.trans (hb.mono hB0.size)
  have hg2 : blockOf w3 (W.heap.size + 1 + 1) = some (.cells #[.slice none 0 0] 27 (0, 0)) := (hb.block _ (by omega)).trans h3.2.2.2
  obtain ⟨hc2, hf2⟩ := cell_of_row hg2
  clear hb hB0 h3
  go_wp2
  rw [setCell_row hg2]
  refine bodyPost_ret (results_block2 rfl _ _ (W.heap.size + 1 + 1) 27 #[.slice none 0 0] _ (.int .i64 2) rfl rfl (setRow_heap _ _ _ _ _ _ hg2) Tryd.underlying27 rfl nInfo) rfl ?_
  exact ⟨rfl, Go.Rw.below_setRow hB3 (by omega) _⟩
end Go.Proofs.YtogjobmekjighaaDoor.bn
