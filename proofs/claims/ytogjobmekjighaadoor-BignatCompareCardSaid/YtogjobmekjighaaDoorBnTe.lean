/-
  Parse, as the laws call it; the largest numbers.
-/
import Derived.Test.YtogjobmekjighaaDoorBdR
import Derived.Test.YtogjobmekjighaaDoorBnTc
set_option linter.unusedSimpArgs false
set_option linter.unusedVariables false
namespace Go.Proofs.YtogjobmekjighaaDoor.bn
open Go.RowKit Go.Own Go.Bn
set_option maxHeartbeats 4000000
set_option maxRecDepth 100000

/-- a text of at most 200 bytes that is a number's -/
theorem Parse_tx (s : ByteArray) (hs : s.size ≤ 200) (h : isD s.data.toList = true) (W : World) : Calls Tryd.prog 40 #[.string s] W (YesR W (dval s.data.toList)) := by
  have hl : dval s.data.toList < 10 ^ s.size := dval_lt (isD_iff.1 h).2.2
  have hn : nb (dval s.data.toList) ≤ 65536 := nb_small hl (by omega)
  refine (parse_yes s (by omega) h W).mono fun e w' hh => ?_
  rcases hh with ⟨v, _, h1, h2, h3⟩ | ⟨h1, _⟩
  · exact ⟨v, h1, h2, h3⟩
  · omega
theorem dval_B (s : ByteArray) (hs : s.size ≤ 200) (h : isD s.data.toList = true) : dval s.data.toList < B ^ 23 := by
  refine Nat.lt_of_lt_of_le (dval_lt (isD_iff.1 h).2.2) ?_
  refine Nat.le_trans (Nat.pow_le_pow_right (by decide) (show s.data.toList.length ≤ 9 * 23 from Nat.le_trans (show s.size ≤ 200 from hs) (by decide))) ?_
  rw [Nat.pow_mul]
  exact Nat.pow_le_pow_left (by decide) 23
theorem dec_tx (s : ByteArray) (h : isD s.data.toList = true) : ByteArray.mk (Lib.decDigits (dval s.data.toList)).toArray = s := by
  rw [dec_of_isD h]
theorem Parse_dec_yes (n k : Nat) (hn : n < 10 ^ (k + 1)) (hk : k < 21845) (hb : nb n ≤ 65536) {tx : ByteArray} (e : ByteArray.mk (Lib.decDigits n).toArray = tx) (W : World) : Calls Tryd.prog 40 #[.string tx] W (YesR W n) := by
  subst e
  refine (parse_dec n k hn hk W).mono fun e w' hh => ?_
  rcases hh with ⟨v, _, h1, h2, h3⟩ | ⟨h1, _⟩
  · exact ⟨v, h1, h2, h3⟩
  · omega
theorem Parse_dec_no (n k : Nat) (hn : n < 10 ^ (k + 1)) (hk : k < 21845) (hb : 65536 < nb n) {tx : ByteArray} (e : ByteArray.mk (Lib.decDigits n).toArray = tx) (W : World) : Calls Tryd.prog 40 #[.string tx] W (fun e w' => e = .returned (.tuple #[.agg #[.slice none 0 0], .int .i64 2]) ∧ Below W.heap.size W w') := by
  subst e
  refine (parse_dec n k hn hk W).mono fun e w' hh => ?_
  rcases hh with ⟨v, h0, _⟩ | ⟨_, h1, h2⟩
  · omega
  · exact ⟨h1, h2⟩
theorem two_ten (j : Nat) : 2 ^ (93 * j) ≤ 10 ^ (28 * j) := by
  rw [Nat.pow_mul, Nat.pow_mul]
  exact Nat.pow_le_pow_left (by decide) j
theorem big_of (e : Nat) (he : e = 65535) (k : Nat) (hk : k = 19739) (K : Nat) (hK : K = 2048) : 2 ^ e + 2 ^ e < 10 ^ (k + 1) ∧ 2 ^ e + 2 ^ e - 1 < 10 ^ (k + 1) ∧ nb (2 ^ e + 2 ^ e - 1) ≤ 65536 ∧ 65536 < nb (2 ^ e + 2 ^ e) ∧ 2 ^ e < B ^ K ∧ 1 ≤ 2 ^ e := by
  have h1 : 2 ^ e + 2 ^ e = 2 ^ (e + 1) := by rw [Nat.pow_succ]; omega
  have h0 : 1 ≤ 2 ^ e := Nat.one_le_two_pow
  have h2 : 2 ^ (e + 1) < 10 ^ (k + 1) := by
    obtain ⟨j, hj⟩ : ∃ j, j = 705 := ⟨_, rfl⟩
    refine Nat.lt_of_lt_of_le (Nat.pow_lt_pow_right (by decide) (show e + 1 < 93 * j by omega)) ?_
    exact Nat.le_trans (two_ten j) (Nat.pow_le_pow_right (by decide) (by omega))
  clear hk
  rw [h1]
  refine ⟨h2, Nat.lt_of_le_of_lt (Nat.sub_le _ _) h2, nb_le.2 ?_, nb_lt.2 ?_, ?_, h0⟩
  · rw [show (65536 : Nat) = e + 1 by omega]; omega
  · rw [show (65536 : Nat) = e + 1 by omega]; exact Nat.le_refl _
  · exact two_lt (by omega)
/-- the largest power of two, with a name -/
theorem big_pow : ∃ P k K, (∀ W, Calls Tryd.prog 31 #[.int .i64 65535] W (YesR W P)) ∧ (K ≤ 3000 ∧ 2 ≤ K) ∧ k < 21845 ∧ P + P < 10 ^ (k + 1) ∧ P + P - 1 < 10 ^ (k + 1) ∧ nb (P + P - 1) ≤ 65536 ∧ 65536 < nb (P + P) ∧ P < B ^ K ∧ 1 ≤ P := by
  obtain ⟨e, he⟩ : ∃ e, e = 65535 := ⟨_, rfl⟩
  obtain ⟨k, hk⟩ : ∃ k, k = 19739 := ⟨_, rfl⟩
  obtain ⟨K, hK⟩ : ∃ K, K = 2048 := ⟨_, rfl⟩
  exact ⟨2 ^ e, k, K, fun W => pow2_any (n := e) (by omega) (by omega) W, by omega, by omega, big_of e he k hk K hK⟩
/-- the reference's Parse, known which way -/
theorem RParse_yes (s : ByteArray) (hs : s.size ≤ 200) (h : isD s.data.toList = true) (W : World) : Calls Tryd.prog 41 #[.string s] W fun e w' => ∃ q m c, e = .returned (.tuple #[.slice q m c, .bool true]) ∧ bd.RefN q m c (dval s.data.toList) w' ∧ Below W.heap.size W w' := by
  refine (bd.RParse_calls s (by omega) W).mono fun e w' hh => ?_
  rcases hh with ⟨_, h1⟩ | ⟨h1, _⟩
  · exact h1
  · rw [h] at h1; cases h1
theorem RParse_no (s : ByteArray) (hs : s.size ≤ 200) (h : isD s.data.toList = false) (W : World) : Calls Tryd.prog 41 #[.string s] W fun e w' => e = .returned (.tuple #[.slice none 0 0, .bool false]) ∧ Below W.heap.size W w' := by
  refine (bd.RParse_calls s (by omega) W).mono fun e w' hh => ?_
  rcases hh with ⟨h1, _⟩ | ⟨_, h1⟩
  · rw [h] at h1; cases h1
  · exact h1
end Go.Proofs.YtogjobmekjighaaDoor.bn
