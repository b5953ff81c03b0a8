/-
  The words of a row, bit by bit from below: what is left of a word, what has come.
-/
import Derived.Test.YtjneboajbmabbaaDoorMB1
import Derived.Test.YtjneboajbmabbaaDoorMB2
import Derived.Lib.ItoaNum
import Derived.Lib.UnsafeStr
set_option linter.unusedSimpArgs false
set_option linter.unusedVariables false
namespace Go.SetT
open Go
def strStep (acc : List UInt8) (n : Int) : List UInt8 := (if 1 < acc.length then acc ++ [32] else acc) ++ Lib.itoa n
def strL (l : List Int) : List UInt8 := l.foldl strStep [123]
def textL (l : List Int) : List UInt8 := strL l ++ [125]
theorem strL_snoc (l : List Int) (n : Int) : strL (l ++ [n]) = strStep (strL l) n := by unfold strL; rw [List.foldl_append]; rfl
theorem dec_pos (u : Nat) : 0 < (Lib.decDigits u).length := by
  unfold Lib.decDigits; split <;> simp
theorem dec_len : ∀ (k u : Nat), u < 10 ^ (k + 1) → (Lib.decDigits u).length ≤ k + 1
  | 0, u, h => by unfold Lib.decDigits; rw [dif_pos (by omega)]; simp
  | k + 1, u, h => by
    unfold Lib.decDigits
    split
    · simp
    · have := dec_len k (u / 10) (by rw [Nat.pow_succ] at h; omega)
      simp; omega
theorem itoa_nat (n : Nat) : Lib.itoa (n : Int) = Lib.decDigits n := by unfold Lib.itoa; rw [if_neg (by omega)]; simp
theorem itoa_pos (n : Int) : 0 < (Lib.itoa n).length := by
  unfold Lib.itoa; split
  · simp
  · exact dec_pos _
theorem strL_one (l : List Int) : 1 ≤ (strL l).length ∧ (l ≠ [] → 1 < (strL l).length) := by
  have key : ∀ m : List Int, 1 ≤ (strL m.reverse).length ∧ (m ≠ [] → 1 < (strL m.reverse).length) := fun m => by
    induction m with
    | nil => exact ⟨Nat.le_refl _, fun h => absurd rfl h⟩
    | cons a m ih =>
      rw [List.reverse_cons, strL_snoc]
      have := itoa_pos a
      unfold strStep
      split <;> (constructor <;> (try intro _) <;> simp <;> omega)
  have := key l.reverse
  rw [List.reverse_reverse] at this
  exact ⟨this.1, fun h => this.2 (by simpa using h)⟩
/-- at most four digits and a blank each -/
theorem strL_len {l : List Int} (h : ∀ x ∈ l, 0 ≤ x ∧ x < 1024) : (strL l).length ≤ 5 * l.length + 1 := by
  have key : ∀ m : List Int, (∀ x ∈ m, 0 ≤ x ∧ x < 1024) → (strL m.reverse).length ≤ 5 * m.length + 1 := fun m => by
    induction m with
    | nil => intro _; exact Nat.le_refl _
    | cons a m ih =>
      intro hm
      have h1 := ih fun x hx => hm x (by simp [hx])
      obtain ⟨ha, hb⟩ := hm a (by simp)
      obtain ⟨n, rfl⟩ := Int.eq_ofNat_of_zero_le ha
      rw [List.reverse_cons, strL_snoc]
      have := dec_len 3 n (by omega)
      unfold strStep
      rw [itoa_nat]
      split <;> simp <;> omega
  have := key l.reverse (fun x hx => h x (by simpa using hx))
  rw [List.reverse_reverse, List.length_reverse] at this
  exact this
end Go.SetT

namespace Go.SetT
open Go
def isDg (b : Nat → Int) (N k : Nat) : Prop := k < N ∧ 48 ≤ b k ∧ b k ≤ 57
instance (b : Nat → Int) (N k : Nat) : Decidable (isDg b N k) := by unfold isDg; infer_instance
/-- the value of k digits from a on -/
def num (b : Nat → Int) (a : Nat) : Nat → Int
  | 0 => 0
  | k + 1 => 10 * num b a k + (b (a + k) - 48)
/-- where the digits from a on end -/
def dEnd (b : Nat → Int) (N : Nat) : Nat → Nat → Nat
  | 0, a => a
  | f + 1, a => if isDg b N a then dEnd b N f (a + 1) else a
structure EndsAt (b : Nat → Int) (N a e : Nat) : Prop where
  le : a ≤ e
  dg : ∀ k, a ≤ k → k < e → isDg b N k
  stop : ¬ isDg b N e
theorem dEnd_of {b : Nat → Int} {N e : Nat} : ∀ (f a : Nat), EndsAt b N a e → e - a ≤ f → dEnd b N f a = e
  | 0, a, h, hf => by have := h.le; show a = e; omega
  | f + 1, a, h, hf => by
    unfold dEnd
    by_cases hd : isDg b N a
    · rw [if_pos hd]
      have : a ≠ e := fun hh => h.stop (hh ▸ hd)
      exact dEnd_of f (a + 1) ⟨by have := h.le; omega, fun k h1 h2 => h.dg k (by omega) h2, h.stop⟩ (by omega)
    · rw [if_neg hd]
      rcases Nat.lt_or_eq_of_le h.le with h1 | h1
      · exact absurd (h.dg a (Nat.le_refl _) h1) hd
      · exact h1
theorem EndsAt.lt {b : Nat → Int} {N a e : Nat} (h : EndsAt b N a e) (ha : a ≤ N) : e ≤ N := by
  rcases Nat.lt_or_eq_of_le h.le with h1 | h1
  · have := (h.dg (e - 1) (by omega) (by omega)).1; omega
  · omega
theorem num_nonneg {b : Nat → Int} {N a : Nat} : ∀ {k : Nat}, (∀ j, j < k → isDg b N (a + j)) → 0 ≤ num b a k
  | 0, _ => Int.le_refl _
  | k + 1, h => by
    have := num_nonneg (k := k) (fun j hj => h j (by omega))
    have := (h k (by omega)).2
    unfold num
    omega
/-- what `number` answers -/
def numRes (b : Nat → Int) (a e : Nat) : Int × Int :=
  if e = a ∨ (b a = 48 ∧ a + 1 < e) then (0, 3) else if 1024 ≤ num b a (e - a) then (0, 2) else (num b a (e - a), 0)
/-- the elements from place a on, behind those of out -/
def parse (b : Nat → Int) (N : Nat) : Nat → Nat → List Int → List Int × Int
  | 0, _, _ => ([], 3)
  | f + 1, a, out =>
    if dEnd b N N a = a ∨ (b a = 48 ∧ a + 1 < dEnd b N N a) then ([], 3)
    else if 1024 ≤ num b a (dEnd b N N a - a) then ([], 2)
    else if num b a (dEnd b N N a - a) ≤ out.getLastD (-1) then ([], 3)
    else if dEnd b N N a < N ∧ b (dEnd b N N a) = 32 then parse b N f (dEnd b N N a + 1) (out ++ [num b a (dEnd b N N a - a)])
    else if dEnd b N N a + 1 = N ∧ b (dEnd b N N a) = 125 then (out ++ [num b a (dEnd b N N a - a)], 0)
    else ([], 3)
def parseS (b : Nat → Int) (N : Nat) : List Int × Int :=
  if N = 0 ∨ b 0 ≠ 123 then ([], 3) else if N = 2 ∧ b 1 = 125 then ([], 0) else parse b N (N + 1) 1 []
end Go.SetT

namespace Go.SetT
open Go
theorem num_dec {b : Nat → Int} : ∀ (n u a : Nat), u ≤ n → (∀ j c, (Lib.decDigits u)[j]? = some c → b (a + j) = (c.toNat : Int)) → num b a (Lib.decDigits u).length = u
  | n, u, a, hn, h => by
    by_cases hu : u < 10
    · have e : Lib.decDigits u = [UInt8.ofNat (48 + u)] := by unfold Lib.decDigits; rw [dif_pos hu]
      rw [e] at h ⊢
      have := h 0 _ rfl
      show 10 * 0 + (b (a + 0) - 48) = (u : Int)
      rw [this]
      have : (UInt8.ofNat (48 + u)).toNat = 48 + u := by simp; omega
      rw [this]; omega
    · have e : Lib.decDigits u = Lib.decDigits (u / 10) ++ [UInt8.ofNat (48 + u % 10)] := by rw [Lib.decDigits, dif_neg hu]
      match n with
      | 0 => omega
      | n + 1 =>
        have ih := num_dec (b := b) n (u / 10) a (by omega) (fun j c hj => h j c (by
          rw [e, List.getElem?_append_left (List.getElem?_eq_some_iff.1 hj).1]; exact hj))
        have hl := h (Lib.decDigits (u / 10)).length (UInt8.ofNat (48 + u % 10)) (by rw [e, List.getElem?_append_right (Nat.le_refl _)]; simp)
        rw [e, List.length_append]
        show 10 * num b a (Lib.decDigits (u / 10)).length + (b (a + (Lib.decDigits (u / 10)).length) - 48) = (u : Int)
        rw [ih, hl]
        have : (UInt8.ofNat (48 + u % 10)).toNat = 48 + u % 10 := by simp; omega
        rw [this]; omega
theorem dec_digit : ∀ (n u : Nat), u ≤ n → ∀ c ∈ Lib.decDigits u, 48 ≤ c.toNat ∧ c.toNat ≤ 57
  | n, u, hn, c, hc => by
    by_cases hu : u < 10
    · have e : Lib.decDigits u = [UInt8.ofNat (48 + u)] := by unfold Lib.decDigits; rw [dif_pos hu]
      rw [e] at hc
      obtain rfl := List.mem_singleton.1 hc
      have : (UInt8.ofNat (48 + u)).toNat = 48 + u := by simp; omega
      omega
    · have e : Lib.decDigits u = Lib.decDigits (u / 10) ++ [UInt8.ofNat (48 + u % 10)] := by rw [Lib.decDigits, dif_neg hu]
      match n with
      | 0 => omega
      | n + 1 =>
        rw [e] at hc
        rcases List.mem_append.1 hc with hc | hc
        · exact dec_digit n (u / 10) (by omega) c hc
        · obtain rfl := List.mem_singleton.1 hc
          have : (UInt8.ofNat (48 + u % 10)).toNat = 48 + u % 10 := by simp; omega
          omega
theorem dec_head : ∀ (n u : Nat), u ≤ n → 0 < u → ∀ c, (Lib.decDigits u)[0]? = some c → c.toNat ≠ 48
  | n, u, hn, h0, c, hc => by
    by_cases hu : u < 10
    · have e : Lib.decDigits u = [UInt8.ofNat (48 + u)] := by unfold Lib.decDigits; rw [dif_pos hu]
      rw [e] at hc
      obtain rfl : UInt8.ofNat (48 + u) = c := by simpa using hc
      have : (UInt8.ofNat (48 + u)).toNat = 48 + u := by simp; omega
      omega
    · have e : Lib.decDigits u = Lib.decDigits (u / 10) ++ [UInt8.ofNat (48 + u % 10)] := by rw [Lib.decDigits, dif_neg hu]
      match n with
      | 0 => omega
      | n + 1 =>
        rw [e, List.getElem?_append_left (dec_pos _)] at hc
        exact dec_head n (u / 10) (by omega) (by omega) c hc
def sepL (pre : List Int) : List UInt8 := if 1 < (strL pre).length then [32] else []
def tailT (t : List Int) : List UInt8 := t.flatMap fun y => 32 :: Lib.itoa y
theorem strL_next (pre : List Int) (x : Int) : strL (pre ++ [x]) = strL pre ++ sepL pre ++ Lib.itoa x := by
  rw [strL_snoc]; unfold strStep sepL; split <;> simp
theorem sepL_next (pre : List Int) (x : Int) : sepL (pre ++ [x]) = [32] := by
  unfold sepL; rw [if_pos ((strL_one _).2 (by simp))]
theorem strL_tail : ∀ (t pre : List Int) (x : Int), strL (pre ++ x :: t) = strL (pre ++ [x]) ++ tailT t
  | [], pre, x => by simp [tailT]
  | y :: t, pre, x => by
    have h := strL_tail t (pre ++ [x]) y
    rw [List.append_assoc] at h
    show strL (pre ++ ([x] ++ y :: t)) = _
    rw [h, strL_next (pre ++ [x]) y, sepL_next]
    simp [tailT]
theorem last_lt {pre t : List Int} {x : Int} (h : (pre ++ x :: t).Pairwise (· < ·)) (h0 : 0 ≤ x) : pre.getLastD (-1) < x := by
  rcases List.eq_nil_or_concat pre with rfl | ⟨q, y, rfl⟩
  · simp; omega
  · simp only [List.concat_eq_append] at h ⊢
    rw [List.pairwise_append] at h
    have := h.2.2 y (by simp) x (by simp)
    simpa using this
theorem read_one {b : Nat → Int} {L A R : List UInt8} {c : UInt8} {x : Int} (hb : ∀ k c, L[k]? = some c → b k = (c.toNat : Int)) (hL : L = A ++ Lib.itoa x ++ c :: R) (h0 : 0 ≤ x) (hc : c = 32 ∨ c = 125) {e : Nat} (he : e = A.length + (Lib.itoa x).length) :
    dEnd b L.length L.length A.length = e ∧ ¬ (e = A.length ∨ (b A.length = 48 ∧ A.length + 1 < e)) ∧ num b A.length (e - A.length) = x ∧ b e = (c.toNat : Int) ∧ e < L.length := by
  obtain ⟨u, rfl⟩ := Int.eq_ofNat_of_zero_le h0
  rw [itoa_nat] at hL he
  have hpos := dec_pos u
  have hlen : L.length = A.length + (Lib.decDigits u).length + (R.length + 1) := by rw [hL]; simp; omega
  have hd : ∀ j c, (Lib.decDigits u)[j]? = some c → b (A.length + j) = (c.toNat : Int) := fun j c hj => hb _ _ (by
    have hlt := (List.getElem?_eq_some_iff.1 hj).1
    rw [hL, List.getElem?_append_left (by rw [List.length_append]; omega), List.getElem?_append_right (by omega)]
    rw [show A.length + j - A.length = j by omega]; exact hj)
  have hbe : b e = (c.toNat : Int) := hb _ _ (by
    rw [hL, List.getElem?_append_right (by rw [List.length_append]; omega), List.length_append, he]
    simp)
  have hE : EndsAt b L.length A.length e := by
    refine ⟨by omega, fun k h1 h2 => ?_, fun h => ?_⟩
    · have hj : k - A.length < (Lib.decDigits u).length := by omega
      have hk := hd (k - A.length) _ (List.getElem?_eq_getElem hj)
      rw [show A.length + (k - A.length) = k by omega] at hk
      have := dec_digit u u (Nat.le_refl _) _ (List.getElem_mem hj)
      refine ⟨by omega, ?_, ?_⟩ <;> rw [hk] <;> omega
    · have := h.2
      rw [hbe] at this
      rcases hc with rfl | rfl <;> simp at this
  refine ⟨dEnd_of _ _ hE (by omega), ?_, ?_, hbe, by omega⟩
  · rintro (h | ⟨h, h1⟩)
    · omega
    · have hu : 0 < u := by
        rcases Nat.eq_zero_or_pos u with rfl | h2
        · have : (Lib.decDigits 0).length = 1 := by unfold Lib.decDigits; rfl
          omega
        · exact h2
      have hk := hd 0 _ (List.getElem?_eq_getElem hpos)
      have := dec_head u u (Nat.le_refl _) hu _ (List.getElem?_eq_getElem hpos)
      rw [Nat.add_zero, h] at hk
      omega
  · rw [he, show A.length + (Lib.decDigits u).length - A.length = (Lib.decDigits u).length by omega]
    exact num_dec u u _ (Nat.le_refl _) hd
theorem parse_from {b : Nat → Int} {L : List UInt8} (hb : ∀ k c, L[k]? = some c → b k = (c.toNat : Int)) :
    ∀ (t pre : List Int) (x : Int) (f a : Nat), L = strL pre ++ sepL pre ++ Lib.itoa x ++ (tailT t ++ [125]) → a = (strL pre ++ sepL pre).length → t.length + 1 ≤ f →
      (pre ++ x :: t).Pairwise (· < ·) → (∀ y ∈ pre ++ x :: t, 0 ≤ y ∧ y < 1024) → parse b L.length f a pre = (pre ++ x :: t, 0) := by
  intro t
  induction t with
  | nil =>
    intro pre x f a hL ha hf hp hr
    obtain ⟨f, rfl⟩ : ∃ g, f = g + 1 := ⟨f - 1, by omega⟩
    obtain ⟨hx0, hx1⟩ := hr x (by simp)
    have hlast := last_lt hp hx0
    obtain ⟨h1, h2, h3, h4, h5⟩ := read_one hb (hL.trans (show _ = strL pre ++ sepL pre ++ Lib.itoa x ++ 125 :: [] by simp [tailT])) hx0 (.inr rfl) rfl
    have hlen := congrArg List.length hL
    simp only [tailT, List.flatMap_nil, List.nil_append] at hlen
    subst ha
    unfold parse
    rw [h1, if_neg h2, h3, if_neg (by omega), if_neg (by omega), if_neg (by rw [h4]; simp), if_pos ⟨by rw [hlen]; simp; omega, by rw [h4]; rfl⟩]
  | cons y t ih =>
    intro pre x f a hL ha hf hp hr
    obtain ⟨f, rfl⟩ : ∃ g, f = g + 1 := ⟨f - 1, by omega⟩
    obtain ⟨hx0, hx1⟩ := hr x (by simp)
    have hlast := last_lt hp hx0
    obtain ⟨h1, h2, h3, h4, h5⟩ := read_one hb (hL.trans (show _ = strL pre ++ sepL pre ++ Lib.itoa x ++ 32 :: (Lib.itoa y ++ tailT t ++ [125]) by simp [tailT])) hx0 (.inl rfl) rfl
    subst ha
    unfold parse
    rw [h1, if_neg h2, h3, if_neg (by omega), if_neg (by omega), if_pos ⟨h5, by rw [h4]; rfl⟩]
    have := ih (pre ++ [x]) y f _ (hL.trans (by rw [strL_next, sepL_next]; simp [tailT])) rfl (by simp at hf; omega) (by simpa using hp) (by simpa using hr)
    rw [strL_next, sepL_next] at this
    simp only [List.length_append, List.length_cons, List.length_nil] at this ⊢
    rw [this]
    simp
/-- what is put together is read back -/
theorem parse_text {b : Nat → Int} {l : List Int} (hb : ∀ k c, (textL l)[k]? = some c → b k = (c.toNat : Int)) (hp : l.Pairwise (· < ·)) (hr : ∀ y ∈ l, 0 ≤ y ∧ y < 1024) : parseS b (textL l).length = (l, 0) := by
  unfold parseS
  have h0 : b 0 = 123 := by
    refine hb 0 123 ?_
    unfold textL
    rw [List.getElem?_append_left (strL_one l).1]
    have key : ∀ m : List Int, (strL m.reverse)[0]? = some 123 := fun m => by
      induction m with
      | nil => rfl
      | cons x m ih =>
        rw [List.reverse_cons, strL_next, List.append_assoc, List.getElem?_append_left (strL_one _).1]
        exact ih
    have := key l.reverse
    rwa [List.reverse_reverse] at this
  rw [if_neg (fun h => h.elim (fun h => by unfold textL at h; simp at h) (fun h => h h0))]
  match l with
  | [] => rw [if_pos ⟨rfl, hb 1 125 rfl⟩]
  | x :: t =>
    have hx := hr x (by simp)
    have hlen : (textL (x :: t)).length = 1 + (Lib.itoa x).length + (tailT t).length + 1 := by
      unfold textL
      rw [show x :: t = [] ++ x :: t from rfl, strL_tail, strL_next]
      simp [strL, sepL]; omega
    rw [if_neg (fun h => by
      have hi := itoa_pos x
      have h1 : (tailT t).length = 0 ∧ (Lib.itoa x).length = 0 := by omega
      omega)]
    refine parse_from hb t [] x _ 1 ?_ rfl ?_ hp hr
    · unfold textL
      rw [show x :: t = [] ++ x :: t from rfl, strL_tail, strL_next]
      simp
    · have : t.length ≤ (tailT t).length := by
        clear hb hp hr h0 hlen hx
        induction t with
        | nil => simp
        | cons y t ih => simp only [tailT, List.flatMap_cons, List.length_append, List.length_cons] at ih ⊢; omega
      omega
end Go.SetT

namespace Go.SetT
open Go
theorem dEnd_ends {b : Nat → Int} {N : Nat} : ∀ (f a : Nat), N ≤ a + f → EndsAt b N a (dEnd b N f a)
  | 0, a, h => ⟨Nat.le_refl _, fun k h1 h2 => absurd h1 (by show ¬ a ≤ k; have : k < a := h2; omega), fun hd => by have := hd.1; have : a < N := this; omega⟩
  | f + 1, a, h => by
    unfold dEnd
    by_cases hd : isDg b N a
    · rw [if_pos hd]
      have ih := dEnd_ends (b := b) (N := N) f (a + 1) (by omega)
      refine ⟨by have := ih.le; omega, fun k h1 h2 => ?_, ih.stop⟩
      rcases Nat.lt_or_eq_of_le h1 with h3 | rfl
      · exact ih.dg k h3 h2
      · exact hd
    · rw [if_neg hd]
      exact ⟨Nat.le_refl _, fun k h1 h2 => by omega, hd⟩
/-- digits without a leading zero are the digits of their value -/
theorem dec_of {b : Nat → Int} {L : List UInt8} {a : Nat} (hb : ∀ k c, L[k]? = some c → b k = (c.toNat : Int)) :
    ∀ k : Nat, 1 ≤ k → (∀ j, j < k → isDg b L.length (a + j)) → (b a ≠ 48 ∨ k = 1) → ∃ u : Nat, num b a k = u ∧ Lib.decDigits u = (L.drop a).take k ∧ (b a ≠ 48 → 0 < u)
  | 0, h, _, _ => absurd h (by omega)
  | k + 1, _, hd, hz => by
    have hk := hd k (by omega)
    obtain ⟨c, hc⟩ : ∃ c, L[a + k]? = some c := ⟨_, List.getElem?_eq_getElem hk.1⟩
    have hbc := hb _ _ hc
    have h1 := hk.2.1
    have h2 := hk.2.2
    rw [hbc] at h1 h2
    have htake : (L.drop a).take (k + 1) = (L.drop a).take k ++ [c] := by
      rw [List.take_add_one, List.getElem?_drop, hc]; rfl
    rcases Nat.eq_zero_or_pos k with rfl | hp
    · refine ⟨c.toNat - 48, ?_, ?_, fun h => ?_⟩
      · show 10 * 0 + (b (a + 0) - 48) = _
        rw [hbc]; omega
      · rw [htake]
        unfold Lib.decDigits
        rw [dif_pos (by omega)]
        simp
        rw [← UInt8.toNat_inj]; simp; omega
      · rw [Nat.add_zero] at hbc
        rw [hbc] at h
        omega
    · have hz' : b a ≠ 48 := hz.resolve_right (by omega)
      obtain ⟨u, hu, hdec, hpos⟩ := dec_of hb k hp (fun j hj => hd j (by omega)) (.inl hz')
      have hu0 := hpos hz'
      refine ⟨10 * u + (c.toNat - 48), ?_, ?_, fun _ => by omega⟩
      · show 10 * num b a k + (b (a + k) - 48) = _
        rw [hu, hbc]; omega
      · rw [htake, ← hdec]
        rw [Lib.decDigits, dif_neg (by omega)]
        rw [show (10 * u + (c.toNat - 48)) / 10 = u by omega, show (10 * u + (c.toNat - 48)) % 10 = c.toNat - 48 by omega]
        congr 2
        rw [← UInt8.toNat_inj]; simp; omega
theorem lt_last {out : List Int} {v : Int} (hp : out.Pairwise (· < ·)) (h : out.getLastD (-1) < v) : (out ++ [v]).Pairwise (· < ·) := by
  rw [List.pairwise_append]
  refine ⟨hp, by simp, fun x hx y hy => ?_⟩
  obtain rfl := List.mem_singleton.1 hy
  rcases List.eq_nil_or_concat out with rfl | ⟨q, z, rfl⟩
  · simp at hx
  · simp only [List.concat_eq_append] at hp h hx
    rw [List.pairwise_append] at hp
    have hz : z < y := by simpa using h
    rcases List.mem_append.1 hx with h1 | h1
    · have := hp.2.2 x h1 z (by simp); omega
    · obtain rfl := List.mem_singleton.1 h1; exact hz
theorem parse_ok {b : Nat → Int} {L : List UInt8} (hb : ∀ k c, L[k]? = some c → b k = (c.toNat : Int)) :
    ∀ (f a : Nat) (out l : List Int), a ≤ L.length → L.take a = strL out ++ sepL out → out.Pairwise (· < ·) → (∀ y ∈ out, 0 ≤ y ∧ y < 1024) → parse b L.length f a out = (l, 0) →
      L = textL l ∧ l.Pairwise (· < ·) ∧ (∀ y ∈ l, 0 ≤ y ∧ y < 1024)
  | 0, a, out, l, ha, ht, hp, hr, h => by simp [parse] at h
  | f + 1, a, out, l, ha, ht, hp, hr, h => by
    have hE := dEnd_ends (b := b) (N := L.length) L.length a (by omega)
    unfold parse at h
    generalize dEnd b L.length L.length a = e at hE h
    have hle := hE.le
    have hlt := hE.lt ha
    split at h
    · simp at h
    · rename_i c1
      split at h
      · simp at h
      · rename_i c2
        split at h
        · simp at h
        · rename_i c3
          obtain ⟨u, hu, hdec, -⟩ := dec_of (a := a) hb (e - a) (by omega) (fun j hj => hE.dg _ (by omega) (by omega)) (by
            by_cases h48 : b a = 48
            · exact .inr (by omega)
            · exact .inl h48)
          rw [hu] at c2 c3 h
          have hte : L.take e = strL (out ++ [(u : Int)]) := by
            rw [strL_next, itoa_nat, hdec, ← ht]
            rw [show e = a + (e - a) by omega, List.take_add]
            simp
          have hp' := lt_last hp (Int.not_le.1 c3)
          have hr' : ∀ y ∈ out ++ [(u : Int)], 0 ≤ y ∧ y < 1024 := fun y hy => by
            rcases List.mem_append.1 hy with h1 | h1
            · exact hr y h1
            · obtain rfl := List.mem_singleton.1 h1; omega
          split at h
          · rename_i c4
            obtain ⟨c, hc⟩ : ∃ c, L[e]? = some c := ⟨_, List.getElem?_eq_getElem c4.1⟩
            have hce := hb _ _ hc
            rw [c4.2] at hce
            have : c = 32 := by rw [← UInt8.toNat_inj]; show c.toNat = 32; omega
            subst this
            exact parse_ok hb f (e + 1) _ l (by omega) (by rw [List.take_add_one, hc, hte, sepL_next]; rfl) hp' hr' h
          · split at h
            · rename_i c5
              obtain ⟨c, hc⟩ : ∃ c, L[e]? = some c := ⟨_, List.getElem?_eq_getElem (by omega)⟩
              have hce := hb _ _ hc
              rw [c5.2] at hce
              have : c = 125 := by rw [← UInt8.toNat_inj]; show c.toNat = 125; omega
              subst this
              obtain ⟨rfl, -⟩ := Prod.mk.inj h
              refine ⟨?_, hp', hr'⟩
              unfold textL
              rw [← hte]
              have h6 : L.take (e + 1) = L.take e ++ [125] := by rw [List.take_add_one, hc]; rfl
              have h7 : L.take (e + 1) = L := List.take_of_length_le (by omega)
              exact h7.symm.trans h6
            · simp at h
/-- what is read without an error was put together so -/
theorem parseS_ok {b : Nat → Int} {L : List UInt8} {l : List Int} (hb : ∀ k c, L[k]? = some c → b k = (c.toNat : Int)) (h : parseS b L.length = (l, 0)) : L = textL l ∧ l.Pairwise (· < ·) ∧ (∀ y ∈ l, 0 ≤ y ∧ y < 1024) := by
  unfold parseS at h
  split at h
  · simp at h
  · rename_i c0
    have hpos : 0 < L.length := by omega
    have h0 : L[0]? = some 123 := by
      obtain ⟨c, hc⟩ : ∃ c, L[0]? = some c := ⟨_, List.getElem?_eq_getElem hpos⟩
      have := hb _ _ hc
      have h123 : b 0 = 123 := by
        by_cases h : b 0 = 123
        · exact h
        · exact absurd (Or.inr h) c0
      rw [hc]
      congr 1
      rw [← UInt8.toNat_inj]
      show c.toNat = 123
      omega
    split at h
    · rename_i c1
      obtain ⟨rfl, -⟩ := Prod.mk.inj h
      refine ⟨?_, by simp, by simp⟩
      match L, c1, h0, hb with
      | [x, y], c1, h0, hb =>
        have h1 := hb 1 y rfl
        have hx : x = 123 := by simpa using h0
        have hy : y = 125 := by rw [← UInt8.toNat_inj]; show y.toNat = 125; have := c1.2; omega
        subst hx hy
        rfl
    · exact parse_ok hb _ 1 [] l hpos (by
        match L, h0 with
        | x :: t, h0 => have hx : x = 123 := by simpa using h0
                        subst hx; rfl) (by simp) (by simp) h
end Go.SetT

namespace Go.Tz
/-- what is left of x from its bit p on -/
def Cut (x : BitVec 64) (p : Nat) (y : BitVec 64) : Prop := ∀ i, i < 64 → y.getLsbD i = (x.getLsbD i && decide (p ≤ i))
theorem cut_start (x : BitVec 64) : Cut x 0 x := fun i _ => by simp
theorem pred_eq (x : BitVec 64) : x - 1#64 = ~~~(-x) := by
  apply BitVec.eq_of_toNat_eq
  rw [BitVec.toNat_not, BitVec.toNat_neg, BitVec.toNat_sub]
  have := x.isLt
  have e : (1#64 : BitVec 64).toNat = 1 := rfl
  rw [e]
  generalize x.toNat = n at this ⊢
  have e : (2 : Nat) ^ 64 = 18446744073709551616 := rfl
  rw [e] at this ⊢
  omega
theorem pred_bits {x : BitVec 64} {t : Nat} (h : Low x t) (i : Nat) (hi : i < 64) : (x &&& (x - 1#64)).getLsbD i = (x.getLsbD i && !decide (i = t)) := by
  have h1 : (x &&& -x).getLsbD i = decide (i = t) := by
    rw [and_neg h, BitVec.getLsbD_shiftLeft, BitVec.getLsbD_one]
    by_cases h2 : i = t
    · subst h2; simp [hi]
    · simp [h2, hi]; omega
  rw [BitVec.getLsbD_and] at h1
  rw [pred_eq, BitVec.getLsbD_and, BitVec.getLsbD_not, ← h1]
  cases x.getLsbD i <;> simp [hi]
theorem cut_low {x y : BitVec 64} {p t : Nat} (hc : Cut x p y) (h : Low y t) : p ≤ t ∧ x.getLsbD t = true ∧ ∀ i, p ≤ i → i < t → x.getLsbD i = false := by
  have h1 := hc t h.1
  rw [h.2.1] at h1
  have h2 := (Bool.and_eq_true _ _).mp h1.symm
  refine ⟨by simpa using h2.2, h2.1, fun i hi ht => ?_⟩
  have h3 := hc i (by have := h.1; omega)
  rw [h.2.2 i ht] at h3
  simpa [hi] using h3.symm
theorem cut_step {x y : BitVec 64} {p t : Nat} (hc : Cut x p y) (h : Low y t) : Cut x (t + 1) (y &&& (y - 1#64)) := fun i hi => by
  rw [pred_bits h i hi, hc i hi]
  obtain ⟨h1, h2, h3⟩ := cut_low hc h
  by_cases hp : p ≤ i
  · by_cases ht : i < t
    · rw [h3 i hp ht]; simp
    · by_cases he : i = t
      · subst he; simp
      · have : t + 1 ≤ i := by omega
        simp [hp, he, this]
  · have : ¬ t + 1 ≤ i := by omega
    simp [hp, this]
theorem cut_end {x : BitVec 64} {p : Nat} (hc : Cut x p 0#64) (i : Nat) (hi : i < 64) (hp : p ≤ i) : x.getLsbD i = false := by
  have := hc i hi
  rw [BitVec.getLsbD_zero] at this
  simpa [hp] using this.symm
end Go.Tz
namespace Go.SetL
open Go.Tz Go.Bits
theorem ofN_skip {p : Nat → Bool} {k : Nat} : ∀ d, (∀ i, k ≤ i → i < k + d → p i = false) → ofN p (k + d) = ofN p k
  | 0, _ => rfl
  | d + 1, h => by rw [show k + (d + 1) = (k + d) + 1 from rfl, ofN_no (h (k + d) (by omega) (by omega))]; exact ofN_skip d fun i h1 h2 => h i h1 (by omega)
theorem come_yes {xs : List (BitVec 64)} {j p t : Nat} {y : BitVec 64} (hc : Cut (xs.getD j 0) p y) (h : Low y t) : ofN (bitAt xs) (64 * j + p) ++ [((64 * j + t : Nat) : Int)] = ofN (bitAt xs) (64 * j + (t + 1)) := by
  obtain ⟨h1, h2, h3⟩ := cut_low hc h
  have ht := h.1
  have e := ofN_skip (p := bitAt xs) (k := 64 * j + p) (t - p) (fun i h4 h5 => by
    have : i = 64 * j + (i - 64 * j) := by omega
    rw [this, bitAt_word xs j _ (by omega)]
    exact h3 _ (by omega) (by omega))
  rw [← e, show 64 * j + p + (t - p) = 64 * j + t by omega, show 64 * j + (t + 1) = (64 * j + t) + 1 from rfl]
  exact (ofN_yes (by rw [bitAt_word xs j t ht]; exact h2)).symm
theorem come_end {xs : List (BitVec 64)} {j p : Nat} (hp : p ≤ 64) (hc : Cut (xs.getD j 0) p 0#64) : ofN (bitAt xs) (64 * j + p) = ofN (bitAt xs) (64 * (j + 1)) := by
  have e := ofN_skip (p := bitAt xs) (k := 64 * j + p) (64 - p) (fun i h4 h5 => by
    have : i = 64 * j + (i - 64 * j) := by omega
    rw [this, bitAt_word xs j _ (by omega)]
    exact cut_end hc _ (by omega) (by omega))
  rw [← e]; congr 1; omega
theorem ofN_pre (p : Nat → Bool) {k m : Nat} (h : k ≤ m) : ofN p k <+: ofN p m := by
  obtain ⟨d, rfl⟩ : ∃ d, m = k + d := ⟨m - k, by omega⟩
  clear h
  induction d with
  | zero => exact List.prefix_refl _
  | succ d ih =>
    cases hb : p (k + d) with
    | false => rw [show k + (d + 1) = (k + d) + 1 from rfl, ofN_no hb]; exact ih
    | true => rw [show k + (d + 1) = (k + d) + 1 from rfl, ofN_yes hb]; exact ih.trans (List.prefix_append _ _)
end Go.SetL
