/-
  Plain arithmetic of the monoids of layer 20: their sizes, identity elements and sums, and the laws of sums and multiples.
-/
import Derived.Test.YtfpmimfglikklaaBase
set_option linter.unusedSimpArgs false
set_option linter.unusedVariables false
namespace Go.Proofs.Ytfpmimfglikklaa.mono

/-- a valid monoid -/
def V (K N M : Int) : Prop := (K = 0 ∧ N = 0 ∧ M = 0) ∨ (K = 1 ∧ N = 0 ∧ M = 0) ∨ (K = 2 ∧ M = 0 ∧ 0 ≤ N ∧ N ≤ 62) ∨ (K = 3 ∧ 1 ≤ M ∧ M ≤ 64 ∧ 0 ≤ N ∧ N < M)
def sz (K N M : Int) : Int := if K = 2 then N + 2 else if K = 3 then M else 2
def idn (K : Int) : Int := if K = 0 then 1 else 0
def one (K M : Int) : Int := if K = 3 then 1 % M else 1
def acc (K N : Int) : Int := if K < 2 then 1 else N
def near (K N M a : Int) : Int := min (max a 0) (sz K N M - 1)
/-- the sum of two values -/
def plus (K N M x y : Int) : Int := if K = 0 then min x y else if K = 1 then max x y else if K = 2 then min (x + y) (N + 1) else (x + y) % M
def add (K N M a b : Int) : Int := plus K N M (near K N M a) (near K N M b)
def rep (K N M p : Int) : Nat → Int
  | 0 => idn K
  | n + 1 => add K N M (rep K N M p n) p
def accB (K N M a : Int) : Bool := decide (0 ≤ a ∧ a < sz K N M) && (a == acc K N)
def deadB (K N M a : Int) : Bool := decide (0 ≤ a ∧ a < sz K N M) && (if K = 0 then a == 0 else if K = 2 then a == N + 1 else false)
def uniB (K N M a : Int) : Bool := decide (0 ≤ a ∧ a < sz K N M) && (if K = 1 then a == 1 else if K = 3 then M == 1 else false)

variable {K N M : Int}

theorem sz_pos (h : V K N M) : 1 ≤ sz K N M ∧ sz K N M ≤ 64 := by
  rcases h with ⟨rfl, rfl, rfl⟩ | ⟨rfl, rfl, rfl⟩ | ⟨rfl, rfl, h1, h2⟩ | ⟨rfl, h1, h2, h3, h4⟩ <;> simp [sz] <;> omega
theorem near_in (h : V K N M) (a : Int) : 0 ≤ near K N M a ∧ near K N M a < sz K N M := by
  have := sz_pos h; unfold near; omega
theorem near_of {a : Int} (h0 : 0 ≤ a) (h1 : a < sz K N M) : near K N M a = a := by unfold near; omega
theorem plus_in (h : V K N M) {x y : Int} (hx : 0 ≤ x ∧ x < sz K N M) (hy : 0 ≤ y ∧ y < sz K N M) : 0 ≤ plus K N M x y ∧ plus K N M x y < sz K N M := by
  rcases h with ⟨rfl, rfl, rfl⟩ | ⟨rfl, rfl, rfl⟩ | ⟨rfl, rfl, h1, h2⟩ | ⟨rfl, h1, h2, h3, h4⟩ <;> simp [sz, plus] at * <;> try omega
  exact ⟨Int.emod_nonneg _ (by omega), Int.emod_lt_of_pos _ (by omega)⟩
theorem plus_comm (x y : Int) : plus K N M x y = plus K N M y x := by
  unfold plus; rw [Int.add_comm x y]; split
  · omega
  · split
    · omega
    · rfl
theorem plus_assoc (h : V K N M) {x y z : Int} (hx : 0 ≤ x ∧ x < sz K N M) (hy : 0 ≤ y ∧ y < sz K N M) (hz : 0 ≤ z ∧ z < sz K N M) :
    plus K N M (plus K N M x y) z = plus K N M x (plus K N M y z) := by
  rcases h with ⟨rfl, rfl, rfl⟩ | ⟨rfl, rfl, rfl⟩ | ⟨rfl, rfl, h1, h2⟩ | ⟨rfl, h1, h2, h3, h4⟩ <;> simp [sz, plus] at * <;> try omega
  rw [Int.add_assoc]
theorem plus_id (h : V K N M) {x : Int} (hx : 0 ≤ x ∧ x < sz K N M) : plus K N M x (idn K) = x := by
  rcases h with ⟨rfl, rfl, rfl⟩ | ⟨rfl, rfl, rfl⟩ | ⟨rfl, rfl, h1, h2⟩ | ⟨rfl, h1, h2, h3, h4⟩ <;> simp [sz, plus, idn] at * <;> try omega
  exact Int.emod_eq_of_lt hx.1 hx.2
theorem idn_in (h : V K N M) : 0 ≤ idn K ∧ idn K < sz K N M := by
  have := sz_pos h
  rcases h with ⟨rfl, rfl, rfl⟩ | ⟨rfl, rfl, rfl⟩ | ⟨rfl, rfl, h1, h2⟩ | ⟨rfl, h1, h2, h3, h4⟩ <;> simp [sz, idn] at * <;> omega

theorem add_in (h : V K N M) (a b : Int) : 0 ≤ add K N M a b ∧ add K N M a b < sz K N M := plus_in h (near_in h a) (near_in h b)
theorem add_comm (a b : Int) : add K N M a b = add K N M b a := plus_comm _ _
theorem near_add (h : V K N M) (a b : Int) : near K N M (add K N M a b) = add K N M a b := near_of (add_in h a b).1 (add_in h a b).2
theorem add_assoc (h : V K N M) (a b c : Int) : add K N M (add K N M a b) c = add K N M a (add K N M b c) := by
  unfold add
  rw [near_of (plus_in h (near_in h a) (near_in h b)).1 (plus_in h (near_in h a) (near_in h b)).2, near_of (plus_in h (near_in h b) (near_in h c)).1 (plus_in h (near_in h b) (near_in h c)).2]
  exact plus_assoc h (near_in h a) (near_in h b) (near_in h c)
theorem add_id (h : V K N M) {a : Int} (h0 : 0 ≤ a) (h1 : a < sz K N M) : add K N M a (idn K) = a := by
  unfold add
  rw [near_of (idn_in h).1 (idn_in h).2, near_of h0 h1]
  exact plus_id h ⟨h0, h1⟩
theorem add_near (h : V K N M) (a b : Int) : add K N M a (near K N M b) = add K N M a b := by
  unfold add; rw [near_of (near_in h b).1 (near_in h b).2]

theorem rep_in (h : V K N M) (p : Int) (n : Nat) : 0 ≤ rep K N M p n ∧ rep K N M p n < sz K N M := by
  cases n with
  | zero => exact idn_in h
  | succ n => exact add_in h _ _
theorem rep_near (h : V K N M) (p : Int) (n : Nat) : rep K N M (near K N M p) n = rep K N M p n := by
  induction n with
  | zero => rfl
  | succ n ih => simp only [rep, ih]; exact add_near h _ _
theorem rep_double (h : V K N M) (p : Int) (n : Nat) : rep K N M (add K N M p p) n = rep K N M p (2 * n) := by
  induction n with
  | zero => rfl
  | succ n ih =>
    rw [show 2 * (n + 1) = 2 * n + 1 + 1 from by omega]
    simp only [rep, ih]
    rw [add_assoc h]
/-- the steps of the multiplication by doubling -/
theorem step_odd (h : V K N M) (s p q : Int) (hq : 0 < q) (ho : q % 2 = 1) :
    add K N M (add K N M s p) (rep K N M (add K N M p p) (q / 2).toNat) = add K N M s (rep K N M p q.toNat) := by
  rw [rep_double h, show q.toNat = 2 * (q / 2).toNat + 1 from by omega]
  simp only [rep]
  rw [add_assoc h, add_comm p]
theorem step_even (h : V K N M) (s p q : Int) (hq : 0 < q) (ho : q % 2 = 0) :
    add K N M s (rep K N M (add K N M p p) (q / 2).toNat) = add K N M s (rep K N M p q.toNat) := by
  rw [rep_double h, show q.toNat = 2 * (q / 2).toNat from by omega]
end Go.Proofs.Ytfpmimfglikklaa.mono
