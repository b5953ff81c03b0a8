/-
  Digits to the base ten: comparing, multiplying, dividing by one digit.
-/
import Derived.Test.YtogjobmekjighaaDoorBdM
set_option linter.unusedSimpArgs false
set_option linter.unusedVariables false
namespace Go.Bd
theorem valTo_lt {a : List Nat} (h : Dig a) (k : Nat) : valTo a k < B ^ k := by
  have h2 : Dig ((List.range k).map (dg a)) := fun d hd => by
    obtain ⟨i, _, rfl⟩ := List.mem_map.1 hd
    exact dg_lt h i
  have := val_lt h2
  simpa [valTo] using this
/-- the digits from k on, as far as n, are the same -/
theorem valTo_diff {a b : List Nat} {k : Nat} : ∀ (j : Nat), (∀ i, k ≤ i → i < k + j → dg a i = dg b i) → valTo a (k + j) + valTo b k = valTo b (k + j) + valTo a k
  | 0, _ => by rw [Nat.add_zero]; omega
  | j + 1, h => by
    have ih := valTo_diff j (fun i h1 h2 => h i h1 (by omega))
    rw [← Nat.add_assoc, valTo_succ, valTo_succ, h (k + j) (by omega) (by omega)]
    omega
theorem valTo_lt_of_dg {a b : List Nat} (ha : Dig a) {k : Nat} (h : dg a k < dg b k) : valTo a (k + 1) < valTo b (k + 1) := by
  rw [valTo_succ, valTo_succ]
  have h1 := valTo_lt ha k
  have h2 : B ^ k * (dg a k + 1) ≤ B ^ k * dg b k := Nat.mul_le_mul_left _ h
  rw [Nat.mul_add, Nat.mul_one] at h2
  omega
/-- the first digit from above that differs decides -/
theorem cmp_dg {a b : List Nat} (ha : Dig a) (hl : a.length = b.length) {k : Nat} (hk : k < a.length) (heq : ∀ i, k < i → i < a.length → dg a i = dg b i) (h : dg a k < dg b k) : val a < val b := by
  have h1 := valTo_lt_of_dg ha h
  obtain ⟨j, hj⟩ : ∃ j, a.length = k + 1 + j := ⟨a.length - (k + 1), by omega⟩
  have h2 := valTo_diff (a := a) (b := b) (k := k + 1) j (fun i h1 h2 => heq i (by omega) (by omega))
  rw [← hj] at h2
  rw [valTo_all _ (Nat.le_refl _), hl, valTo_all _ (Nat.le_refl _)] at h2
  omega
theorem eq_dg {a b : List Nat} (hl : a.length = b.length) (heq : ∀ i, i < a.length → dg a i = dg b i) : a = b := by
  refine List.ext_getElem? fun i => ?_
  by_cases hi : i < a.length
  · rw [dg_some hi, dg_some (by omega), heq i hi]
  · rw [List.getElem?_eq_none (by omega), List.getElem?_eq_none (by omega)]
/-- one digit is laid anew -/
theorem val_set : ∀ {d : List Nat} {j : Nat} (v : Nat), j < d.length → val (d.set j v) + B ^ j * dg d j = val d + B ^ j * v
  | x :: r, 0, v, _ => by
    simp [val_cons, dg]; omega
  | x :: r, j + 1, v, h => by
    have ih := val_set (d := r) (j := j) v (by simpa using h)
    have e : dg (x :: r) (j + 1) = dg r j := by simp [dg]
    rw [List.set_cons_succ, val_cons, val_cons, e, Nat.pow_succ]
    have e1 : B ^ j * B * dg r j = B * (B ^ j * dg r j) := by rw [Nat.mul_comm (B ^ j) B, Nat.mul_assoc]
    have e2 : B ^ j * B * v = B * (B ^ j * v) := by rw [Nat.mul_comm (B ^ j) B, Nat.mul_assoc]
    rw [e1, e2]
    have := congrArg (B * ·) ih
    simp only [Nat.mul_add] at this
    omega
theorem dig_set {d : List Nat} (h : Dig d) {j v : Nat} (hv : v < B) : Dig (d.set j v) := fun x hx => by
  rcases List.mem_or_eq_of_mem_set hx with h1 | h1
  · exact h x h1
  · rw [h1]; exact hv
theorem dg_set {d : List Nat} {j v i : Nat} (h : j < d.length) : dg (d.set j v) i = if i = j then v else dg d i := by
  unfold dg
  rw [List.getD_eq_getElem?_getD, List.getD_eq_getElem?_getD, List.getElem?_set]
  by_cases e : i = j
  · subst e; simp [h]
  · rw [if_neg (fun h => e h.symm), if_neg e]
/-- one step of a product's row: the carry and one digit -/
theorem mul_step {d b : List Nat} {v0 x i k c : Nat} (hd : i + k < d.length) (h : val d + B ^ (i + k) * c = v0 + x * B ^ i * valTo b k) :
    val (d.set (i + k) ((c + x * dg b k + dg d (i + k)) % B)) + B ^ (i + (k + 1)) * ((c + x * dg b k + dg d (i + k)) / B) = v0 + x * B ^ i * valTo b (k + 1) := by
  have h1 := val_set (d := d) ((c + x * dg b k + dg d (i + k)) % B) hd
  have e := Nat.mod_add_div (c + x * dg b k + dg d (i + k)) B
  generalize hm : (c + x * dg b k + dg d (i + k)) % B = m at h1 e ⊢
  generalize hq : (c + x * dg b k + dg d (i + k)) / B = t at e ⊢
  rw [valTo_succ, ← Nat.add_assoc, Nat.pow_succ, Nat.mul_assoc]
  have e2 := congrArg (B ^ (i + k) * ·) e
  simp only [Nat.mul_add] at e2
  have e3 : x * B ^ i * (valTo b k + B ^ k * dg b k) = x * B ^ i * valTo b k + B ^ (i + k) * (x * dg b k) := by
    rw [Nat.mul_add, Nat.pow_add]
    congr 1
    rw [Nat.mul_assoc, Nat.mul_assoc, Nat.mul_left_comm x (B ^ i), Nat.mul_left_comm x (B ^ k)]
  rw [e3]
  omega
/-- the digits from i on -/
def hi (ds : List Nat) (i : Nat) : Nat := val (ds.drop i)
theorem hi_all (ds : List Nat) : hi ds 0 = val ds := rfl
theorem hi_end (ds : List Nat) : hi ds ds.length = 0 := by simp [hi, val]
theorem hi_step {ds : List Nat} {i : Nat} (h : i < ds.length) : hi ds i = dg ds i + B * hi ds (i + 1) := by
  unfold hi
  rw [List.drop_eq_getElem_cons h, val_cons]
  congr 1
  simp [dg, List.getD_eq_getElem?_getD, h]
theorem hi_set {d : List Nat} {i v : Nat} : hi (d.set i v) (i + 1) = hi d (i + 1) := by
  unfold hi; rw [List.drop_set_of_lt (by omega)]
/-- one step of a division by one digit -/
theorem div_step {a q : List Nat} {n r i : Nat} (hi1 : i < a.length) (hq : i < q.length) (h : hi a (i + 1) = hi q (i + 1) * n + r) :
    hi a i = hi (q.set i ((r * B + dg a i) / n)) i * n + (r * B + dg a i) % n := by
  rw [hi_step hi1, hi_step (ds := q.set i _) (by simpa using hq), hi_set, dg_set hq, if_pos rfl, h]
  have e := Nat.mod_add_div (r * B + dg a i) n
  rw [Nat.add_mul, Nat.mul_add]
  have e1 : B * (hi q (i + 1) * n) = B * hi q (i + 1) * n := (Nat.mul_assoc _ _ _).symm
  have e2 : (r * B + dg a i) / n * n = n * ((r * B + dg a i) / n) := Nat.mul_comm _ _
  have e3 : B * r = r * B := Nat.mul_comm _ _
  rw [e1, e2, e3]
  omega
theorem div_fit {r n d : Nat} (hr : r < n) (hd : d < B) : (r * B + d) / n < B := by
  rw [Nat.div_lt_iff_lt_mul (by omega)]
  have h1 : (r + 1) * B ≤ n * B := Nat.mul_le_mul_right _ hr
  rw [Nat.add_mul, Nat.one_mul] at h1
  rw [Nat.mul_comm B n]
  omega
end Go.Bd
