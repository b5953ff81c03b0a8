/-
  Digits to the base ten, least significant first.
-/
import Derived.Lib.ItoaNum
set_option linter.unusedSimpArgs false
set_option linter.unusedVariables false
namespace Go.Bd
/-- the base -/
def B : Nat := 10
/-- the number that the digits stand for -/
def val : List Nat → Nat
  | [] => 0
  | d :: r => d + B * val r
/-- each is a digit -/
def Dig (ds : List Nat) : Prop := ∀ d ∈ ds, d < B
/-- no leading zero -/
def Nrm (ds : List Nat) : Prop := ∀ h : ds ≠ [], ds.getLast h ≠ 0
theorem val_nil : val [] = 0 := rfl
theorem val_cons (d : Nat) (r : List Nat) : val (d :: r) = d + B * val r := rfl
theorem val_append : ∀ (a b : List Nat), val (a ++ b) = val a + B ^ a.length * val b
  | [], b => by simp [val]
  | d :: r, b => by
    rw [List.cons_append, val_cons, val_append r b, val_cons, List.length_cons, Nat.pow_succ, Nat.mul_add, Nat.add_assoc, ← Nat.mul_assoc, Nat.mul_comm B (B ^ r.length)]
theorem val_snoc (a : List Nat) (d : Nat) : val (a ++ [d]) = val a + B ^ a.length * d := by rw [val_append]; simp [val]
theorem val_lt : ∀ {a : List Nat}, Dig a → val a < B ^ a.length
  | [], _ => by simp [val]
  | d :: r, h => by
    have h1 : d < B := h d (by simp)
    have h2 := val_lt (a := r) (fun x hx => h x (by simp [hx]))
    rw [val_cons, List.length_cons, Nat.pow_succ, Nat.mul_comm]
    have h3 : val r + 1 ≤ B ^ r.length := h2
    have h4 : (val r + 1) * B ≤ B ^ r.length * B := Nat.mul_le_mul_right B h3
    rw [Nat.add_mul, Nat.one_mul] at h4
    omega
theorem val_zeros (n : Nat) : val (List.replicate n 0) = 0 := by
  induction n with
  | zero => rfl
  | succ n ih => rw [List.replicate_succ, val_cons, ih, Nat.mul_zero]
theorem dig_take {ds : List Nat} (h : Dig ds) (k : Nat) : Dig (ds.take k) := fun d hd => h d (List.mem_of_mem_take hd)
theorem dig_append {a b : List Nat} (h1 : Dig a) (h2 : Dig b) : Dig (a ++ b) := fun d hd => by
  rcases List.mem_append.1 hd with h | h
  · exact h1 d h
  · exact h2 d h
/-- leaving out leading zeros -/
theorem val_take_zero {ds : List Nat} {k : Nat} (h : k < ds.length) (h0 : ds[k]? = some 0) : val (ds.take (k + 1)) = val (ds.take k) := by
  rw [List.take_add_one, h0]
  show val (ds.take k ++ [0]) = _
  rw [val_snoc, Nat.mul_zero, Nat.add_zero]
theorem nrm_take {ds : List Nat} {k : Nat} (hk : k < ds.length) (h0 : ds[k]? ≠ some 0) : Nrm (ds.take (k + 1)) := by
  intro hne
  have e : ds.take (k + 1) = ds.take k ++ [ds[k]] := by rw [List.take_add_one, List.getElem?_eq_getElem hk]; rfl
  have : (ds.take (k + 1)).getLast hne = ds[k] := by
    have h1 : (ds.take (k + 1)).getLast? = some ds[k] := by rw [e, List.getLast?_concat]
    rw [List.getLast?_eq_some_getLast hne] at h1
    exact Option.some.inj h1
  rw [this]
  intro h
  exact h0 (by rw [List.getElem?_eq_getElem hk, h])
/-- digits without leading zeros are determined by their number -/
theorem val_pos : ∀ {ds : List Nat}, Nrm ds → ds ≠ [] → 0 < val ds
  | [d], h, _ => by
    have := h (by simp)
    simp at this
    rw [val_cons, val_nil]; omega
  | d :: e :: r, h, _ => by
    have := val_pos (ds := e :: r) (fun hne => by have := h (by simp); rwa [List.getLast_cons hne] at this) (by simp)
    rw [val_cons]
    have : 0 < B * val (e :: r) := Nat.mul_pos (by decide) this
    omega
theorem nrm_tail {d : Nat} {r : List Nat} (h : Nrm (d :: r)) : Nrm r := fun hne => by
  have := h (by simp)
  rwa [List.getLast_cons hne] at this
theorem dig_tail {d : Nat} {r : List Nat} (h : Dig (d :: r)) : Dig r := fun x hx => h x (by simp [hx])
theorem val_inj : ∀ {a b : List Nat}, Dig a → Dig b → Nrm a → Nrm b → val a = val b → a = b
  | [], [], _, _, _, _, _ => rfl
  | [], d :: r, _, _, _, hn, h => by have := val_pos hn (by simp); rw [← h] at this; exact absurd this (by simp [val])
  | d :: r, [], _, _, hn, _, h => by have := val_pos hn (by simp); rw [h] at this; exact absurd this (by simp [val])
  | d :: r, e :: s, h1, h2, h3, h4, h => by
    rw [val_cons, val_cons] at h
    have hd : d < B := h1 d (by simp)
    have he : e < B := h2 e (by simp)
    have e1 : (d + B * val r) % B = (e + B * val s) % B := by rw [h]
    rw [Nat.add_mul_mod_self_left, Nat.add_mul_mod_self_left, Nat.mod_eq_of_lt hd, Nat.mod_eq_of_lt he] at e1
    subst e1
    have e2 : B * val r = B * val s := by omega
    rw [val_inj (dig_tail h1) (dig_tail h2) (nrm_tail h3) (nrm_tail h4) (Nat.eq_of_mul_eq_mul_left (by decide) e2)]
/-- more digits, a greater number -/
theorem val_ge {ds : List Nat} (h : Nrm ds) (hne : ds ≠ []) : B ^ (ds.length - 1) ≤ val ds := by
  have e : ds = ds.dropLast ++ [ds.getLast hne] := (List.dropLast_concat_getLast hne).symm
  have h0 : ds.getLast hne ≠ 0 := h hne
  have hv : val ds = val ds.dropLast + B ^ ds.dropLast.length * ds.getLast hne := by conv => lhs; rw [e]; rw [val_snoc]
  rw [hv, List.length_dropLast]
  have : B ^ (ds.length - 1) * 1 ≤ B ^ (ds.length - 1) * ds.getLast hne := Nat.mul_le_mul_left _ (by omega)
  omega
theorem val_lt_len {a b : List Nat} (ha : Dig a) (hb : Nrm b) (h : a.length < b.length) : val a < val b := by
  have h1 := val_lt ha
  have hne : b ≠ [] := by intro e; rw [e] at h; simp at h
  have h2 := val_ge hb hne
  have h3 : B ^ a.length ≤ B ^ (b.length - 1) := Nat.pow_le_pow_right (by decide) (by omega)
  omega
/-- the digit at place i -/
def dg (ds : List Nat) (i : Nat) : Nat := ds.getD i 0
theorem dg_lt {ds : List Nat} (h : Dig ds) (i : Nat) : dg ds i < B := by
  unfold dg
  rw [List.getD_eq_getElem?_getD]
  cases e : ds[i]? with
  | none => decide
  | some x => exact h x (List.mem_of_getElem? e)
theorem dg_some {ds : List Nat} {i : Nat} (h : i < ds.length) : ds[i]? = some (dg ds i) := by simp [dg, List.getD_eq_getElem?_getD, h]
theorem dg_over {ds : List Nat} {i : Nat} (h : ds.length ≤ i) : dg ds i = 0 := by simp [dg, List.getD_eq_getElem?_getD, h]
/-- the number of the first k digits, zeros behind the last -/
def valTo (ds : List Nat) (k : Nat) : Nat := val ((List.range k).map (dg ds))
theorem valTo_zero (ds : List Nat) : valTo ds 0 = 0 := rfl
theorem valTo_succ (ds : List Nat) (k : Nat) : valTo ds (k + 1) = valTo ds k + B ^ k * dg ds k := by
  unfold valTo
  rw [List.range_succ, List.map_append]
  show val (_ ++ [dg ds k]) = _
  rw [val_snoc]; simp
theorem valTo_take {ds : List Nat} {k : Nat} (h : k ≤ ds.length) : valTo ds k = val (ds.take k) := by
  unfold valTo
  congr 1
  refine List.ext_getElem? fun i => ?_
  by_cases hi : i < k
  · rw [List.getElem?_map, List.getElem?_range hi, List.getElem?_take, if_pos hi, dg_some (by omega)]; rfl
  · rw [List.getElem?_eq_none (by simp; omega), List.getElem?_eq_none (by simp; omega)]
theorem valTo_all {ds : List Nat} : ∀ (k : Nat), ds.length ≤ k → valTo ds k = val ds := by
  intro k hk
  obtain ⟨j, rfl⟩ : ∃ j, k = ds.length + j := ⟨k - ds.length, by omega⟩
  induction j with
  | zero => rw [Nat.add_zero, valTo_take (Nat.le_refl _), List.take_length]
  | succ j ih => rw [← Nat.add_assoc, valTo_succ, ih (by omega), dg_over (by omega), Nat.mul_zero, Nat.add_zero]
/-- a sum, digit by digit -/
theorem add_step (a b : List Nat) {s : Nat} {c k : Nat} (h : s + B ^ k * c = valTo a k + valTo b k) :
    (s + B ^ k * ((dg a k + dg b k + c) % B)) + B ^ (k + 1) * ((dg a k + dg b k + c) / B) = valTo a (k + 1) + valTo b (k + 1) := by
  rw [valTo_succ, valTo_succ]
  have e := Nat.mod_add_div (dg a k + dg b k + c) B
  have e2 : B ^ (k + 1) * ((dg a k + dg b k + c) / B) = B ^ k * (B * ((dg a k + dg b k + c) / B)) := by rw [Nat.pow_succ, Nat.mul_assoc]
  rw [e2, Nat.add_assoc, ← Nat.mul_add, e, Nat.mul_add, Nat.mul_add]
  omega
/-- M times the one, and the other, digit by digit -/
theorem mad_step (M : Nat) (a b : List Nat) {s c k : Nat} (h : s + B ^ k * c = M * valTo a k + valTo b k) :
    (s + B ^ k * ((dg a k * M + dg b k + c) % B)) + B ^ (k + 1) * ((dg a k * M + dg b k + c) / B) = M * valTo a (k + 1) + valTo b (k + 1) := by
  rw [valTo_succ, valTo_succ]
  have e := Nat.mod_add_div (dg a k * M + dg b k + c) B
  have e2 : B ^ (k + 1) * ((dg a k * M + dg b k + c) / B) = B ^ k * (B * ((dg a k * M + dg b k + c) / B)) := by rw [Nat.pow_succ, Nat.mul_assoc]
  have e3 : M * (B ^ k * dg a k) = B ^ k * (dg a k * M) := by rw [Nat.mul_left_comm, Nat.mul_comm M]
  rw [e2, Nat.add_assoc, ← Nat.mul_add, e, Nat.mul_add, Nat.mul_add, Nat.mul_add, e3]
  omega
theorem mad_carry {M x y c : Nat} (hx : x < B) (hy : y < B) (hc : c ≤ M) : (x * M + y + c) / B ≤ M := by
  have h1 : x * M ≤ (B - 1) * M := Nat.mul_le_mul_right _ (by omega)
  have h2 : (B - 1) * M + M = B * M := by
    have : B = (B - 1) + 1 := by decide
    conv => rhs; rw [this, Nat.add_mul, Nat.one_mul]
  have h3 : x * M + y + c < (M + 1) * B := by rw [Nat.add_mul, Nat.one_mul, Nat.mul_comm M B]; omega
  have := (Nat.div_lt_iff_lt_mul (by decide : 0 < B)).2 h3
  omega
/-- a difference, digit by digit -/
theorem sub_step (a b : List Nat) {s c k d c' : Nat} (h : valTo a k + B ^ k * c = s + valTo b k) (e : dg a k + B * c' = dg b k + c + d) :
    valTo a (k + 1) + B ^ (k + 1) * c' = (s + B ^ k * d) + valTo b (k + 1) := by
  rw [valTo_succ, valTo_succ]
  have e2 : B ^ (k + 1) * c' = B ^ k * (B * c') := by rw [Nat.pow_succ, Nat.mul_assoc]
  have e3 := congrArg (B ^ k * ·) e
  simp only [Nat.mul_add] at e3
  rw [e2]
  omega
end Go.Bd
