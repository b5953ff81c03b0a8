/-
  The canonical evaluator with many outcomes: outcomes are laid together where a call ends.
-/
import Derived.Test.YtjneboajbmabbaaDoorCanAA
set_option linter.unusedSimpArgs false
set_option linter.unusedVariables false
namespace Go.Can
variable {P : Program} {G : List Nat}

def eqL {α : Type} (f : α → α → Bool) : List α → List α → Bool
  | [], [] => true
  | a :: x, b :: y => f a b && eqL f x y
  | _, _ => false
theorem eqL_eq {α : Type} {f : α → α → Bool} (h : ∀ a b, f a b = true → a = b) : ∀ x y, eqL f x y = true → x = y
  | [], [], _ => rfl
  | a :: x, b :: y, e => by
    simp only [eqL, Bool.and_eq_true] at e
    rw [h _ _ e.1, eqL_eq h _ _ e.2]
  | [], _ :: _, e => by cases e
  | _ :: _, [], e => by cases e
def eqV : Nat → Value → Value → Bool
  | _ + 1, .bool a, .bool b => decide (a = b)
  | _ + 1, .int k a, .int k' b => decide (k = k') && decide (a = b)
  | _ + 1, .string a, .string b => decide (a = b)
  | _ + 1, .pointer a, .pointer b => decide (a = b)
  | _ + 1, .slice a n c, .slice a' n' c' => decide (a = a') && decide (n = n') && decide (c = c')
  | _ + 1, .map a, .map b => decide (a = b)
  | _ + 1, .nilFunc, .nilFunc => true
  | _ + 1, .nilIface, .nilIface => true
  | n + 1, .iface t v, .iface t' v' => decide (t = t') && eqV n v v'
  | n + 1, .agg x, .agg y => eqL (eqV n) x.toList y.toList
  | n + 1, .tuple x, .tuple y => eqL (eqV n) x.toList y.toList
  | n + 1, .func (.func f) x y, .func (.func f') x' y' => decide (f = f') && eqL (eqV n) x.toList x'.toList && eqL (eqV n) y.toList y'.toList
  | _, _, _ => false
theorem arr_eq {α : Type} {x y : Array α} (h : x.toList = y.toList) : x = y := by cases x; cases y; simp_all
theorem eqV_eq : ∀ n a b, eqV n a b = true → a = b := by
  intro n
  induction n with
  | zero => intro a b h; simp [eqV] at h
  | succ n ih =>
    intro a b h
    have rows : ∀ x y : Array Value, eqL (eqV n) x.toList y.toList = true → x = y := fun x y h => arr_eq (eqL_eq ih _ _ h)
    unfold eqV at h
    split at h
    · rename_i h0; cases h0; rw [of_decide_eq_true h]
    · rename_i h0; cases h0
      simp only [Bool.and_eq_true, decide_eq_true_eq] at h
      rw [h.1, h.2]
    · rename_i h0; cases h0; rw [of_decide_eq_true h]
    · rename_i h0; cases h0; rw [of_decide_eq_true h]
    · rename_i h0; cases h0
      simp only [Bool.and_eq_true, decide_eq_true_eq] at h
      rw [h.1.1, h.1.2, h.2]
    · rename_i h0; cases h0; rw [of_decide_eq_true h]
    · rfl
    · rfl
    · rename_i h0; cases h0
      simp only [Bool.and_eq_true, decide_eq_true_eq] at h
      rw [h.1, ih _ _ h.2]
    · rename_i h0; cases h0; rw [rows _ _ h]
    · rename_i h0; cases h0; rw [rows _ _ h]
    · rename_i h0; cases h0
      simp only [Bool.and_eq_true, decide_eq_true_eq] at h
      rw [h.1.1, rows _ _ h.1.2, rows _ _ h.2]
    · cases h
def eqO : Obj → Obj → Bool
  | .cells c t f, .cells c' t' f' => decide (t = t') && decide (f = f') && eqL (eqV 60) c.toList c'.toList
  | .map es k, .map es' k' => decide (k = k') && eqL (fun e e' => eqV 60 e.key e'.key && eqV 60 e.val e'.val && decide (e.born = e'.born)) es.toList es'.toList
  | .deferred none, .deferred none => true
  | .deferred (some []), .deferred (some []) => true
  | _, _ => false
theorem eqO_eq {a b : Obj} (h : eqO a b = true) : a = b := by
  unfold eqO at h
  split at h
  · simp only [Bool.and_eq_true, decide_eq_true_eq] at h
    rw [h.1.1, h.1.2, arr_eq (eqL_eq (eqV_eq 60) _ _ h.2)]
  · simp only [Bool.and_eq_true, decide_eq_true_eq] at h
    rw [h.1, arr_eq (eqL_eq (fun e e' he => by
      simp only [Bool.and_eq_true, decide_eq_true_eq] at he
      obtain ⟨k, v, b⟩ := e
      obtain ⟨k', v', b'⟩ := e'
      simp only at he
      rw [eqV_eq _ _ _ he.1.1, eqV_eq _ _ _ he.1.2, he.2]) _ _ h.2)]
  · rfl
  · rfl
  · cases h

/-- one outcome knows no more than another -/
structure Un (B A : AW) : Prop where
  size : B.size = A.size
  ro : B.ro = A.ro
  loose : B.loose = A.loose
  obj : ∀ (b : Nat) (o : Obj), B.w.heap[b]? = some o → o = deadObj ∨ A.w.heap[b]? = some o
theorem Un.refl (A : AW) : Un A A := ⟨rfl, rfl, rfl, fun _ _ h => .inr h⟩
theorem Un.trans {C B A : AW} (h : Un C B) (k : Un B A) : Un C A := ⟨h.size.trans k.size, h.ro.trans k.ro, h.loose.trans k.loose, fun b o ho => (h.obj b o ho).elim .inl fun h => k.obj b o h⟩
theorem Un.alive {B A : AW} (h : Un B A) {b : Nat} (hb : B.alive b = true) : A.alive b = true ∧ A.w.heap[b]? = B.w.heap[b]? := by
  unfold AW.alive at hb
  cases hx : B.w.heap[b]? with
  | none => rw [hx] at hb; cases hb
  | some o =>
    rcases h.obj b o hx with rfl | h2
    · rw [hx] at hb; cases hb
    · refine ⟨?_, h2⟩
      unfold AW.alive
      rw [h2]
      rw [hx] at hb
      exact hb
theorem WR.un {R : CR} {B A : AW} {w : World} (hw : WR R A w) (h : Un B A) : WR R B w where
  dom b k l x := by rw [h.size]; exact hw.dom b k l x
  fn := hw.fn
  inj b c k l l' x y p q := hw.inj b c k l l' x y (h.alive p).1 (h.alive q).1
  loose b k l x p := by
    have := hw.loose b k l x (h.alive p).1
    unfold AW.tail at this ⊢
    rw [h.loose]; exact this
  obj b k l o o' x p h1 h2 := hw.obj b k l o o' x (h.alive p).1 (by rw [(h.alive p).2]; exact h1) h2
  ro := by rw [h.size, h.ro]; exact hw.ro
  lsize b s hb := by
    rw [h.size]
    refine hw.lsize b s ?_
    unfold AW.tail at hb ⊢
    rw [← h.loose]; exact hb
theorem Ext.un {R R' : CR} {A A' B' : AW} {w w' : World} (k : Ext R A w R' A' w') (h : Un B' A') : Ext R A w R' B' w' :=
  ⟨k.le, k.fresh, by rw [h.size]; exact k.asize, k.wsize, h.ro.trans k.ro, fun b hb hx => k.back b hb (h.alive hx).1, k.same, k.os, k.tape, k.output⟩
def mergeH : List Obj → List Obj → List Obj
  | a :: x, b :: y => (if eqO a b then a else deadObj) :: mergeH x y
  | _, _ => []
theorem mergeH_spec : ∀ (x y : List Obj), x.length = y.length → (mergeH x y).length = x.length ∧ ∀ (i : Nat) (o : Obj), (mergeH x y)[i]? = some o → o = deadObj ∨ (x[i]? = some o ∧ y[i]? = some o)
  | [], [], _ => ⟨rfl, fun i o h => by simp [mergeH] at h⟩
  | a :: x, b :: y, hl => by
    obtain ⟨h1, h2⟩ := mergeH_spec x y (by simpa using hl)
    refine ⟨by simp [mergeH, h1], fun i o h => ?_⟩
    cases i with
    | zero =>
      simp only [mergeH, List.getElem?_cons_zero, Option.some.injEq] at h
      split at h
      · rename_i he
        subst h
        exact .inr ⟨rfl, by rw [eqO_eq he]; rfl⟩
      · exact .inl h.symm
    | succ i => simpa [mergeH] using h2 i o (by simpa [mergeH] using h)
  | [], _ :: _, h => by cases h
  | _ :: _, [], h => by cases h
def merge2 (x y : Value × AW) : Option (Value × AW) :=
  if eqV 60 x.1 y.1 && decide (x.2.loose = y.2.loose) && decide (x.2.ro = y.2.ro) && decide (x.2.w.heap.toList.length = y.2.w.heap.toList.length) then
    some (x.1, { w := { x.2.w with heap := ⟨mergeH x.2.w.heap.toList y.2.w.heap.toList⟩ }, loose := x.2.loose, ro := x.2.ro })
  else none
theorem merge2_ok {x y z : Value × AW} (h : merge2 x y = some z) : x.1 = z.1 ∧ y.1 = z.1 ∧ Un z.2 x.2 ∧ Un z.2 y.2 := by
  unfold merge2 at h
  split at h
  case isFalse => cases h
  rename_i hc
  cases h
  simp only [Bool.and_eq_true, decide_eq_true_eq] at hc
  obtain ⟨⟨⟨h1, h2⟩, h3⟩, h4⟩ := hc
  obtain ⟨m1, m2⟩ := mergeH_spec _ _ h4
  have e := eqV_eq _ _ _ h1
  refine ⟨rfl, e.symm, ⟨?_, rfl, rfl, fun b o ho => ?_⟩, ⟨?_, h3, h2, fun b o ho => ?_⟩⟩
  · simpa [AW.size] using m1
  · have := m2 b o (by simpa using ho)
    simpa using this.imp id (·.1)
  · simp only [AW.size]; rw [Array.length_toList, Array.length_toList] at h4; simpa [h4] using m1
  · have := m2 b o (by simpa using ho)
    simpa using this.imp id (·.2)
def mergeL : List (Value × AW) → Option (Value × AW)
  | [] => none
  | [x] => some x
  | x :: l => match mergeL l with
    | some y => merge2 x y
    | none => none
theorem mergeL_ok : ∀ {L : List (Value × AW)} {z : Value × AW}, mergeL L = some z → ∀ y ∈ L, y.1 = z.1 ∧ Un z.2 y.2
  | [], _, h => by cases h
  | [x], z, h => fun y hy => by
    cases h
    cases List.mem_singleton.1 hy
    exact ⟨rfl, .refl _⟩
  | x :: x2 :: l, z, h => fun y hy => by
    unfold mergeL at h
    split at h
    case h_2 => cases h
    rename_i u hu
    obtain ⟨k1, k2, k3, k4⟩ := merge2_ok h
    rcases List.mem_cons.1 hy with rfl | hy
    · exact ⟨k1, k3⟩
    · obtain ⟨q1, q2⟩ := mergeL_ok hu y hy
      exact ⟨q1.trans k2, k4.trans q2⟩
end Go.Can
