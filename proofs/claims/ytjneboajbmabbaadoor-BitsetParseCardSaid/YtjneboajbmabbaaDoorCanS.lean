/-
  The real run follows the canonical evaluator: regions that draw their order.
-/
import Derived.Test.YtjneboajbmabbaaDoorCanR
set_option linter.unusedSimpArgs false
set_option linter.unusedVariables false
namespace Go.Can
variable {P : Program} {G : List Nat}

/-! What the evaluation of a drawing region has shown -/
theorem putSeen_append (S : Nat → Bool) : ∀ (x y : List Done) (k : Nat) (a : Act), putSeen S k (x ++ y) a = putSeen S (k + x.length) y (putSeen S k x a)
  | [], y, k, a => rfl
  | d :: x, y, k, a => by simp only [List.cons_append, putSeen, List.length_cons]; rw [putSeen_append S x y (k + 1)]; congr 1; omega
theorem putSeen_none (S : Nat → Bool) : ∀ (x : List Done) (k : Nat) (a : Act), (∀ i, i < x.length → S (k + i) = false) → putSeen S k x a = a
  | [], k, a, _ => rfl
  | d :: x, k, a, h => by
    simp only [putSeen]
    have h0 := h 0 (by simp)
    simp only [Nat.add_zero] at h0
    rw [h0]
    exact putSeen_none S x (k + 1) a fun i hi => by have := h (i + 1) (by simpa using hi); rw [show k + 1 + i = k + (i + 1) by omega]; exact this
theorem put_get (a : Act) (dst : Option Tmp) (v : Value) (t : Nat) : (a.put dst v).tmps[t]? = if dst = some t ∧ t < a.tmps.size then some v else a.tmps[t]? := by
  cases dst with
  | none => simp [Act.put]
  | some d =>
    simp only [Act.put, Array.getElem?_setIfInBounds, Option.some.injEq]
    by_cases h : d = t
    · subst h
      by_cases h2 : d < a.tmps.size
      · simp [h2]
      · simp [h2]
    · simp [h]
theorem put_size (a : Act) (dst : Option Tmp) (v : Value) : (a.put dst v).tmps.size = a.tmps.size := by cases dst <;> simp [Act.put]
theorem putSeen_size (S : Nat → Bool) : ∀ (x : List Done) (k : Nat) (a : Act), (putSeen S k x a).tmps.size = a.tmps.size ∧ (putSeen S k x a).defers = a.defers
  | [], k, a => ⟨rfl, rfl⟩
  | d :: x, k, a => by
    simp only [putSeen]
    obtain ⟨h1, h2⟩ := putSeen_size S x (k + 1) (if S k then a.put d.o.dst d.v else a)
    rw [h1, h2]
    split
    · exact ⟨put_size _ _ _, by cases d.o.dst <;> rfl⟩
    · exact ⟨rfl, rfl⟩
/-- two sets that agree on whoever writes t leave the same in t -/
theorem putSeen_agree (S S' : Nat → Bool) (t : Nat) : ∀ (x : List Done) (k : Nat) (a a' : Act), a.tmps[t]? = a'.tmps[t]? → a.tmps.size = a'.tmps.size → (∀ i d, x[i]? = some d → d.o.dst = some t → S (k + i) = S' (k + i)) →
    (putSeen S k x a).tmps[t]? = (putSeen S' k x a').tmps[t]?
  | [], k, a, a', h, _, _ => h
  | d :: x, k, a, a', h, hs, hw => by
    simp only [putSeen]
    refine putSeen_agree S S' t x (k + 1) _ _ ?_ ?_ fun i d' hi hd => by have := hw (i + 1) d' (by simpa using hi) hd; rw [show k + 1 + i = k + (i + 1) by omega]; exact this
    · by_cases hd : d.o.dst = some t
      · have e := hw 0 d rfl hd
        simp only [Nat.add_zero] at e
        rw [e]
        split
        · rw [put_get, put_get, hs, h]
        · exact h
      · have g : ∀ (b : Act), (b.put d.o.dst d.v).tmps[t]? = b.tmps[t]? := fun b => by rw [put_get, if_neg (fun h => hd h.1)]
        split <;> split <;> (try simp only [g]) <;> exact h
    · split <;> split <;> (try simp only [put_size]) <;> exact hs
/-- the last writer in the set -/
theorem putSeen_last (S : Nat → Bool) (t : Nat) : ∀ (x : List Done) (k i : Nat) (d : Done) (a : Act), x[i]? = some d → d.o.dst = some t → S (k + i) = true → (∀ j d', i < j → x[j]? = some d' → d'.o.dst = some t → S (k + j) = false) →
    t < a.tmps.size → (putSeen S k x a).tmps[t]? = some d.v
  | [], k, i, d, a, hi, _, _, _, _ => by simp at hi
  | e :: x, k, 0, d, a, hi, hd, hS, hlast, ht => by
    simp at hi; subst hi
    have hS : S k = true := hS
    simp only [putSeen, hS, if_true]
    have h1 : (putSeen S (k + 1) x (a.put e.o.dst e.v)).tmps[t]? = (putSeen (fun _ => false) (k + 1) x (a.put e.o.dst e.v)).tmps[t]? :=
      putSeen_agree _ _ t x (k + 1) _ _ rfl rfl fun j d' hj hd' => by have := hlast (j + 1) d' (by omega) (by simpa using hj) hd'; rw [show k + 1 + j = k + (j + 1) by omega]; exact this
    rw [h1, putSeen_none _ _ _ _ (fun _ _ => rfl), put_get, if_pos ⟨hd, ht⟩]
  | e :: x, k, i + 1, d, a, hi, hd, hS, hlast, ht => by
    simp only [putSeen]
    refine putSeen_last S t x (k + 1) i d _ (by simpa using hi) hd (by rw [show k + 1 + i = k + (i + 1) by omega]; exact hS) (fun j d' hj hx hd' => by have := hlast (j + 1) d' (by omega) (by simpa using hx) hd'; rw [show k + 1 + j = k + (j + 1) by omega]; exact this) ?_
    split
    · rw [put_size]; exact ht
    · exact ht
theorem deadRange_get (lo : Nat) : ∀ (n : Nat) (h : Array Obj) (b : Nat), ¬ (lo ≤ b ∧ b < lo + n) → (deadRange lo n h)[b]? = h[b]?
  | 0, h, b, _ => rfl
  | n + 1, h, b, hb => by
    simp only [deadRange, Array.getElem?_setIfInBounds]
    rw [if_neg (by omega)]
    exact deadRange_get lo n h b (by omega)
theorem deadRange_size (lo : Nat) : ∀ (n : Nat) (h : Array Obj), (deadRange lo n h).size = h.size
  | 0, h => rfl
  | n + 1, h => by simp only [deadRange, Array.size_setIfInBounds]; exact deadRange_size lo n h
theorem unseen_get (S : Nat → Bool) : ∀ (x : List Done) (k : Nat) (h : Array Obj) (b : Nat), (∀ i d, x[i]? = some d → S (k + i) = false → ¬ (d.lo ≤ b ∧ b < d.hi)) → (unseen S k x h)[b]? = h[b]?
  | [], k, h, b, _ => rfl
  | d :: x, k, h, b, hb => by
    simp only [unseen]
    rw [unseen_get S x (k + 1) _ b fun i d' hi hs => hb (i + 1) d' (by simpa using hi) (by rw [show k + (i + 1) = k + 1 + i by omega]; exact hs)]
    split
    · rfl
    · rename_i hs
      have := hb 0 d rfl (by simpa using hs)
      exact deadRange_get _ _ _ _ (by omega)
theorem unseen_size (S : Nat → Bool) : ∀ (x : List Done) (k : Nat) (h : Array Obj), (unseen S k x h).size = h.size
  | [], k, h => rfl
  | d :: x, k, h => by
    simp only [unseen]
    rw [unseen_size S x (k + 1)]
    split
    · rfl
    · exact deadRange_size _ _ _
theorem apartAll_get {ops : Array Oper} {sees : List Nat} {o : Oper} : ∀ (x : List Done) (k : Nat), apartAll ops sees o k x = true → ∀ i d, x[i]? = some d → k + i ∈ sees ∨ ((∀ t, d.o.dst = some t → t ∉ o.looksAt ops ∧ o.dst ≠ some t) ∧ ∀ t, o.dst = some t → t ∉ d.o.looksAt ops)
  | [], k, _, i, d, hi => by simp at hi
  | e :: x, k, h, 0, d, hi => by
    simp at hi; subst hi
    simp only [apartAll, Bool.and_eq_true, Bool.or_eq_true] at h
    rcases h.1 with h1 | ⟨h1, h2⟩
    · exact .inl (by simpa using h1)
    · refine .inr ⟨fun t ht => ?_, fun t ht => ?_⟩
      · rw [ht] at h1; simpa using h1
      · rw [ht] at h2; simpa using h2
  | e :: x, k, h, i + 1, d, hi => by
    simp only [apartAll, Bool.and_eq_true] at h
    have := apartAll_get x (k + 1) h.2 i d (by simpa using hi)
    rw [show k + (i + 1) = k + 1 + i by omega]; exact this

theorem evDraw_spec {call : Rec} {ops : Array Oper} {a0 : Act} : ∀ (l : List Oper) (ds : List Done) {A A' : AW} {ds' : List Done}, evDraw P G call ops l ds a0 A = some (ds', A') →
    ds'.length = ds.length + l.length ∧ ds'.take ds.length = ds ∧ ∃ W : Nat → AW, W ds.length = A ∧ W ds'.length = A' ∧
      ∀ k, ds.length ≤ k → k < ds'.length → ∃ d o, ds'[k]? = some d ∧ l[k - ds.length]? = some o ∧ evDraw1 P G call ops (ds'.take k) o a0 (W k) = some (d, W (k + 1))
  | [], ds, A, A', ds', h => by
    simp only [evDraw, Option.some.injEq, Prod.mk.injEq] at h
    obtain ⟨rfl, rfl⟩ := h
    exact ⟨by simp, by simp, fun _ => A, rfl, rfl, fun k h1 h2 => by omega⟩
  | o :: l, ds, A, A', ds', h => by
    unfold evDraw at h
    split at h
    case h_2 => cases h
    rename_i d A1 h1
    obtain ⟨q1, q2, W, w1, w2, w3⟩ := evDraw_spec l (ds ++ [d]) h
    simp only [List.length_append, List.length_cons, List.length_nil] at q1 q2 w1 w3
    have hd : ds'[ds.length]? = some d := by
      have : (ds'.take (ds.length + 1))[ds.length]? = some d := by rw [q2]; simp
      rw [List.getElem?_take] at this
      simpa using this
    have ht : ds'.take ds.length = ds := by
      have := congrArg (List.take ds.length) q2
      rw [List.take_take] at this
      simpa [Nat.min_eq_left (Nat.le_succ _)] using this
    refine ⟨by simp; omega, ht, fun k => if k = ds.length then A else W k, by simp, ?_, fun k hk1 hk2 => ?_⟩
    · show (if ds'.length = ds.length then A else W ds'.length) = A'
      rw [if_neg (by omega)]; exact w2
    · by_cases e : k = ds.length
      · subst e
        refine ⟨d, o, hd, by simp, ?_⟩
        rw [ht]
        simp only [if_true]
        rw [if_neg (by omega), w1]
        exact h1
      · obtain ⟨d', o', z1, z2, z3⟩ := w3 k (by omega) hk2
        refine ⟨d', o', z1, ?_, ?_⟩
        · rw [show k - ds.length = (k - (ds.length + 1)) + 1 by omega]; simpa using z2
        · simp only [if_neg e]; rw [if_neg (by omega)]; exact z3

/-- what one step has shown -/
structure StepOk (P : Program) (G : List Nat) (call : Rec) (ops : Array Oper) (ds : List Done) (a0 : Act) (k : Nat) (d : Done) (W W1 : AW) : Prop where
  dir : ∀ j ∈ directs d.o, j < k
  sees : d.sees = seesOf (ds.take k) d.o
  apart : ∀ j e, j < k → ds[j]? = some e → j ∈ d.sees ∨ ((∀ t, e.o.dst = some t → t ∉ d.o.looksAt ops ∧ d.o.dst ≠ some t) ∧ ∀ t, d.o.dst = some t → t ∉ e.o.looksAt ops)
  lo : d.lo = W.size
  hi : d.hi = W1.size
  le : W.size ≤ W1.size
  ro : W1.ro = W.ro
  heap : ∀ b, b < W.size → W1.w.heap[b]? = W.w.heap[b]?
  tail : ∀ b, b < W.size → W1.tail b = W.tail b
  ls : (∀ b s, W.tail b = some s → b < W.size) → ∀ b s, W1.tail b = some s → b < W1.size
  act : (Region.wanted d.o (yielded ops (putSeen (fun i => d.sees.contains i) 0 (ds.take k) a0).tmps) = false ∧ d.v = undef ∧ W1 = W) ∨
    (Region.wanted d.o (yielded ops (putSeen (fun i => d.sees.contains i) 0 (ds.take k) a0).tmps) = true ∧
      ∃ A1 : AW, evOp P G call d.o (putSeen (fun i => d.sees.contains i) 0 (ds.take k) a0) { w := { W.w with heap := unseen (fun i => d.sees.contains i) 0 (ds.take k) W.w.heap }, loose := W.loose, ro := W.size } = some (d.v, A1) ∧
        A1.size = W1.size ∧ ∀ b, W.size ≤ b → b < W1.size → W1.w.heap[b]? = A1.w.heap[b]? ∧ ((∀ b s, W.tail b = some s → b < W.size) → W1.tail b = A1.tail b))
theorem lookup_filter (p : Nat → Bool) (l : List (Nat × Nat)) (b : Nat) : (l.filter fun q => p q.1).lookup b = if p b then l.lookup b else none := by
  induction l with
  | nil => simp [List.lookup]
  | cons x l ih =>
    obtain ⟨c, s⟩ := x
    simp only [List.filter_cons]
    by_cases hbc : b = c
    · subst hbc
      by_cases hp : p b = true
      · simp [hp, List.lookup]
      · simp only [hp]
        simp only [Bool.false_eq_true, if_false]
        rw [ih]; simp [hp]
    · have hb : (b == c) = false := by simpa using hbc
      by_cases hp : p c = true
      · simp only [hp, if_true, List.lookup, hb]; rw [ih]
      · simp only [hp, List.lookup, hb]
        simp only [Bool.false_eq_true, if_false]
        exact ih
theorem step_of_evDraw1 {call : Rec} {ops : Array Oper} {a0 : Act} {ds : List Done} {k : Nat} {d : Done} {o : Oper} {W W1 : AW} (hk : k < ds.length) (hd : ds[k]? = some d) (h : evDraw1 P G call ops (ds.take k) o a0 W = some (d, W1)) :
    d.o = o ∧ StepOk P G call ops ds a0 k d W W1 := by
  have hlen : (ds.take k).length = k := by rw [List.length_take]; omega
  unfold evDraw1 at h
  split at h
  · cases h
  rename_i hdir
  split at h
  · cases h
  rename_i hap
  simp only [Bool.not_eq_true', Bool.not_eq_false] at hdir hap
  rw [hlen] at hdir
  have hdir' : ∀ j ∈ directs o, j < k := fun j hj => by have := List.all_eq_true.1 hdir j hj; simpa using this
  have hap' : ∀ (sees : List Nat), sees = seesOf (ds.take k) o → ∀ j e, j < k → ds[j]? = some e → j ∈ sees ∨ ((∀ t, e.o.dst = some t → t ∉ o.looksAt ops ∧ o.dst ≠ some t) ∧ ∀ t, o.dst = some t → t ∉ e.o.looksAt ops) := by
    intro sees hs j e hj he
    subst hs
    have := apartAll_get _ 0 hap j e (by rw [List.getElem?_take, if_pos hj]; exact he)
    simpa using this
  split at h
  · rename_i hw
    split at h
    case h_2 => cases h
    rename_i v A1 hop
    split at h
    case isFalse => cases h
    rename_i hck
    simp only [Bool.and_eq_true, decide_eq_true_eq] at hck
    simp only [Option.some.injEq, Prod.mk.injEq] at h
    obtain ⟨rfl, rfl⟩ := h
    have hsz : (W.w.heap ++ A1.w.heap.extract W.size A1.size).size = A1.size := by
      simp only [Array.size_append, Array.size_extract, AW.size] at hck ⊢; omega
    have htail : ∀ b, List.lookup b ((A1.loose.filter fun p => decide (W.size ≤ p.1)) ++ W.loose) = ((if decide (W.size ≤ b) then A1.loose.lookup b else none).or (W.loose.lookup b)) := fun b => by
      rw [List.lookup_append, lookup_filter (fun q => decide (W.size ≤ q))]
    refine ⟨rfl, hdir', rfl, hap' _ rfl, rfl, by simp only [AW.size]; rw [hsz], by simp only [AW.size]; rw [hsz]; exact hck.2, rfl, fun b hb => ?_, fun b hb => ?_, fun hl b s hb => ?_, .inr ⟨hw, A1, hop, by simp only [AW.size]; rw [hsz], fun b h1 h2 => ⟨?_, fun hl => ?_⟩⟩⟩
    · simp only [Array.getElem?_append]; rw [if_pos hb]
    · simp only [AW.tail]; rw [htail]
      have : decide (W.size ≤ b) = false := by simpa using hb
      rw [this]; simp
    · simp only [AW.tail] at hb; rw [htail] at hb
      simp only [AW.size]; rw [hsz]
      by_cases h1 : W.size ≤ b
      · simp only [h1, decide_true, if_true] at hb
        cases h2 : A1.loose.lookup b with
        | none =>
          rw [h2] at hb
          simp at hb
          have := hl b s hb
          omega
        | some s' =>
          have hm : (b, s') ∈ A1.loose := by
            clear hb
            have gen : ∀ (l : List (Nat × Nat)), l.lookup b = some s' → (b, s') ∈ l := by
              intro l
              induction l with
              | nil => intro h; simp at h
              | cons x l ih =>
                intro h
                obtain ⟨c, q⟩ := x
                simp only [List.lookup] at h
                split at h
                · rename_i e; cases h; simp at e; subst e; simp
                · exact List.mem_cons_of_mem _ (ih h)
            exact gen _ h2
          have := List.all_eq_true.1 hck.1 _ hm
          simpa using this
      · have e : decide (W.size ≤ b) = false := by simpa using h1
        rw [e] at hb
        simp at hb
        have := hl b s hb
        omega
    · simp only [Array.getElem?_append, Array.getElem?_extract]
      rw [if_neg (by simp only [AW.size] at h1; omega)]
      have h2' : b < A1.size := by simp only [AW.size] at h2 ⊢; rw [hsz] at h2; exact h2
      simp only [AW.size] at h1 h2' ⊢
      rw [if_pos (by omega)]
      congr 1
      omega
    · simp only [AW.tail]; rw [htail]
      simp only [h1, decide_true, if_true]
      cases h3 : A1.loose.lookup b with
      | some s' => rfl
      | none =>
        simp only [Option.none_or]
        cases h4 : W.loose.lookup b with
        | none => rfl
        | some s => have := hl b s h4; omega
  · rename_i hw
    simp only [Option.some.injEq, Prod.mk.injEq] at h
    obtain ⟨rfl, rfl⟩ := h
    exact ⟨rfl, hdir', rfl, hap' _ rfl, rfl, rfl, Nat.le_refl _, rfl, fun _ _ => rfl, fun _ _ => rfl, fun hl => hl, .inl ⟨by simpa using hw, rfl, rfl⟩⟩
end Go.Can
