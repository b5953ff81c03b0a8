/-
  A region that draws its order, whose first n operations leave what was there alone, and whose other operations each wait for all that stand before: the first n are walked once, in the text's order; the rest runs in order.
-/
import Derived.Test.YtmcfnnapgbgdeaaDoorBase
set_option linter.unusedSimpArgs false
set_option linter.unusedVariables false
namespace Go.Own
open Go.RowKit

/-- the first n operations wait for none of the rest and ask none of the rest's guards; each of the rest waits for all before it -/
def tailOk (ops : Array Oper) (n : Nat) : Bool :=
  decide (n ≤ ops.size) && (List.range ops.size).all fun j =>
    match ops[j]? with
    | none => true
    | some o => (o.after.toList.all fun e => !Region.binds .any e || decide (e.on < j)) &&
        (match o.guard with | some (g, _) => decide (g < n) || decide (n ≤ j) | none => true) &&
        (decide (j < n) || (List.range j).all fun i => o.after.toList.any fun e => Region.binds .any e && e.on == i)

section
variable {P : Program} {ops : Array Oper} {n : Nat}

theorem tailOk_size (h : tailOk ops n = true) : n ≤ ops.size := by
  simp only [tailOk, Bool.and_eq_true, decide_eq_true_eq] at h; exact h.1

theorem tailOk_at (h : tailOk ops n = true) {j : Nat} {o : Oper} (hj : ops[j]? = some o) :
    (∀ e ∈ o.after, Region.binds .any e = true → e.on < j) ∧ (∀ g b, o.guard = some (g, b) → j < n → g < n) ∧
      (n ≤ j → ∀ i, i < j → ∃ e ∈ o.after, Region.binds .any e = true ∧ e.on = i) := by
  have hlt : j < ops.size := (Array.getElem?_eq_some_iff.1 hj).1
  simp only [tailOk, Bool.and_eq_true] at h
  have h1 := List.all_eq_true.1 h.2 j (List.mem_range.2 hlt)
  simp only [hj, Bool.and_eq_true] at h1
  obtain ⟨⟨ha, hg⟩, hw⟩ := h1
  refine ⟨fun e he hb => ?_, fun g b hgb hjn => ?_, fun hnj i hi => ?_⟩
  · have := List.all_eq_true.1 ha e (by simpa using he)
    simpa [hb] using this
  · rw [hgb] at hg
    simp only [Bool.or_eq_true, decide_eq_true_eq] at hg
    omega
  · simp only [Bool.or_eq_true, decide_eq_true_eq] at hw
    rcases hw with hw | hw
    · omega
    · have := List.all_eq_true.1 hw i (List.mem_range.2 hi)
      obtain ⟨e, he, h2⟩ := List.any_eq_true.1 this
      simp only [Bool.and_eq_true, beq_iff_eq] at h2
      exact ⟨e, by simpa using he, h2⟩

theorem ready_iff {ops : Array Oper} {L : Array Bool} {j : Nat} (hs : L.size = ops.size) : j ∈ Region.ready .any ops L ↔
    L[j]? = some false ∧ ∃ o, ops[j]? = some o ∧ ∀ e ∈ o.after, Region.binds .any e = true → L[e.on]? = some true := by
  rw [mem_ready]
  constructor
  · rintro ⟨h1, o, ho, h2⟩
    have hlt : j < L.size := by rw [hs]; exact (Array.getElem?_eq_some_iff.1 ho).1
    refine ⟨by simpa [hlt] using h1, o, ho, fun e he hb => ?_⟩
    have := h2 e he hb
    cases hq : L[e.on]? with
    | none => simp [hq] at this
    | some b => simp [hq] at this; rw [this]
  · rintro ⟨h1, o, ho, h2⟩
    exact ⟨by simp [h1], o, ho, fun e he hb => by simp [h2 e he hb]⟩

/-- the rest, in order -/
theorem tail_runs {Q : Exit → Act → World → Prop} (h : tailOk ops n = true) : ∀ (l : List Oper) (t fuel : Nat) (L : Array Bool) (a : Act) (w : World), L.size = ops.size →
    (∀ j, j < t → L[j]? = some true) → (∀ j, t ≤ j → j < ops.size → L[j]? = some false) → ops.toList.drop t = l → t ≤ ops.size → n ≤ t → l.length ≤ fuel → wpList P ops Q l a w → wpAny P .any ops Q fuel L a w := by
  intro l
  induction l with
  | nil =>
    intro t fuel L a w hs hd hu hl ht _ _ hw
    have hte : t = ops.size := by
      have := congrArg List.length hl; simp at this; omega
    have hr : Region.ready .any ops L = [] := by
      apply List.eq_nil_iff_forall_not_mem.2
      intro i hi
      obtain ⟨h1, o, ho, _⟩ := (ready_iff hs).1 hi
      have hlt := (Array.getElem?_eq_some_iff.1 ho).1
      rw [hd i (by omega)] at h1
      cases h1
    cases fuel with
    | zero => exact ⟨hr, hw⟩
    | succ f => exact ⟨fun _ => hw, fun i hi => by rw [hr] at hi; cases hi⟩
  | cons o l ih =>
    intro t fuel L a w hs hd hu hl ht hn hf hw
    have hlt : t < ops.size := by
      have := congrArg List.length hl; simp at this; omega
    have hot : ops[t]? = some o := by
      have := congrArg (·[0]?) hl
      simpa [hlt] using this
    obtain ⟨f, rfl⟩ : ∃ f, fuel = f + 1 := ⟨fuel - 1, by simp at hf; omega⟩
    have hrt : t ∈ Region.ready .any ops L := (ready_iff hs).2 ⟨hu t (Nat.le_refl _) hlt, o, hot, fun e he hb => hd _ ((tailOk_at h hot).1 e he hb)⟩
    refine ⟨fun h0 => (by rw [h0] at hrt; cases hrt), fun i hi => ?_⟩
    obtain ⟨h1, oi, hoi, h2⟩ := (ready_iff hs).1 hi
    have hil := (Array.getElem?_eq_some_iff.1 hoi).1
    have hit : i = t := by
      rcases Nat.lt_trichotomy i t with hlt' | he | hgt
      · rw [hd i hlt'] at h1; cases h1
      · exact he
      · obtain ⟨e, he, hb, hon⟩ := (tailOk_at h hoi).2.2 (by omega) t hgt
        have := h2 e he hb
        rw [hon, hu t (Nat.le_refl _) hlt] at this
        cases this
    subst hit
    have next : ∀ a' w', wpList P ops Q l a' w' → wpAny P .any ops Q f (L.setIfInBounds i true) a' w' := fun a' w' hw' =>
      ih (i + 1) f _ a' w' (by simp [hs]) (fun j hj => by
          by_cases hji : i = j
          · subst hji; simp [hs, hlt]
          · rw [Array.getElem?_setIfInBounds_ne hji]; exact hd j (by omega))
        (fun j hj hj' => by rw [Array.getElem?_setIfInBounds_ne (by omega)]; exact hu j (by omega) hj')
        (by rw [← List.drop_drop, hl]; rfl) (by omega) (by omega) (by simp at hf; omega) hw'
    unfold wpOp
    simp only [hot]
    unfold wpList at hw
    split
    · rename_i hwa
      rw [if_pos hwa] at hw
      exact hw.imp (Oper.wp_mono next) id
    · rename_i hwa
      rw [if_neg hwa] at hw
      exact next _ _ hw

theorem take_at {l : List Oper} {n j : Nat} : (l.take n).toArray[j]? = if j < n then l.toArray[j]? else none := by
  simp only [List.getElem?_toArray, List.getElem?_take]

/-- what the head's order is asked, asked of the whole region -/
theorem head_runs {l : List Oper} {C : World → Prop} {Q : Exit → Act → World → Prop} {Qh : Act → Prop} (h : tailOk l.toArray n = true)
    (hQ : ∀ a, Qh a → ∀ w, C w → wpList P l.toArray Q (l.drop n) a w) : ∀ (f : Nat) (L L' : Array Bool) (a : Act) (w : World), L.size = l.length → L'.size = n →
    (∀ j, j < n → L[j]? = L'[j]?) → (∀ j, n ≤ j → j < l.length → L[j]? = some false) → C w →
    wpAnyQ P .any (l.take n).toArray C Qh f L' a → wpAny P .any l.toArray Q (f + (l.length - n)) L a w := by
  have hnl : n ≤ l.length := by simpa using tailOk_size h
  have hs' : (l.take n).toArray.size = n := by simp [hnl]
  have done : ∀ (L' : Array Bool), L'.size = n → Region.ready .any (l.take n).toArray L' = [] → ∀ i, i < n → L'[i]? = some true := by
    intro L' hL' hr i
    induction i using Nat.strongRecOn with
    | _ i ih =>
      intro hi
      have hil : i < l.length := by omega
      cases hq : L'[i]? with
      | none => simp at hq; omega
      | some b =>
        cases b with
        | true => rfl
        | false =>
          exfalso
          have ho : (l.take n).toArray[i]? = some l[i] := by rw [take_at, if_pos hi]; simp [hil]
          have ho' : l.toArray[i]? = some l[i] := by simp [hil]
          have : i ∈ Region.ready .any (l.take n).toArray L' := (ready_iff (by rw [hL', hs'])).2 ⟨hq, _, ho, fun e he hb => ih _ ((tailOk_at h ho').1 e he hb) (by have := (tailOk_at h ho').1 e he hb; omega)⟩
          rw [hr] at this
          cases this
  intro f
  induction f with
  | zero =>
    intro L L' a w hs hs2 hh ht hC hq
    have hall := done L' hs2 hq.1
    exact tail_runs h (l.drop n) n _ L a w (by simpa using hs) (fun j hj => by rw [hh j hj]; exact hall j hj) (fun j hj hj' => ht j hj (by simpa using hj')) rfl (by simpa using hnl) (Nat.le_refl _) (by simp) (hQ a hq.2 w hC)
  | succ f ih =>
    intro L L' a w hs hs2 hh ht hC hq
    by_cases hr : Region.ready .any (l.take n).toArray L' = []
    · have hall := done L' hs2 hr
      exact tail_runs h (l.drop n) n _ L a w (by simpa using hs) (fun j hj => by rw [hh j hj]; exact hall j hj) (fun j hj hj' => ht j hj (by simpa using hj')) rfl (by simpa using hnl) (Nat.le_refl _) (by simp) (hQ a (hq.1 hr) w hC)
    · have same : ∀ i, i < n → (i ∈ Region.ready .any (l.take n).toArray L' ↔ i ∈ Region.ready .any l.toArray L) := by
        intro i hi
        rw [ready_iff (by rw [hs2, hs']), ready_iff (by simpa using hs), take_at, if_pos hi, hh i hi]
        refine and_congr_right fun _ => ⟨?_, ?_⟩
        · rintro ⟨o, ho, h2⟩
          exact ⟨o, ho, fun e he hb => by have := (tailOk_at h ho).1 e he hb; rw [hh _ (by omega)]; exact h2 e he hb⟩
        · rintro ⟨o, ho, h2⟩
          exact ⟨o, ho, fun e he hb => by have := (tailOk_at h ho).1 e he hb; rw [← hh _ (by omega)]; exact h2 e he hb⟩
      obtain ⟨i0, hi0⟩ := List.exists_mem_of_ne_nil _ hr
      have hi0n : i0 < n := by
        obtain ⟨_, o, ho, _⟩ := (ready_iff (by rw [hs2, hs'])).1 hi0
        have := (Array.getElem?_eq_some_iff.1 ho).1
        rw [hs'] at this; exact this
      have hi0u : L[i0]? = some false := by rw [hh i0 hi0n]; exact ((ready_iff (by rw [hs2, hs'])).1 hi0).1
      rw [Nat.succ_add]
      refine ⟨fun h0 => ?_, fun j hj => ?_⟩
      · have := (same i0 hi0n).1 hi0
        rw [h0] at this; cases this
      · have hjn : j < n := by
          rcases Nat.lt_or_ge j n with hlt | hge
          · exact hlt
          · obtain ⟨_, o, ho, h2⟩ := (ready_iff (by simpa using hs)).1 hj
            obtain ⟨e, he, hb, hon⟩ := (tailOk_at h ho).2.2 hge i0 (by omega)
            have := h2 e he hb
            rw [hon, hi0u] at this; cases this
        have hq2 := hq.2 j ((same j hjn).2 hj)
        have hq3 : qOp P l.toArray C j (wpAnyQ P .any (l.take n).toArray C Qh f (L'.setIfInBounds j true)) a := by
          unfold qOp at hq2 ⊢
          rw [take_at, if_pos hjn] at hq2
          cases ho : l.toArray[j]? with
          | none => rw [ho] at hq2; exact hq2
          | some o =>
            rw [ho] at hq2
            have hwant : Region.wanted o (yielded (l.take n).toArray a.tmps) = Region.wanted o (yielded l.toArray a.tmps) := by
              cases hg : o.guard with
              | none => simp [Region.wanted, hg]
              | some gb =>
                obtain ⟨g, b⟩ := gb
                have hgn := (tailOk_at h ho).2.1 g b hg hjn
                simp only [Region.wanted, hg, yielded, take_at, if_pos hgn]
            simp only [hwant] at hq2
            exact hq2
        exact wpOp_of_qOp hC (fun a' w' hw' hk => ih _ (L'.setIfInBounds j true) a' w' (by simp [hs]) (by simp [hs2]) (fun k hk' => by
            by_cases hjk : j = k
            · subst hjk
              have e1 : j < L.size := by rw [hs]; omega
              have e2 : j < L'.size := by rw [hs2]; exact hjn
              simp [e1, e2]
            · rw [Array.getElem?_setIfInBounds_ne hjk, Array.getElem?_setIfInBounds_ne hjk]; exact hh k hk')
          (fun k hk1 hk2 => by rw [Array.getElem?_setIfInBounds_ne (by omega)]; exact ht k hk1 hk2) hw' hk) hq3

/-- THE LAW. -/
theorem wp_region_tail {id : Nat} {Q : Exit → Act → World → Prop} {a : Act} {w : World} {l : List Oper} (n : Nat) (hm : P.follows .mixedOrders = true) (hB : Region.lexB .any (l.take n).toArray = true)
    (hT : tailOk l.toArray n = true)
    (h : wpQuiet P (l.take n).toArray (fun w' => ∃ x, w' = beyond w x) (fun a' => ∀ w', (∃ x, w' = beyond w x) → wpList P l.toArray Q (l.drop n) a' w') (l.take n) a) :
    (Code.region id l.toArray true).wp P Q a w := by
  simp only [Region.lexB, Bool.and_eq_true] at hB
  have hnl : n ≤ l.length := by simpa using tailOk_size hT
  have hlen : (l.take n).length = n := by simp [hnl]
  have h1 := wpAnyQ_lex (C := fun w' => ∃ x, w' = beyond w x) (md := .any) hB.1 (l.take n) 0 (Array.replicate n false) a (fun j => by simp) (by simpa [hlen] using hB.2) h
  rw [hlen] at h1
  refine wp_region_any hm ?_
  have h2 := head_runs (P := P) hT (Qh := fun a' => ∀ w', (∃ x, w' = beyond w x) → wpList P l.toArray Q (l.drop n) a' w') (fun a' ha w' hw' => ha w' hw') n (Array.replicate l.length false) (Array.replicate n false) a
    { w with drawn := w.drawn + 1 } (by simp) (by simp) (fun j hj => (by have e1 : j < l.length := (by omega); simp [hj, e1])) (fun j hj hj' => by simp [hj']) (beyond_of ((Below.refl _ _).drew)) h1
  have : n + (l.length - n) = l.toArray.size := by simp; omega
  rw [this] at h2
  simpa using h2
end
end Go.Own
