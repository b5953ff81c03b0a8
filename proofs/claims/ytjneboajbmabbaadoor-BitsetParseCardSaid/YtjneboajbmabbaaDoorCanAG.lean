/-
  The canonical evaluator that forgets: calls that write nothing old and return a plain value leave no blocks behind.
-/
import Derived.Test.YtjneboajbmabbaaDoorCanAF
set_option linter.unusedSimpArgs false
set_option linter.unusedVariables false
namespace Go.Can
variable {P : Program} {G : List Nat}

/-- a call that is run with all that is there held fast: where its value is plain, what it made is forgotten -/
noncomputable def forget (call : Rec) (j : Job) (A : AW) : Option (Value × AW) :=
  match (fNat A.size fun sz => call j { w := A.w, loose := A.loose, ro := sz }) with
  | some (v, A1) => if plainV 60 v then some (v, A) else some (v, { w := A1.w, loose := A1.loose, ro := A.ro })
  | none => none
theorem wr_ro {R : CR} {A : AW} {w : World} {r : Nat} (h : WR R A w) (hr : r ≤ A.size) : WR R { w := A.w, loose := A.loose, ro := r } w :=
  ⟨h.dom, h.fn, h.inj, h.loose, h.obj, hr, h.lsize⟩
theorem forget_ok {call : Rec} (hc : RecOk P G call) : ∀ f args A v A', forget call (.call f args) A = some (v, A') → ∀ R w, WR R A w → Gl G R → JobOk P R A w v A' (.call f args) := by
  intro f args A v A' h R w hw hg x' hx' m
  unfold forget at h
  rw [fNat_eq] at h
  split at h
  case h_2 => cases h
  rename_i v1 A1 h1
  refine (hc _ _ _ _ h1 R w (wr_ro hw (Nat.le_refl _)) hg x' hx' m).mono fun e w' h2 => ?_
  obtain ⟨R', v', he, hex, hwr, hv⟩ := h2
  have same : ∀ k, k < w.heap.size → w'.heap[k]? = w.heap[k]? := fun k hk => hex.same k hk fun ⟨b, l, hb, _, hro⟩ => by
    have h1 := (hw.dom b k l hb).1
    have h2 : A.size ≤ b := hro
    omega
  split at h
  · rename_i hp
    cases h
    exact ⟨R, v', he, ⟨CR.le_refl R, fun _ _ _ h => .inl h, Nat.le_refl _, hex.wsize, rfl, fun _ _ h => h, fun k hk _ => same k hk, hex.os, hex.tape, hex.output⟩,
      ⟨fun b k l x => ⟨(hw.dom b k l x).1, Nat.lt_of_lt_of_le (hw.dom b k l x).2 hex.wsize⟩, hw.fn, hw.inj, hw.loose, fun b k l o o' x p q1 q2 => hw.obj b k l o o' x p q1 (by rw [← same k (hw.dom b k l x).2]; exact q2), hw.ro, hw.lsize⟩,
      by rw [VR.plain_eq 60 _ _ hp hv]; exact VR.of_plain 60 _ hp⟩
  · cases h
    have hsz : A.size ≤ A1.size := hex.asize
    refine ⟨R', v', he, ⟨hex.le, fun b k l h => ?_, hex.asize, hex.wsize, rfl, hex.back, fun k hk _ => same k hk, hex.os, hex.tape, hex.output⟩, wr_ro hwr (Nat.le_trans hw.ro hsz), hv⟩
    rcases hex.fresh b k l h with h1 | ⟨h1, h2⟩
    · exact .inl h1
    · refine .inr ⟨h1, h2.imp id fun ⟨b0, l0, q1, q2, q3⟩ => ?_⟩
      have h3 := (hw.dom b0 k l0 q1).1
      have h4 : A.size ≤ b0 := q3
      omega
/-- the evaluator that forgets after the calls that it is told -/
noncomputable def evP (P : Program) (G : List Nat) (sm : Rec) (pure : FuncId → Bool) : Nat → Rec
  | 0 => fun _ _ => none
  | n + 1 => fun j A => match sm j A with
    | some r => some r
    | none => match j with
      | .call f args => if pure f then forget (stepL P G (evP P G sm pure n) n) (.call f args) A else stepL P G (evP P G sm pure n) n (.call f args) A
      | .round l t a b => stepL P G (evP P G sm pure n) n (.round l t a b) A
theorem evP_ok (hP : PC2 P) {sm : Rec} (hs : RecOk P G sm) (pure : FuncId → Bool) : ∀ n, RecOk P G (evP P G sm pure n)
  | 0 => fun _ _ _ _ h => by cases h
  | n + 1 => fun j A v A' h => by
    have ih := stepL_ok hP (evP_ok hP hs pure n) n
    unfold evP at h
    split at h
    · rename_i r hr
      cases h
      exact hs j A v A' hr
    · split at h
      · split at h
        · exact forget_ok ih _ _ _ _ _ h
        · exact ih _ _ _ _ h
      · exact ih _ _ _ _ h
theorem known_callsP (hP : PC2 P) {sm : Rec} (hs : RecOk P G sm) {pure : FuncId → Bool} {n : Nat} {f : FuncId} {args args' : Array Value} {h : Array Obj} (he : evTrue (evP P G sm pure n (.call f args) (AW.start h)) = true) {R : CR} {w : World} (hk : Known h R w) (hg : Gl G R) (ha : ArrR R args args') :
    Calls P f args' w fun e w' => e = .returned (.bool true) ∧ ∃ x, w' = Own.beyond w x := by
  obtain ⟨A1, he⟩ := evTrue_some he
  refine (callsIn_wide (n := 0).1 (evP_ok hP hs pure n _ _ _ _ he R w (WR.start hk) hg args' ha 0)).mono fun e w' h => ?_
  obtain ⟨R', v', rfl, h1, _, h2⟩ := h
  cases h2
  exact ⟨rfl, Own.beyond_of (ext_below hk h1)⟩
theorem knownSm_okR {call : Rec} (hc : RecOk P G call) {kn : FuncId} {tab : Nat → Array Value} {H : (Nat → TypeId) → Array Obj} (hH : ∀ T g, g ∈ G → (H T)[g]? = some (.cells (tab g) (T g) (0, 0)))
    (hpl : ∀ g ∈ G, (tab g).all (plainV 60) = true) (he : ∀ T, evTrue (call (.call kn #[]) (AW.start (H T))) = true) : RecOk P G (knownSm kn tab G) := by
  intro j A v A' h R w hw hg
  unfold knownSm at h
  cases j with
  | round l x a b => cases h
  | call f x =>
    dsimp only at h
    split at h
    case isFalse => cases h
    rename_i hcc
    cases h
    simp only [Bool.and_eq_true, decide_eq_true_eq] at hcc
    obtain ⟨⟨rfl, hx0⟩, htab⟩ := hcc
    intro x' hx m
    obtain rfl : x' = #[] := Array.eq_empty_of_size_eq_zero (by rw [hx.size, hx0])
    have hk : Known (H (tyAt w)) (onG G) w := known_onG fun g hgG => by
      have ht := List.all_eq_true.1 htab g hgG
      unfold tabOk at ht
      split at ht
      case h_2 => cases ht
      rename_i c t hA
      have hct := arr_eq (eqL_eq (eqV_eq 60) _ _ ht)
      subst hct
      obtain ⟨o', ho', hor⟩ := hw.block (hg g hgG) (by simp [AW.alive, hA]) hA
      cases hor
      rename_i c' hcc
      have hc' : c' = tab g := by
        apply Array.ext_getElem?
        intro i
        cases h1 : (tab g)[i]? with
        | none =>
          rw [Array.getElem?_eq_none_iff] at h1 ⊢
          rw [hcc.size]; exact h1
        | some u =>
          have hi := (Array.getElem?_eq_some_iff.1 h1).1
          have h2 : c'[i]? = some (c'[i]'(by rw [hcc.size]; exact hi)) := Array.getElem?_eq_getElem _
          rw [h2]
          have := hcc.at_ i _ _ h1 h2
          rw [VR.plain_eq 60 _ _ (Array.all_eq_true_iff_forall_mem.1 (hpl g hgG) _ (Array.mem_of_getElem? h1)) this]
      subst hc'
      exact ⟨tab g, tyAt w g, hH _ g hgG, by rw [ho']; unfold tyAt; rw [ho'], hpl g hgG⟩
    obtain ⟨A1, he1⟩ := evTrue_some (he (tyAt w))
    refine (hc _ _ _ _ he1 _ w (WR.start hk) (gl_onG G) #[] ⟨rfl, fun i v v' h => by simp at h⟩ m).mono fun e w' h => ?_
    obtain ⟨R', v', rfl, h1, _, h2⟩ := h
    cases h2
    have hb := ext_below hk h1
    have same : ∀ k, k < w.heap.size → w'.heap[k]? = w.heap[k]? := fun k hk2 => h1.same k hk2 fun ⟨b, l, x, _, hro⟩ => by
      have := (hk.1 _ _ _ x).2.1
      have hro : (H (tyAt w)).size ≤ b := hro
      omega
    refine ⟨R, _, rfl, ⟨CR.le_refl R, fun _ _ _ h => .inl h, Nat.le_refl _, h1.wsize, rfl, fun _ _ h => h, fun k hk2 _ => same k hk2, h1.os, h1.tape, h1.output⟩, ⟨fun b k l x => ⟨(hw.dom b k l x).1, Nat.lt_of_lt_of_le (hw.dom b k l x).2 h1.wsize⟩, hw.fn, hw.inj, hw.loose, fun b k l o o' x p q1 q2 => hw.obj b k l o o' x p q1 (by rw [← same k (hw.dom b k l x).2]; exact q2), hw.ro, hw.lsize⟩, .bool true⟩
end Go.Can
