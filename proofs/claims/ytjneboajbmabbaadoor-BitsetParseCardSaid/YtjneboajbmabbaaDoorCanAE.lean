/-
  Contracts that are looked up: calls on plain arguments that return a plain value and leave all that was there alone.
-/
import Derived.Test.YtjneboajbmabbaaDoorCanAD
set_option linter.unusedSimpArgs false
set_option linter.unusedVariables false
namespace Go.Can
variable {P : Program} {G : List Nat}

theorem args_plain_eq {R : CR} {x x' : Array Value} (hx : x.all (plainV 60) = true) (h : ArrR R x x') : x' = x := by
  refine Array.ext h.size fun i h1 h2 => ?_
  exact VR.plain_eq 60 _ _ (Array.all_eq_true_iff_forall_mem.1 hx _ (Array.getElem_mem h2)) (h.at_ i _ _ (Array.getElem?_eq_getElem h2) (Array.getElem?_eq_getElem h1))
/-- a call that leaves all that was there alone, as a job that returns v -/
theorem job_of_calls {f : FuncId} {x : Array Value} {v : Value} {R : CR} {A : AW} {w : World} (hx : x.all (plainV 60) = true) (hv : plainV 60 v = true) (hw : WR R A w)
    (h : Calls P f x w fun e w' => e = .returned v ∧ ∃ y, w' = Own.beyond w y) : JobOk P R A w v A (.call f x) := by
  intro x' hx' m
  obtain rfl := args_plain_eq hx hx'
  refine callsIn_wide.2 (h.mono fun e w' ⟨he, y, hy⟩ => ?_)
  have hb := Own.below_beyond w y
  rw [← hy] at hb
  have same : ∀ k, k < w.heap.size → w'.heap[k]? = w.heap[k]? := fun k hk2 => hb.block k hk2
  exact ⟨R, v, he, ⟨CR.le_refl R, fun _ _ _ h => .inl h, Nat.le_refl _, hb.size, rfl, fun _ _ h => h, fun k hk2 _ => same k hk2, hb.os, hb.tape, hb.output⟩, ⟨fun b k l x => ⟨(hw.dom b k l x).1, Nat.lt_of_lt_of_le (hw.dom b k l x).2 hb.size⟩, hw.fn, hw.inj, hw.loose, fun b k l o o' x p q1 q2 => hw.obj b k l o o' x p q1 (by rw [← same k (hw.dom b k l x).2]; exact q2), hw.ro, hw.lsize⟩, VR.of_plain 60 v hv⟩

/-- a function's contract on plain arguments, whatever the world -/
noncomputable def fnSm (f : FuncId) (F : Array Value → Option Value) : Rec := fun j A => match j with
  | .call g x => if Nat.beq g f then (match F x with | some v => some (v, A) | none => none) else none
  | _ => none
theorem fnSm_ok {f : FuncId} {F : Array Value → Option Value} (h : ∀ x v, F x = some v → x.all (plainV 60) = true ∧ plainV 60 v = true ∧ ∀ w, Calls P f x w fun e w' => e = .returned v ∧ ∃ y, w' = Own.beyond w y) : RecOk P G (fnSm f F) := by
  intro j A v A' hj R w hw hg
  unfold fnSm at hj
  split at hj
  case h_2 => cases hj
  rename_i g x
  split at hj
  case isFalse => cases hj
  rename_i hgf
  obtain rfl := Nat.eq_of_beq_eq_true hgf
  split at hj
  case h_2 => cases hj
  rename_i v' hF
  cases hj
  obtain ⟨h1, h2, h3⟩ := h _ _ hF
  exact job_of_calls h1 h2 hw (h3 w)
noncomputable def orSm (s t : Rec) : Rec := fun j A => match s j A with
  | some r => some r
  | none => t j A
theorem orSm_ok {s t : Rec} (hs : RecOk P G s) (ht : RecOk P G t) : RecOk P G (orSm s t) := by
  intro j A v A' h
  unfold orSm at h
  split at h
  · rename_i r hr; cases h; exact hs j A _ _ hr
  · exact ht j A v A' h

/-- one call that has been evaluated, looked up -/
noncomputable def memoSm (f : FuncId) (args : Array Value) (v : Value) (tab : Nat → Array Value) (G0 : List Nat) : Rec := fun j A => match j with
  | .call g x => if Nat.beq g f && eqL (eqV 60) x.toList args.toList && G0.all (tabOk tab A) then some (v, A) else none
  | _ => none
def evIs (v : Value) : Option (Value × AW) → Bool
  | some (u, _) => eqV 60 u v
  | none => false
theorem memoSm_ok (hP : PC2 P) {G0 : List Nat} (hG : G0.all (G.contains ·) = true) {sm : Rec} (hs : RecOk P G0 sm) {n : Nat} {f : FuncId} {args : Array Value} {v : Value} {tab : Nat → Array Value} {H : (Nat → TypeId) → Array Obj} (hH : ∀ T g, g ∈ G0 → (H T)[g]? = some (.cells (tab g) (T g) (0, 0)))
    (hpl : ∀ g ∈ G0, (tab g).all (plainV 60) = true) (ha : args.all (plainV 60) = true) (hv : plainV 60 v = true) (he : ∀ T, evIs v (evS P G0 sm n (.call f args) (AW.start (H T))) = true) : RecOk P G (memoSm f args v tab G0) := by
  intro j A u A' hj R w hw hg
  unfold memoSm at hj
  split at hj
  case h_2 => cases hj
  rename_i g x
  split at hj
  case isFalse => cases hj
  rename_i hc
  cases hj
  simp only [Bool.and_eq_true] at hc
  obtain ⟨⟨hgf, hxa⟩, htab⟩ := hc
  obtain rfl := Nat.eq_of_beq_eq_true hgf
  obtain rfl := arr_eq (eqL_eq (eqV_eq 60) _ _ hxa)
  have hg0 : Gl G0 R := fun g hg0 => hg g (by have := List.all_eq_true.1 hG g hg0; simpa using this)
  refine job_of_calls ha hv hw ?_
  have hk : Known (H (tyAt w)) (onG G0) w := known_onG fun g hgG => by
    have ht := List.all_eq_true.1 htab g hgG
    unfold tabOk at ht
    split at ht
    case h_2 => cases ht
    rename_i c t hA
    have hct := arr_eq (eqL_eq (eqV_eq 60) _ _ ht)
    subst hct
    obtain ⟨o', ho', hor⟩ := hw.block (hg0 g hgG) (by simp [AW.alive, hA]) hA
    cases hor
    rename_i c' hcc
    have hc' : c' = tab g := by
      apply Array.ext_getElem?
      intro i
      cases h1 : (tab g)[i]? with
      | none =>
        rw [Array.getElem?_eq_none_iff] at h1 ⊢
        rw [hcc.size]; exact h1
      | some u =>
        have hi := (Array.getElem?_eq_some_iff.1 h1).1
        have h2 : c'[i]? = some (c'[i]'(by rw [hcc.size]; exact hi)) := Array.getElem?_eq_getElem _
        rw [h2]
        have := hcc.at_ i _ _ h1 h2
        rw [VR.plain_eq 60 _ _ (Array.all_eq_true_iff_forall_mem.1 (hpl g hgG) _ (Array.mem_of_getElem? h1)) this]
    subst hc'
    exact ⟨tab g, tyAt w g, hH _ g hgG, by rw [ho']; unfold tyAt; rw [ho'], hpl g hgG⟩
  have he1 := he (tyAt w)
  unfold evIs at he1
  split at he1
  case h_2 => cases he1
  rename_i u A1 hev
  obtain rfl := eqV_eq 60 _ _ he1
  refine (evS_calls hP hs hev hk (gl_onG G0) (plain_args ha)).mono fun e w' h => ?_
  obtain ⟨R', v', rfl, h1, _, h2⟩ := h
  obtain rfl := VR.plain_eq 60 _ _ hv h2
  exact ⟨rfl, Own.beyond_of (ext_below hk h1)⟩

/-! What must hold, by a table of marks -/
def lookE : Obl → Nat → Bool
  | [], _ => true
  | p :: l, i => bif Nat.beq p.1 i then p.2.1 else lookE l i
def lookV : Obl → Nat → Bool
  | [], _ => true
  | p :: l, i => bif Nat.beq p.1 i then p.2.2 else lookV l i
theorem look_eq : ∀ (l : Obl), l.Ok → ∀ i, lookE l i = lookV l i
  | [], _, _ => rfl
  | p :: l, h, i => by
    obtain ⟨h1, h2⟩ := Obl.ok_cons h
    simp only [lookE, lookV, h1, look_eq l h2 i]
def Obl.tab (l : Obl) (tags : List Nat) : Obl := Obl.of (lookE l) (lookV l) tags
theorem Obl.tab_ok {l : Obl} {tags : List Nat} (h : l.Ok) : (Obl.tab l tags).Ok := Obl.of_ok fun i _ => look_eq l h i
theorem Obl.ok_nil : Obl.Ok [] := fun p hp => by cases hp
theorem Obl.ok_more {i : Nat} {b v : Bool} {o : Obl} (h : b = v) (ho : o.Ok) : Obl.Ok ((i, b, v) :: o) := fun p hp => by
  rcases List.mem_cons.1 hp with rfl | hp
  · exact h
  · exact ho p hp
end Go.Can
