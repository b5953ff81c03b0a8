/-
  The canonical evaluator with many outcomes: the whole; contracts that stand are looked up.
-/
import Derived.Test.YtjneboajbmabbaaDoorCanAB
set_option linter.unusedSimpArgs false
set_option linter.unusedVariables false
namespace Go.Can
variable {P : Program} {G : List Nat}

/-- what a body's end hands out -/
noncomputable def outB (P : Program) (fn : Func) : Exit × Act × AW → Option (Value × AW)
  | (.normal, a, A1) | (.ret, a, A1) => match evMarks P a.defers A1 with
    | some A2 => match evResults P a.tmps fn.results.toList A2 with
      | some (vs, A3) => some (oneOf vs, A3)
      | none => none
    | none => none
  | _ => none
noncomputable def outR (P : Program) (l : Nat) : Exit × Act × AW → Option (Value × AW)
  | (e, _, A3) => match jumpOf e with
    | some j => arun P (Instr.endRound l j) A3
    | none => none
noncomputable def stepL (P : Program) (G : List Nat) (call : Rec) (n : Nat) (j : Job) (A : AW) : Option (Value × AW) :=
  match j with
  | .call f args => match P.funcs[f]? with
    | some fn => match fn.body with
      | some c => match evCodeL P G call n none c { tmps := args ++ Array.replicate (fn.ntmps - args.size) undef, defers := [] } A with
        | some L => match allSome (L.map (outB P fn)) with
          | some L2 => mergeL L2
          | none => none
        | none => none
      | none => none
    | none => none
  | .round l tmps assign body =>
    match evCodeF P G call n (some l) assign { tmps, defers := [] } A with
    | some (.normal, a1, A1) =>
      match arun P (Instr.beginRound l) A1 with
      | some (_, A2) =>
        match evCodeL P G call n (some l) body a1 A2 with
        | some L => match allSome (L.map (outR P l)) with
          | some L2 => mergeL L2
          | none => none
        | none => none
      | none => none
    | _ => none
theorem stepL_ok (hP : PC2 P) {call : Rec} (ih : RecOk P G call) (n : Nat) : RecOk P G (stepL P G call n) := by
  intro j A v A' h R w hw hg
  unfold stepL at h
  cases j with
  | call f x =>
    intro x' hx m
    dsimp only at h
    split at h
    case h_2 => cases h
    rename_i fn hf
    split at h
    case h_2 => cases h
    rename_i c hb
    split at h
    case h_2 => cases h
    rename_i L hL
    split at h
    case h_2 => cases h
    rename_i L2 hL2
    have hact : ActR R { tmps := x ++ Array.replicate (fn.ntmps - x.size) undef, defers := [] } { tmps := x' ++ Array.replicate (fn.ntmps - x'.size) undef, defers := [] } := by
      refine ⟨hx.append ?_, .nil⟩
      rw [hx.size]
      refine ⟨rfl, fun i u u' h1 h2 => ?_⟩
      simp only [Array.getElem?_replicate] at h1 h2
      split at h1
      · rename_i hi; rw [if_pos hi] at h2; cases h1; cases h2; exact .undef
      · cases h1
    refine callsIn_of_wp_marks hf hb trivial ?_
    have hcode := evCodeL_ok hP ih n none c _ _ _ hL R w _ none hw hg hact .none m
    refine wpIn_mono (F := Fence.wide) hcode fun e' a' w1 ⟨y, hy, h1⟩ => ?_
    obtain ⟨i, hi⟩ := List.getElem?_of_mem hy
    obtain ⟨z, hz, hzL⟩ := allSome_get hL2 i _ (by rw [List.getElem?_map, hi]; rfl)
    obtain ⟨hv, hun⟩ := mergeL_ok h z hzL
    obtain ⟨e, a, A1⟩ := y
    obtain ⟨zv, zA⟩ := z
    simp only at hv hun
    subst hv
    obtain ⟨rfl, R1, q1, q2, q3⟩ := h1
    have fin : (match evMarks P a.defers A1 with
      | some A2 => match evResults P a.tmps fn.results.toList A2 with
        | some (vs, A3) => some (oneOf vs, A3)
        | none => none
      | none => none) = some (zv, zA) → LeavesInM Fence.wide m P fn a'.tmps (fun e w' => ∃ R' v', e = .returned v' ∧ Ext R A w R' A' w' ∧ WR R' A' w' ∧ VR R' zv v') a'.defers .returning w1 := by
      intro h
      split at h
      case h_2 => cases h
      rename_i A2 hm
      split at h
      case h_2 => cases h
      rename_i vs A3 hres
      cases h
      refine evMarks_ok m a.defers hm q3 q1.defers fun R2 w2 s1 s2 => ?_
      obtain ⟨vs', t1, rfl, t4⟩ := evResults_ok _ hres s2 (q1.tmps.mono s1.le)
      refine ⟨oneOf vs', ?_, R2, oneOf vs', rfl, (q2.trans hw s1).un hun, s2.un hun, ?_⟩
      · unfold results
        rw [Array.mapM_eq_mapM_toList]
        simp only [Sem.run_bind, Sem.run_map]
        have t2 := congrArg (fun r : Result (List Value) => (r.andThen fun a w' => Result.ok a.toArray w').andThen fun a w' => Result.ok (if h : a.size = 1 then a[0] else Value.tuple a) w') t1
        refine t2.trans ?_
        simp only [Result.andThen_ok]
        congr 1
        unfold oneOf
        match vs' with
        | [] => rfl
        | [u] => rfl
        | u :: u2 :: us => rfl
      · unfold oneOf
        cases t4 with
        | nil => exact .tuple rfl (by simp)
        | cons h1 t =>
          cases t with
          | nil => exact h1
          | cons h2 t => exact VR.tuple' (Can.L2.arr (.cons h1 (.cons h2 t)))
    cases e' with
    | normal => exact fin hz.symm.symm
    | ret => exact fin hz.symm.symm
    | _ => cases hz
  | round l x assign body =>
    intro l' x' hl hx f m
    dsimp only at h
    split at h
    case h_2 => cases h
    rename_i a1 A1 h1
    split at h
    case h_2 => cases h
    rename_i u A2 h2
    split at h
    case h_2 => cases h
    rename_i L hL
    split at h
    case h_2 => cases h
    rename_i L2 hL2
    rw [evCodeF_eq] at h1
    refine roundIn_of_wpIn trivial ?_
    have hact : ActR R { tmps := x, defers := [] } { tmps := x', defers := [] } := ⟨hx, .nil⟩
    refine wpIn_mono (F := Fence.wide.inRound l') (evCode_ok hP ih n (some l) assign _ _ _ _ _ h1 R w _ (some l') hw hg hact (.some hl) m) fun e' a' w1 k1 => ?_
    obtain ⟨rfl, R1, q1, q2, q3⟩ := k1
    obtain ⟨R2, u', w2, s1, s2, s3, s4⟩ := sim_beginRound (P := P) (q2.le _ _ _ hl) R1 A1 w1 (CR.le_refl _) q3 _ _ h2
    refine ⟨w2, s1, ?_⟩
    have hle2 := CR.le_trans q2.le s2.le
    refine wpIn_mono (F := Fence.wide.inRound l') (evCodeL_ok hP ih n (some l) body _ _ _ hL R2 w2 _ (some l') s3 (hg.mono hle2) (q1.mono s2.le) (.some (hle2 _ _ _ hl)) m) fun e' a' w3 ⟨y, hy, k3⟩ => ?_
    obtain ⟨i, hi⟩ := List.getElem?_of_mem hy
    obtain ⟨z, hz, hzL⟩ := allSome_get hL2 i _ (by rw [List.getElem?_map, hi]; rfl)
    obtain ⟨hv, hun⟩ := mergeL_ok h z hzL
    obtain ⟨e, a, A3⟩ := y
    obtain ⟨zv, zA⟩ := z
    simp only at hv hun
    subst hv
    obtain ⟨rfl, R3, t1, t2, t3⟩ := k3
    have hz : outR P l (e', a, A3) = some (zv, zA) := hz
    unfold outR at hz
    dsimp only at hz
    split at hz
    case h_2 => cases hz
    rename_i j hj
    obtain ⟨R4, v', w4, r1, r2, r3, r4⟩ := sim_endRound (P := P) j (CR.le_trans hle2 t2.le _ _ _ hl) R3 A3 w3 (CR.le_refl _) t3 _ _ hz
    have hex : Ext R A w R4 A' w4 := (q2.trans hw (s2.trans q3 (t2.trans s3 r2))).un hun
    have hwr := r3.un hun
    cases e' <;> first | (cases hj; done) | skip
    all_goals
      cases hj
      exact ⟨v', w4, r1, R4, v', rfl, hex, hwr, r4⟩
/-- with contracts 'sm' that stand -/
noncomputable def evS (P : Program) (G : List Nat) (sm : Rec) : Nat → Rec
  | 0 => fun _ _ => none
  | n + 1 => fun j A => match sm j A with
    | some r => some r
    | none => stepL P G (evS P G sm n) n j A
theorem evS_ok (hP : PC2 P) {sm : Rec} (hs : RecOk P G sm) : ∀ n, RecOk P G (evS P G sm n)
  | 0 => fun j A v A' h => by cases h
  | n + 1 => fun j A v A' h => by
    unfold evS at h
    split at h
    · rename_i r hr
      cases h
      exact hs j A v A' hr
    · exact stepL_ok hP (evS_ok hP hs n) n j A v A' h
def noSm : Rec := fun _ _ => none
theorem noSm_ok : RecOk P G noSm := fun _ _ _ _ h => by cases h
theorem evS_calls (hP : PC2 P) {sm : Rec} (hs : RecOk P G sm) {n : Nat} {f : FuncId} {args args' : Array Value} {h : Array Obj} {v : Value} {A1 : AW} (he : evS P G sm n (.call f args) (AW.start h) = some (v, A1)) {R : CR} {w : World} (hk : Known h R w) (hg : Gl G R) (ha : ArrR R args args') :
    Calls P f args' w fun e w' => ∃ R' v', e = .returned v' ∧ Ext R (AW.start h) w R' A1 w' ∧ WR R' A1 w' ∧ VR R' v v' :=
  callsIn_wide (n := 0).1 (evS_ok hP hs n _ _ _ _ he R w (WR.start hk) hg args' ha 0)
theorem true_callsS (hP : PC2 P) {sm : Rec} (hs : RecOk P G sm) {n : Nat} {f : FuncId} {args args' : Array Value} {h : Array Obj} (he : evTrue (evS P G sm n (.call f args) (AW.start h)) = true) {R : CR} {w : World} (hk : Known h R w) (hg : Gl G R) (ha : ArrR R args args') :
    Calls P f args' w fun e w' => e = .returned (.bool true) ∧ ∃ x, w' = Own.beyond w x := by
  obtain ⟨A1, he⟩ := evTrue_some he
  refine (evS_calls hP hs he hk hg ha).mono fun e w' h => ?_
  obtain ⟨R', v', rfl, h1, _, h2⟩ := h
  cases h2
  exact ⟨rfl, Own.beyond_of (ext_below hk h1)⟩

/-! A function without parameters that is known to return true, looked up -/
def tabOk (tab : Nat → Array Value) (A : AW) (g : Nat) : Bool := match A.w.heap[g]? with
  | some (.cells c _ (0, 0)) => eqL (eqV 60) c.toList (tab g).toList
  | _ => false
def knownSm (kn : FuncId) (tab : Nat → Array Value) (G : List Nat) : Rec := fun j A => match j with
  | .call f args => if decide (f = kn) && decide (args.size = 0) && G.all (tabOk tab A) then some (.bool true, A) else none
  | _ => none
theorem knownSm_ok (hP : PC2 P) {sm : Rec} (hs : RecOk P G sm) {n : Nat} {kn : FuncId} {tab : Nat → Array Value} {H : (Nat → TypeId) → Array Obj} (hH : ∀ T g, g ∈ G → (H T)[g]? = some (.cells (tab g) (T g) (0, 0)))
    (hpl : ∀ g ∈ G, (tab g).all (plainV 60) = true) (he : ∀ T, evTrue (evS P G sm n (.call kn #[]) (AW.start (H T))) = true) : RecOk P G (knownSm kn tab G) := by
  intro j A v A' h R w hw hg
  unfold knownSm at h
  cases j with
  | round l x a b => cases h
  | call f x =>
    dsimp only at h
    split at h
    case isFalse => cases h
    rename_i hc
    cases h
    simp only [Bool.and_eq_true, decide_eq_true_eq] at hc
    obtain ⟨⟨rfl, hx0⟩, htab⟩ := hc
    intro x' hx m
    obtain rfl : x' = #[] := Array.eq_empty_of_size_eq_zero (by rw [hx.size, hx0])
    have hk : Known (H (tyAt w)) (onG G) w := known_onG fun g hgG => by
      have ht := List.all_eq_true.1 htab g hgG
      unfold tabOk at ht
      split at ht
      case h_2 => cases ht
      rename_i c t hA
      have hct := arr_eq (eqL_eq (eqV_eq 60) _ _ ht)
      subst hct
      obtain ⟨o', ho', hor⟩ := hw.block (hg g hgG) (by simp [AW.alive, hA]) hA
      cases hor
      rename_i c' hcc
      have hc' : c' = tab g := by
        apply Array.ext_getElem?
        intro i
        cases h1 : (tab g)[i]? with
        | none =>
          rw [Array.getElem?_eq_none_iff] at h1 ⊢
          rw [hcc.size]; exact h1
        | some u =>
          have hi := (Array.getElem?_eq_some_iff.1 h1).1
          have h2 : c'[i]? = some (c'[i]'(by rw [hcc.size]; exact hi)) := Array.getElem?_eq_getElem _
          rw [h2]
          have := hcc.at_ i _ _ h1 h2
          rw [VR.plain_eq 60 _ _ (Array.all_eq_true_iff_forall_mem.1 (hpl g hgG) _ (Array.mem_of_getElem? h1)) this]
      subst hc'
      exact ⟨tab g, tyAt w g, hH _ g hgG, by rw [ho']; unfold tyAt; rw [ho'], hpl g hgG⟩
    obtain ⟨A1, he1⟩ := evTrue_some (he (tyAt w))
    refine callsIn_wide.2 ((evS_calls hP hs he1 hk (gl_onG G) ⟨rfl, fun i v v' h => by simp at h⟩).mono fun e w' h => ?_)
    obtain ⟨R', v', rfl, h1, _, h2⟩ := h
    cases h2
    have hb := ext_below hk h1
    have same : ∀ k, k < w.heap.size → w'.heap[k]? = w.heap[k]? := fun k hk2 => h1.same k hk2 fun ⟨b, l, x, _, hro⟩ => by
      have := (hk.1 _ _ _ x).2.1
      have hro : (H (tyAt w)).size ≤ b := hro
      omega
    refine ⟨R, _, rfl, ⟨CR.le_refl R, fun _ _ _ h => .inl h, Nat.le_refl _, h1.wsize, rfl, fun _ _ h => h, fun k hk2 _ => same k hk2, h1.os, h1.tape, h1.output⟩, ⟨fun b k l x => ⟨(hw.dom b k l x).1, Nat.lt_of_lt_of_le (hw.dom b k l x).2 h1.wsize⟩, hw.fn, hw.inj, hw.loose, fun b k l o o' x p q1 q2 => hw.obj b k l o o' x p q1 (by rw [← same k (hw.dom b k l x).2]; exact q2), hw.ro, hw.lsize⟩, .bool true⟩
end Go.Can
