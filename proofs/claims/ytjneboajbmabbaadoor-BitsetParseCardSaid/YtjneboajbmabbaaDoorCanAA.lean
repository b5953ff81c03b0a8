/-
  The canonical evaluator with many outcomes: ranges over maps, whose next entry is a choice. Code.
-/
import Derived.Test.YtjneboajbmabbaaDoorCanZ
set_option linter.unusedSimpArgs false
set_option linter.unusedVariables false
namespace Go.Can
variable {P : Program} {G : List Nat}

def candL (es : List MapEntry) (since : Nat) (seen : Array Nat) : List (Option MapEntry) :=
  (if ((es.filter fun e => !seen.contains e.born).filter fun e => decide (e.born < since)).isEmpty = true then [none] else []) ++
    (((es.filter fun e => !seen.contains e.born).filter fun e => decide (e.born < since)) ++ (es.filter fun e => !seen.contains e.born).filter fun e => decide (e.born ≥ since)).map some
theorem candL_l2 {R : CR} {x y : List MapEntry} (h : L2 (EntryR R) x y) (since : Nat) (seen : Array Nat) : L2 (OptE R) (candL x since seen) (candL y since seen) := by
  have h1 := l2_filter (fun e => !seen.contains e.born) (fun e => !seen.contains e.born) (fun e e' h => by rw [h.born]) h
  have h2 := l2_filter (fun e => decide (e.born < since)) (fun e => decide (e.born < since)) (fun e e' h => by rw [h.born]) h1
  have h3 := l2_filter (fun e => decide (e.born ≥ since)) (fun e => decide (e.born ≥ since)) (fun e e' h => by rw [h.born]) h1
  have he : ((y.filter fun e => !seen.contains e.born).filter fun e => decide (e.born < since)).isEmpty = ((x.filter fun e => !seen.contains e.born).filter fun e => decide (e.born < since)).isEmpty := by
    have := l2_length h2
    rw [Bool.eq_iff_iff, List.isEmpty_iff, List.isEmpty_iff, ← List.length_eq_zero_iff, ← List.length_eq_zero_iff, this]
  unfold candL
  rw [he]
  refine l2_append ?_ (l2_some (l2_append h2 h3))
  split
  · exact .cons .none .nil
  · exact .nil

def allSome {α : Type} : List (Option α) → Option (List α)
  | [] => some []
  | none :: _ => none
  | some a :: l => match allSome l with
    | some r => some (a :: r)
    | none => none
theorem allSome_get {α : Type} : ∀ {l : List (Option α)} {L : List α}, allSome l = some L → ∀ (i : Nat) x, l[i]? = some x → ∃ y, x = some y ∧ y ∈ L
  | [], _, _, i, x, h => by simp at h
  | none :: _, _, h, _, _, _ => by cases h
  | some a :: l, L, h, i, x, hx => by
    unfold allSome at h
    split at h
    case h_2 => cases h
    rename_i r hr
    cases h
    cases i with
    | zero => simp at hx; subst hx; exact ⟨a, rfl, by simp⟩
    | succ i =>
      obtain ⟨y, h1, h2⟩ := allSome_get hr i x (by simpa using hx)
      exact ⟨y, h1, by simp [h2]⟩
/-- the next entry of a range over a map: an outcome for each choice -/
def nextL (P : Program) (x : Value) (A : AW) : Option (List (Value × AW)) := match x with
  | .pointer (some ⟨r, 0, _⟩) => match A.w.heap[r]? with
    | some (.mapIter (some m) since seen last) => match A.w.heap[m]? with
      | some (.map es clock) =>
        if (!seen.isEmpty && !es.isEmpty && es.all fun e => decide (e.born ≥ last)) = true then none else
        if (candL es.toList since seen).isEmpty then none else
        allSome ((candL es.toList since seen).map fun c => match c with
          | some e => (arun P (Go.setObj r (.mapIter (some m) since (seen.push e.born) clock)) A).map fun y => (Value.tuple #[.bool true, e.key, e.val], y.2)
          | none => some (Value.tuple #[.bool false], A))
      | _ => none
    | _ => none
  | _ => none
theorem run_choose (q : Question) (w : World) : (Go.choose q).run P w = if q.forced then .ok 0 w else .ok (q.cut (w.tape w.drawn q)) { w with drawn := w.drawn + 1 } := by
  rfl
theorem run_getObj {r : Nat} {o : Obj} {w : World} (h : w.heap[r]? = some o) (hc : ∀ c t f, o ≠ .cells c t f) : (Go.getObj r).run P w = .ok o w := by
  unfold Go.getObj
  simp only [Sem.run, h]
theorem nextL_ok {R : CR} {A : AW} {w : World} (hw : WR R A w) {x x' : Value} (hx : VR R x x') {L : List (Value × AW)} (h : nextL P x A = some L) (t : TypeId) :
    ∃ y ∈ L, ∃ R' v' w', (Instr.next x' false t).run P w = .ok v' w' ∧ Ext R A w R' y.2 w' ∧ WR R' y.2 w' ∧ VR R' y.1 v' := by
  unfold nextL at h
  split at h
  case h_2 => cases h
  rename_i r spot
  split at h
  case h_2 => cases h
  rename_i m since seen last hr
  split at h
  case h_2 => cases h
  rename_i es clock hm
  split at h
  · cases h
  rename_i hc
  split at h
  · cases h
  rename_i hne
  cases hx
  rename_i a' ha
  obtain ⟨b', off', spot'⟩ := a'
  obtain ⟨⟨l, hl⟩, ho, hs⟩ := ha
  simp only at hl ho hs
  subst ho; subst hs
  obtain ⟨o', ho', hor⟩ := hw.block hl (by simp [AW.alive, hr]) hr
  cases hor
  rename_i m' hmm
  obtain ⟨o2, ho2, hor2⟩ := hw.block hmm (by simp [AW.alive, hm]) hm
  cases hor2
  rename_i es' hes
  have hl2 := hes.l2
  have hall : es'.all (fun e => decide (e.born ≥ last)) = es.all (fun e => decide (e.born ≥ last)) := by
    rw [← Array.all_toList, ← Array.all_toList]
    exact l2_all _ _ (fun e e' h => by rw [h.born]) hl2
  have hcand := candL_l2 hl2 since seen
  have key : ∀ C' : Array (Option MapEntry), C'.toList = candL es'.toList since seen → ∃ y ∈ L, ∃ R' v' w', (do
      match C'[← Go.choose (.mapNext C'.size)]? with
      | some (some e) => do
        Go.setObj b' (.mapIter (some m') since (seen.push e.born) clock)
        pure (.tuple #[.bool true, e.key, e.val])
      | some none => pure (.tuple #[.bool false])
      | none => stuck "Next: no such candidate" : Sem Value).run P w = .ok v' w' ∧ Ext R A w R' y.2 w' ∧ WR R' y.2 w' ∧ VR R' y.1 v' := by
    intro C' hC'
    have hlen : C'.size = (candL es.toList since seen).length := by rw [← Array.length_toList, hC']; exact l2_length hcand
    have hpos : 0 < C'.size := by
      rw [hlen]
      rcases hx : candL es.toList since seen with _ | ⟨a, b⟩
      · rw [hx] at hne; exact absurd rfl hne
      · simp
    obtain ⟨j, w2, hj, hw2, hrun⟩ : ∃ j w2, j < C'.size ∧ (w2 = w ∨ w2 = { w with drawn := w.drawn + 1 }) ∧ (Go.choose (.mapNext C'.size)).run P w = .ok j w2 := by
      rw [run_choose]
      split
      · exact ⟨0, w, hpos, .inl rfl, rfl⟩
      · exact ⟨_, _, Nat.mod_lt _ hpos, .inr rfl, rfl⟩
    have hww : WR R A w2 := by
      rcases hw2 with rfl | rfl
      · exact hw
      · exact ⟨hw.dom, hw.fn, hw.inj, hw.loose, hw.obj, hw.ro, hw.lsize⟩
    have hex : Ext R A w R A w2 := by
      rcases hw2 with rfl | rfl
      · exact .refl _ _ _
      · exact ⟨CR.le_refl R, fun _ _ _ h => .inl h, Nat.le_refl _, Nat.le_refl _, rfl, fun _ _ h => h, fun _ _ _ => rfl, rfl, rfl, rfl⟩
    have hbind : ∀ f : Nat → Sem Value, (Go.choose (.mapNext C'.size) >>= f).run P w = (f j).run P w2 := fun f => by rw [Sem.run_bind, hrun]; rfl
    rw [show (do
      match C'[← Go.choose (.mapNext C'.size)]? with
      | some (some e) => do
        Go.setObj b' (.mapIter (some m') since (seen.push e.born) clock)
        pure (.tuple #[.bool true, e.key, e.val])
      | some none => pure (.tuple #[.bool false])
      | none => stuck "Next: no such candidate" : Sem Value).run P w = _ from hbind _]
    rcases l2_get hcand j with ⟨_, h2⟩ | ⟨c, c', h1, h2, hcc⟩
    · rw [← hC', Array.getElem?_toList] at h2
      rw [Array.getElem?_eq_getElem hj] at h2; cases h2
    · rw [← hC', Array.getElem?_toList] at h2
      rw [h2]
      cases hcc with
      | none =>
        obtain ⟨y, hy, hyL⟩ := allSome_get h j _ (by rw [List.getElem?_map, h1]; rfl)
        cases hy
        exact ⟨_, hyL, R, _, w2, rfl, hex, hww, VR.of_plain 2 _ (by simp [plainV])⟩
      | @some e e' he =>
        obtain ⟨y, hy, hyL⟩ := allSome_get h j _ (by rw [List.getElem?_map, h1]; rfl)
        dsimp only at hy ⊢
        rw [he.born]
        cases ha : arun P (Go.setObj r (.mapIter (some m) since (seen.push e.born) clock)) A with
        | none => rw [ha] at hy; cases hy
        | some u =>
          obtain ⟨u, A2⟩ := u
          rw [ha] at hy
          cases hy
          obtain ⟨R3, b, w3, q1, q2, q3, _⟩ := sim_setObj (P := P) hl (.mapIter hmm since (seen.push e.born) clock) R A w2 (CR.le_refl R) hww _ _ ha
          exact ⟨_, hyL, R3, _, w3, by rw [Sem.run_bind, q1]; rfl, hex.trans hw q2, q3, vr_three (he.mono q2.le)⟩
  unfold Instr.next
  simp only [Sem.run_bind, run_getObj ho' (fun _ _ _ h => by cases h), Result.andThen_ok, run_getObj ho2 (fun _ _ _ h => by cases h)]
  rw [l2_isEmpty hl2, hall, if_neg hc]
  have := key ((if ((es'.filter fun e => !seen.contains e.born).filter fun e => decide (e.born < since)).isEmpty = true then #[none] else #[]) ++
    (((es'.filter fun e => !seen.contains e.born).filter fun e => decide (e.born < since)) ++ (es'.filter fun e => !seen.contains e.born).filter fun e => decide (e.born ≥ since)).map some) (by
      unfold candL
      simp only [Array.toList_append, Array.toList_map, Array.toList_filter]
      congr 1
      rw [← Array.toList_filter, ← Array.toList_filter, Array.isEmpty_toList]
      split <;> rfl)
  exact this

def joinL {α β : Type} : List α → (α → Option (List β)) → Option (List β)
  | [], _ => some []
  | x :: l, f => match f x with
    | some u => match joinL l f with
      | some v => some (u ++ v)
      | none => none
    | none => none
theorem joinL_mem {α β : Type} {f : α → Option (List β)} : ∀ {l : List α} {L : List β}, joinL l f = some L → ∀ x ∈ l, ∃ u, f x = some u ∧ ∀ y ∈ u, y ∈ L
  | [], _, _, x, h => by cases h
  | a :: l, L, h, x, hx => by
    unfold joinL at h
    split at h
    case h_2 => cases h
    rename_i u hu
    split at h
    case h_2 => cases h
    rename_i v hv
    cases h
    rcases List.mem_cons.1 hx with rfl | hx
    · exact ⟨u, hu, fun y hy => by simp [hy]⟩
    · obtain ⟨u2, h1, h2⟩ := joinL_mem hv x hx
      exact ⟨u2, h1, fun y hy => by simp [h2 y hy]⟩
/-- the operation that asks for a map's next entry -/
def nextOf (o : Oper) : Option Operand := match o.op with
  | .next it false => some it
  | _ => none
noncomputable def evOpsL (P : Program) (G : List Nat) (call : Rec) (ops : Array Oper) : List Oper → Act → AW → Option (List (Act × AW))
  | [], a, A => some [(a, A)]
  | o :: rest, a, A =>
    if wantedF ops o a then
      match nextOf o with
      | some it => if okOperand G it then match nextL P (feval a it) A with
          | some L => joinL L fun y => putK a o.dst y.1 fun a1 => evOpsL P G call ops rest a1 y.2
          | none => none
        else none
      | none => match evOpF P G call o a A with
        | some (v, A1) => putK a o.dst v fun a1 => evOpsL P G call ops rest a1 A1
        | none => none
    else putK a o.dst undef fun a1 => evOpsL P G call ops rest a1 A
theorem evOpsL_ok (hP : PC2 P) {call : Rec} (hc : RecOk P G call) (rd : Option Nat) (m : Nat) {ops : Array Oper} {Q : Exit → Act → World → Prop} :
    ∀ (l : List Oper) (k : Nat), (∀ j, l[j]? = ops[k + j]?) → ∀ {a : Act} {A : AW} {L : List (Act × AW)}, evOpsL P G call ops l a A = some L → ∀ {R : CR} {w : World} {a' : Act}, WR R A w → Gl G R → ActR R a a' →
    (∀ a2 w2, (∃ y ∈ L, Post R A w .normal y.1 y.2 .normal a2 w2) → Q .normal a2 w2) → wpOpsIn (Fr rd) m P ops Q (List.range' k l.length) a' w
  | [], k, _, a, A, L, he, R, w, a', hw, hg, hr, hQ => by
    simp only [evOpsL, Option.some.injEq] at he
    subst he
    exact hQ _ _ ⟨_, List.mem_singleton.2 rfl, rfl, R, hr, .refl _ _ _, hw⟩
  | o :: l, k, hl, a, A, L, he, R, w, a', hw, hg, hr, hQ => by
    have h0 : ops[k]? = some o := by simpa using (hl 0).symm
    have hl' : ∀ j, l[j]? = ops[k + 1 + j]? := fun j => by have := hl (j + 1); simpa [Nat.add_assoc, Nat.add_comm 1 j] using this
    simp only [List.length_cons, List.range'_succ]
    rw [wpOpsIn_cons]
    unfold wpOpIn
    simp only [h0]
    rw [yielded_rel hr.tmps]
    unfold evOpsL at he
    rw [wantedF_eq] at he
    split at he
    · rename_i hwn
      rw [if_pos hwn]
      cases hn : nextOf o with
      | some it =>
        rw [hn] at he
        simp only at he
        split at he
        case isFalse => cases he
        rename_i hok
        split at he
        case h_2 => cases he
        rename_i Ln hL
        have hop : o.op = .next it false := by
          unfold nextOf at hn
          split at hn
          · rename_i it' ho; cases hn; exact ho
          · cases hn
        rw [feval_eq] at hL
        obtain ⟨y, hy, R2, v2, w2, q1, q2, q3, q4⟩ := nextL_ok hw (hr.eval hg hok) hL o.type
        obtain ⟨u, hu, hsub⟩ := joinL_mem he y hy
        rw [putK_eq] at hu
        refine ⟨fun _ _ => trivial, ?_⟩
        rw [show (Fr rd).round = rd from rfl, Oper.semAt_eq rd _ o (fun c e => by rw [hop] at e; cases e)]
        have hrun : (execOp a'.eval o).run P w = .ok (.value v2) w2 := by
          unfold execOp
          rw [hop]
          simp only [Sem.run_bind, q1]
          rfl
        rw [hrun]
        refine evOpsL_ok hP hc rd m l (k + 1) hl' hu q3 (hg.mono q2.le) ((hr.mono q2.le).put o.dst q4) fun a3 w3 ⟨z, hz, h3⟩ => hQ _ _ ⟨z, hsub z hz, ?_⟩
        obtain ⟨_, R3, s1, s2, s3⟩ := h3
        exact ⟨rfl, R3, s1, q2.trans hw s2, s3⟩
      | none =>
        rw [hn] at he
        simp only at he
        split at he
        case h_2 => cases he
        rename_i v A2 hop
        rw [evOpF_eq] at hop
        rw [putK_eq] at he
        refine evOp_ok hP hc hop hw hg (fun x _ hx => hr.eval hg hx) rd m fun R2 v2 w2 hex hw2 hv => ?_
        refine evOpsL_ok hP hc rd m l (k + 1) hl' he hw2 (hg.mono hex.le) ((hr.mono hex.le).put o.dst hv) fun a3 w3 ⟨z, hz, h3⟩ => hQ _ _ ⟨z, hz, ?_⟩
        obtain ⟨_, R3, q1, q2, q3⟩ := h3
        exact ⟨rfl, R3, q1, hex.trans hw q2, q3⟩
    · rename_i hwn
      rw [if_neg hwn]
      rw [putK_eq] at he
      exact ⟨fun _ _ => trivial, evOpsL_ok hP hc rd m l (k + 1) hl' he hw hg (hr.put o.dst .undef) hQ⟩

/-- a piece of code's real run ends in one of these -/
def CodeOkL (P : Program) (G : List Nat) (rd : Option Nat) (c : Code) (r : Act → AW → Option (List (Exit × Act × AW))) : Prop :=
  ∀ a A L, r a A = some L → ∀ R w a' rd', WR R A w → Gl G R → ActR R a a' → RdR R rd rd' → ∀ m, c.wpIn (Fr rd') m P (fun e' a2 w2 => ∃ x ∈ L, Post R A w x.1 x.2.1 x.2.2 e' a2 w2) a' w
def oneL {α : Type} : Option α → Option (List α)
  | some x => some [x]
  | none => none
theorem CodeOkL.one {rd : Option Nat} {c : Code} {r : Act → AW → Option (Exit × Act × AW)} (h : CodeOk P G rd c r) : CodeOkL P G rd c fun a A => oneL (r a A) := by
  intro a A L hL R w a' rd' hw hg hr hrd m
  dsimp only at hL
  cases hx : r a A with
  | none => rw [hx] at hL; cases hL
  | some x =>
    rw [hx] at hL
    obtain ⟨e, a1, A1⟩ := x
    cases hL
    exact wpIn_mono (h a A e a1 A1 hx R w a' rd' hw hg hr hrd m) fun e' a2 w2 h2 => ⟨_, List.mem_singleton.2 rfl, h2⟩
noncomputable def evLoopL (body : Act → AW → Option (List (Exit × Act × AW))) : Nat → Act → AW → Option (List (Exit × Act × AW))
  | 0, _, _ => none
  | n + 1, a, A => match body a A with
    | some L => joinL L fun x => match x with
      | (.normal, a1, A1) => evLoopL body n a1 A1
      | x => some [x]
    | none => none
theorem evLoopL_ok {rd : Option Nat} {c : Code} {r : Act → AW → Option (List (Exit × Act × AW))} (h : CodeOkL P G rd c r) : ∀ n, CodeOkL P G rd (.loop c) (evLoopL r n) := by
  intro n a A L he R w a' rd' hw hg hr hrd m
  refine wpIn_loop_rounds n ?_
  induction n generalizing a A R w a' L with
  | zero => cases he
  | succ n ih =>
    rw [roundsIn_succ]
    unfold evLoopL at he
    split at he
    case h_2 => cases he
    rename_i L1 h1
    refine wpIn_mono (h _ _ _ h1 R w a' rd' hw hg hr hrd m) fun e' a3 w3 ⟨x, hx, h3⟩ => ?_
    obtain ⟨u, hu, hsub⟩ := joinL_mem he x hx
    obtain ⟨e, a2, A2⟩ := x
    obtain ⟨rfl, R3, q1, q2, q3⟩ := h3
    cases e' with
    | normal =>
      simp only at hu
      have := ih a2 A2 u hu R3 w3 a3 q3 (hg.mono q2.le) q1 (hrd.mono q2.le)
      have mono : ∀ (n : Nat) (a : Act) (w' : World), Code.roundsIn (Fr rd') m P c (fun e' a2 w2 => ∃ x ∈ u, Post R3 A2 w3 x.1 x.2.1 x.2.2 e' a2 w2) n a w' → Code.roundsIn (Fr rd') m P c (fun e' a2 w2 => ∃ x ∈ L, Post R A w x.1 x.2.1 x.2.2 e' a2 w2) n a w' := by
        intro n
        induction n with
        | zero => intro _ _ h; exact h.elim
        | succ n ih2 =>
          intro a w' h
          rw [roundsIn_succ] at h ⊢
          refine wpIn_mono h fun e a w' h => ?_
          cases e with
          | normal => exact ih2 _ _ h
          | _ => obtain ⟨y, hy, h⟩ := h; exact ⟨y, hsub y hy, Post.trans hw q2 h⟩
      exact mono _ _ _ this
    | _ =>
      simp only [Option.some.injEq] at hu
      subst hu
      exact ⟨_, hsub _ (List.mem_singleton.2 rfl), rfl, R3, q1, q2, q3⟩
def outOf (id : Nat) : Exit × Act × AW → Exit × Act × AW
  | (.exit id', a1, A1) => if id' = id then (.normal, a1, A1) else (.exit id', a1, A1)
  | z => z
noncomputable def evCodeL (P : Program) (G : List Nat) (call : Rec) (n : Nat) (rd : Option Nat) : Code → Act → AW → Option (List (Exit × Act × AW))
  | .region _ ops draw, a, A => if !draw && ops.any (fun o => (nextOf o).isSome) then
      match evOpsL P G call ops ops.toList a A with
      | some L => some (L.map fun y => (.normal, y.1, y.2))
      | none => none
    else oneL (match evRegionF P G call rd.isNone ops draw a A with
      | some (a1, A1) => some (.normal, a1, A1)
      | none => none)
  | .seq x y, a, A => match evCodeL P G call n rd x a A with
    | some L => joinL L fun z => match z with
      | (.normal, a1, A1) => evCodeL P G call n rd y a1 A1
      | z => some [z]
    | none => none
  | .cond c x y, a, A => if okOperand G c then (match feval a c with
    | .bool true => evCodeL P G call n rd x a A
    | .bool false => evCodeL P G call n rd y a A
    | _ => none) else none
  | .block id c, a, A => match evCodeL P G call n rd c a A with
    | some L => some (L.map (outOf id))
    | none => none
  | .loop c, a, A => evLoopL (evCodeL P G call n rd c) n a A
  | .scope c, a, A => match evCodeL P G call n rd c a A with
    | some L => if L.all (fun z => notGoto z.1) then some L else none
    | none => none
  | c, a, A => oneL (evCode P G call n rd c a A)
theorem evCodeL_ok (hP : PC2 P) {call : Rec} (hc : RecOk P G call) (n : Nat) (rd : Option Nat) : ∀ c : Code, CodeOkL P G rd c (evCodeL P G call n rd c)
  | .skip => fun a A L he => CodeOkL.one (evCode_ok hP hc n rd .skip) a A L he
  | .label l => fun a A L he => CodeOkL.one (evCode_ok hP hc n rd (.label l)) a A L he
  | .exit id => fun a A L he => CodeOkL.one (evCode_ok hP hc n rd (.exit id)) a A L he
  | .goto l => fun a A L he => CodeOkL.one (evCode_ok hP hc n rd (.goto l)) a A L he
  | .ret => fun a A L he => CodeOkL.one (evCode_ok hP hc n rd .ret) a A L he
  | .scope c => fun a A L he R w a' rd' hw hg hr hrd m => by
    unfold evCodeL at he
    refine wpIn_scope_straight ?_
    split at he
    case h_2 => cases he
    rename_i L1 h1
    split at he
    case isFalse => cases he
    rename_i hn
    cases he
    refine wpIn_mono (evCodeL_ok hP hc n rd c _ _ _ h1 R w a' rd' hw hg hr hrd m) fun e' a3 w3 ⟨z, hz, h3⟩ => ?_
    have hz2 := List.all_eq_true.1 hn z hz
    obtain ⟨e, a2, A2⟩ := z
    obtain ⟨rfl, h4⟩ := h3
    exact noGoto_of hz2 ⟨_, hz, rfl, h4⟩
  | .refuse c => fun a A L he => CodeOkL.one (evCode_ok hP hc n rd (.refuse c)) a A L he
  | .rangeFunc g ps assign body => fun a A L he => CodeOkL.one (evCode_ok hP hc n rd (.rangeFunc g ps assign body)) a A L he
  | .loop c => evLoopL_ok (evCodeL_ok hP hc n rd c) n
  | .region id ops draw => fun a A L he R w a' rd' hw hg hr hrd m => by
    unfold evCodeL at he
    split at he
    · rename_i hd
      rw [Bool.and_eq_true, Bool.not_eq_true'] at hd
      obtain ⟨rfl, _⟩ := hd
      split at he
      case h_2 => cases he
      rename_i L2 hL2
      cases he
      refine wpIn_region ?_
      rw [List.range_eq_range', ← Array.length_toList]
      refine evOpsL_ok hP hc rd' m ops.toList 0 (by simp) hL2 hw hg hr fun a3 w3 ⟨y, hy, h3⟩ => ⟨_, List.mem_map.2 ⟨y, hy, rfl⟩, h3⟩
    · rw [evRegionF_eq] at he
      exact CodeOkL.one (evRegion_ok hP hc rd id ops draw) a A L he R w a' rd' hw hg hr hrd m
  | .seq x y => fun a A L he R w a' rd' hw hg hr hrd m => by
    unfold evCodeL at he
    refine wpIn_seq ?_
    split at he
    case h_2 => cases he
    rename_i L1 h1
    refine wpIn_mono (evCodeL_ok hP hc n rd x _ _ _ h1 R w a' rd' hw hg hr hrd m) fun e' a3 w3 ⟨z, hz, h3⟩ => ?_
    obtain ⟨u, hu, hsub⟩ := joinL_mem he z hz
    obtain ⟨e, a2, A2⟩ := z
    obtain ⟨rfl, R3, q1, q2, q3⟩ := h3
    cases e' with
    | normal =>
      simp only at hu
      exact wpIn_mono (evCodeL_ok hP hc n rd y _ _ _ hu R3 w3 a3 rd' q3 (hg.mono q2.le) q1 (hrd.mono q2.le) m) fun e' a4 w4 ⟨z, hz, h4⟩ => ⟨z, hsub z hz, Post.trans hw q2 h4⟩
    | _ =>
      simp only [Option.some.injEq] at hu
      subst hu
      exact ⟨_, hsub _ (List.mem_singleton.2 rfl), rfl, R3, q1, q2, q3⟩
  | .cond c x y => fun a A L he R w a' rd' hw hg hr hrd m => by
    unfold evCodeL at he
    rw [feval_eq] at he
    split at he
    case isFalse => cases he
    rename_i hok
    have hv := hr.eval hg hok
    split at he
    · rename_i ht
      rw [ht] at hv
      have e1 : a'.eval c = .bool true := by cases h : a'.eval c <;> rw [h] at hv <;> cases hv; rfl
      exact wpIn_cond_true e1 (evCodeL_ok hP hc n rd x _ _ _ he R w a' rd' hw hg hr hrd m)
    · rename_i ht
      rw [ht] at hv
      have e1 : a'.eval c = .bool false := by cases h : a'.eval c <;> rw [h] at hv <;> cases hv; rfl
      exact wpIn_cond_false e1 (evCodeL_ok hP hc n rd y _ _ _ he R w a' rd' hw hg hr hrd m)
    · cases he
  | .block id c => fun a A L he R w a' rd' hw hg hr hrd m => by
    unfold evCodeL at he
    refine wpIn_block ?_
    split at he
    case h_2 => cases he
    rename_i L1 h1
    cases he
    refine wpIn_mono (evCodeL_ok hP hc n rd c _ _ _ h1 R w a' rd' hw hg hr hrd m) fun e' a3 w3 ⟨z, hz, h3⟩ => ?_
    have hm := List.mem_map.2 ⟨z, hz, (rfl : outOf id z = _)⟩
    obtain ⟨e, a2, A2⟩ := z
    obtain ⟨rfl, h4⟩ := h3
    unfold outOf at hm
    cases e' with
    | exit id' =>
      simp only [Exit.inBlock]
      split
      · rename_i e1
        simp only [if_pos e1] at hm
        exact ⟨_, hm, rfl, h4⟩
      · rename_i e1
        simp only [if_neg e1] at hm
        exact ⟨_, hm, rfl, h4⟩
    | _ => exact ⟨_, hm, rfl, h4⟩
end Go.Can
