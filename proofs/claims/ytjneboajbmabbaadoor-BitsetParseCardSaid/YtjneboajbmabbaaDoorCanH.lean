/-
  How the real world follows the operations: methods of interface values, strings that are ranged over, maps with plain keys.
-/
import Derived.Test.YtjneboajbmabbaaDoorCanG
set_option linter.unusedSimpArgs false
set_option linter.unusedVariables false
namespace Go.Can
variable {P : Program} {R0 : CR}

inductive PlaceR (R : CR) : Place → Place → Prop
  | val {v v' : Value} (h : VR R v v') : PlaceR R (.val v) (.val v')
  | var {a a' : Addr} (h : AddrR R a a') : PlaceR R (.var a) (.var a')
theorem PlaceR.mono {R R' : CR} (h : CR.le R R') {x x' : Place} (k : PlaceR R x x') : PlaceR R' x x' := by
  cases k with
  | val x => exact .val (x.mono h)
  | var x => exact .var (x.mono h)
theorem sim_get (t : TypeId) {x x' : Place} (h : PlaceR R0 x x') : Sim P R0 VR (x.get t) (x'.get t) := by
  cases h with
  | val h => exact sim_pure fun R hle => h.mono hle
  | var h => exact sim_loadVar t h
theorem sim_follow : ∀ (l : List FieldStep) (t : TypeId) {x x' : Place} {R0 : CR}, PlaceR R0 x x' → Sim P R0 (fun R a b => b.1 = a.1 ∧ PlaceR R a.2 b.2) (Go.follow l t x) (Go.follow l t x')
  | [], t, x, x', R0, h => sim_pure fun R hle => ⟨rfl, h.mono hle⟩
  | s :: l, t, x, x', R0, h => by
    simp only [Go.follow]
    refine sim_bind (sim_underlying s.struct) fun R hle d d' ⟨hd, _⟩ => ?_
    subst hd
    split
    case h_2 => exact sim_halt
    split
    case h_2 => exact sim_halt
    rename_i f _
    split
    · refine sim_bind (sim_get t (h.mono hle)) fun R1 hle1 v v' hv => ?_
      refine sim_bind (sim_asAddr hv) fun R2 hle2 a a' ha => ?_
      refine sim_bind (sim_fieldPlace f ha) fun R3 hle3 b b' hb => ?_
      exact sim_follow l f.type (.var hb)
    · cases h with
      | var ha =>
        dsimp only
        refine sim_bind (sim_fieldPlace f (ha.mono hle)) fun R3 hle3 b b' hb => ?_
        exact sim_follow l f.type (.var hb)
      | val hv =>
        cases hv
        case agg c c' hx hxs =>
          dsimp only
          refine sim_bind (sim_part f.type f.offset (ArrR.mono hle ⟨hx, hxs⟩)) fun R3 hle3 b b' hb => ?_
          exact sim_follow l f.type (.val hb)
        all_goals exact sim_halt
theorem sim_receiverAt (t : TypeId) {x x' : Place} (pr : Bool) (wr : Option String) (h : PlaceR R0 x x') : Sim P R0 VR (Go.receiverAt t x pr wr) (Go.receiverAt t x' pr wr) := by
  unfold Go.receiverAt
  refine sim_bind (sim_underlying t) fun R hle d d' ⟨hd, _⟩ => ?_
  subst hd
  have h := h.mono hle
  have ptrCase : ∀ (elem : TypeId), Sim P R VR (do
      let ptr ← x.get t
      let ptr ← match wr with
        | some name => Builtin.ssaWrapNilChk_ #[t] t #[ptr, strVal "", strVal name]
        | none => pure ptr
      loadVar elem (← asAddr ptr)) (do
      let ptr ← x'.get t
      let ptr ← match wr with
        | some name => Builtin.ssaWrapNilChk_ #[t] t #[ptr, strVal "", strVal name]
        | none => pure ptr
      loadVar elem (← asAddr ptr)) := by
    intro elem
    refine sim_bind (sim_get t h) fun R1 hle1 v v' hv => ?_
    have last : ∀ {R2 : CR} {u u' : Value}, VR R2 u u' → Sim P R2 VR (do loadVar elem (← asAddr u)) (do loadVar elem (← asAddr u')) := fun {R2 u u'} hu =>
      sim_bind (sim_asAddr hu) fun R3 hle3 a a' ha => sim_loadVar elem ha
    cases wr with
    | none => exact sim_bind (S := VR) (sim_pure fun R2 hle2 => hv.mono hle2) fun R2 hle2 u u' hu => last hu
    | some name =>
      refine sim_bind (S := VR) ?_ fun R2 hle2 u u' hu => last hu
      unfold Builtin.ssaWrapNilChk_
      cases hv
      case ptr a a' ha => exact sim_pure fun R2 hle2 => .ptr (ha.mono hle2)
      case nilPtr =>
        refine sim_none fun A => ?_
        rfl
      all_goals exact sim_halt
  cases d'
  case pointer elem _ _ =>
    cases pr
    · exact ptrCase elem
    · exact sim_get t h
  all_goals
    cases pr
    · cases h with
      | val hv => exact sim_get t (.val hv)
      | var hv => exact sim_get t (.var hv)
    · cases h with
      | val hv => exact sim_halt
      | var hv => exact sim_pure fun R2 hle2 => .ptr (hv.mono hle2)
theorem sim_method : ∀ (n : Nat) (t : TypeId) {v v' : Value} (name : String) {R0 : CR}, VR R0 v v' → Sim P R0 (fun R a b => b.1 = a.1 ∧ VR R a.2 b.2) (Go.method n t v name) (Go.method n t v' name)
  | 0, _, _, _, _, _, _ => sim_halt
  | n + 1, t, v, v', name, R0, h => by
    simp only [Go.method]
    refine sim_bind (sim_typeInfo t) fun R hle i i' ⟨hi, _⟩ => ?_
    subst hi
    split
    case h_2 => exact sim_halt
    rename_i m _
    refine sim_bind (sim_follow m.path.toList t (.val (h.mono hle))) fun R1 hle1 x y hxy => ?_
    obtain ⟨xt, x⟩ := x
    obtain ⟨yt, y⟩ := y
    obtain ⟨e1, h2⟩ := hxy
    simp only at e1 h2
    subst e1
    dsimp only
    cases m.func with
    | none =>
      dsimp only
      refine sim_bind (sim_get yt h2) fun R2 hle2 u u' hu => ?_
      cases hu
      case iface t2 w w' hw => exact sim_method n t2 name hw
      case nilIface => exact sim_runtimePanic _
      all_goals exact sim_halt
    | some fp =>
      obtain ⟨f, pr⟩ := fp
      dsimp only
      exact sim_bind (sim_receiverAt yt pr _ h2) fun R2 hle2 u u' hu => sim_pure fun R3 hle3 => ⟨rfl, hu.mono hle3⟩

/-! Ranging over a string -/
theorem sim_rangeStr (t : TypeId) (s : ByteArray) : Sim P R0 VR (Instr.range t (.string s)) (Instr.range t (.string s)) := by
  unfold Instr.range
  refine sim_bind (sim_underlying t) fun R hle d d' ⟨hd, _⟩ => ?_
  subst hd
  cases d'
  case string =>
    refine sim_bind (S := fun R o o' => o = .stringIter s 0 ∧ o' = .stringIter s 0) (sim_pure fun _ _ => ⟨rfl, rfl⟩) fun R1 hle1 o o' ho => ?_
    obtain ⟨rfl, rfl⟩ := ho
    exact sim_bind (sim_newObj (.stringIter s 0)) fun R2 hle2 r r' hr => sim_pure fun R3 hle3 => .ptr ⟨⟨_, hle3 _ _ _ hr⟩, rfl, rfl⟩
  all_goals exact sim_bind (S := fun _ _ _ => False) sim_halt fun _ _ _ _ h => h.elim
theorem sim_nextStr {x x' : Value} (t : TypeId) (h : VR R0 x x') : Sim P R0 VR (Instr.next x true t) (Instr.next x' true t) := by
  unfold Instr.next
  dsimp only
  cases h
  case ptr a a' ha =>
    obtain ⟨b, off, spot⟩ := a
    obtain ⟨b', off', spot'⟩ := a'
    obtain ⟨⟨l, hl⟩, ho, hs⟩ := ha
    simp only at hl ho hs
    subst ho; subst hs
    cases off' with
    | succ n => exact sim_halt
    | zero =>
      refine sim_bind (sim_getObj hl) fun R1 hle1 o o' ⟨ho, _⟩ => ?_
      cases ho with
      | stringIter s p =>
        dsimp only
        split
        · refine sim_bind (sim_setObj (hle1 _ _ _ hl) (.stringIter s _)) fun R2 hle2 _ _ _ => ?_
          exact sim_pure fun R3 hle3 => VR.of_plain 2 _ (by simp [plainV, goInt])
        · exact sim_pure fun R3 hle3 => VR.of_plain 2 _ (by simp [plainV, goInt])
      | _ => exact sim_halt
  all_goals exact sim_halt

/-! Ranging over a map, where the next entry is no choice -/
inductive OptE (R : CR) : Option MapEntry → Option MapEntry → Prop
  | none : OptE R Option.none Option.none
  | some {e e' : MapEntry} (h : EntryR R e e') : OptE R (Option.some e) (Option.some e')
theorem MapR.l2 {R : CR} {x x' : Array MapEntry} (h : MapR R x x') : L2 (EntryR R) x.toList x'.toList := L2.of_get _ _ (by simp [h.size]) fun i a b ha hb => h.at_ i a b (by simpa using ha) (by simpa using hb)
theorem l2_filter {R : CR} (p p' : MapEntry → Bool) (hp : ∀ e e', EntryR R e e' → p' e' = p e) {x y : List MapEntry} (h : L2 (EntryR R) x y) : L2 (EntryR R) (x.filter p) (y.filter p') := by
  induction h with
  | nil => exact .nil
  | @cons a b x y h t ih =>
    simp only [List.filter_cons, hp _ _ h]
    cases p a with
    | true => exact .cons h ih
    | false => exact ih
theorem l2_all {R : CR} (p p' : MapEntry → Bool) (hp : ∀ e e', EntryR R e e' → p' e' = p e) {x y : List MapEntry} (h : L2 (EntryR R) x y) : y.all p' = x.all p := by
  induction h with
  | nil => rfl
  | cons h t ih => simp only [List.all_cons, hp _ _ h, ih]
theorem l2_length {α β : Type} {S : α → β → Prop} {x : List α} {y : List β} (h : L2 S x y) : y.length = x.length := by
  induction h with
  | nil => rfl
  | cons h t ih => simp [ih]
theorem l2_append {α β : Type} {S : α → β → Prop} {x x2 : List α} {y y2 : List β} (h : L2 S x y) (k : L2 S x2 y2) : L2 S (x ++ x2) (y ++ y2) := by
  induction h with
  | nil => exact k
  | cons h t ih => exact .cons h ih
theorem l2_some {R : CR} {x y : List MapEntry} (h : L2 (EntryR R) x y) : L2 (OptE R) (x.map some) (y.map some) := by
  induction h with
  | nil => exact .nil
  | cons h t ih => exact .cons (.some h) ih
theorem l2_get {α β : Type} {S : α → β → Prop} {x : List α} {y : List β} (h : L2 S x y) (i : Nat) : (x[i]? = none ∧ y[i]? = none) ∨ ∃ a b, x[i]? = some a ∧ y[i]? = some b ∧ S a b := by
  induction h generalizing i with
  | nil => exact .inl ⟨rfl, rfl⟩
  | cons h t ih =>
    cases i with
    | zero => exact .inr ⟨_, _, rfl, rfl, h⟩
    | succ i => simpa using ih i
theorem l2_find {R : CR} (p p' : MapEntry → Bool) (hp : ∀ e e', EntryR R e e' → p' e' = p e) {x y : List MapEntry} (h : L2 (EntryR R) x y) : OptE R (x.find? p) (y.find? p') := by
  induction h with
  | nil => exact .none
  | @cons a b x y h t ih =>
    simp only [List.find?_cons, hp _ _ h]
    cases p a with
    | true => exact .some h
    | false => exact ih
theorem l2_isEmpty {R : CR} {x y : Array MapEntry} (h : L2 (EntryR R) x.toList y.toList) : y.isEmpty = x.isEmpty := by
  have := l2_length h
  simp only [Array.length_toList] at this
  simp [Array.isEmpty, this]
theorem l2_cand {R : CR} {o o' n n' : Array MapEntry} (h : L2 (EntryR R) o.toList o'.toList) (k : L2 (EntryR R) n.toList n'.toList) :
    L2 (OptE R) ((if o.isEmpty = true then #[Option.none] else #[]) ++ (o ++ n).map some).toList ((if o'.isEmpty = true then #[Option.none] else #[]) ++ (o' ++ n').map some).toList := by
  rw [l2_isEmpty h]
  simp only [Array.toList_append, Array.toList_map]
  refine l2_append ?_ (l2_some (l2_append h k))
  split
  · exact .cons .none .nil
  · exact .nil
theorem sim_choose {q q' : Question} (e : q' = q) : Sim P R0 EqS (Go.choose q) (Go.choose q') := by
  subst e
  intro R A w hle hw a A' ha
  simp only [Go.choose, arun] at ha
  split at ha
  · rename_i hq
    simp only [arun, Option.some.injEq, Prod.mk.injEq] at ha
    obtain ⟨rfl, rfl⟩ := ha
    exact ⟨R, 0, w, by simp [Go.choose, Sem.run, hq], .refl _ _ _, hw, rfl⟩
  · cases ha
theorem sim_rangeMap (t : TypeId) {m m' : Option Nat} (h : VR R0 (.map m) (.map m')) : Sim P R0 VR (Instr.range t (.map m)) (Instr.range t (.map m')) := by
  unfold Instr.range
  refine sim_bind (sim_underlying t) fun R hle d d' ⟨hd, _⟩ => ?_
  subst hd
  cases d'
  case map k e =>
    cases h with
    | nilMap =>
      refine sim_bind (S := fun R o o' => OR R none o o') (sim_pure fun _ _ => .mapIterNil _ _ _) fun R1 hle1 o o' ho => ?_
      exact sim_bind (sim_newObj ho) fun R2 hle2 r r' hr => sim_pure fun R3 hle3 => .ptr ⟨⟨_, hle3 _ _ _ hr⟩, rfl, rfl⟩
    | map hr =>
      refine sim_bind (sim_getObj (hle _ _ _ hr)) fun R1 hle1 o o' ⟨ho, _⟩ => ?_
      cases ho with
      | map c x =>
        refine sim_bind (S := fun R o o' => OR R none o o') (sim_pure fun R2 hle2 => .mapIter (hle2 _ _ _ (hle1 _ _ _ (hle _ _ _ hr))) _ _ _) fun R2 hle2 o o' ho => ?_
        exact sim_bind (sim_newObj ho) fun R3 hle3 r r' hr => sim_pure fun R4 hle4 => .ptr ⟨⟨_, hle4 _ _ _ hr⟩, rfl, rfl⟩
      | _ => exact sim_bind (S := fun _ _ _ => False) sim_halt fun _ _ _ _ h => h.elim
  all_goals exact sim_bind (S := fun _ _ _ => False) (by cases h <;> exact sim_halt) fun _ _ _ _ h => h.elim
theorem vr_three {R : CR} {e e' : MapEntry} (h : EntryR R e e') : VR R (.tuple #[.bool true, e.key, e.val]) (.tuple #[.bool true, e'.key, e'.val]) :=
  .tuple rfl fun i v v' h1 h2 => by
    match i with
    | 0 => simp at h1 h2; subst h1; subst h2; exact .bool _
    | 1 => simp at h1 h2; subst h1; subst h2; exact h.key
    | 2 => simp at h1 h2; subst h1; subst h2; exact h.val
    | n + 3 => simp at h1
theorem vr_two {R : CR} {e e' : MapEntry} (h : EntryR R e e') : VR R (.tuple #[e.key, e.val]) (.tuple #[e'.key, e'.val]) :=
  .tuple rfl fun i v v' h1 h2 => by
    match i with
    | 0 => simp at h1 h2; subst h1; subst h2; exact h.key
    | 1 => simp at h1 h2; subst h1; subst h2; exact h.val
    | n + 2 => simp at h1
theorem sim_nextMap {x x' : Value} (t : TypeId) (h : VR R0 x x') : Sim P R0 VR (Instr.next x false t) (Instr.next x' false t) := by
  unfold Instr.next
  dsimp only
  have over : ∀ {R : CR}, Sim P R VR (Pure.pure (.tuple #[.bool false]) : Sem Value) (Pure.pure (.tuple #[.bool false])) := sim_pure fun _ _ => VR.of_plain 2 _ (by simp [plainV])
  cases h
  case ptr a a' ha =>
    obtain ⟨b, off, spot⟩ := a
    obtain ⟨b', off', spot'⟩ := a'
    obtain ⟨⟨l, hl⟩, ho, hs⟩ := ha
    simp only at hl ho hs
    subst ho; subst hs
    cases off' with
    | succ n => exact sim_halt
    | zero =>
      refine sim_bind (sim_getObj hl) fun R1 hle1 o o' ⟨ho, _⟩ => ?_
      cases ho with
      | mapIterNil s x k => exact over
      | @mapIter m m' hm since seen last =>
        dsimp only
        refine sim_bind (sim_getObj hm) fun R2 hle2 o o' ⟨ho, _⟩ => ?_
        cases ho with
        | @map es es' clock hes =>
          dsimp only
          have hl2 := hes.l2
          have hall : es'.all (fun e => decide (e.born ≥ last)) = es.all (fun e => decide (e.born ≥ last)) := by
            rw [← Array.all_toList, ← Array.all_toList]
            exact l2_all _ _ (fun e e' h => by rw [h.born]) hl2
          rw [l2_isEmpty hl2, hall]
          split
          · exact sim_halt
          have key : ∀ C C' : Array (Option MapEntry), L2 (OptE R2) C.toList C'.toList → Sim P R2 VR (do
              match C[← Go.choose (.mapNext C.size)]? with
              | some (some e) => do
                Go.setObj b (.mapIter (some m) since (seen.push e.born) clock)
                pure (.tuple #[.bool true, e.key, e.val])
              | some none => pure (.tuple #[.bool false])
              | none => stuck "Next: no such candidate") (do
              match C'[← Go.choose (.mapNext C'.size)]? with
              | some (some e) => do
                Go.setObj b' (.mapIter (some m') since (seen.push e.born) clock)
                pure (.tuple #[.bool true, e.key, e.val])
              | some none => pure (.tuple #[.bool false])
              | none => stuck "Next: no such candidate") := by
            intro C C' hC
            have hs := l2_length hC
            simp only [Array.length_toList] at hs
            refine sim_bind (sim_choose (by rw [hs])) fun R3 hle3 i j hij => ?_
            unfold EqS at hij
            subst hij
            rcases l2_get hC _ with ⟨h1, h2⟩ | ⟨x, y, h1, h2, hxy⟩
            · rw [Array.getElem?_toList] at h1 h2
              rw [h1, h2]; exact sim_halt
            · rw [Array.getElem?_toList] at h1 h2
              rw [h1, h2]
              cases hxy with
              | none => exact over
              | @some e e' he =>
                dsimp only
                rw [he.born]
                exact sim_bind (sim_setObj (hle3 _ _ _ (hle2 _ _ _ (hle1 _ _ _ hl))) (.mapIter (hle3 _ _ _ (hle2 _ _ _ hm)) _ _ _)) fun R4 hle4 _ _ _ => sim_pure fun R5 hle5 => vr_three ((he.mono hle3).mono (CR.le_trans hle4 hle5))
          refine key _ _ (l2_cand ?_ ?_)
          · simp only [Array.toList_filter]
            exact l2_filter _ _ (fun e e' h => by rw [h.born]) (l2_filter _ _ (fun e e' h => by rw [h.born]) hl2)
          · simp only [Array.toList_filter]
            exact l2_filter _ _ (fun e e' h => by rw [h.born]) (l2_filter _ _ (fun e e' h => by rw [h.born]) hl2)
        | _ => exact sim_halt
      | _ => exact sim_halt
  all_goals exact sim_halt
theorem sim_entry {x x' : Value} (h : VR R0 x x') : Sim P R0 VR (Instr.entry x) (Instr.entry x') := by
  unfold Instr.entry
  cases h
  case ptr a a' ha =>
    obtain ⟨b, off, spot⟩ := a
    obtain ⟨b', off', spot'⟩ := a'
    obtain ⟨⟨l, hl⟩, ho, hs⟩ := ha
    simp only at hl ho hs
    subst ho; subst hs
    cases off' with
    | succ n => exact sim_halt
    | zero =>
      refine sim_bind (sim_getObj hl) fun R1 hle1 o o' ⟨ho, _⟩ => ?_
      cases ho with
      | @mapIter m m' hm since seen last =>
        dsimp only
        cases hb : seen.back? with
        | none => exact sim_halt
        | some stamp =>
          dsimp only
          refine sim_bind (sim_getObj hm) fun R2 hle2 o o' ⟨ho, _⟩ => ?_
          cases ho with
          | @map es es' clock hes =>
            dsimp only
            split
            · exact sim_halt
            have hf := l2_find (fun e => e.born == stamp) (fun e => e.born == stamp) (fun e e' h => by rw [h.born]) hes.l2
            rw [Array.find?_toList, Array.find?_toList] at hf
            cases hx : es.find? (fun e => e.born == stamp) with
            | none => rw [hx] at hf; exact sim_halt
            | some e =>
              rw [hx] at hf
              generalize es'.find? (fun e => e.born == stamp) = y at hf ⊢
              cases hf with
              | some hh => exact sim_pure fun R3 hle3 => vr_two (hh.mono hle3)
          | _ => exact sim_halt
      | _ => exact sim_halt
  all_goals exact sim_halt
end Go.Can
