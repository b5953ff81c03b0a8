/-
  How the real world follows the operations: methods of interface values, strings that are ranged over, maps with plain keys.
-/
import Derived.Test.YtdeimgdhfdlhoaaDoorCanG
set_option linter.unusedSimpArgs false
set_option linter.unusedVariables false
namespace Go.Can
variable {P : Program} {R0 : CR}

inductive PlaceR (R : CR) : Place → Place → Prop
  | val {v v' : Value} (h : VR R v v') : PlaceR R (.val v) (.val v')
  | var {a a' : Addr} (h : AddrR R a a') : PlaceR R (.var a) (.var a')
theorem PlaceR.mono {R R' : CR} (h : CR.le R R') {x x' : Place} (k : PlaceR R x x') : PlaceR R' x x' := by
  cases k with
  | val x => exact .val (x.mono h)
  | var x => exact .var (x.mono h)
theorem sim_get (t : TypeId) {x x' : Place} (h : PlaceR R0 x x') : Sim P R0 VR (x.get t) (x'.get t) := by
  cases h with
  | val h => exact sim_pure fun R hle => h.mono hle
  | var h => exact sim_loadVar t h
theorem sim_follow : ∀ (l : List FieldStep) (t : TypeId) {x x' : Place} {R0 : CR}, PlaceR R0 x x' → Sim P R0 (fun R a b => b.1 = a.1 ∧ PlaceR R a.2 b.2) (Go.follow l t x) (Go.follow l t x')
  | [], t, x, x', R0, h => sim_pure fun R hle => ⟨rfl, h.mono hle⟩
  | s :: l, t, x, x', R0, h => by
    simp only [Go.follow]
    refine sim_bind (sim_underlying s.struct) fun R hle d d' ⟨hd, _⟩ => ?_
    subst hd
    split
    case h_2 => exact sim_halt
    split
    case h_2 => exact sim_halt
    rename_i f _
    split
    · refine sim_bind (sim_get t (h.mono hle)) fun R1 hle1 v v' hv => ?_
      refine sim_bind (sim_asAddr hv) fun R2 hle2 a a' ha => ?_
      refine sim_bind (sim_fieldPlace f ha) fun R3 hle3 b b' hb => ?_
      exact sim_follow l f.type (.var hb)
    · cases h with
      | var ha =>
        dsimp only
        refine sim_bind (sim_fieldPlace f (ha.mono hle)) fun R3 hle3 b b' hb => ?_
        exact sim_follow l f.type (.var hb)
      | val hv =>
        cases hv
        case agg c c' hx hxs =>
          dsimp only
          refine sim_bind (sim_part f.type f.offset (ArrR.mono hle ⟨hx, hxs⟩)) fun R3 hle3 b b' hb => ?_
          exact sim_follow l f.type (.val hb)
        all_goals exact sim_halt
theorem sim_receiverAt (t : TypeId) {x x' : Place} (pr : Bool) (wr : Option String) (h : PlaceR R0 x x') : Sim P R0 VR (Go.receiverAt t x pr wr) (Go.receiverAt t x' pr wr) := by
  unfold Go.receiverAt
  refine sim_bind (sim_underlying t) fun R hle d d' ⟨hd, _⟩ => ?_
  subst hd
  have h := h.mono hle
  have ptrCase : ∀ (elem : TypeId), Sim P R VR (do
      let ptr ← x.get t
      let ptr ← match wr with
        | some name => Builtin.ssaWrapNilChk_ #[t] t #[ptr, strVal "", strVal name]
        | none => pure ptr
      loadVar elem (← asAddr ptr)) (do
      let ptr ← x'.get t
      let ptr ← match wr with
        | some name => Builtin.ssaWrapNilChk_ #[t] t #[ptr, strVal "", strVal name]
        | none => pure ptr
      loadVar elem (← asAddr ptr)) := by
    intro elem
    refine sim_bind (sim_get t h) fun R1 hle1 v v' hv => ?_
    have last : ∀ {R2 : CR} {u u' : Value}, VR R2 u u' → Sim P R2 VR (do loadVar elem (← asAddr u)) (do loadVar elem (← asAddr u')) := fun {R2 u u'} hu =>
      sim_bind (sim_asAddr hu) fun R3 hle3 a a' ha => sim_loadVar elem ha
    cases wr with
    | none => exact sim_bind (S := VR) (sim_pure fun R2 hle2 => hv.mono hle2) fun R2 hle2 u u' hu => last hu
    | some name =>
      refine sim_bind (S := VR) ?_ fun R2 hle2 u u' hu => last hu
      unfold Builtin.ssaWrapNilChk_
      cases hv
      case ptr a a' ha => exact sim_pure fun R2 hle2 => .ptr (ha.mono hle2)
      case nilPtr =>
        refine sim_none fun A => ?_
        rfl
      all_goals exact sim_halt
  cases d'
  case pointer elem _ _ =>
    cases pr
    · exact ptrCase elem
    · exact sim_get t h
  all_goals
    cases pr
    · cases h with
      | val hv => exact sim_get t (.val hv)
      | var hv => exact sim_get t (.var hv)
    · cases h with
      | val hv => exact sim_halt
      | var hv => exact sim_pure fun R2 hle2 => .ptr (hv.mono hle2)
theorem sim_method : ∀ (n : Nat) (t : TypeId) {v v' : Value} (name : String) {R0 : CR}, VR R0 v v' → Sim P R0 (fun R a b => b.1 = a.1 ∧ VR R a.2 b.2) (Go.method n t v name) (Go.method n t v' name)
  | 0, _, _, _, _, _, _ => sim_halt
  | n + 1, t, v, v', name, R0, h => by
    simp only [Go.method]
    refine sim_bind (sim_typeInfo t) fun R hle i i' ⟨hi, _⟩ => ?_
    subst hi
    split
    case h_2 => exact sim_halt
    rename_i m _
    refine sim_bind (sim_follow m.path.toList t (.val (h.mono hle))) fun R1 hle1 x y hxy => ?_
    obtain ⟨xt, x⟩ := x
    obtain ⟨yt, y⟩ := y
    obtain ⟨e1, h2⟩ := hxy
    simp only at e1 h2
    subst e1
    dsimp only
    cases m.func with
    | none =>
      dsimp only
      refine sim_bind (sim_get yt h2) fun R2 hle2 u u' hu => ?_
      cases hu
      case iface t2 w w' hw => exact sim_method n t2 name hw
      case nilIface => exact sim_runtimePanic _
      all_goals exact sim_halt
    | some fp =>
      obtain ⟨f, pr⟩ := fp
      dsimp only
      exact sim_bind (sim_receiverAt yt pr _ h2) fun R2 hle2 u u' hu => sim_pure fun R3 hle3 => ⟨rfl, hu.mono hle3⟩

/-! Ranging over a string -/
theorem sim_rangeStr (t : TypeId) (s : ByteArray) : Sim P R0 VR (Instr.range t (.string s)) (Instr.range t (.string s)) := by
  unfold Instr.range
  refine sim_bind (sim_underlying t) fun R hle d d' ⟨hd, _⟩ => ?_
  subst hd
  cases d'
  case string =>
    refine sim_bind (S := fun R o o' => o = .stringIter s 0 ∧ o' = .stringIter s 0) (sim_pure fun _ _ => ⟨rfl, rfl⟩) fun R1 hle1 o o' ho => ?_
    obtain ⟨rfl, rfl⟩ := ho
    exact sim_bind (sim_newObj (.stringIter s 0)) fun R2 hle2 r r' hr => sim_pure fun R3 hle3 => .ptr ⟨⟨_, hle3 _ _ _ hr⟩, rfl, rfl⟩
  all_goals exact sim_bind (S := fun _ _ _ => False) sim_halt fun _ _ _ _ h => h.elim
theorem sim_nextStr {x x' : Value} (t : TypeId) (h : VR R0 x x') : Sim P R0 VR (Instr.next x true t) (Instr.next x' true t) := by
  unfold Instr.next
  dsimp only
  cases h
  case ptr a a' ha =>
    obtain ⟨b, off, spot⟩ := a
    obtain ⟨b', off', spot'⟩ := a'
    obtain ⟨⟨l, hl⟩, ho, hs⟩ := ha
    simp only at hl ho hs
    subst ho; subst hs
    cases off' with
    | succ n => exact sim_halt
    | zero =>
      refine sim_bind (sim_getObj hl) fun R1 hle1 o o' ⟨ho, _⟩ => ?_
      cases ho with
      | stringIter s p =>
        dsimp only
        split
        · refine sim_bind (sim_setObj (hle1 _ _ _ hl) (.stringIter s _)) fun R2 hle2 _ _ _ => ?_
          exact sim_pure fun R3 hle3 => VR.of_plain 2 _ (by simp [plainV, goInt])
        · exact sim_pure fun R3 hle3 => VR.of_plain 2 _ (by simp [plainV, goInt])
      | _ => exact sim_halt
  all_goals exact sim_halt
end Go.Can
