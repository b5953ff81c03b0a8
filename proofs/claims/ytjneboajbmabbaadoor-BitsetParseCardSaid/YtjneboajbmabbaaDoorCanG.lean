/-
  How the real world follows the operations: made slices, lengths, copies, conversions, type assertions, methods.
-/
import Derived.Test.YtjneboajbmabbaaDoorCanF
set_option linter.unusedSimpArgs false
set_option linter.unusedVariables false
namespace Go.Can
variable {P : Program} {R0 : CR}

theorem rep_rel {R : CR} {z : Array Value} (hz : ArrR R z z) (n : Nat) : ArrR R ((Array.range n).map (z[· % z.size]!)) ((Array.range n).map (z[· % z.size]!)) := by
  refine ⟨rfl, fun i v v' hv hv' => ?_⟩
  rw [hv] at hv'; cases hv'
  simp only [Array.getElem?_map, Option.map_eq_some_iff] at hv
  obtain ⟨j, hj, rfl⟩ := hv
  rw [getElem!_def]
  cases hx : z[j % z.size]? with
  | none => exact VR.of_plain 1 _ rfl
  | some u => exact hz.at_ _ _ _ hx hx
theorem sim_makeSlice (hP : PC P) (t : TypeId) (ht : ∀ e, P.underlying t = some (.slice e) → e < P.types.size) {l l' c c' : Value} (h1 : VR R0 l l') (h2 : VR R0 c c') : Sim P R0 VR (Instr.makeSlice t l c) (Instr.makeSlice t l' c') := by
  unfold Instr.makeSlice
  refine sim_bind (sim_underlying t) fun R hle d d' ⟨hd, _⟩ => ?_
  subst hd
  split
  case h_2 => exact sim_halt
  rename_i elem _ _
  refine sim_bind (sim_asInt (h1.mono hle)) fun R1 hle1 a b hab => ?_
  obtain rfl : b = a := hab
  refine sim_bind (sim_asInt (h2.mono (CR.le_trans hle hle1))) fun R2 hle2 a2 b2 hab => ?_
  obtain rfl : b2 = a2 := hab
  refine sim_bind (sim_typeInfo elem) fun R3 hle3 i i' ⟨hi, _⟩ => ?_
  subst hi
  dsimp only
  have pan : ∀ (s : Sem Value), (∀ A, arun P s A = none) → Sim P R3 VR s s := fun s h => sim_none h
  have tail : ∀ (k : Int), Sim P R3 VR (do
      askRoom (k.toNat * i'.bytes)
      let n := k.toNat * (← sizeOf elem)
      let zero ← if n = 0 then pure #[] else do pure (← zeroValue elem).cells
      let a ← newRow elem ((Array.range n).map (zero[· % zero.size]!))
      pure (.slice (some a) (IntKind.i64.wrap b).toNat k.toNat)) (do
      askRoom (k.toNat * i'.bytes)
      let n := k.toNat * (← sizeOf elem)
      let zero ← if n = 0 then pure #[] else do pure (← zeroValue elem).cells
      let a ← newRow elem ((Array.range n).map (zero[· % zero.size]!))
      pure (.slice (some a) (IntKind.i64.wrap b).toNat k.toNat)) := by
    intro k
    refine sim_bind (S := fun _ _ _ => True) (by unfold askRoom; split; exact sim_mark _; exact sim_pure fun _ _ => trivial) fun R4 hle4 _ _ _ => ?_
    refine sim_bind (sim_sizeOf elem) fun R5 hle5 p q hpq => ?_
    obtain rfl : q = p := hpq
    dsimp only
    split
    · refine sim_bind (S := fun R x y => y = x ∧ ArrR R x y) (sim_pure fun _ _ => ⟨rfl, .nil⟩) fun R6 hle6 z z' hz => ?_
      obtain ⟨rfl, hz⟩ := hz
      exact sim_bind (sim_newRow elem (rep_rel hz _)) fun R7 hle7 x y hxy => sim_pure fun R8 hle8 => .slice (l := none) (hle8 _ _ _ hxy.2.2.2) hxy.1.off hxy.1.spot rfl
    · refine sim_bind (sim_zeroValue hP elem (ht _ (by assumption))) fun R2 hle2 u u' ⟨hu0, hu⟩ => ?_
      subst hu0
      refine sim_bind (S := fun R x y => y = x ∧ ArrR R x y) (sim_pure fun _ hle => ⟨rfl, hu.cells.mono hle⟩) fun R6 hle6 z z' hz => ?_
      obtain ⟨rfl, hz⟩ := hz
      exact sim_bind (sim_newRow elem (rep_rel hz _)) fun R7 hle7 x y hxy => sim_pure fun R8 hle8 => .slice (l := none) (hle8 _ _ _ hxy.2.2.2) hxy.1.off hxy.1.spot rfl
  split
  · split
    · exact sim_bind (S := fun _ _ _ => False) (sim_runtimePanic _) fun _ _ _ _ h => h.elim
    · split
      · exact sim_bind (S := fun _ _ _ => False) (sim_runtimePanic _) fun _ _ _ _ h => h.elim
      · refine sim_none fun A => ?_
        rw [arun_bind']; rfl
  · exact tail _

theorem sim_typeAssert (hP : PC P) {x x' : Value} (xt t : TypeId) (ht : t < P.types.size) (ok : Bool) (h : VR R0 x x') : Sim P R0 VR (Instr.typeAssert x xt t ok) (Instr.typeAssert x' xt t ok) := by
  unfold Instr.typeAssert
  dsimp only
  have two : ∀ {R : CR} {u u' : Value} (b : Bool), VR R u u' → VR R (.tuple #[u, .bool b]) (.tuple #[u', .bool b]) := fun {R u u'} b hu => by
    have : ArrR R (#[].push u |>.push (.bool b)) (#[].push u' |>.push (.bool b)) := (ArrR.nil.push hu).push (.bool b)
    exact VR.tuple' (by simpa using this)
  have holds : ∀ (R : CR) {u u' : Value}, VR R u u' → Sim P R VR (pure (if ok then .tuple #[u, .bool true] else u)) (pure (if ok then .tuple #[u', .bool true] else u')) := fun R u u' hu =>
    sim_pure fun R1 hle1 => by
      split
      · exact two true (hu.mono hle1)
      · exact hu.mono hle1
  have fails : ∀ (R : CR) (a b : Option TypeId) (m : String), Sim P R VR (if ok then do pure (.tuple #[← zeroValue t, .bool false]) else runtimePanic (.typeAssertion a b t m)) (if ok then do pure (.tuple #[← zeroValue t, .bool false]) else runtimePanic (.typeAssertion a b t m)) := fun R a b m => by
    split
    · exact sim_bind (sim_zeroValue hP t ht) fun R1 hle1 z z' hz => sim_pure fun R2 hle2 => two false (hz.2.mono hle2)
    · exact sim_runtimePanic _
  refine sim_bind (sim_underlying t) fun R hle d d' ⟨hd, _⟩ => ?_
  subst hd
  have h2 := h.mono hle
  cases h
  case nilIface => cases d' <;> exact fails _ _ _ _
  case iface u v v' hv =>
    cases d'
    case interface want =>
      dsimp only
      refine sim_bind (sim_typeInfo u) fun R1 hle1 i i' ⟨hi, _⟩ => ?_
      subst hi
      split
      · exact holds _ (h2.mono hle1)
      · exact fails _ _ _ _
    all_goals
      dsimp only
      split
      · exact holds _ (hv.mono hle)
      · exact fails _ _ _ _
  all_goals (cases d' <;> exact sim_halt)

theorem sim_len {ts : Array TypeId} (t : TypeId) {x x' : Array Value} (h : ArrR R0 x x') : Sim P R0 VR (Builtin.len_ ts t x) (Builtin.len_ ts t x') := by
  unfold Builtin.len_
  cases hx : x[0]? with
  | none => cases ts[0]? <;> exact sim_halt
  | some v =>
    obtain ⟨v', hv', hr⟩ := h.get hx
    rw [hv']
    cases ts[0]? with
    | none => exact sim_halt
    | some t0 =>
      dsimp only
      refine sim_bind (sim_underlying t0) fun R hle d d' ⟨hd, _⟩ => ?_
      subst hd
      have arr : Sim P R VR (pure (goInt 0)) (pure (goInt 0)) := sim_pure fun _ _ => .int _ _
      have hr := hr.mono hle
      cases d'
      case array n e => exact sim_pure fun _ _ => .int _ _
      case pointer e _ _ =>
        refine sim_bind (sim_underlying e) fun R1 hle1 d1 d2 ⟨hd, _⟩ => ?_
        subst hd
        cases d2 <;> first | exact sim_halt | exact sim_pure fun _ _ => .int _ _
      case map k e =>
        cases hr
        case nilMap => exact sim_pure fun _ _ => .int _ _
        case map r r' hrr =>
          dsimp only
          refine sim_bind (sim_getObj hrr) fun R1 hle1 o o' ⟨ho, _⟩ => ?_
          cases ho with
          | map clock m =>
            dsimp only
            rw [m.size]
            exact sim_pure fun _ _ => .int _ _
          | _ => exact sim_halt
        all_goals exact sim_halt
      all_goals (cases hr <;> first | exact sim_halt | exact sim_pure fun _ _ => .int _ _)

theorem sim_lenOf {x x' : Value} (h : VR R0 x x') : Sim P R0 EqS (Builtin.lenOf x) (Builtin.lenOf x') := by
  cases h <;> first | exact sim_pureEq _ | exact sim_halt
theorem ints_rel {R : CR} (x : Array UInt8) : ArrR R (x.map fun b => Value.int .u8 b.toNat) (x.map fun b => Value.int .u8 b.toNat) := by
  refine ⟨rfl, fun i v v' hv hv' => ?_⟩
  rw [hv] at hv'; cases hv'
  simp only [Array.getElem?_map, Option.map_eq_some_iff] at hv
  obtain ⟨j, _, rfl⟩ := hv
  exact .int _ _
theorem sim_firstCells {x x' : Value} (size n : Nat) (h : VR R0 x x') : Sim P R0 ArrR (Builtin.firstCells size n x) (Builtin.firstCells size n x') := by
  cases h
  case slice a a' n c c' l hl ho hs hc => exact sim_loadCells ⟨⟨_, hl⟩, ho, hs⟩ _
  case nilSlice n c => exact sim_pure fun _ _ => .nil
  case string s => exact sim_pure fun _ _ => ints_rel _
  all_goals exact sim_halt
theorem sim_copy {ts : Array TypeId} (t : TypeId) {x x' : Array Value} (h : ArrR R0 x x') : Sim P R0 VR (Builtin.copy_ ts t x) (Builtin.copy_ ts t x') := by
  unfold Builtin.copy_
  cases h0 : x[0]? with
  | none => cases ts[0]? <;> exact sim_halt
  | some v =>
    obtain ⟨v', hv', hr⟩ := h.get h0
    rw [hv']
    cases h1 : x[1]? with
    | none => cases ts[0]? <;> exact sim_halt
    | some u =>
      obtain ⟨u', hu', hru⟩ := h.get h1
      rw [hu']
      cases ts[0]? with
      | none => exact sim_halt
      | some t0 =>
        dsimp only
        refine sim_bind (sim_underlying t0) fun R hle d d' ⟨hd, _⟩ => ?_
        subst hd
        cases d' <;> try exact sim_halt
        rename_i elem _ _
        dsimp only
        cases hr <;> try exact sim_halt
        case nilSlice n c =>
          dsimp only
          refine sim_bind (sim_lenOf (hru.mono hle)) fun R1 hle1 a b hab => ?_
          obtain rfl : b = a := hab
          refine sim_bind (sim_sizeOf elem) fun R2 hle2 p q hpq => ?_
          obtain rfl : q = p := hpq
          refine sim_bind (sim_firstCells _ _ (hru.mono (CR.le_trans hle (CR.le_trans hle1 hle2)))) fun R3 hle3 cs cs' hcs => ?_
          exact sim_pure fun _ _ => .int _ _
        case slice a a' n c c' l hl ho hs hc =>
          dsimp only
          refine sim_bind (sim_lenOf (hru.mono hle)) fun R1 hle1 a b hab => ?_
          obtain rfl : b = a := hab
          refine sim_bind (sim_sizeOf elem) fun R2 hle2 p q hpq => ?_
          obtain rfl : q = p := hpq
          have hle02 := CR.le_trans hle (CR.le_trans hle1 hle2)
          refine sim_bind (sim_firstCells _ _ (hru.mono hle02)) fun R3 hle3 cs cs' hcs => ?_
          refine sim_bind (sim_storeCells 0 (⟨⟨_, CR.le_trans hle02 hle3 _ _ _ hl⟩, ho, hs⟩) hcs.l2) fun R4 hle4 _ _ _ => ?_
          exact sim_pure fun _ _ => .int _ _
theorem sim_clear (hP : PC P) {ts : Array TypeId} (t : TypeId) {x x' : Array Value} {t0 : TypeId} (h0 : ts[0]? = some t0) (he : ∀ e, P.underlying t0 = some (.slice e) → e < P.types.size) (h : ArrR R0 x x') :
    Sim P R0 VR (Builtin.clear_ ts t x) (Builtin.clear_ ts t x') := by
  unfold Builtin.clear_
  rw [h0]
  cases hx : x[0]? with
  | none => exact sim_halt
  | some v =>
    obtain ⟨v', hv', hr⟩ := h.get hx
    rw [hv']
    dsimp only
    refine sim_bind (sim_underlying t0) fun R hle d d' ⟨hd, hd2⟩ => ?_
    subst hd
    cases hr
    case nilSlice n c => cases d' <;> exact sim_pure fun _ _ => VR.tuple' .nil
    case nilMap => cases d' <;> exact sim_pure fun _ _ => VR.tuple' .nil
    case map r r' hrr =>
      have : Sim P R VR (do
          let .map _ clock ← getObj r | do
            stuck "clear: map expected"
            pure (.tuple #[])
          setObj r (.map #[] clock)
          pure (.tuple #[])) (do
          let .map _ clock ← getObj r' | do
            stuck "clear: map expected"
            pure (.tuple #[])
          setObj r' (.map #[] clock)
          pure (.tuple #[])) := by
        refine sim_bind (sim_getObj (hle _ _ _ hrr)) fun R1 hle1 o o' ⟨ho, _⟩ => ?_
        cases ho with
        | map clock m =>
          dsimp only
          exact sim_bind (sim_setObj (hle1 _ _ _ (hle _ _ _ hrr)) (.map clock ⟨rfl, fun i e e' h1 h2 => by simp at h1⟩)) fun _ _ _ _ _ => sim_pure fun _ _ => VR.tuple' .nil
        | _ => exact sim_bind (S := fun _ _ _ => True) sim_halt fun _ _ _ _ _ => sim_pure fun _ _ => VR.tuple' .nil
      cases d' <;> exact this
    case slice a a' n c c' l hl ho hs hc =>
      cases n with
      | zero => cases d' <;> exact sim_pure fun _ _ => VR.tuple' .nil
      | succ n =>
        cases d'
        case slice =>
          refine sim_bind (sim_zeroValue hP _ (he _ hd2)) fun R2 hle2 u u' ⟨hu0, hu2⟩ => ?_
          subst hu0
          refine sim_bind (sim_storeCells 0 ⟨⟨_, CR.le_trans hle hle2 _ _ _ hl⟩, ho, hs⟩ (ArrR.l2 ?_)) fun _ _ _ _ _ => sim_pure fun _ _ => VR.tuple' .nil
          refine ⟨rfl, fun i v v' hv hv' => ?_⟩
          rw [hv] at hv'; cases hv'
          simp only [Builtin.zeroCells, Array.getElem?_map, Option.map_eq_some_iff] at hv
          obtain ⟨j, hj, rfl⟩ := hv
          rw [getElem!_def]
          cases hz : u'.cells[j % u'.cells.size]? with
          | none => exact VR.of_plain 1 _ rfl
          | some y => exact hu2.cells.at_ _ _ _ hz hz
        all_goals exact sim_bind (S := fun _ _ _ => True) sim_halt fun _ _ _ _ _ => sim_pure fun _ _ => VR.tuple' .nil
    all_goals (cases d' <;> exact sim_bind (S := fun _ _ _ => True) sim_halt fun _ _ _ _ _ => sim_pure fun _ _ => VR.tuple' .nil)
theorem sim_bytesToString {x x' : Value} (h : VR R0 x x') : Sim P R0 VR (Conv.bytesToString x) (Conv.bytesToString x') := by
  unfold Conv.bytesToString
  cases h
  case nilSlice n c => exact sim_pure fun _ _ => .string _
  case slice a a' n c c' l hl ho hs hc =>
    dsimp only
    refine sim_bind (sim_loadCells ⟨⟨_, hl⟩, ho, hs⟩ n) fun R hle cs cs' hcs => ?_
    rw [← Array.forIn_toList, ← Array.forIn_toList]
    refine sim_bind (S := EqS) (sim_each2 (γ := Unit) (S := VR) (fun _ _ _ _ hle x => x.mono hle) _ _ _ hcs.l2 fun R1 hle1 v v' b hv => ?_) fun R1 hle1 s s' hs => ?_
    · cases hv
      case int k n => cases k <;> first | exact sim_halt | exact sim_pureEq _
      all_goals exact sim_halt
    · obtain rfl : s' = s := hs
      exact sim_pure fun _ _ => .string _
  all_goals exact sim_halt
theorem sim_convBytes {x x' : Value} (t u : TypeId) (h : VR R0 x x') (hx : ∃ a n c, x = .slice a n c) (hsl : ∃ e, P.underlying t = some (.slice e) ∧ P.underlying e = some (.int .u8)) (hst : P.underlying u = some .string) : Sim P R0 VR (convert t u x) (convert t u x') := by
  obtain ⟨e, he, hb⟩ := hsl
  unfold convert
  refine sim_bind (sim_underlying t) fun R hle d d' ⟨hd, hd2⟩ => ?_
  subst hd
  rw [he] at hd2; cases hd2
  refine sim_bind (sim_underlying u) fun R1 hle1 d d' ⟨hd, hd2⟩ => ?_
  subst hd
  rw [hst] at hd2; cases hd2
  have fin : ∀ {y y' : Value}, VR R0 y y' → Sim P R1 VR (do match ← underlying e with | .int .u8 => Conv.bytesToString y | .int .i32 => Conv.runesToString y | _ => stuck "Convert: a slice of what to string?") (do match ← underlying e with | .int .u8 => Conv.bytesToString y' | .int .i32 => Conv.runesToString y' | _ => stuck "Convert: a slice of what to string?") := by
    intro y y' hy
    refine sim_bind (sim_underlying e) fun R2 hle2 d d' ⟨hd, hd2⟩ => ?_
    subst hd
    rw [hb] at hd2; cases hd2
    exact sim_bytesToString (hy.mono (CR.le_trans hle (CR.le_trans hle1 hle2)))
  cases h
  case slice a a' n c c' l hl ho hs hc => exact fin (.slice hl ho hs hc)
  case nilSlice n c => exact fin (.nilSlice n c)
  all_goals (obtain ⟨_, _, _, hx⟩ := hx; cases hx)
end Go.Can
