/-
  How the real world follows the operations, more.
-/
import Derived.Test.YtjneboajbmabbaaDoorCanD
set_option linter.unusedSimpArgs false
set_option linter.unusedVariables false
namespace Go.Can
variable {P : Program} {R0 : CR}

theorem sim_buildSlice (hP : PC P) (t : TypeId) (ht : ∀ e, P.underlying t = some (.slice e) → e < P.types.size) (n : Nat) {ps ps' : Array (Nat × Value)} (h : L2 (PairR R0) ps.toList ps'.toList) : Sim P R0 VR (Instr.buildSlice t n ps) (Instr.buildSlice t n ps') := by
  unfold Instr.buildSlice
  refine sim_bind (sim_underlying t) fun R hle d d' ⟨hd, _⟩ => ?_
  subst hd
  split
  case h_2 => exact sim_halt
  rename_i elem _ _
  refine sim_bind (sim_sizeOf elem) fun R1 hle1 a b hab => ?_
  obtain rfl : b = a := hab
  dsimp only
  split
  · exact sim_halt
  have tail : ∀ (R2 : CR) (z : Array Value), CR.le R1 R2 → ArrR R2 z z → ∀ out, Instr.fill (fun i => some (i * b, b)) ((Array.range (n * b)).map (z[· % z.size]!)) ps.toList = some out →
      ∃ out', Instr.fill (fun i => some (i * b, b)) ((Array.range (n * b)).map (z[· % z.size]!)) ps'.toList = some out' ∧ ArrR R2 out out' := by
    intro R2 z hle2 hz2 out hf
    refine fill_rel (h.mono fun _ _ x => ⟨x.fst, x.snd.mono (CR.le_trans hle (CR.le_trans hle1 hle2))⟩) ?_ out hf
    refine ⟨rfl, fun i v v' hv hv' => ?_⟩
    rw [hv] at hv'; cases hv'
    simp only [Array.getElem?_map, Option.map_eq_some_iff] at hv
    obtain ⟨j, hj, rfl⟩ := hv
    rw [getElem!_def]
    cases hx : z[j % z.size]? with
    | none =>
      have hz0 : z = #[] := by
        rw [Array.getElem?_eq_none_iff] at hx
        rcases Nat.eq_zero_or_pos z.size with h0 | h0
        · exact Array.eq_empty_of_size_eq_zero h0
        · have := Nat.mod_lt j h0; omega
      exact VR.of_plain 1 _ rfl
    | some u => exact hz2.at_ _ _ _ hx hx
  split
  · refine sim_bind (S := fun R x y => y = x ∧ ArrR R x y) (sim_pure fun _ _ => ⟨rfl, .nil⟩) fun R2 hle2 z z' hzz => ?_
    obtain ⟨rfl, hz2⟩ := hzz
    cases hf : Instr.fill (fun i => some (i * b, b)) ((Array.range (n * b)).map (z'[· % z'.size]!)) ps.toList with
    | none => exact sim_halt
    | some out =>
      obtain ⟨out', ho', hr⟩ := tail R2 z' hle2 hz2 out hf
      rw [ho']
      exact sim_bind (sim_newRow elem hr) fun R3 hle3 x y hxy => sim_pure fun R4 hle4 => .slice (l := none) (hle4 _ _ _ hxy.2.2.2) hxy.1.off hxy.1.spot rfl
  · refine sim_bind (sim_zeroValue hP elem (ht _ (by assumption))) fun R2 hle2 u u' ⟨hu0, hu⟩ => ?_
    subst hu0
    refine sim_bind (S := fun R x y => y = x ∧ ArrR R x y) (sim_pure fun _ hle => ⟨rfl, hu.cells.mono hle⟩) fun R3 hle3 z z' hzz => ?_
    obtain ⟨rfl, hz2⟩ := hzz
    cases hf : Instr.fill (fun i => some (i * b, b)) ((Array.range (n * b)).map (z'[· % z'.size]!)) ps.toList with
    | none => exact sim_halt
    | some out =>
      obtain ⟨out', ho', hr⟩ := tail R3 z' (CR.le_trans hle2 hle3) hz2 out hf
      rw [ho']
      exact sim_bind (sim_newRow elem hr) fun R5 hle5 x y hxy => sim_pure fun R4 hle4 => .slice (l := none) (hle4 _ _ _ hxy.2.2.2) hxy.1.off hxy.1.spot rfl

theorem sim_field (t : TypeId) {x x' : Value} (f : Nat) (h : VR R0 x x') : Sim P R0 VR (Instr.field t x f) (Instr.field t x' f) := by
  unfold Instr.field
  refine sim_bind (sim_underlying t) fun R hle d d' ⟨hd, _⟩ => ?_
  subst hd
  split
  case h_2 => exact sim_halt
  rename_i fields _ _
  split
  case h_2 => exact sim_halt
  exact sim_bind (sim_asAgg (h.mono hle)) fun R1 hle1 c c' hc => sim_part _ _ hc
theorem sim_byteOf {a a' : Addr} (h : AddrR R0 a a') : Sim P R0 EqS (Go.byteOf a) (Go.byteOf a') := by
  have hv : ∀ (R : CR) (r r' : Nat), (∃ l, R r r' l) → Sim P R (fun _ a b => b.isSome = a.isSome) (Go.viewAt r) (Go.viewAt r') := by
    intro R r r' ⟨l, hl⟩
    unfold Go.viewAt
    refine sim_bind (sim_shape hl) fun R1 hle1 x y hxy => ?_
    subst hxy
    split
    · exact sim_pure fun _ _ => rfl
    · refine sim_bind (sim_getObj (hle1 _ _ _ hl)) fun R2 hle2 o o' ⟨ho, _⟩ => ?_
      cases ho <;> exact sim_pure fun _ _ => rfl
  unfold Go.byteOf
  rw [h.spot]
  cases hs : a.spot with
  | some s => exact sim_pureEq _
  | none =>
    refine sim_bind sim_program fun R hle p p' ⟨hp, hp'⟩ => ?_
    subst hp; subst hp'
    have hn : Sim p' R (fun _ _ _ => True) (Go.noView a) (Go.noView a') := by
      unfold Go.noView
      refine sim_bind (hv _ _ _ (h.mono hle).bl) fun R1 hle1 x y hxy => ?_
      rw [hxy]
      split
      · exact sim_halt
      · exact sim_pure fun _ _ => trivial
    refine sim_bind hn fun R1 hle1 _ _ _ => ?_
    obtain ⟨l, hl⟩ := (h.mono (CR.le_trans hle hle1)).bl
    refine sim_bind (sim_shape hl) fun R2 hle2 x y hxy => ?_
    subst hxy
    cases y with
    | none => exact sim_halt
    | some y =>
      obtain ⟨e, c⟩ := y
      dsimp only
      split
      · exact sim_pureEq _
      · rw [h.off]
        split
        · exact sim_pureEq _
        · exact sim_halt
theorem sim_partAt {a a' : Addr} (c b : Nat) (h : AddrR R0 a a') : Sim P R0 AddrR (Go.partAt a c b) (Go.partAt a' c b) := by
  unfold Go.partAt
  refine sim_bind (sim_byteOf h) fun R hle x y hxy => ?_
  obtain rfl : y = x := hxy
  dsimp only
  have h2 : AddrR R { block := a.block, off := a.off + c } { block := a'.block, off := a'.off + c } := ⟨(h.mono hle).bl, by simp [h.off], rfl⟩
  refine sim_bind (sim_byteOf h2) fun R1 hle1 u v huv => ?_
  obtain rfl : v = u := huv
  split
  · exact sim_pure fun R2 hle2 => h2.mono (CR.le_trans hle1 hle2)
  · exact sim_pure fun R2 hle2 => ⟨(h2.mono (CR.le_trans hle1 hle2)).bl, h2.off, rfl⟩
theorem sim_fieldPlace {a a' : Addr} (f : Field) (h : AddrR R0 a a') : Sim P R0 AddrR (Go.fieldPlace a f) (Go.fieldPlace a' f) := by
  unfold Go.fieldPlace
  refine sim_bind (sim_sizeOf _) fun R hle x y hxy => ?_
  obtain rfl : y = x := hxy
  split
  · exact sim_partAt _ _ (h.mono hle)
  · exact sim_pure fun R1 hle1 => (h.mono (CR.le_trans hle hle1)).add _
theorem sim_fieldAt (t : TypeId) {x x' : Value} (f : Nat) (h : VR R0 x x') : Sim P R0 VR (Instr.fieldAt t x f) (Instr.fieldAt t x' f) := by
  unfold Instr.fieldAt
  refine sim_bind (sim_underlying t) fun R hle d d' ⟨hd, _⟩ => ?_
  subst hd
  split
  case h_2 => exact sim_halt
  rename_i fields _ _
  split
  case h_2 => exact sim_halt
  refine sim_bind (sim_sureAddr (h.mono hle)) fun R1 hle1 a a' ha => ?_
  exact sim_bind (sim_fieldPlace _ ha) fun R2 hle2 b b' hb => sim_pure fun R3 hle3 => .ptr (hb.mono hle3)
theorem sim_index (t : TypeId) {x x' i i' : Value} (h : VR R0 x x') (hi : VR R0 i i') : Sim P R0 VR (Instr.index t x i) (Instr.index t x' i') := by
  unfold Instr.index
  refine sim_bind (sim_asIntOf hi) fun R hle a b hab => ?_
  obtain rfl : b = a := hab
  obtain ⟨k, n⟩ := b
  dsimp only
  refine sim_bind (sim_underlying t) fun R1 hle1 d d' ⟨hd, _⟩ => ?_
  subst hd
  have h := h.mono (CR.le_trans hle hle1)
  cases h
  case agg c c' hx hxs =>
    cases d' <;> try exact sim_halt
    dsimp only
    split
    · refine sim_bind (sim_sizeOf _) fun R2 hle2 a b hab => ?_
      obtain rfl : b = a := hab
      exact sim_part _ _ (ArrR.mono hle2 ⟨hx, hxs⟩)
    · exact sim_boundsPanic _ _ _ _
  case string s =>
    cases d' <;> try exact sim_halt
    dsimp only
    split
    · exact sim_pure fun _ _ => .int _ _
    · exact sim_boundsPanic _ _ _ _
  all_goals (cases d' <;> exact sim_halt)
theorem sim_indexAt (t : TypeId) {x x' i i' : Value} (h : VR R0 x x') (hi : VR R0 i i') : Sim P R0 VR (Instr.indexAt t x i) (Instr.indexAt t x' i') := by
  unfold Instr.indexAt
  refine sim_bind (sim_asIntOf hi) fun R hle a b hab => ?_
  obtain rfl : b = a := hab
  obtain ⟨k, n⟩ := b
  dsimp only
  refine sim_bind (sim_underlying t) fun R1 hle1 d d' ⟨hd, hd2⟩ => ?_
  subst hd
  have h := h.mono (CR.le_trans hle hle1)
  cases h <;> cases d' <;> try exact sim_halt
  all_goals dsimp only
  case ptr.array a a' ha len elem _ =>
    refine sim_bind (sim_sureAddr (.ptr ha)) fun R2 hle2 u u' hu => ?_
    refine sim_bind (S := fun R x y => x = (some u, len, elem) ∧ y = (some u', len, elem)) (sim_pure fun _ _ => ⟨rfl, rfl⟩) fun R3 hle3 x y ⟨hx, hy⟩ => ?_
    subst hx; subst hy
    refine sim_bind (sim_underlying t) fun R4 hle4 d1 d2 ⟨hd3, _⟩ => ?_
    subst hd3
    dsimp only
    split
    · refine sim_bind (sim_sizeOf _) fun R5 hle5 p q hpq => ?_
      obtain rfl : q = p := hpq
      exact sim_pure fun R6 hle6 => .ptr ((hu.mono (CR.le_trans hle3 (CR.le_trans hle4 (CR.le_trans hle5 hle6)))).add _)
    · generalize hc : (decide (len ≤ 1) && _) = c
      cases c
      · exact sim_boundsPanic _ _ _ _
      · exact sim_halt
  case nilSlice.slice len cap elem _ =>
    refine sim_bind (S := fun R x y => x = (none, len, elem) ∧ y = (none, len, elem)) (sim_pure fun _ _ => ⟨rfl, rfl⟩) fun R3 hle3 x y ⟨hx, hy⟩ => ?_
    subst hx; subst hy
    refine sim_bind (sim_underlying t) fun R4 hle4 d1 d2 ⟨hd3, _⟩ => ?_
    exact sim_boundsPanic _ _ _ _
  case slice.slice a a' len c c' l hl ho hs hc elem _ =>
    have hu : AddrR R1 a a' := ⟨⟨_, hl⟩, ho, hs⟩
    refine sim_bind (S := fun R x y => x = (some a, len, elem) ∧ y = (some a', len, elem)) (sim_pure fun _ _ => ⟨rfl, rfl⟩) fun R3 hle3 x y ⟨hx, hy⟩ => ?_
    subst hx; subst hy
    refine sim_bind (sim_underlying t) fun R4 hle4 d1 d2 ⟨hd3, _⟩ => ?_
    subst hd3
    dsimp only
    split
    · refine sim_bind (sim_sizeOf _) fun R5 hle5 p q hpq => ?_
      obtain rfl : q = p := hpq
      exact sim_pure fun R6 hle6 => .ptr ((hu.mono (CR.le_trans hle3 (CR.le_trans hle4 (CR.le_trans hle5 hle6)))).add _)
    · generalize hc : (decide (len ≤ 1) && _) = c
      cases c
      · exact sim_boundsPanic _ _ _ _
      · exact sim_halt
  all_goals first
    | exact sim_halt
    | exact sim_bind (S := fun _ _ _ => False) sim_halt fun _ _ _ _ h => h.elim
    | (refine sim_bind (sim_sureAddr (by constructor)) fun _ _ _ _ _ => ?_; exact sim_halt)
end Go.Can
