/-
  How the real world follows the operations: slices, lengths, copies, conversions, type assertions, methods.
-/
import Derived.Test.YtjneboajbmabbaaDoorCanE
set_option linter.unusedSimpArgs false
set_option linter.unusedVariables false
namespace Go.Can
variable {P : Program} {R0 : CR}

theorem sim_sliceBound {x x' : Value} (y y' : Nat) (hy : y ≤ y') (c : BoundsCode) (h : VR R0 x x') : Sim P R0 (fun _ a b => b = a ∧ a ≤ y) (Instr.sliceBound x y c) (Instr.sliceBound x' y' c) := by
  unfold Instr.sliceBound
  refine sim_bind (sim_asIntOf h) fun R hle a b hab => ?_
  obtain rfl : b = a := hab
  obtain ⟨k, n⟩ := b
  dsimp only
  split
  · rename_i hc
    rw [if_pos (by omega)]
    exact sim_pure fun _ _ => ⟨rfl, by omega⟩
  · exact sim_boundsPanic _ _ _ _
inductive OptR (R : CR) : Option Value → Option Value → Prop
  | none : OptR R none none
  | some {v v' : Value} (h : VR R v v') : OptR R (some v) (some v')
theorem OptR.mono {R R' : CR} (h : CR.le R R') {x x' : Option Value} (k : OptR R x x') : OptR R' x x' := by
  cases k with
  | none => exact .none
  | some x => exact .some (x.mono h)
theorem sim_sb {x x' : Value} (y : Nat) (c : BoundsCode) (h : VR R0 x x') : Sim P R0 EqS (Instr.sliceBound x y c) (Instr.sliceBound x' y c) :=
  sim_mono (sim_sliceBound y y (Nat.le_refl _) c h) fun _ _ _ _ hh => hh.1
/-- bounds against capacities that are equal -/
theorem sim_sliceBounds (isSlice : Bool) (len c : Nat) {lo lo' hi hi' mx mx' : Option Value} (h1 : OptR R0 lo lo') (h2 : OptR R0 hi hi') (h3 : OptR R0 mx mx') :
    Sim P R0 EqS (Instr.sliceBounds isSlice len c lo hi mx) (Instr.sliceBounds isSlice len c lo' hi' mx') := by
  unfold Instr.sliceBounds
  cases h1 <;> cases h2 <;> cases h3
  all_goals
    refine sim_bind (S := EqS) ?_ fun R1 hle1 m m' hm => ?_
    · first | exact sim_pureEq _ | exact sim_sb _ _ (by assumption)
    obtain rfl : m' = m := hm
    first
    | exact sim_halt
    | (refine sim_bind (S := EqS) ?_ fun R2 hle2 h h' hh => ?_
       · first | exact sim_pureEq _ | exact sim_up hle1 (sim_sb _ _ (by assumption))
       obtain rfl : h' = h := hh
       refine sim_bind (S := EqS) ?_ fun R3 hle3 l l' hl => ?_
       · first | exact sim_pureEq _ | exact sim_up (CR.le_trans hle1 hle2) (sim_sb _ _ (by assumption))
       obtain rfl : l' = l := hl
       exact sim_pureEq _)
/-- bounds against capacities of which one is the greater; no third bound -/
theorem sim_sliceBounds2 (isSlice : Bool) (len c c' : Nat) (hc : c ≤ c') {lo lo' hi hi' : Option Value} (h1 : OptR R0 lo lo') (h2 : OptR R0 hi hi') :
    Sim P R0 (fun _ x y => y.1 = x.1 ∧ y.2.1 = x.2.1 ∧ x.2.2 = c ∧ y.2.2 = c') (Instr.sliceBounds isSlice len c lo hi none) (Instr.sliceBounds isSlice len c' lo' hi' none) := by
  unfold Instr.sliceBounds
  cases h1 <;> cases h2
  all_goals
    refine sim_bind (S := fun _ a b => a = c ∧ b = c') (sim_pure fun _ _ => ⟨rfl, rfl⟩) fun R1 hle1 m m' hm => ?_
    obtain ⟨rfl, rfl⟩ := hm
    refine sim_bind (S := EqS) ?_ fun R2 hle2 h h' hh => ?_
    · first | exact sim_pureEq _ | exact sim_up hle1 (sim_mono (sim_sliceBound _ _ hc _ (by assumption)) fun _ _ _ _ hh => hh.1)
    obtain rfl : h' = h := hh
    refine sim_bind (S := EqS) ?_ fun R3 hle3 l l' hl => ?_
    · first | exact sim_pureEq _ | exact sim_up (CR.le_trans hle1 hle2) (sim_sb _ _ (by assumption))
    obtain rfl : l' = l := hl
    exact sim_pure fun _ _ => ⟨rfl, rfl, rfl, rfl⟩
/-- the value points to no block whose tail is unknown -/
structure Firm (R : CR) (x x' : Value) : Prop where
  slice : ∀ a n c, x = .slice (some a) n c → ∃ a', x' = .slice (some a') n c ∧ R a.block a'.block none ∧ a'.off = a.off ∧ a'.spot = a.spot
  ptr : ∀ a, x = .pointer (some a) → ∃ a', x' = .pointer (some a') ∧ R a.block a'.block none ∧ a'.off = a.off ∧ a'.spot = a.spot
theorem add_block (a : Addr) (n : Nat) : (a.add n).block = a.block := by unfold Addr.add; split <;> rfl
theorem slice_piece {R : CR} {a a' : Addr} (h : R a.block a'.block none) (ho : a'.off = a.off) (hs : a'.spot = a.spot) (l h0 m sz : Nat) :
    VR R (.slice (some (if m = l then a else a.add (l * sz))) (h0 - l) (m - l)) (.slice (some (if m = l then a' else a'.add (l * sz))) (h0 - l) (m - l)) := by
  have k := (⟨⟨_, h⟩, ho, hs⟩ : AddrR R a a').add (l * sz)
  split
  · exact .slice (l := none) h ho hs rfl
  · exact .slice (l := none) (by rw [add_block, add_block]; exact h) k.off k.spot rfl
theorem sim_sliceAt (t : TypeId) {x x' : Value} {lo lo' hi hi' mx mx' : Option Value} (hnp : ∀ e, P.underlying t ≠ some (.pointer e)) (h : VR R0 x x') (hf : Firm R0 x x') (h1 : OptR R0 lo lo') (h2 : OptR R0 hi hi') (h3 : OptR R0 mx mx') :
    Sim P R0 VR (Instr.sliceAt t x lo hi mx) (Instr.sliceAt t x' lo' hi' mx') := by
  unfold Instr.sliceAt
  refine sim_bind (sim_underlying t) fun R hle d d' ⟨hd, _⟩ => ?_
  subst hd
  split
  · rename_i n elem _ _
    cases h
    case ptr a a' ha =>
      obtain ⟨a2, e2, r2, o2, s2⟩ := hf.ptr _ rfl
      cases e2
      refine sim_bind (S := fun _ u v => u = a ∧ v = a') (sim_pure fun _ _ => ⟨rfl, rfl⟩) fun R1 hle1 u v huv => ?_
      obtain ⟨rfl, rfl⟩ := huv
      have hle01 := CR.le_trans hle hle1
      refine sim_bind (sim_sliceBounds false n n (h1.mono hle01) (h2.mono hle01) (h3.mono hle01)) fun R2 hle2 b b' hb => ?_
      obtain rfl : b' = b := hb
      obtain ⟨l, hh, m⟩ := b'
      dsimp only
      refine sim_bind (sim_sizeOf elem) fun R3 hle3 p q hpq => ?_
      obtain rfl : q = p := hpq
      exact sim_pure fun R4 hle4 => slice_piece (CR.le_trans hle01 (CR.le_trans hle2 (CR.le_trans hle3 hle4)) _ _ _ r2) o2 s2 _ _ _ _
    all_goals exact sim_bind (S := fun _ _ _ => False) sim_halt fun _ _ _ _ h => h.elim
  · unfold Instr.slice
    refine sim_bind (sim_underlying t) fun R1 hle1 d d' ⟨hd, _⟩ => ?_
    subst hd
    have hle01 := CR.le_trans hle hle1
    cases h
    case string s =>
      cases d' <;> try exact sim_halt
      dsimp only
      cases h3 with
      | some z => exact sim_bind (S := fun _ _ _ => False) sim_halt fun _ _ _ _ h => h.elim
      | none =>
        refine sim_bind (sim_sliceBounds false s.size s.size (h1.mono hle01) (h2.mono hle01) .none) fun R2 hle2 b b' hb => ?_
        obtain rfl : b' = b := hb
        exact sim_pure fun _ _ => .string _
    case nilSlice n c =>
      cases d' <;> try exact sim_halt
      dsimp only
      refine sim_bind (sim_sliceBounds true n c (h1.mono hle01) (h2.mono hle01) (h3.mono hle01)) fun R2 hle2 b b' hb => ?_
      obtain rfl : b' = b := hb
      refine sim_bind (sim_sizeOf _) fun R3 hle3 p q hpq => ?_
      obtain rfl : q = p := hpq
      refine sim_pure fun R4 hle4 => ?_
      split <;> exact .nilSlice _ _
    case slice a a' n c c' lb hl ho hs hc =>
      cases d' <;> try exact sim_halt
      obtain ⟨a2, e2, r2, o2, s2⟩ := hf.slice _ _ _ rfl
      cases e2
      dsimp only
      refine sim_bind (sim_sliceBounds true n c (h1.mono hle01) (h2.mono hle01) (h3.mono hle01)) fun R2 hle2 b b' hb => ?_
      obtain rfl : b' = b := hb
      refine sim_bind (sim_sizeOf _) fun R3 hle3 p q hpq => ?_
      obtain rfl : q = p := hpq
      refine sim_pure fun R4 hle4 => ?_
      have := slice_piece (CR.le_trans hle01 (CR.le_trans hle2 (CR.le_trans hle3 hle4)) _ _ _ r2) o2 s2 b'.1 b'.2.1 b'.2.2 q
      split <;> rename_i hm <;> simpa [hm] using this
    all_goals (cases d' <;> try exact sim_halt)
    all_goals exact absurd (by assumption) (hnp _)
/-- a piece of a slice whose block's tail is unknown, if it doesn't end there -/
theorem sim_sliceLoose (t : TypeId) {a a' : Addr} {n c c' : Nat} {lb : Lab} {lo lo' hi hi' : Option Value} (hl : R0 a.block a'.block lb) (ho : a'.off = a.off) (hs : a'.spot = a.spot) (hc : Fit a.off lb c c')
    (hsz : ∀ e s N sz, P.underlying t = some (.slice e) → lb = some (s, N) → (P.info? e).map (·.size) = some sz → sz = s) (h1 : OptR R0 lo lo') (h2 : OptR R0 hi hi') :
    Sim P R0 (fun R v v' => ∀ b k m, v = .slice b k m → m ≠ 0 → VR R v v') (Instr.sliceAt t (.slice (some a) n c) lo hi none) (Instr.sliceAt t (.slice (some a') n c') lo' hi' none) := by
  unfold Instr.sliceAt
  refine sim_bind (sim_underlying t) fun R hle d d' ⟨hd, hdd⟩ => ?_
  subst hd
  cases d' <;> try exact sim_halt
  all_goals
    dsimp only
    unfold Instr.slice
    refine sim_bind (sim_underlying t) fun R1 hle1 d d2 ⟨hd, hd2⟩ => ?_
    subst hd
    rw [hdd] at hd2
    cases hd2
    dsimp only
    try exact sim_halt
  case slice.refl elem _ _ =>
    have hle01 := CR.le_trans hle hle1
    have hcc : c ≤ c' := by
      unfold Fit at hc
      cases lb with
      | none => simp at hc; omega
      | some p => exact hc.1
    refine sim_bind (sim_sliceBounds2 true n c c' hcc (h1.mono hle01) (h2.mono hle01)) fun R2 hle2 b b' hb => ?_
    obtain ⟨l, h0, m⟩ := b
    obtain ⟨l', h0', m'⟩ := b'
    obtain ⟨e1, e2, e3, e4⟩ := hb
    simp only at e1 e2 e3 e4
    subst e1; subst e2; subst e3; subst e4
    dsimp only
    have hsize : Sim P R2 (fun _ x y => y = x ∧ (P.info? elem).map (·.size) = some x) (Go.sizeOf elem) (Go.sizeOf elem) := by
      unfold Go.sizeOf
      refine sim_bind (sim_typeInfo elem) fun R3 _ i i' ⟨hi, hi2⟩ => ?_
      subst hi
      exact sim_pure fun _ _ => ⟨rfl, by rw [hi2]; rfl⟩
    refine sim_bind hsize fun R3 hle3 p q hpq => ?_
    obtain ⟨rfl, hp⟩ := hpq
    refine sim_pure fun R4 hle4 b k mm hv hm => ?_
    simp only [Value.slice.injEq] at hv
    obtain ⟨_, _, rfl⟩ := hv
    have hlt : l' < m := by omega
    have hRl := CR.le_trans hle01 (CR.le_trans hle2 (CR.le_trans hle3 hle4)) _ _ _ hl
    rw [if_neg (by omega), if_neg (by omega)]
    have k := (⟨⟨_, hRl⟩, ho, hs⟩ : AddrR R4 a a').add (l' * q)
    refine .slice (l := lb) (by rw [add_block, add_block]; exact hRl) k.off k.spot ?_
    cases lb with
    | none =>
      have hc0 : m' = m := hc
      simp only [Fit]; omega
    | some sN =>
      obtain ⟨s, N⟩ := sN
      have hq := hsz elem s N q hdd rfl hp
      subst hq
      obtain ⟨hc1, hc2⟩ := hc
      refine ⟨by omega, ?_⟩
      have e : (a.add (l' * q)).off = a.off + l' * q := by unfold Addr.add; split <;> rename_i h0 <;> simp [h0]
      rw [e]
      have : (m' - l') * q = m' * q - l' * q := Nat.sub_mul _ _ _
      have h5 : l' * q ≤ m' * q := Nat.mul_le_mul_right _ (by omega)
      omega
/-- bounds against capacities of which one is the greater; a third bound -/
theorem sim_sliceBounds3 (isSlice : Bool) (len c c' : Nat) (hc : c ≤ c') {lo lo' hi hi' : Option Value} {mx mx' : Value} (h1 : OptR R0 lo lo') (h2 : OptR R0 hi hi') (h3 : VR R0 mx mx') :
    Sim P R0 (fun _ x y => y = x ∧ x.2.2 ≤ c ∧ x.1 ≤ x.2.2) (Instr.sliceBounds isSlice len c lo hi (some mx)) (Instr.sliceBounds isSlice len c' lo' hi' (some mx')) := by
  unfold Instr.sliceBounds
  cases h1 <;> cases h2
  all_goals
    refine sim_bind (S := fun _ a b => b = a ∧ a ≤ c) (sim_sliceBound _ _ hc _ h3) fun R1 hle1 m m' hm => ?_
    obtain ⟨rfl, hm⟩ := hm
    first
    | exact sim_halt
    | (refine sim_bind (S := fun _ a b => b = a ∧ a ≤ m') (sim_up hle1 (sim_sliceBound _ _ (Nat.le_refl _) _ (by assumption))) fun R2 hle2 h h' hh => ?_
       obtain ⟨rfl, hh⟩ := hh
       refine sim_bind (S := fun _ a b => b = a ∧ a ≤ h') ?_ fun R3 hle3 l l' hl => ?_
       · first | exact sim_pure (fun _ _ => ⟨rfl, Nat.zero_le _⟩) | exact sim_up (CR.le_trans hle1 hle2) (sim_sliceBound _ _ (Nat.le_refl _) _ (by assumption))
       obtain ⟨rfl, hl⟩ := hl
       exact sim_pure fun _ _ => ⟨rfl, hm, Nat.le_trans hl hh⟩)
/-- a piece of a slice whose block's tail is unknown, its capacity given -/
theorem sim_sliceLoose3 (t : TypeId) {a a' : Addr} {n c c' : Nat} {lb : Lab} {lo lo' hi hi' : Option Value} {mx mx' : Value} (hl : R0 a.block a'.block lb) (ho : a'.off = a.off) (hs : a'.spot = a.spot) (hc : Fit a.off lb c c')
    (hsz : ∀ e s N sz, P.underlying t = some (.slice e) → lb = some (s, N) → (P.info? e).map (·.size) = some sz → sz = s) (h1 : OptR R0 lo lo') (h2 : OptR R0 hi hi') (h3 : VR R0 mx mx') :
    Sim P R0 VR (Instr.sliceAt t (.slice (some a) n c) lo hi (some mx)) (Instr.sliceAt t (.slice (some a') n c') lo' hi' (some mx')) := by
  unfold Instr.sliceAt
  refine sim_bind (sim_underlying t) fun R hle d d' ⟨hd, hdd⟩ => ?_
  subst hd
  cases d' <;> try exact sim_halt
  all_goals
    dsimp only
    unfold Instr.slice
    refine sim_bind (sim_underlying t) fun R1 hle1 d d2 ⟨hd, hd2⟩ => ?_
    subst hd
    rw [hdd] at hd2
    cases hd2
    dsimp only
    try exact sim_halt
  case slice.refl elem _ _ =>
    have hle01 := CR.le_trans hle hle1
    have hcc : c ≤ c' := by
      unfold Fit at hc
      cases lb with
      | none => simp at hc; omega
      | some p => exact hc.1
    refine sim_bind (sim_sliceBounds3 true n c c' hcc (h1.mono hle01) (h2.mono hle01) (h3.mono hle01)) fun R2 hle2 b b' hb => ?_
    obtain ⟨hb, hm, h7⟩ := hb
    subst hb
    obtain ⟨l, h0, m⟩ := b'
    dsimp only at hm h7 ⊢
    have hsize : Sim P R2 (fun _ x y => y = x ∧ (P.info? elem).map (·.size) = some x) (Go.sizeOf elem) (Go.sizeOf elem) := by
      unfold Go.sizeOf
      refine sim_bind (sim_typeInfo elem) fun R3 _ i i' ⟨hi, hi2⟩ => ?_
      subst hi
      exact sim_pure fun _ _ => ⟨rfl, by rw [hi2]; rfl⟩
    refine sim_bind hsize fun R3 hle3 p q hpq => ?_
    obtain ⟨rfl, hp⟩ := hpq
    refine sim_pure fun R4 hle4 => ?_
    have hRl := CR.le_trans hle01 (CR.le_trans hle2 (CR.le_trans hle3 hle4)) _ _ _ hl
    by_cases hml : m = l
    · rw [if_pos hml, if_pos hml]
      refine .slice (l := lb) hRl ho hs ?_
      cases lb with
      | none => simp only [Fit]
      | some sN =>
        obtain ⟨s, N⟩ := sN
        obtain ⟨hc1, hc2⟩ := hc
        refine ⟨Nat.le_refl _, ?_⟩
        have : m - l = 0 := by omega
        rw [this]; omega
    · rw [if_neg hml, if_neg hml]
      have k := (⟨⟨_, hRl⟩, ho, hs⟩ : AddrR R4 a a').add (l * q)
      refine .slice (l := lb) (by rw [add_block, add_block]; exact hRl) k.off k.spot ?_
      cases lb with
      | none => simp only [Fit]
      | some sN =>
        obtain ⟨s, N⟩ := sN
        have hq := hsz elem s N q hdd rfl hp
        subst hq
        obtain ⟨hc1, hc2⟩ := hc
        refine ⟨Nat.le_refl _, ?_⟩
        have e : (a.add (l * q)).off = a.off + l * q := by unfold Addr.add; split <;> rename_i h0 <;> simp [h0]
        rw [e]
        have h4 : (m - l) * q = m * q - l * q := Nat.sub_mul _ _ _
        have h6 : m * q ≤ c' * q := Nat.mul_le_mul_right _ (by omega)
        have h5 : l * q ≤ m * q := Nat.mul_le_mul_right _ h7
        omega
end Go.Can
