/-
  How the real world follows each primitive of the canonical runner; and the small programs that every operation is made of.
-/
import Derived.Test.YtjneboajbmabbaaDoorCanA
set_option linter.unusedSimpArgs false
set_option linter.unusedVariables false
namespace Go.Can
variable {P : Program} {R0 : CR}

theorem alive_of_cells {A : AW} {b : Nat} {c : Array Value} {t : TypeId} {f : Nat × Nat} (h : A.w.heap[b]? = some (.cells c t f)) : A.alive b = true := by simp [AW.alive, h]
theorem cell?_some {w : World} {a : Addr} {v : Value} (h : w.cell? a = some v) : ∃ c t f, w.heap[a.block]? = some (.cells c t f) ∧ a.spot = none ∧ c[a.off]? = some v := by
  unfold World.cell? at h
  split at h
  · rename_i c t f hb
    split at h
    · cases h
    · rename_i hs
      exact ⟨c, t, f, hb, by simpa using hs, h⟩
  · cases h
theorem WR.block {R : CR} {A : AW} {w : World} (hw : WR R A w) {b k : Nat} {l : Lab} (h : R b k l) (ha : A.alive b = true) {o : Obj} (ho : A.w.heap[b]? = some o) : ∃ o', w.heap[k]? = some o' ∧ OR R l o o' := by
  have hk := (hw.dom _ _ _ h).2
  exact ⟨w.heap[k], Array.getElem?_eq_getElem hk, hw.obj _ _ _ _ _ h ha ho (Array.getElem?_eq_getElem hk)⟩

theorem sim_load {a a' : Addr} (m : Mode) (h : AddrR R0 a a') : Sim P R0 VR (Go.load a m) (Go.load a' m) := by
  intro R A w hle hw v A' ha
  simp only [Go.load, arun] at ha
  split at ha
  · rename_i u hu
    simp only [Option.some.injEq, Prod.mk.injEq] at ha
    obtain ⟨rfl, rfl⟩ := ha
    obtain ⟨c, t, f, hb, hs, hc⟩ := cell?_some hu
    obtain ⟨l, hl⟩ := h.bl
    obtain ⟨o', ho', hor⟩ := hw.block (hle _ _ _ hl) (alive_of_cells hb) hb
    have key : ∃ v', w.cell? a' = some v' ∧ VR R u v' := by
      cases hor with
      | @cells c c' t f hx =>
        obtain ⟨v', hv', hr⟩ := hx.get hc
        exact ⟨v', by simp [World.cell?, ho', h.spot, hs, h.off, hv'], hr⟩
      | @loose c c' t f' sz N hN hsz hx hf =>
        have h1 : a.off < c.size := (Array.getElem?_eq_some_iff.1 hc).1
        have h2 : a.off < c'.size := by omega
        exact ⟨c'[a.off], by simp [World.cell?, ho', h.spot, hs, h.off, h2], hx _ _ _ hc (Array.getElem?_eq_getElem h2)⟩
    obtain ⟨v', hv', hr⟩ := key
    exact ⟨R, v', w, by simp [Go.load, Sem.run, hv'], .refl _ _ _, hw, hr⟩
  · cases ha

theorem frozen_of {w : World} {a : Addr} {c : Array Value} {t : TypeId} {f : Nat × Nat} (h : w.heap[a.block]? = some (.cells c t f)) : w.frozen? a = (f.1 ≤ a.off && a.off < f.2) := by
  unfold World.frozen?; rw [h]

theorem alive_setCell (A : AW) (a : Addr) (v : Value) (b : Nat) : ({ A with w := A.w.setCell a v } : AW).alive b = A.alive b := by
  by_cases e : a.block = b
  · simp only [AW.alive, World.setCell, Array.getElem?_modify, if_pos e]
    cases h : A.w.heap[b]? with
    | none => rfl
    | some o => cases o <;> rfl
  · simp only [AW.alive, World.setCell, Array.getElem?_modify, if_neg e]

theorem OR.setCell {R : CR} {l : Lab} {o o' : Obj} (h : OR R l o o') {off off' : Nat} (ho : off' = off) {v v' : Value} (hv : VR R v v') {c : Array Value} {t : TypeId} {f : Nat × Nat} (hc : o = .cells c t f) (hi : off < c.size) :
    OR R l (match o with | .cells c elem frozen => .cells (c.setIfInBounds off v) elem frozen | o => o) (match o' with | .cells c elem frozen => .cells (c.setIfInBounds off' v') elem frozen | o => o) := by
  subst ho
  cases h with
  | cells t f hx => exact .cells t f (hx.set _ hv)
  | @loose c c' t f' sz N hN hs hx hf =>
    cases hc
    refine .loose t f' sz N (by simpa using hN) (by simpa using hs) (fun i u u' hu hu' => ?_) (by simpa using hf)
    simp only [Array.getElem?_setIfInBounds] at hu hu'
    split at hu
    · rename_i he
      rw [if_pos he] at hu'
      have h1 : off' < c.size := hi
      have h2 : off' < c'.size := by omega
      (try rw [if_pos h1] at hu); rw [if_pos h2] at hu'
      cases hu; cases hu'; exact hv
    · rename_i he
      rw [if_neg he] at hu'
      exact hx i u u' hu hu'
  | map c x => cases hc
  | stringIter s p => cases hc
  | mapIterNil s x k => cases hc
  | mapIter y s x k => cases hc
  | loop x => cases hc
  | deferred d hd => cases hc

theorem sim_store {a a' : Addr} {v v' : Value} (m : Mode) (h : AddrR R0 a a') (hv : VR R0 v v') : Sim P R0 (fun _ _ _ => True) (Go.store a v m) (Go.store a' v' m) := by
  intro R A w hle hw u A' ha
  have h := h.mono hle
  have hv := hv.mono hle
  have hn : (∀ x, v ≠ .agg x) ∧ (∀ x, v ≠ .tuple x) := by
    refine ⟨fun x e => ?_, fun x e => ?_⟩ <;> (subst e; simp [Go.store, arun] at ha)
  have hn' : (∀ x, v' ≠ .agg x) ∧ (∀ x, v' ≠ .tuple x) := by
    refine ⟨fun x e => ?_, fun x e => ?_⟩ <;> (subst e; cases hv; first | exact hn.1 _ rfl | exact hn.2 _ rfl)
  have ea : arun P (Go.store a v m) A = if a.block < A.ro then none else
    match A.w.cell? a with
    | some _ => if A.w.frozen? a then none else some ((), { A with w := A.w.setCell a v })
    | none => none := by
    unfold Go.store
    cases v <;> first | rfl | exact absurd rfl (hn.1 _) | exact absurd rfl (hn.2 _)
  have er : (Go.store a' v' m).run P w = match w.cell? a' with
    | some _ => if w.frozen? a' then .halt (.unsupported (.unsafePointer "a write to bytes that a string shares")) w else .ok () (w.setCell a' v')
    | none => match w.farStore P a' v' (m == .atomic) with
      | .ok (w, _) => .ok () w
      | .error h => .halt h w := by
    unfold Go.store
    cases v' <;> first | rfl | exact absurd rfl (hn'.1 _) | exact absurd rfl (hn'.2 _)
  rw [ea] at ha
  split at ha
  · cases ha
  rename_i hro
  split at ha
  case h_2 => cases ha
  rename_i u0 hu
  split at ha
  · cases ha
  rename_i hfz
  simp only [Option.some.injEq, Prod.mk.injEq] at ha
  obtain ⟨_, rfl⟩ := ha
  obtain ⟨c, t, f, hb, hs, hc⟩ := cell?_some hu
  obtain ⟨l, hl⟩ := h.bl
  have hal := alive_of_cells hb
  have hoff : a.off < c.size := (Array.getElem?_eq_some_iff.1 hc).1
  obtain ⟨o', ho', hor⟩ := hw.block hl hal hb
  have key : ∃ v1, w.cell? a' = some v1 ∧ w.frozen? a' = false := by
    cases hor with
    | @cells c c' t f hx =>
      obtain ⟨v1, hv1, _⟩ := hx.get hc
      refine ⟨v1, by simp [World.cell?, ho', h.spot, hs, h.off, hv1], ?_⟩
      rw [frozen_of ho', h.off, ← frozen_of hb]; simpa using hfz
    | @loose c c' t f' sz N hN hsz hx hf =>
      have h2 : a.off < c'.size := by omega
      refine ⟨c'[a.off], by simp [World.cell?, ho', h.spot, hs, h.off, h2], ?_⟩
      rw [frozen_of ho', h.off]; exact hf _ h2
  obtain ⟨v1, hv1, hf1⟩ := key
  refine ⟨R, (), w.setCell a' v', by rw [er, hv1]; simp [hf1], ?_, ?_, trivial⟩
  · refine ⟨CR.le_refl R, fun _ _ _ x => .inl x, by simp [AW.size], by simp, rfl, fun b hb hx => by rw [alive_setCell] at hx; exact hx, fun k hk hno => ?_, rfl, rfl, rfl⟩
    have hne : a'.block ≠ k := fun e => hno ⟨a.block, l, e ▸ hl, hal, by omega⟩
    simp only [World.setCell, Array.getElem?_modify, if_neg hne]
  · have es : (A.w.setCell a v).heap.size = A.w.heap.size := by simp
    refine ⟨fun b k l x => ?_, hw.fn, fun b c k l l' x y p q => ?_, fun b k l x p => ?_, fun b k l2 o o2 x p ho ho2 => ?_, ?_, ?_⟩
    · have := hw.dom b k l x; simpa [AW.size] using this
    · rw [alive_setCell] at p q; exact hw.inj b c k l l' x y p q
    · rw [alive_setCell] at p; exact hw.loose b k l x p
    · rw [alive_setCell] at p
      simp only [World.setCell, Array.getElem?_modify] at ho ho2
      by_cases e : a.block = b
      · subst e
        obtain ⟨rfl, rfl⟩ := hw.fn _ _ _ _ _ hl x
        simp only [if_true, hb, Option.map_some, Option.some.injEq, ho', hs, h.spot, Option.isSome_none, Bool.false_eq_true, if_false] at ho ho2
        subst ho; subst ho2
        have := OR.setCell hor (off := a.off) h.off hv rfl hoff
        cases o' <;> simpa using this
      · rw [if_neg e] at ho
        have e' : a'.block ≠ k := fun e' => e (hw.inj _ _ _ _ _ (e' ▸ hl) x hal p)
        rw [if_neg e'] at ho2
        exact hw.obj _ _ _ _ _ x p ho ho2
    · simpa [AW.size] using hw.ro
    · intro b s hb; have := hw.lsize b s hb; simpa [AW.size] using this

def CR.add (R : CR) (b k : Nat) (l : Lab) : CR := fun b' k' l' => R b' k' l' ∨ (b' = b ∧ k' = k ∧ l' = l)
theorem CR.le_add (R : CR) (b k : Nat) (l : Lab) : CR.le R (R.add b k l) := fun _ _ _ h => .inl h

theorem alive_alloc {A : AW} {o : Obj} (ho : ∀ c t, o ≠ .pending c t) (b : Nat) : ({ A with w := A.w.alloc o } : AW).alive b = (A.alive b || b == A.size) := by
  simp only [AW.alive, World.alloc, Array.getElem?_push, AW.size]
  by_cases h : b = A.w.heap.size
  · subst h
    simp only [if_true, Array.getElem?_eq_none (Nat.le_refl _)]
    cases o <;> first | exact absurd rfl (ho _ _) | simp
  · simp [h]
theorem alive_lt {A : AW} {b : Nat} (h : A.alive b = true) : b < A.size := by
  unfold AW.alive at h
  rcases Nat.lt_or_ge b A.w.heap.size with h' | h'
  · exact h'
  · simp [Array.getElem?_eq_none h'] at h

def addTail (l : Lab) (b : Nat) (ls : List (Nat × Nat)) : List (Nat × Nat) := match l with
  | none => ls
  | some p => (b, p.1) :: ls
/-- a new block on both sides, whose tail may not be known on one -/
theorem WR.alloc {R : CR} {A : AW} {w : World} (hw : WR R A w) {o o' : Obj} (ho : ∀ c t, o ≠ .pending c t) (l : Lab) (hor : OR R l o o') :
    WR (R.add A.size w.heap.size l) { A with w := A.w.alloc o, loose := addTail l A.size A.loose } (w.alloc o') := by
  have hal : ∀ b, ({ A with w := A.w.alloc o, loose := addTail l A.size A.loose } : AW).alive b = (A.alive b || b == A.size) := fun b => alive_alloc (A := A) ho b
  have new : ∀ b k l', R b k l' → b ≠ A.size ∧ k ≠ w.heap.size := fun b k l' x => by have := hw.dom _ _ _ x; omega
  have hcon : ∀ b, b ≠ A.size → (addTail l A.size A.loose).lookup b = A.loose.lookup b := fun b hb => by
    cases l with
    | none => rfl
    | some p =>
      have hb' : (b == A.w.heap.size) = false := by simpa using hb
      simp [addTail, List.lookup, hb']
  have hnew : A.loose.lookup A.size = none := by
    cases hc : A.loose.lookup A.size with
    | none => rfl
    | some s => have := hw.lsize _ s hc; omega
  refine ⟨?_, ?_, ?_, ?_, ?_, ?_, ?_⟩
  · rintro b k l' (x | ⟨rfl, rfl, rfl⟩)
    · have := hw.dom _ _ _ x
      simp only [AW.size, World.size_alloc] at this ⊢; omega
    · simp [AW.size]
  · rintro b k l1 k' l2 (x | ⟨rfl, rfl, rfl⟩) (y | ⟨e, rfl, rfl⟩)
    · exact hw.fn _ _ _ _ _ x y
    · exact absurd e (new _ _ _ x).1
    · exact absurd rfl (new _ _ _ y).1
    · exact ⟨rfl, rfl⟩
  · rintro b c k l1 l2 (x | ⟨rfl, rfl, rfl⟩) (y | ⟨rfl, e, rfl⟩) p q
    · rw [hal] at p q
      have h1 := (new _ _ _ x).1; have h2 := (new _ _ _ y).1
      refine hw.inj _ _ _ _ _ x y ?_ ?_
      · simpa [h1] using p
      · simpa [h2] using q
    · exact absurd e (new _ _ _ x).2
    · exact absurd rfl (new _ _ _ y).2
    · rfl
  · rintro b k l1 (x | ⟨rfl, rfl, rfl⟩) p
    · rw [hal] at p
      have h1 := (new _ _ _ x).1
      refine (hcon b h1).trans (hw.loose _ _ _ x (by simpa [h1] using p))
    · cases l1 with
      | none => exact hnew
      | some p => simp [AW.tail, addTail, List.lookup]
  · rintro b k l1 o1 o2 (x | ⟨rfl, rfl, rfl⟩) p h1 h2
    · rw [hal] at p
      have hn := new _ _ _ x
      simp only [World.alloc, Array.getElem?_push] at h1 h2
      rw [if_neg hn.1] at h1; rw [if_neg hn.2] at h2
      exact (hw.obj _ _ _ _ _ x (by simpa [hn.1] using p) h1 h2).mono (CR.le_add _ _ _ _)
    · simp only [World.alloc, Array.getElem?_push, if_true, Option.some.injEq, AW.size] at h1 h2
      subst h1; subst h2
      exact hor.mono (CR.le_add _ _ _ _)
  · have := hw.ro; simp only [AW.size, World.size_alloc] at *; omega
  · intro b s hb
    simp only [AW.size, World.size_alloc]
    by_cases e : b = A.size
    · simp only [AW.size] at e; omega
    · have hb2 : A.tail b = some s := (hcon b e).symm.trans hb
      have := hw.lsize b s hb2; simp only [AW.size] at this; omega

theorem Ext.alloc {R : CR} {A : AW} {w : World} {o o' : Obj} (ho : ∀ c t, o ≠ .pending c t) (l : Lab) (ls : List (Nat × Nat)) :
    Ext R A w (R.add A.size w.heap.size l) { A with w := A.w.alloc o, loose := ls } (w.alloc o') := by
  refine ⟨CR.le_add _ _ _ _, ?_, by simp [AW.size], by simp, rfl, fun b hb hx => ?_, fun k hk _ => ?_, rfl, rfl, rfl⟩
  · rintro b k l' (x | ⟨rfl, rfl, rfl⟩)
    · exact .inl x
    · exact .inr ⟨Nat.le_refl _, .inl (Nat.le_refl _)⟩
  · have e : ({ A with w := A.w.alloc o, loose := ls } : AW).alive b = (A.alive b || b == A.size) := alive_alloc (A := A) ho b
    rw [e] at hx
    have : b ≠ A.size := Nat.ne_of_lt hb
    simpa [this] using hx
  · simp only [World.alloc, Array.getElem?_push, if_neg (Nat.ne_of_lt hk)]

theorem sim_newObj {o o' : Obj} (hor : OR R0 none o o') : Sim P R0 (fun R r r' => R r r' none) (Go.newObj o) (Go.newObj o') := by
  intro R A w hle hw r A' ha
  have ho : ∀ c t, o ≠ .pending c t := fun c t e => by subst e; cases hor
  have ea : arun P (Go.newObj o) A = some (A.w.heap.size, { A with w := A.w.alloc o }) := by
    unfold Go.newObj
    cases o <;> first | rfl | exact absurd rfl (ho _ _)
  rw [ea] at ha
  simp only [Option.some.injEq, Prod.mk.injEq] at ha
  obtain ⟨rfl, rfl⟩ := ha
  exact ⟨R.add A.size w.heap.size none, w.heap.size, w.alloc o', rfl, Ext.alloc ho none A.loose, hw.alloc ho none (hor.mono hle), .inr ⟨rfl, rfl, rfl⟩⟩

theorem sim_shape {r r' : Nat} {l : Lab} (h : R0 r r' l) : Sim P R0 (fun _ a b => b = a) (Go.shape r) (Go.shape r') := by
  intro R A w hle hw x A' ha
  simp only [Go.shape, arun] at ha
  split at ha
  · cases ha
  rename_i hc
  simp only [Bool.or_eq_true, Bool.not_eq_true', not_or, Bool.not_eq_true, Bool.not_eq_false, Option.isSome_eq_false_iff, Option.isNone_iff_eq_none] at hc
  simp only [Option.some.injEq, Prod.mk.injEq] at ha
  obtain ⟨rfl, rfl⟩ := ha
  obtain ⟨o, ho⟩ : ∃ o, A.w.heap[r]? = some o := ⟨_, Array.getElem?_eq_getElem (alive_lt hc.2)⟩
  obtain ⟨o', ho', hor⟩ := hw.block (hle _ _ _ h) hc.2 ho
  have hl := hw.loose _ _ _ (hle _ _ _ h) hc.2
  have e : w.shape? r' = A.w.shape? r := by
    simp only [World.shape?, ho, ho']
    cases hor with
    | cells t f hx => simp [hx.size]
    | loose => simp [hc.1] at hl
    | _ => rfl
  exact ⟨R, w.shape? r', w, rfl, .refl _ _ _, hw, e⟩

theorem sim_frozen {a a' : Addr} (h : AddrR R0 a a') : Sim P R0 (fun _ a b => b = a) (Go.frozen a) (Go.frozen a') := by
  intro R A w hle hw x A' ha
  simp only [Go.frozen, arun] at ha
  split at ha
  · cases ha
  rename_i hc
  simp only [Bool.or_eq_true, Bool.not_eq_true', not_or, Bool.not_eq_true, Bool.not_eq_false, Option.isSome_eq_false_iff, Option.isNone_iff_eq_none] at hc
  simp only [Option.some.injEq, Prod.mk.injEq] at ha
  obtain ⟨rfl, rfl⟩ := ha
  obtain ⟨l, h1⟩ := h.bl
  obtain ⟨o, ho⟩ : ∃ o, A.w.heap[a.block]? = some o := ⟨_, Array.getElem?_eq_getElem (alive_lt hc.2)⟩
  obtain ⟨o', ho', hor⟩ := hw.block (hle _ _ _ h1) hc.2 ho
  have hl := hw.loose _ _ _ (hle _ _ _ h1) hc.2
  have e : w.frozen? a' = A.w.frozen? a := by
    simp only [World.frozen?, ho, ho', h.off]
    cases hor with
    | cells t f hx => rfl
    | loose => simp [hc.1] at hl
    | _ => rfl
  exact ⟨R, w.frozen? a', w, rfl, .refl _ _ _, hw, e⟩

theorem sim_getObj {r r' : Nat} {l : Lab} (h : R0 r r' l) : Sim P R0 (fun R o o' => OR R none o o' ∧ (∀ c t f, o ≠ .cells c t f)) (Go.getObj r) (Go.getObj r') := by
  intro R A w hle hw x A' ha
  simp only [Go.getObj, arun] at ha
  split at ha
  · cases ha
  rename_i hc
  split at ha
  case h_1 => cases ha
  case h_2 => cases ha
  case h_3 => cases ha
  rename_i o hn1 hn2 ho
  simp only [Option.some.injEq, Prod.mk.injEq] at ha
  obtain ⟨rfl, rfl⟩ := ha
  have hal : A.alive r = true := by
    simp only [AW.alive, ho]
    try (cases o <;> first | rfl | exact absurd rfl (hn2 _ _))
  obtain ⟨o', ho', hor⟩ := hw.block (hle _ _ _ h) hal ho
  have hl := hw.loose _ _ _ (hle _ _ _ h) hal
  simp only [Bool.not_eq_true, Option.isSome_eq_false_iff, Option.isNone_iff_eq_none] at hc
  have hl0 : l = none := by
    cases l with
    | none => rfl
    | some p => rw [hc] at hl; cases hl
  subst hl0
  have hnc : ∀ c t f, o ≠ .cells c t f := fun c t f e => hn1 c t f e
  have e : (Go.getObj r').run P w = .ok o' w := by
    simp only [Go.getObj, Sem.run, ho']
    cases hor with
    | cells t f hx => exact absurd rfl (hnc _ _ _)
    | _ => rfl
  exact ⟨R, o', w, e, .refl _ _ _, hw, hor, hnc⟩

theorem sim_setObj {r r' : Nat} {l : Lab} {o o' : Obj} (h : R0 r r' l) (hor : OR R0 none o o') : Sim P R0 (fun _ _ _ => True) (Go.setObj r o) (Go.setObj r' o') := by
  intro R A w hle hw x A' ha
  have h := hle _ _ _ h
  have hor := hor.mono hle
  simp only [Go.setObj, arun] at ha
  split at ha
  · cases ha
  rename_i hc
  simp only [Bool.or_eq_true, decide_eq_true_eq, not_or, Bool.not_eq_true, Bool.not_eq_true', Bool.not_eq_false, Option.isSome_eq_false_iff, Option.isNone_iff_eq_none] at hc
  obtain ⟨hc, hok⟩ := hc
  split at ha
  case h_1 => cases ha
  case h_2 => cases ha
  case h_3 => cases ha
  rename_i o0 hn1 hn2 ho
  simp only [Option.some.injEq, Prod.mk.injEq] at ha
  obtain ⟨_, rfl⟩ := ha
  have hal : A.alive r = true := by
    simp only [AW.alive, ho]
    try (cases o0 <;> first | rfl | exact absurd rfl (hn2 _ _))
  obtain ⟨o1, ho1, hor1⟩ := hw.block h hal ho
  have hl := hw.loose _ _ _ h hal
  have hl0 : l = none := by
    cases l with
    | none => rfl
    | some p => rw [hc.2] at hl; cases hl
  subst hl0
  have hnc : ∀ c t f, o0 ≠ .cells c t f := fun c t f e => hn1 c t f e
  have hr' : r' < w.heap.size := (hw.dom _ _ _ h).2
  have e : (Go.setObj r' o').run P w = .ok () { w with heap := w.heap.setIfInBounds r' o' } := by
    simp only [Go.setObj, Sem.run, ho1]
    cases hor1 with
    | cells t f hx => exact absurd rfl (hnc _ _ _)
    | _ => rfl
  have hal2 : ∀ b, ({ A with w := { A.w with heap := A.w.heap.setIfInBounds r o } } : AW).alive b = A.alive b := fun b => by
    by_cases e : r = b
    · subst e
      rw [hal]
      have hlt : r < A.w.heap.size := alive_lt hal
      simp only [AW.alive, Array.getElem?_setIfInBounds, if_true, hlt]
      cases o <;> first | rfl | cases hok
    · simp only [AW.alive, Array.getElem?_setIfInBounds, if_neg e]
  refine ⟨R, (), _, e, ?_, ?_, trivial⟩
  · refine ⟨CR.le_refl R, fun _ _ _ x => .inl x, by simp [AW.size], by simp, rfl, fun b hb hx => by rw [hal2] at hx; exact hx, fun k hk hno => ?_, rfl, rfl, rfl⟩
    have hne : r' ≠ k := fun e => hno ⟨r, none, e ▸ h, hal, by omega⟩
    simp only [Array.getElem?_setIfInBounds, if_neg hne]
  · refine ⟨fun b k l x => ?_, hw.fn, fun b c k l l' x y p q => ?_, fun b k l x p => ?_, fun b k l2 o2 o3 x p ho2 ho3 => ?_, ?_, ?_⟩
    · have := hw.dom b k l x; simpa [AW.size] using this
    · rw [hal2] at p q; exact hw.inj b c k l l' x y p q
    · rw [hal2] at p; exact hw.loose b k l x p
    · rw [hal2] at p
      by_cases e : r = b
      · subst e
        obtain ⟨rfl, rfl⟩ := hw.fn _ _ _ _ _ h x
        have hlt : r < A.w.heap.size := alive_lt hal
        simp only [Array.getElem?_setIfInBounds, if_true, hlt, hr', Option.some.injEq] at ho2 ho3
        subst ho2; subst ho3
        exact hor
      · have e' : r' ≠ k := fun e' => e (hw.inj _ _ _ _ _ (e' ▸ h) x hal p)
        simp only [Array.getElem?_setIfInBounds, if_neg e] at ho2
        simp only [Array.getElem?_setIfInBounds, if_neg e'] at ho3
        exact hw.obj _ _ _ _ _ x p ho2 ho3
    · simpa [AW.size] using hw.ro
    · intro b s hb; have := hw.lsize b s hb; simpa [AW.size] using this
end Go.Can
