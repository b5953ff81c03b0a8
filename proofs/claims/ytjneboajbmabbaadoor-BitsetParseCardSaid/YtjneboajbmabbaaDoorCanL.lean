/-
  Append, followed.
-/
import Derived.Test.YtjneboajbmabbaaDoorCanK
set_option linter.unusedSimpArgs false
set_option linter.unusedVariables false
namespace Go.Can
variable {P : Program}

def killable (A : AW) (b : Option Addr) (size : Nat) (elem : TypeId) : Bool :=
  match b with
  | none => true
  | some a => A.alive a.block && match A.tail a.block with
    | none => true
    | some s => s == size && a.off == 0 && a.spot.isNone && decide (A.ro ≤ a.block) && (match A.w.heap[a.block]? with | some (.cells _ t _) => t == elem | _ => false)
def killIf (A : AW) (b : Option Addr) : AW :=
  match b with
  | none => A
  | some a => match A.tail a.block with
    | none => A
    | some _ => A.kill a.block
def grown (A : AW) (b : Option Addr) (size : Nat) (cs : Array Value) (elem : TypeId) : AW :=
  { (killIf A b) with w := (killIf A b).w.alloc (.cells cs elem), loose := (A.size, size) :: A.loose }
def appendOn (P : Program) (t0 t1 : TypeId) (b : Option Addr) (n c : Nat) (x : Value) (A : AW) : Option (Value × AW) :=
  match P.underlying t0, P.underlying t1, lenOfV x with
  | some (.slice elem), some d1, some m =>
    if !soft d1 then none else
    match P.info? elem with
    | none => none
    | some info =>
      match arun P (Builtin.firstCells info.size m x) A with
      | none => none
      | some (new, _) =>
        if n + m ≤ c then
          match b with
          | none => some (.slice none (n + m) c, A)
          | some a => (arun P (Go.storeCells (a.add (n * info.size)) new.toList) A).map fun r => (.slice (some a) (n + m) c, r.2)
        else
          match info.zero, arun P (Builtin.firstCells info.size n (.slice b n c)) A with
          | some _, some (old, _) =>
            if decide (elem < P.types.size) && decide ((n + m) * info.bytes ≤ 140737488355328) && decide (n + m ≤ 4611686018427387904) && old.size == n * info.size && new.size == m * info.size && new.all single && killable A b info.size elem then
              some (.slice (some ⟨A.size, 0, none⟩) (n + m) (n + m), grown A b info.size (old ++ new) elem)
            else none
          | _, _ => none
  | _, _, _ => none
/-- every type's zero value has the type's size -/
def ZS (P : Program) : Prop := ∀ t i v, t < P.types.size → P.info? t = some i → i.zero = some v → v.cells.size = i.size

theorem cell_follow {R : CR} {A : AW} {w : World} (hw : WR R A w) {a a' : Addr} (h : AddrR R a a') {u : Value} (hu : A.w.cell? a = some u) : ∃ v', w.cell? a' = some v' ∧ VR R u v' := by
  obtain ⟨c, t, f, hb, hs, hc⟩ := cell?_some hu
  obtain ⟨l, hl⟩ := h.bl
  obtain ⟨o', ho', hor⟩ := hw.block hl (alive_of_cells hb) hb
  cases hor with
  | @cells c c' t f hx =>
    obtain ⟨v', hv', hr⟩ := hx.get hc
    exact ⟨v', by simp [World.cell?, ho', h.spot, hs, h.off, hv'], hr⟩
  | @loose c c' t f' sz N hN hsz hx hf =>
    have h1 : a.off < c.size := (Array.getElem?_eq_some_iff.1 hc).1
    have h2 : a.off < c'.size := by omega
    exact ⟨c'[a.off], by simp [World.cell?, ho', h.spot, hs, h.off, h2], hx _ _ _ hc (Array.getElem?_eq_getElem h2)⟩
theorem loadCellsFrom_follow {R : CR} {A : AW} {w : World} (hw : WR R A w) {a a' : Addr} (h : AddrR R a a') : ∀ (n i : Nat) {acc acc' o : Array Value} {A' : AW}, ArrR R acc acc' → arun P (Go.loadCellsFrom a i n acc) A = some (o, A') →
    ∃ o', (Go.loadCellsFrom a' i n acc').run P w = .ok o' w ∧ ArrR R o o' ∧ A' = A
  | 0, i, acc, acc', o, A', hx, ha => by
    simp only [Go.loadCellsFrom, arun_pure, Option.some.injEq, Prod.mk.injEq] at ha
    obtain ⟨rfl, rfl⟩ := ha
    exact ⟨acc', rfl, hx, rfl⟩
  | n + 1, i, acc, acc', o, A', hx, ha => by
    simp only [Go.loadCellsFrom] at ha ⊢
    rw [arun_bind'] at ha
    simp only [Go.load, arun] at ha
    cases hc : A.w.cell? (a.add i) with
    | none => rw [hc] at ha; cases ha
    | some v =>
      rw [hc] at ha
      obtain ⟨v', hv', hr⟩ := cell_follow hw (h.add i) hc
      obtain ⟨o', h1, h2, h3⟩ := loadCellsFrom_follow hw h n (i + 1) (hx.push hr) ha
      exact ⟨o', by simp [run_load, hv', h1], h2, h3⟩
theorem firstCells_follow {R : CR} {A : AW} {w : World} (hw : WR R A w) {x x' : Value} (hx : VR R x x') (size n : Nat) {o : Array Value} {A' : AW} (ha : arun P (Builtin.firstCells size n x) A = some (o, A')) :
    ∃ o', (Builtin.firstCells size n x').run P w = .ok o' w ∧ ArrR R o o' ∧ A' = A := by
  cases hx
  case slice a a' n2 c c' l hl ho hs hc => exact loadCellsFrom_follow hw ⟨⟨_, hl⟩, ho, hs⟩ _ 0 .nil ha
  case nilSlice n2 c =>
    simp only [Builtin.firstCells, arun_pure, Option.some.injEq, Prod.mk.injEq] at ha
    obtain ⟨rfl, rfl⟩ := ha
    exact ⟨#[], rfl, .nil, rfl⟩
  case string s =>
    simp only [Builtin.firstCells, arun_pure, Option.some.injEq, Prod.mk.injEq] at ha
    obtain ⟨rfl, rfl⟩ := ha
    exact ⟨_, rfl, ints_rel _, rfl⟩
  all_goals cases ha
theorem loads_get {a : Addr} {A : AW} : ∀ (n i : Nat) (acc o : Array Value) (A' : AW), arun P (Go.loadCellsFrom a i n acc) A = some (o, A') →
    (∀ j, j < acc.size → o[j]? = acc[j]?) ∧ ∀ j, j < n → o[acc.size + j]? = A.w.cell? (a.add (i + j))
  | 0, i, acc, o, A', h => by
    simp only [Go.loadCellsFrom, arun_pure, Option.some.injEq, Prod.mk.injEq] at h
    obtain ⟨rfl, _⟩ := h
    exact ⟨fun _ _ => rfl, fun j hj => by omega⟩
  | n + 1, i, acc, o, A', h => by
    simp only [Go.loadCellsFrom] at h
    rw [arun_bind'] at h
    simp only [Go.load, arun] at h
    cases hc : A.w.cell? (a.add i) with
    | none => rw [hc] at h; cases h
    | some v =>
      rw [hc] at h
      obtain ⟨h1, h2⟩ := loads_get n (i + 1) (acc.push v) o A' h
      refine ⟨fun j hj => ?_, fun j hj => ?_⟩
      · rw [h1 j (by simp; omega), Array.getElem?_push, if_neg (by omega)]
      · cases j with
        | zero =>
          rw [Nat.add_zero, Nat.add_zero, h1 acc.size (by simp), Array.getElem?_push, if_pos rfl, hc]
        | succ j =>
          have := h2 j (by omega)
          simp only [Array.size_push] at this
          have e1 : acc.size + (j + 1) = acc.size + 1 + j := by omega
          have e2 : i + (j + 1) = i + 1 + j := by omega
          rw [e1, e2]; exact this
theorem lenOfV_rel {R : CR} {x x' : Value} (h : VR R x x') : lenOfV x' = lenOfV x := by cases h <;> rfl

theorem append_follow (hZ : ZS P) {t t0 t1 : TypeId} {s s' x x' : Value} {b : Option Addr} {n c : Nat} (hs0 : s = .slice b n c) {R : CR} {A : AW} {w : World} (hw : WR R A w) (hs : VR R s s') (hx : VR R x x') {v : Value} {A' : AW} (ha : appendOn P t0 t1 b n c x A = some (v, A')) :
    ∃ R' v' w', (Builtin.append_ #[t0, t1] t #[s', x']).run P w = .ok v' w' ∧ Ext R A w R' A' w' ∧ WR R' A' w' ∧ VR R' v v' := by
  subst hs0
  unfold appendOn at ha
  split at ha
  case h_2 => cases ha
  rename_i elem d1 m hU hU1 hm
  split at ha
  · cases ha
  rename_i hd1
  simp only [Bool.not_eq_true', Bool.not_eq_false] at hd1
  split at ha
  · cases ha
  rename_i info hi
  split at ha
  · cases ha
  rename_i new A1 hnew
  obtain ⟨new', hnew', hnr, e1⟩ := firstCells_follow hw hx _ _ hnew
  obtain rfl : A = A1 := e1.symm
  have hm' : lenOfV x' = some m := by rw [lenOfV_rel hx]; exact hm
  obtain ⟨b', c', hs', hfit⟩ : ∃ b' c', s' = .slice b' n c' ∧ ((b = none ∧ b' = none ∧ c' = c) ∨ ∃ a a' l, b = some a ∧ b' = some a' ∧ R a.block a'.block l ∧ a'.off = a.off ∧ a'.spot = a.spot ∧ Fit a.off l c c') := by
    cases hs
    case nilSlice => exact ⟨none, c, rfl, .inl ⟨rfl, rfl, rfl⟩⟩
    case slice a a' c' l hl ho hsp hc => exact ⟨some a', c', rfl, .inr ⟨a, a', l, rfl, rfl, hl, ho, hsp, hc⟩⟩
  subst hs'
  have hcc : c ≤ c' := by
    rcases hfit with ⟨_, _, rfl⟩ | ⟨a, a', l, _, _, _, _, _, hf⟩
    · exact Nat.le_refl _
    · cases l with
      | none => have : c' = c := hf; omega
      | some p => exact hf.1
  split at ha
  · -- in place on both sides
    rename_i hle
    have hr := run_append_in (P := P) (t := t) w (b := b') hU hU1 hd1 hi hm' hnew' (c := c') (n := n) (by omega)
    rcases hfit with ⟨rfl, rfl, rfl⟩ | ⟨a, a', l, rfl, rfl, hl, ho, hsp, hf⟩
    · simp only [Option.some.injEq, Prod.mk.injEq] at ha
      obtain ⟨rfl, rfl⟩ := ha
      exact ⟨R, _, w, by rw [hr]; rfl, .refl _ _ _, hw, .nilSlice _ _⟩
    · simp only [Option.map_eq_some_iff] at ha
      obtain ⟨⟨u, A2⟩, h2, h3⟩ := ha
      simp only [Prod.mk.injEq] at h3
      obtain ⟨rfl, rfl⟩ := h3
      have had : AddrR R a a' := ⟨⟨_, hl⟩, ho, hsp⟩
      obtain ⟨R', u', w', q1, q2, q3, _⟩ := sim_storeCells (P := P) 0 (had.add (n * info.size)) hnr.l2 R _ w (CR.le_refl _) hw u A2 h2
      refine ⟨R', .slice (some a') (n + m) c', w', ?_, q2, q3, .slice (q2.le _ _ _ hl) ho hsp hf⟩
      rw [hr]
      simp only [q1, Result.andThen_ok]
  · rename_i hgt
    split at ha
    case h_2 => cases ha
    rename_i z old A2 hzv hold
    split at ha
    case isFalse => cases ha
    rename_i hck
    simp only [Bool.and_eq_true, decide_eq_true_eq, beq_iff_eq] at hck
    obtain ⟨⟨⟨⟨⟨⟨k0, k1⟩, k2⟩, k3⟩, k4⟩, k5⟩, k6⟩ := hck
    simp only [Option.some.injEq, Prod.mk.injEq] at ha
    obtain ⟨rfl, rfl⟩ := ha
    have hsz := hZ elem info z k0 hi hzv
    obtain ⟨old', hold', hor, _⟩ := firstCells_follow hw hs _ _ hold
    have hcs : ∀ i u, (old ++ new)[i]? = some u → ∃ u', (old' ++ new')[i]? = some u' ∧ VR R u u' := fun i u hu => (hor.append hnr).get hu
    by_cases hin : n + m ≤ c'
    · -- the real run has room
      have hr := run_append_in (P := P) (t := t) w (b := b') hU hU1 hd1 hi hm' hnew' (c := c') (n := n) hin
      rcases hfit with ⟨_, _, rfl⟩ | ⟨a, a', l, rfl, rfl, hl, ho, hsp, hf⟩
      · omega
      cases l with
      | none => have : c' = c := hf; omega
      | some p =>
        obtain ⟨sz, N⟩ := p
        obtain ⟨hf1, hf2⟩ := hf
        simp only [killable, Bool.and_eq_true] at k6
        obtain ⟨hal, k6⟩ := k6
        have ht : A.tail a.block = some sz := hw.loose _ _ _ hl hal
        rw [ht] at k6
        simp only [Bool.and_eq_true, beq_iff_eq, decide_eq_true_eq, Option.isNone_iff_eq_none] at k6
        obtain ⟨⟨⟨⟨e1, e2⟩, e3⟩, e4⟩, e6⟩ := k6
        subst e1
        have hb : ∃ c0 f0, A.w.heap[a.block]? = some (.cells c0 elem f0) := by
          split at e6
          · rename_i c0 t1 f0 h0
            have : t1 = elem := by simpa using e6
            subst this; exact ⟨c0, f0, h0⟩
          · cases e6
        obtain ⟨c0, f0, hb⟩ := hb
        obtain ⟨o', hk, hoo⟩ := hw.block hl hal hb
        cases hoo with
        | @loose _ cur _ f' _ _ hN hsz0 hrel hfz =>
          obtain ⟨ab, ao, as_⟩ := a
          obtain ⟨kb, ko, ks⟩ := a'
          simp only at hl ho hsp e2 e3 hb hk hf2 ht hal e4
          subst e2; subst e3; subst ho; subst hsp
          have ha1 : (⟨kb, 0, none⟩ : Addr).add (n * info.size) = ⟨kb, n * info.size, none⟩ := by unfold Addr.add; split <;> simp_all
          have hmul : (n + m) * info.size ≤ c' * info.size := Nat.mul_le_mul_right _ hin
          have hdis : (n + m) * info.size = n * info.size + m * info.size := Nat.add_mul _ _ _
          have hnl : new'.toList.length = m * info.size := by have := hnr.size; simp; omega
          have hone : ∀ u ∈ new'.toList, single u = true := by
            intro u hu
            obtain ⟨i, hi2, hiu⟩ := List.getElem_of_mem hu
            have hi3 : i < new.size := by have := hnr.size; simp at hi2; omega
            have hx1 : new[i]? = some new[i] := Array.getElem?_eq_getElem hi3
            have hx2 : new'[i]? = some u := by rw [← hiu]; simp
            exact (hnr.at_ i _ _ hx1 hx2).single (Array.all_eq_true_iff_forall_mem.1 k5 _ (Array.getElem_mem hi3))
          obtain ⟨w1, q1, q2, q3, q4, q5, q6, q7⟩ := run_storeCells_gen (P := P) kb (n * info.size) elem f' new'.toList 0 cur w hk (by rw [hnl]; omega) hfz hone
          have hF : (putL cur (n * info.size + 0) new'.toList).size = N := by rw [putL_size]; exact hN
          have hcsz : (old ++ new).size = (n + m) * info.size := by rw [Array.size_append, k3, k4, hdis]
          have hrel2 : ∀ (i : Nat) (u u' : Value), (old ++ new)[i]? = some u → (putL cur (n * info.size + 0) new'.toList)[i]? = some u' → VR R u u' := by
            intro i u u' hu hu'
            rw [putL_get _ _ _ _ (by rw [hnl]; omega), hnl] at hu'
            rw [Array.getElem?_append] at hu
            by_cases hio : i < old.size
            · rw [if_pos hio] at hu
              rw [if_neg (by omega)] at hu'
              have hld := (loads_get (P := P) (n * info.size) 0 #[] old A2 hold).2 i (by omega)
              simp only [Array.size_empty, Nat.zero_add] at hld
              rw [hu] at hld
              obtain ⟨c1, t1, f1, hb1, _, hc1⟩ := cell?_some hld.symm
              rw [add_block] at hb1
              rw [hb] at hb1
              cases hb1
              have e : ((⟨ab, 0, none⟩ : Addr).add i).off = i := by unfold Addr.add; split <;> simp_all
              rw [e] at hc1
              exact hrel i u u' hc1 hu'
            · rw [if_neg hio] at hu
              have hi3 : i - old.size < new.size := (Array.getElem?_eq_some_iff.1 hu).1
              rw [if_pos ⟨by omega, by omega⟩] at hu'
              have e : i - (n * info.size + 0) = i - old.size := by omega
              rw [e] at hu'
              exact hnr.at_ _ _ _ hu (by simpa using hu')
          have hfz2 : ∀ o, o < (putL cur (n * info.size + 0) new'.toList).size → (f'.1 ≤ o && o < f'.2) = false := by rw [putL_size]; exact hfz
          obtain ⟨g1, g2⟩ := follow_inplace (elem := elem) hw hl hal e4 hF (by rw [hcsz, hF]; omega) hrel2 hfz2 q2 q3 q4 q5 q6 q7
          have hg : grown A (some ⟨ab, 0, none⟩) info.size (old ++ new) elem = { (A.kill ab) with w := (A.kill ab).w.alloc (.cells (old ++ new) elem), loose := (A.size, info.size) :: A.loose } := by
            simp only [grown, killIf, ht]
          rw [hg]
          refine ⟨_, .slice (some ⟨kb, 0, none⟩) (n + m) c', w1, ?_, g2, g1, .slice (l := some (info.size, N)) (.inr ⟨rfl, rfl, rfl⟩) rfl rfl ⟨hin, by omega⟩⟩
          rw [hr]
          simp only [ha1, q1, Result.andThen_ok]
    · -- it has none
      obtain ⟨new2, hnew2, hnr2, _⟩ := firstCells_follow hw.drew hx _ _ hnew
      obtain ⟨old2, hold2, hor2, _⟩ := firstCells_follow hw.drew hs _ _ hold
      have hr := run_append_out (P := P) (t := t) w (b := b') hU hU1 hd1 hi hzv hm' hnew2 hold2 (by omega) k1 k2
      have hcap : n + m ≤ grownCap w (n + m) c' elem := Nat.le_add_right _ _
      have hw2 : WR R (killIf A b) w.drew := by
        unfold killIf
        split
        · exact hw.drew
        · split
          · exact hw.drew
          · exact hw.drew.kill _
      have he2 : Ext R A w R (killIf A b) w.drew := by
        unfold killIf
        split
        · exact .drew
        · split
          · exact .drew
          · exact Ext.drew.trans hw (Ext.kill R A w.drew _)
      have hsz2 : (killIf A b).size = A.size := by
        unfold killIf
        split
        · rfl
        · split
          · rfl
          · simp [AW.kill, AW.size]
      have hls : (killIf A b).loose = A.loose := by
        unfold killIf
        split
        · rfl
        · split <;> rfl
      have hzs : (Builtin.zeroCells z.cells (grownCap w (n + m) c' elem - (n + m))).size = (grownCap w (n + m) c' elem - (n + m)) * info.size := by simp [Builtin.zeroCells, hsz]
      have hor3 : OR R (some (info.size, (old2 ++ new2 ++ Builtin.zeroCells z.cells (grownCap w (n + m) c' elem - (n + m))).size)) (.cells (old ++ new) elem (0, 0)) (.cells (old2 ++ new2 ++ Builtin.zeroCells z.cells (grownCap w (n + m) c' elem - (n + m))) elem (0, 0)) := by
        refine .loose elem (0, 0) _ _ rfl (by have := hor2.size; have := hnr2.size; simp only [Array.size_append]; omega) (fun i u u' hu hu' => ?_) (fun o _ => by simp)
        have hlt : i < (old2 ++ new2).size := by have := (Array.getElem?_eq_some_iff.1 hu).1; have h1 := hor2.size; have h2 := hnr2.size; simp only [Array.size_append] at this ⊢; omega
        rw [Array.getElem?_append, if_pos hlt] at hu'
        exact (hor2.append hnr2).at_ _ _ _ hu hu'
      have g1 := hw2.alloc (o := .cells (old ++ new) elem) (fun _ _ e => by cases e) (some (info.size, _)) hor3
      have g2 := Ext.alloc (R := R) (A := killIf A b) (w := w.drew) (o := .cells (old ++ new) elem) (o' := .cells (old2 ++ new2 ++ Builtin.zeroCells z.cells (grownCap w (n + m) c' elem - (n + m))) elem) (fun _ _ e => by cases e) (some (info.size, (old2 ++ new2 ++ Builtin.zeroCells z.cells (grownCap w (n + m) c' elem - (n + m))).size)) ((A.size, info.size) :: A.loose)
      have hg : grown A b info.size (old ++ new) elem = { (killIf A b) with w := (killIf A b).w.alloc (.cells (old ++ new) elem), loose := addTail (some (info.size, (old2 ++ new2 ++ Builtin.zeroCells z.cells (grownCap w (n + m) c' elem - (n + m))).size)) (killIf A b).size (killIf A b).loose } := by
        simp only [grown, addTail, hsz2, hls]
      refine ⟨_, _, _, hr, ?_, hg ▸ g1, ?_⟩
      · have : grown A b info.size (old ++ new) elem = { (killIf A b) with w := (killIf A b).w.alloc (.cells (old ++ new) elem), loose := (A.size, info.size) :: A.loose } := rfl
        rw [this]
        exact he2.trans hw g2
      · refine .slice (l := some (info.size, _)) (.inr ⟨by rw [hsz2], rfl, rfl⟩) rfl rfl ⟨hcap, ?_⟩
        simp only [Array.size_append, hzs]
        have h1 := hor2.size; have h2 := hnr2.size
        have hdis : (n + m) * info.size = n * info.size + m * info.size := Nat.add_mul _ _ _
        have hdis2 : (grownCap w (n + m) c' elem - (n + m)) * info.size = grownCap w (n + m) c' elem * info.size - (n + m) * info.size := Nat.sub_mul _ _ _
        have hmul : (n + m) * info.size ≤ grownCap w (n + m) c' elem * info.size := Nat.mul_le_mul_right _ hcap
        omega
end Go.Can
