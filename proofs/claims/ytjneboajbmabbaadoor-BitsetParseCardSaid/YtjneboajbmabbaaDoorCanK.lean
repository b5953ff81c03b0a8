/-
  Appending: in place where the canonical capacity allows; else a new canonical block whose tail is not known, while the real run appends in place or grows.
-/
import Derived.Test.YtjneboajbmabbaaDoorCanJ
import Derived.Laws.Append
set_option linter.unusedSimpArgs false
set_option linter.unusedVariables false
namespace Go.Can
variable {P : Program} {R0 : CR}

def single : Value → Bool
  | .agg _ | .tuple _ => false
  | _ => true
theorem VR.single {R : CR} {v v' : Value} (h : VR R v v') (hs : single v = true) : single v' = true := by cases h <;> first | rfl | cases hs

def putL (cur : Array Value) (p : Nat) : List Value → Array Value
  | [] => cur
  | v :: vs => putL (cur.setIfInBounds p v) (p + 1) vs
theorem putL_size : ∀ (vs : List Value) (cur : Array Value) (p : Nat), (putL cur p vs).size = cur.size
  | [], _, _ => rfl
  | v :: vs, cur, p => by simp only [putL]; rw [putL_size]; simp
theorem putL_get : ∀ (vs : List Value) (cur : Array Value) (p j : Nat), p + vs.length ≤ cur.size → (putL cur p vs)[j]? = if p ≤ j ∧ j < p + vs.length then vs[j - p]? else cur[j]?
  | [], cur, p, j, _ => by simp only [putL, List.length_nil]; rw [if_neg (by omega)]
  | v :: vs, cur, p, j, h => by
    simp only [putL]
    simp only [List.length_cons] at h ⊢
    rw [putL_get vs _ (p + 1) j (by simp; omega)]
    by_cases h1 : p + 1 ≤ j ∧ j < p + 1 + vs.length
    · rw [if_pos h1, if_pos (by omega)]
      have : j - p = (j - (p + 1)) + 1 := by omega
      rw [this, List.getElem?_cons_succ]
    · rw [if_neg h1, Array.getElem?_setIfInBounds]
      by_cases h2 : p = j
      · subst h2
        rw [if_pos rfl, if_pos (by omega), if_pos (by omega)]; simp
      · rw [if_neg h2, if_neg (by omega)]
theorem run_storeOne {w : World} {a : Addr} {v : Value} {c : Array Value} {t : TypeId} {f : Nat × Nat} (hb : w.heap[a.block]? = some (.cells c t f)) (hs : a.spot = none) (hi : a.off < c.size) (hf : (f.1 ≤ a.off && a.off < f.2) = false) (h1 : single v = true) :
    (Go.store a v).run P w = .ok () (w.setCell a v) := by
  have hc : w.cell? a = some c[a.off] := by simp [World.cell?, hb, hs, hi]
  have hz : w.frozen? a = false := by rw [frozen_of hb]; exact hf
  unfold Go.store
  cases v <;> first | (cases h1; done) | (simp only [Sem.run, hc, hz]; rfl)
theorem run_storeCells_gen (k off : Nat) (t : TypeId) (f : Nat × Nat) : ∀ (vs : List Value) (i : Nat) (cur : Array Value) (w : World), w.heap[k]? = some (.cells cur t f) → off + i + vs.length ≤ cur.size →
    (∀ o, o < cur.size → (f.1 ≤ o && o < f.2) = false) → (∀ v ∈ vs, single v = true) →
    ∃ w', (Go.storeCells ⟨k, off, none⟩ vs i).run P w = .ok () w' ∧ w'.heap.size = w.heap.size ∧ (∀ j, j ≠ k → w'.heap[j]? = w.heap[j]?) ∧ w'.heap[k]? = some (.cells (putL cur (off + i) vs) t f) ∧ w'.os = w.os ∧ w'.tape = w.tape ∧ w'.output = w.output
  | [], i, cur, w, hk, _, _, _ => ⟨w, rfl, rfl, fun _ _ => rfl, hk, rfl, rfl, rfl⟩
  | v :: vs, i, cur, w, hk, hl, hf, h1 => by
    simp only [List.length_cons] at hl
    have ha : (⟨k, off, none⟩ : Addr).add i = ⟨k, off + i, none⟩ := by unfold Addr.add; split <;> simp_all
    have hr := run_storeOne (P := P) (a := ⟨k, off + i, none⟩) (v := v) hk rfl (show off + i < cur.size by omega) (hf _ (show off + i < cur.size by omega)) (h1 v (by simp))
    have hk2 : (w.setCell ⟨k, off + i, none⟩ v).heap[k]? = some (.cells (cur.setIfInBounds (off + i) v) t f) := by
      simp [World.setCell, Array.getElem?_modify, hk]
    obtain ⟨w', e1, e2, e3, e4, e5, e6, e7⟩ := run_storeCells_gen k off t f vs (i + 1) (cur.setIfInBounds (off + i) v) (w.setCell ⟨k, off + i, none⟩ v) hk2 (by simp; omega) (by simpa using hf) (fun u hu => h1 u (by simp [hu]))
    refine ⟨w', ?_, by simpa using e2, fun j hj => ?_, ?_, by simpa [World.setCell] using e5, by simpa using e6, by simpa [World.setCell] using e7⟩
    · simp only [Go.storeCells, Sem.run_bind, ha, hr, Result.andThen_ok, e1]
    · rw [e3 j hj]; simp [World.setCell, Array.getElem?_modify, Ne.symm hj]
    · simp only [putL]; rw [e4, Nat.add_assoc]

/-! What append does, its types known -/
def lenOfV : Value → Option Nat
  | .slice _ n _ => some n
  | .string s => some s.size
  | _ => none
section
variable {t0 t1 t elem : TypeId} {info : TypeInfo} {z : Value} {d1 : TypeDesc}
def soft : TypeDesc → Bool
  | .slice _ | .string => true
  | _ => false
theorem run_append_in (w : World) {b : Option Addr} {n c m : Nat} {x : Value} {new : Array Value} (hU : P.underlying t0 = some (.slice elem)) (hU1 : P.underlying t1 = some d1) (hd1 : soft d1 = true)
    (hi : P.info? elem = some info) (hm : lenOfV x = some m) (hnew : (Builtin.firstCells info.size m x).run P w = .ok new w) (hc : n + m ≤ c) :
    (Builtin.append_ #[t0, t1] t #[.slice b n c, x]).run P w = Result.andThen (Sem.run P (match b with | some a => Go.storeCells (a.add (n * info.size)) new.toList | none => pure () : Sem Unit) w) (fun _ w' => .ok (.slice b (n + m) c) w') := by
  have hl : (Builtin.lenOf x).run P w = .ok m w := by cases x <;> first | (cases hm; done) | (cases hm; rfl)
  cases d1 <;> first | (cases hd1; done) | skip
  all_goals
    cases b <;> simp [Builtin.append_, run_underlying hU, run_underlying hU1, sizeOf, typeInfo, hi, hl, hc, hnew]
theorem run_append_out (w : World) {b : Option Addr} {n c m : Nat} {x : Value} {old new : Array Value} (hU : P.underlying t0 = some (.slice elem)) (hU1 : P.underlying t1 = some d1) (hd1 : soft d1 = true)
    (hi : P.info? elem = some info) (hzv : info.zero = some z) (hm : lenOfV x = some m) (hnew : (Builtin.firstCells info.size m x).run P w.drew = .ok new w.drew) (hold : (Builtin.firstCells info.size n (.slice b n c)).run P w.drew = .ok old w.drew)
    (hc : c < n + m) (h47 : (n + m) * info.bytes ≤ 140737488355328) (h62 : n + m ≤ 4611686018427387904) :
    (Builtin.append_ #[t0, t1] t #[.slice b n c, x]).run P w = .ok (.slice (some ⟨w.heap.size, 0, none⟩) (n + m) (grownCap w (n + m) c elem)) (w.drew.alloc (.cells (old ++ new ++ Builtin.zeroCells z.cells (grownCap w (n + m) c elem - (n + m))) elem)) := by
  have hl : ∀ w, (Builtin.lenOf x).run P w = .ok m w := fun w => by cases x <;> first | (cases hm; done) | (cases hm; rfl)
  have hn : ¬ (n + m ≤ c) := by omega
  have h63' : ¬ (9223372036854775807 < ((n : Int) + (m : Int))) := by omega
  have h48' : ¬ (281474976710656 < Builtin.nextslicecap (n + m) c * info.bytes) := by have := growslice_fits hc h47; omega
  cases d1 <;> first | (cases hd1; done) | skip
  all_goals
    simp [Builtin.append_, run_underlying hU, run_underlying hU1, sizeOf, typeInfo, zeroValue, hi, hzv, hl, hn, h63', h48', Question.forced, hnew, hold, newRow, grownCap]
end
def AW.kill (A : AW) (b : Nat) : AW := { A with w := { A.w with heap := A.w.heap.setIfInBounds b deadObj } }
theorem alive_kill {A : AW} {k b : Nat} (h : (A.kill k).alive b = true) : A.alive b = true ∧ b ≠ k ∧ (A.kill k).w.heap[b]? = A.w.heap[b]? := by
  have hne : b ≠ k := fun e => by
    subst e
    have hlt := alive_lt h
    simp only [AW.kill, AW.size, Array.size_setIfInBounds] at hlt
    simp [AW.alive, AW.kill, Array.getElem?_setIfInBounds, hlt, deadObj] at h
  have e : (A.kill k).w.heap[b]? = A.w.heap[b]? := by simp only [AW.kill, Array.getElem?_setIfInBounds, if_neg (Ne.symm hne)]
  refine ⟨?_, hne, e⟩
  unfold AW.alive at h ⊢
  rw [e] at h; exact h
theorem WR.kill {R : CR} {A : AW} {w : World} (hw : WR R A w) (k : Nat) : WR R (A.kill k) w := by
  have hs : (A.kill k).size = A.size := by simp [AW.kill, AW.size]
  refine ⟨fun b c l x => by rw [hs]; exact hw.dom b c l x, hw.fn, fun b c j l l' x y p q => hw.inj b c j l l' x y (alive_kill p).1 (alive_kill q).1, fun b c l x p => hw.loose b c l x (alive_kill p).1, fun b c l o o' x p h1 h2 => ?_, by rw [hs]; exact hw.ro, fun b s hb => by rw [hs]; exact hw.lsize b s hb⟩
  rw [(alive_kill p).2.2] at h1
  exact hw.obj _ _ _ _ _ x (alive_kill p).1 h1 h2
theorem Ext.kill (R : CR) (A : AW) (w : World) (k : Nat) : Ext R A w R (A.kill k) w :=
  ⟨CR.le_refl R, fun _ _ _ h => .inl h, by simp [AW.kill, AW.size], Nat.le_refl _, rfl, fun b _ h => (alive_kill h).1, fun _ _ _ => rfl, rfl, rfl, rfl⟩
theorem WR.drew {R : CR} {A : AW} {w : World} (hw : WR R A w) : WR R A w.drew := ⟨hw.dom, hw.fn, hw.inj, hw.loose, hw.obj, hw.ro, hw.lsize⟩
theorem Ext.drew {R : CR} {A : AW} {w : World} : Ext R A w R A w.drew :=
  ⟨CR.le_refl R, fun _ _ _ h => .inl h, Nat.le_refl _, Nat.le_refl _, rfl, fun _ _ h => h, fun _ _ _ => rfl, rfl, rfl, rfl⟩

/-- the real run appends in place: the canonical new block lies where the old one lay -/
theorem follow_inplace {R : CR} {A : AW} {w w1 : World} (hw : WR R A w) {b k s N : Nat} {elem : TypeId} {f' : Nat × Nat} (hR : R b k (some (s, N))) (hal : A.alive b = true) (hro : A.ro ≤ b)
    {F : Array Value} (hF : F.size = N) {cs : Array Value} (hcs : cs.size ≤ F.size) (hrel : ∀ (i : Nat) (v v' : Value), cs[i]? = some v → F[i]? = some v' → VR R v v') (hfz : ∀ o, o < F.size → (f'.1 ≤ o && o < f'.2) = false)
    (h1 : w1.heap.size = w.heap.size) (h2 : ∀ j, j ≠ k → w1.heap[j]? = w.heap[j]?) (h3 : w1.heap[k]? = some (.cells F elem f')) (h4 : w1.os = w.os) (h5 : w1.tape = w.tape) (h6 : w1.output = w.output) :
    WR (R.add A.size k (some (s, N))) { (A.kill b) with w := (A.kill b).w.alloc (.cells cs elem), loose := (A.size, s) :: A.loose } w1 ∧
    Ext R A w (R.add A.size k (some (s, N))) { (A.kill b) with w := (A.kill b).w.alloc (.cells cs elem), loose := (A.size, s) :: A.loose } w1 := by
  have hs : (A.kill b).size = A.size := by simp [AW.kill, AW.size]
  have hal2 : ∀ j, ({ (A.kill b) with w := (A.kill b).w.alloc (.cells cs elem), loose := (A.size, s) :: A.loose } : AW).alive j = ((A.kill b).alive j || j == A.size) := fun j => by
    have := alive_alloc (A := A.kill b) (o := .cells cs elem) (fun _ _ e => by cases e) j
    rw [hs] at this; exact this
  have new : ∀ b' k' l', R b' k' l' → b' ≠ A.size := fun b' k' l' x => by have := (hw.dom _ _ _ x).1; omega
  have old : ∀ b' k' l', R b' k' l' → ((A.kill b).alive b' || b' == A.size) = true → A.alive b' = true ∧ b' ≠ b ∧ k' ≠ k := fun b' k' l' x p => by
    have hn := new _ _ _ x
    have p' : (A.kill b).alive b' = true := by simpa [hn] using p
    have ⟨q1, q2, _⟩ := alive_kill p'
    exact ⟨q1, q2, fun e => q2 (hw.inj _ _ _ _ _ (e ▸ x) hR q1 hal)⟩
  have hk : k < w.heap.size := (hw.dom _ _ _ hR).2
  have hsz : ({ (A.kill b) with w := (A.kill b).w.alloc (.cells cs elem), loose := (A.size, s) :: A.loose } : AW).size = A.size + 1 := by
    simp only [AW.size, World.size_alloc]; simp [AW.kill]
  refine ⟨⟨?_, ?_, ?_, ?_, ?_, ?_, ?_⟩, ?_⟩
  · rintro b' k' l' (x | ⟨rfl, rfl, rfl⟩)
    · have := hw.dom _ _ _ x; rw [hsz]; omega
    · rw [hsz]; omega
  · rintro b' k' l1 k2 l2 (x | ⟨rfl, rfl, rfl⟩) (y | ⟨e, rfl, rfl⟩)
    · exact hw.fn _ _ _ _ _ x y
    · exact absurd e (new _ _ _ x)
    · exact absurd rfl (new _ _ _ y)
    · exact ⟨rfl, rfl⟩
  · rintro b' c' k' l1 l2 (x | ⟨rfl, rfl, rfl⟩) (y | ⟨rfl, e, rfl⟩) p q
    · rw [hal2] at p q
      exact hw.inj _ _ _ _ _ x y (old _ _ _ x p).1 (old _ _ _ y q).1
    · rw [hal2] at p
      exact absurd e (old _ _ _ x p).2.2
    · rw [hal2] at q
      exact absurd rfl (old _ _ _ y q).2.2
    · rfl
  · rintro b' k' l1 (x | ⟨rfl, rfl, rfl⟩) p
    · rw [hal2] at p
      have hn := new _ _ _ x
      have hb' : (b' == A.size) = false := by simpa using hn
      have := hw.loose _ _ _ x (old _ _ _ x p).1
      simp only [AW.tail, List.lookup, hb'] at this ⊢
      exact this
    · simp [AW.tail, List.lookup]
  · rintro b' k' l1 o1 o2 (x | ⟨rfl, rfl, rfl⟩) p q1 q2
    · rw [hal2] at p
      have ⟨r1, r2, r3⟩ := old _ _ _ x p
      have hn := new _ _ _ x
      simp only [World.alloc, Array.getElem?_push] at q1
      rw [if_neg (by simpa [AW.kill] using hn)] at q1
      simp only [AW.kill, Array.getElem?_setIfInBounds, if_neg (Ne.symm r2)] at q1
      rw [h2 _ r3] at q2
      exact (hw.obj _ _ _ _ _ x r1 q1 q2).mono (CR.le_add _ _ _ _)
    · have e : (A.kill b).w.heap.size = A.w.heap.size := by simp [AW.kill]
      simp only [World.alloc, Array.getElem?_push, e, if_true, Option.some.injEq] at q1
      rw [h3] at q2
      cases q2
      subst q1
      exact (OR.loose elem f' s N hF hcs hrel hfz).mono (CR.le_add _ _ _ _)
  · rw [hsz]; have := hw.ro; show A.ro ≤ A.size + 1; omega
  · intro b' s' hb'
    rw [hsz]
    by_cases e : b' = A.size
    · omega
    · have e' : (b' == A.size) = false := by simpa using e
      have : A.tail b' = some s' := by simpa only [AW.tail, List.lookup, e'] using hb'
      have := hw.lsize _ _ this; omega
  · refine ⟨CR.le_add _ _ _ _, ?_, by rw [hsz]; omega, by omega, rfl, fun b' hb' p => ?_, fun j hj hno => h2 j fun e => hno ⟨b, _, e ▸ hR, hal, hro⟩, h4, h5, h6⟩
    · rintro b' k' l' (x | ⟨rfl, rfl, rfl⟩)
      · exact .inl x
      · exact .inr ⟨Nat.le_refl _, .inr ⟨b, _, hR, hal, hro⟩⟩
    · rw [hal2] at p
      have hn : (b' == A.size) = false := by simpa using Nat.ne_of_lt hb'
      rw [hn, Bool.or_false] at p
      exact (alive_kill p).1
end Go.Can
