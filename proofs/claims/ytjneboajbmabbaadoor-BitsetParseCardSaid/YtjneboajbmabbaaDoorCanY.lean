/-
  The arguments' shapes by kind, and a law's demand where the call answers true.
-/
import Derived.Test.YtjneboajbmabbaaDoorCanX
import Derived.Test.YtjneboajbmabbaaDoorFrame
import GoSem.ClaimSeven
set_option linter.unusedSimpArgs false
set_option linter.unusedVariables false
namespace Go.Can
open Go.RowKit Go.ChangeShapes Go.WideShapes
variable {P : Program}

inductive Kd
  | int (k : IntKind) | bool | str | slice | other
def kdOf (P : Program) (t : TypeId) : Kd := match P.underlying t with
  | some (.int k) => .int k
  | some .bool => .bool
  | some .string => .str
  | some (.slice _) => .slice
  | _ => .other
def Kd.has (w : World) : Kd → Value → Prop
  | .int k, v => ∃ n, v = .int k n ∧ k.has n
  | .bool, v => ∃ b, v = .bool b
  | .str, v => ∃ s, v = .string s ∧ (s.size : Int) ≤ IntKind.i64.max
  | .slice, v => ∃ a n c, v = .slice a n c ∧ ∀ x, a = some x → x.block < w.heap.size
  | .other, _ => True
theorem shape_lt {w : World} {b : Nat} {x : TypeId × Nat} (h : w.shape? b = some x) : b < w.heap.size := by
  unfold World.shape? at h
  split at h
  · rename_i hh; exact (Array.getElem?_eq_some_iff.1 hh).1
  all_goals first | (rename_i hh; exact (Array.getElem?_eq_some_iff.1 hh).1) | cases h
theorem kd_ok {w : World} {r : Reach} {base : Nat} {t : TypeId} {v : Value} (h : Cell.okWide P w r base t v) : (kdOf P t).has w v := by
  unfold kdOf
  cases hu : P.underlying t with
  | none => exact trivial
  | some d =>
    cases d <;> try exact trivial
    all_goals simp only [Cell.okWide, hu] at h
    all_goals cases v <;> simp_all [Cell.ok, Kd.has]
    case slice.slice e a n c =>
      intro x hx
      subst hx
      obtain ⟨_, _, h⟩ := h
      obtain ⟨_, _, row, cells, hs, _⟩ := h
      exact shape_lt hs
def hasAll (w : World) : List Kd → List Value → Prop
  | [], [] => True
  | k :: ks, v :: l => k.has w v ∧ hasAll w ks l
  | _, _ => False
theorem hasAll_cons {w : World} {k : Kd} {ks : List Kd} : ∀ {l : List Value}, hasAll w (k :: ks) l → ∃ c r, l = c :: r ∧ k.has w c ∧ hasAll w ks r
  | [], h => h.elim
  | c :: r, h => ⟨c, r, rfl, h.1, h.2⟩
theorem hasAll_nil {w : World} : ∀ {l : List Value}, hasAll w [] l → l = []
  | [], _ => rfl
  | _ :: _, h => h.elim
theorem hasAll_of {w : World} : ∀ (ks : List Kd) (l : List Value), ks.length = l.length → (∀ (i : Nat) (k : Kd) (v : Value), ks[i]? = some k → l[i]? = some v → k.has w v) → hasAll w ks l
  | [], [], _, _ => trivial
  | k :: ks, v :: l, hn, h => ⟨h 0 k v rfl rfl, hasAll_of ks l (by simpa using hn) fun i k v h1 h2 => h (i + 1) k v (by simpa using h1) (by simpa using h2)⟩

inductive AK
  | one (k : Kd) | row (ks : List Kd)
def AK.has (w : World) : AK → Value → Prop
  | .one k, v => k.has w v
  | .row ks, v => ∃ l : List Value, v = .agg l.toArray ∧ hasAll w ks l
def akOf (P : Program) (t : TypeId) : Option AK := match P.underlying t with
  | some (.struct _) | some (.array _ _) => match P.cellTypes P.depth t with
    | some ts => if ts.length == P.cellsOf t then some (.row (ts.map (kdOf P))) else none
    | none => none
  | _ => some (.one (kdOf P t))
theorem ak_ok {w : World} {r : Reach} {base : Nat} {t : TypeId} {v : Value} {k : AK} (hk : akOf P t = some k) (h : Value.okWide P w r base t v) : k.has w v := by
  have row : ∀ (hv : ∃ cs, v = .agg cs ∧ cs.size = P.cellsOf t ∧ Row.okWide P w r base t cs), (match P.cellTypes P.depth t with
    | some ts => if ts.length == P.cellsOf t then some (AK.row (ts.map (kdOf P))) else none
    | none => none) = some k → k.has w v := by
    rintro ⟨cs, rfl, hs, ts, ht, _, hc⟩ hk
    rw [ht] at hk
    simp only at hk
    split at hk
    · rename_i hn
      have hn := eq_of_beq hn
      cases hk
      refine ⟨cs.toList, by simp, hasAll_of _ _ (by simp [hn, hs]) fun i k v h1 h2 => ?_⟩
      have h2 : cs[i]? = some v := by simpa using h2
      have hi := (Array.getElem?_eq_some_iff.1 h2).1
      obtain ⟨u, hu, ho⟩ := hc i v h2
      rw [Nat.mod_eq_of_lt (by omega)] at hu
      rw [List.getElem?_map, hu] at h1
      cases h1
      exact kd_ok ho
    · cases hk
  unfold akOf at hk
  unfold Value.okWide at h
  cases hu : P.underlying t with
  | none => rw [hu] at hk h; cases hk; exact kd_ok h
  | some d =>
    rw [hu] at hk h
    cases d <;> first | exact row h hk | (cases hk; exact kd_ok h)
def hasArgs (w : World) : List AK → List Value → Prop
  | [], [] => True
  | k :: ks, v :: l => k.has w v ∧ hasArgs w ks l
  | _, _ => False
theorem hasArgs_cons {w : World} {k : AK} {ks : List AK} : ∀ {l : List Value}, hasArgs w (k :: ks) l → ∃ c r, l = c :: r ∧ k.has w c ∧ hasArgs w ks r
  | [], h => h.elim
  | c :: r, h => ⟨c, r, rfl, h.1, h.2⟩
theorem hasArgs_nil {w : World} : ∀ {l : List Value}, hasArgs w [] l → l = []
  | [], _ => rfl
  | _ :: _, h => h.elim
theorem trodAll_length {H : Type} {enc : TypeId × Value → H} {w : World} : ∀ {ts : List TypeId} {vs : List Value} {ds : List (DataW H)} {p : List MemPlace}, DataW.TrodAll enc P w 0 (fun _ => true) true ts vs ds p → vs.length = ts.length ∧ ds.length = ts.length
  | [], vs, ds, p, h => by
    obtain ⟨rfl, rfl, _⟩ := trodAll_nil h
    exact ⟨rfl, rfl⟩
  | t :: ts, vs, ds, p, h => by
    obtain ⟨v, vs', d, ds', p', q, rfl, rfl, rfl, _, h1⟩ := trodAll_cons h
    have := trodAll_length h1
    simp [this.1, this.2]
theorem args_of : ∀ (ks : List AK) (ts : List TypeId) (vs : List Value) {w : World} {r : Reach} {base : Nat}, ts.mapM (akOf P) = some ks → vs.length = ts.length → (∀ (j : Nat) t v, ts[j]? = some t → vs[j]? = some v → Value.okWide P w r base t v) → hasArgs w ks vs
  | ks, [], [], _, _, _, hk, _, _ => by
    simp at hk
    subst hk
    exact trivial
  | ks, t :: ts, v :: vs, _, _, _, hk, hn, h => by
    simp only [List.mapM_cons, Option.bind_eq_bind, Option.bind_eq_some_iff, Option.pure_def, Option.some.injEq] at hk
    obtain ⟨k, h1, ks', h2, rfl⟩ := hk
    exact ⟨ak_ok h1 (h 0 t v rfl rfl), args_of ks' ts vs h2 (by simpa using hn) fun j t v a b => h (j + 1) t v (by simpa using a) (by simpa using b)⟩
theorem list_cons {α : Type} {n : Nat} : ∀ {l : List α}, l.length = n + 1 → ∃ a r, l = a :: r ∧ r.length = n
  | [], h => by cases h
  | a :: r, h => ⟨a, r, rfl, by simpa using h⟩
theorem list_nil {α : Type} : ∀ {l : List α}, l.length = 0 → l = []
  | [], _ => rfl
theorem arr_of {α : Type} {x : Array α} {l : List α} (h : x.toList = l) : x = l.toArray := by cases x; simp_all

/-- what a law's frame hands to the walk -/
theorem whole_args {H : Type} {enc : TypeId × Value → H} {f : Func} {vars : List String} {apart : Bool} {W : World} {base : Nat} {args : Array Value} {ds gs : List (DataW H)} {before : List MemPlace} {ks : List AK}
    (hk : f.params.toList.mapM (akOf P) = some ks) (hval : ∀ (j : Nat) t v, f.params[j]? = some t → args[j]? = some v → Value.okWide P W .any base t v)
    (hW : DataW.Whole enc P f.params.toList vars apart W args.toList ds gs before) : hasArgs W ks args.toList ∧ ds.length = f.params.toList.length := by
  obtain ⟨p, q, hA, _⟩ := hW
  have hA : DataW.TrodAll enc P W 0 (fun _ => true) true f.params.toList args.toList ds p := hA
  obtain ⟨h1, h2⟩ := trodAll_length hA
  exact ⟨args_of _ _ _ hk h1 fun j t v a b => hval j t v (by simpa using a) (by simpa using b), h2⟩
theorem wants_of {params : Array TypeId} (h : params.all (fun t => !P.wantsStandIn t) = true) (j : Nat) (t : TypeId) (ht : params[j]? = some t) : P.wantsStandIn t = false := by
  have := Array.all_eq_true_iff_forall_mem.1 h t (Array.mem_of_getElem? ht)
  simpa using this
end Go.Can
