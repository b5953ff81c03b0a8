/-
  One canonical operation, and that the real one follows it.
-/
import Derived.Test.YtjneboajbmabbaaDoorCanL
set_option linter.unusedSimpArgs false
set_option linter.unusedVariables false
namespace Go.Can
variable {P : Program} {R0 : CR}

/-! A string's bytes -/
def bytesOn (P : Program) (src dst : TypeId) (s : ByteArray) (A : AW) : Option (Value × AW) :=
  match P.underlying src, P.underlying dst with
  | some .string, some (.slice e) =>
    match P.underlying e with
    | some (.int .u8) => some (.slice (some ⟨A.size, 0, none⟩) s.size s.size, { A with w := A.w.alloc (.cells (s.data.map fun b => .int .u8 b.toNat) e), loose := (A.size, 1) :: A.loose })
    | _ => none
  | _, _ => none
theorem freeze_alloc (w : World) (c : Array Value) (t : TypeId) (n : Nat) : (w.alloc (.cells c t)).freeze ⟨w.heap.size, n, none⟩ 1 = w.alloc (.cells c t (n, n + 1)) := by
  unfold World.freeze World.alloc
  simp only [Nat.one_ne_zero, if_false]
  congr 1
  apply Array.ext_getElem?
  intro i
  simp only [Array.getElem?_modify, Array.getElem?_push]
  by_cases h : w.heap.size = i
  · subst h; simp
  · have h' : ¬ i = w.heap.size := fun e => h e.symm
    simp [h, h']
theorem bytes_follow {src dst : TypeId} {s : ByteArray} {R : CR} {A A' : AW} {w : World} (hw : WR R A w) {v : Value} (ha : bytesOn P src dst s A = some (v, A')) :
    ∃ R' v' w', (convert src dst (.string s)).run P w = .ok v' w' ∧ Ext R A w R' A' w' ∧ WR R' A' w' ∧ VR R' v v' := by
  unfold bytesOn at ha
  split at ha
  case h_2 => cases ha
  rename_i e h1 h2
  split at ha
  case h_2 => cases ha
  rename_i h3
  simp only [Option.some.injEq, Prod.mk.injEq] at ha
  obtain ⟨rfl, rfl⟩ := ha
  let cs := s.data.map fun b => Value.int .u8 b.toNat
  let cap := grownCap w s.size 0 e
  let cells := cs ++ Array.replicate (cap - s.size) (Value.int .u8 0)
  have hcap : s.size ≤ cap := Nat.le_add_right _ _
  have hss : s.data.size = s.size := rfl
  have hN : cells.size = cap := by simp only [cells, cs, Array.size_append, Array.size_map, Array.size_replicate]; omega
  have hsh : (w.drew.alloc (.cells cells e)).shape? w.heap.size = some (e, cap) := by
    have : (w.drew.alloc (.cells cells e)).heap[w.heap.size]? = some (.cells cells e (0, 0)) := by show (w.heap.push _)[w.heap.size]? = _; simp
    simp only [World.shape?, this, hN]
  have hr : (convert src dst (.string s)).run P w = .ok (.slice (some ⟨w.heap.size, 0, none⟩) s.size cap) (w.drew.alloc (.cells cells e (cap, cap + 1))) := by
    have hst : (Conv.stringToBytes e s).run P w = .ok (.slice (some ⟨w.heap.size, 0, none⟩) s.size cap) (w.drew.alloc (.cells cells e (cap, cap + 1))) := by
      have hf := freeze_alloc w.drew cells e cap
      unfold Conv.stringToBytes
      simp only [Sem.run_bind, run_choose, Question.forced, Result.andThen_ok, newRow, run_newObj, Sem.run_pure, markStringish, run_shape, run_freeze, Bool.false_eq_true, if_false]
      change Result.andThen (Sem.run P (match (w.drew.alloc (.cells cells e)).shape? w.heap.size with | some (_, n) => freeze { block := w.heap.size, off := n } 1 | _ => pure ()) (w.drew.alloc (.cells cells e))) (fun _ w' => Result.ok (Value.slice (some ⟨w.heap.size, 0, none⟩) s.size cap) w') = _
      rw [hsh]
      exact congrArg (Result.ok _) hf
    unfold convert
    simp only [Sem.run_bind, run_underlying h1, run_underlying h2, Result.andThen_ok]
    simp only [run_underlying h3, Sem.run_bind, Result.andThen_ok]
    exact hst
  refine ⟨_, _, _, hr, Ext.drew.trans hw (Ext.alloc (o := .cells cs e) (o' := .cells cells e (cap, cap + 1)) (fun _ _ e => by cases e) (some (1, cap)) _), (hw.drew.alloc (o := .cells cs e) (o' := .cells cells e (cap, cap + 1)) (fun _ _ e => by cases e) (some (1, cap)) ?_), .slice (l := some (1, cap)) (.inr ⟨rfl, rfl, rfl⟩) rfl rfl ⟨hcap, by show 0 + cap * 1 ≤ cap; omega⟩⟩
  refine .loose e (cap, cap + 1) 1 cap hN (by simp only [cells, Array.size_append]; omega) (fun i u u' hu hu' => ?_) (fun o ho => ?_)
  · have hlt : i < cs.size := (Array.getElem?_eq_some_iff.1 hu).1
    rw [Array.getElem?_append, if_pos hlt] at hu'
    exact (ints_rel s.data).at_ i u u' hu hu'
  · rw [hN] at ho
    have : ¬ cap ≤ o := by omega
    simp [this]
end Go.Can
