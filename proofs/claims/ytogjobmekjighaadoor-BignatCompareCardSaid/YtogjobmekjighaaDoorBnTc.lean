/-
  Slices of numbers and of slices that the laws build.
-/
import Derived.Test.YtogjobmekjighaaDoorBnKn
set_option linter.unusedSimpArgs false
set_option linter.unusedVariables false
namespace Go.Proofs.YtogjobmekjighaaDoor.bn
open Go.RowKit Go.Own Go.Bn
open bd (U8At RefN RefR dnum Digits_calls Text_calls)
set_option maxHeartbeats 4000000
set_option maxRecDepth 100000

theorem few_eq {q : Option Addr} {m c : Nat} {ls : List Nat} {W : World} (h : SsAt q m c ls W) {b : Bool} (e : ls.all (· ≤ 150) = b) : Calls Tryd.prog 13 #[.slice q m c] W fun e w' => e = .returned (.bool b) ∧ W = w' := e ▸ few_calls h
theorem cell_alloc (w : World) (cs : Array Value) (T : TypeId) (i : Nat) (v : Value) (h : cs[i]? = some v) : (w.alloc (.cells cs T)).cell? ⟨w.heap.size, 0 + i, none⟩ = some v := by
  have hb : (w.alloc (.cells cs T)).heap[w.heap.size]? = some (.cells cs T (0, 0)) := heap_alloc_new _ _
  rw [Nat.zero_add]
  unfold World.cell?
  show (match (w.alloc (.cells cs T)).heap[w.heap.size]? with | some (.cells c _ _) => c[i]? | _ => none) = _
  rw [hb]
  exact h
theorem ss3 (w : World) (T : TypeId) (q1 q2 q3 : Option Addr) (m1 m2 m3 c1 c2 c3 : Nat) (h1 : (m1 : Int) ≤ 9223372036854775807) (h2 : (m2 : Int) ≤ 9223372036854775807) (h3 : (m3 : Int) ≤ 9223372036854775807) :
    SsAt (some ⟨w.heap.size, 0, none⟩) 3 3 [m1, m2, m3] (w.alloc (.cells #[.slice q1 m1 c1, .slice q2 m2 c2, .slice q3 m3 c3] T)) := by
  refine ⟨rfl, by decide, Nat.le_refl _, by decide, .inr ⟨_, 0, rfl, by simp, fun i x hx => ?_⟩⟩
  match i, hx with
  | 0, hx => cases hx; exact ⟨q1, c1, cell_alloc _ _ _ 0 _ rfl, h1⟩
  | 1, hx => cases hx; exact ⟨q2, c2, cell_alloc _ _ _ 1 _ rfl, h2⟩
  | 2, hx => cases hx; exact ⟨q3, c3, cell_alloc _ _ _ 2 _ rfl, h3⟩
theorem ss2 (w : World) (T : TypeId) (q1 q2 : Option Addr) (m1 m2 c1 c2 : Nat) (h1 : (m1 : Int) ≤ 9223372036854775807) (h2 : (m2 : Int) ≤ 9223372036854775807) :
    SsAt (some ⟨w.heap.size, 0, none⟩) 2 2 [m1, m2] (w.alloc (.cells #[.slice q1 m1 c1, .slice q2 m2 c2] T)) := by
  refine ⟨rfl, by decide, Nat.le_refl _, by decide, .inr ⟨_, 0, rfl, by simp, fun i x hx => ?_⟩⟩
  match i, hx with
  | 0, hx => cases hx; exact ⟨q1, c1, cell_alloc _ _ _ 0 _ rfl, h1⟩
  | 1, hx => cases hx; exact ⟨q2, c2, cell_alloc _ _ _ 1 _ rfl, h2⟩
theorem nl3 {w : World} {T : TypeId} {q1 q2 q3 : Option Addr} {m1 m2 m3 c1 c2 c3 x y z : Nat} (h1 : NatAt (.agg #[.slice q1 m1 c1]) x w) (h2 : NatAt (.agg #[.slice q2 m2 c2]) y w) (h3 : NatAt (.agg #[.slice q3 m3 c3]) z w) :
    NLAt (some ⟨w.heap.size, 0, none⟩) 3 3 [x, y, z] (w.alloc (.cells #[.slice q1 m1 c1, .slice q2 m2 c2, .slice q3 m3 c3] T)) := by
  have hb : Below w.heap.size w (w.alloc (.cells #[.slice q1 m1 c1, .slice q2 m2 c2, .slice q3 m3 c3] T)) := (by repeat (first | assumption | exact Below.refl _ _ | exact below_beyond _ _ | refine Below.beyond ?_ (by (try simp [size_beyond]) <;> omega) _ | refine Below.drew ?_ | refine Go.Rw.below_drewN ?_ _ | refine Go.Rw.below_setRow ?_ (by (try simp [size_beyond]) <;> omega) _ | refine Below.alloc ?_ (by (try simp [size_beyond]) <;> omega) _ | refine Below.setCell ?_ (by (try simp [size_beyond]) <;> omega) _))
  refine ⟨rfl, by decide, Nat.le_refl _, by decide, .inr ⟨_, 0, rfl, by simp, fun i v hx => ?_⟩⟩
  match i, hx with
  | 0, hx => cases hx; exact ⟨q1, m1, c1, cell_alloc _ _ _ 0 _ rfl, h1.below hb⟩
  | 1, hx => cases hx; exact ⟨q2, m2, c2, cell_alloc _ _ _ 1 _ rfl, h2.below hb⟩
  | 2, hx => cases hx; exact ⟨q3, m3, c3, cell_alloc _ _ _ 2 _ rfl, h3.below hb⟩
theorem sum3_lt {x y z : Nat} {k : Nat} (h1 : x < B ^ k) (h2 : y < B ^ k) (h3 : z < B ^ k) : (∀ n ∈ [x, y, z], n < B ^ (k + 2)) ∧ ∀ j, ([x, y, z].take j).sum < B ^ (k + 2) := by
  have a1 := lt_up h1 (show k ≤ k + 2 by omega)
  have a2 := lt_up h2 (show k ≤ k + 2 by omega)
  have a3 := lt_up h3 (show k ≤ k + 2 by omega)
  have b1 := add_lt h1 h2 (Nat.lt_succ_self k) (Nat.lt_succ_self k)
  have b2 : x + y + z < B ^ (k + 2) := add_lt b1 h3 (show k + 1 < k + 2 by omega) (by omega)
  have b3 := lt_up b1 (show k + 1 ≤ k + 2 by omega)
  refine ⟨fun n hn => ?_, fun j => ?_⟩
  · simp at hn
    rcases hn with rfl | rfl | rfl <;> assumption
  · match j with
    | 0 => simp; exact Nat.pow_pos (by decide)
    | 1 => simpa using a1
    | 2 => simpa using b3
    | j + 3 => simp; omega
theorem Sum_none (W : World) : Calls Tryd.prog 44 #[.slice none 0 0] W (RetN W 0) :=
  Sum_calls (ns := []) (nl_nil W) 1 (by decide) (fun _ h => by simp at h) (fun k => by rw [List.take_nil]; decide)
end Go.Proofs.YtogjobmekjighaaDoor.bn
