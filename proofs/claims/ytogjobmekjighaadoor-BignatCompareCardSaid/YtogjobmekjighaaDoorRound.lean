/-
  The plain walk inside a round of a range over a function (fence wide): a region of the body is walked by the plain laws.
-/
import Derived.Test.YtogjobmekjighaaDoorPlan
import Derived.OrdersIn
import Derived.TacticsIn
import Derived.OwnWalkIn
import Derived.RangeFuncCalls
import Derived.RangeFuncWrites
set_option linter.unusedSimpArgs false
set_option linter.unusedVariables false
namespace Go.Own
open Go.RowKit

section
variable {P : Program} {ops : Array Oper} {Q : Exit → Act → World → Prop} {F : Fence} {n : Nat}
/-- the wide fence, in a round or in none -/
def WideF (F : Fence) : Prop := F = Fence.wide ∨ ∃ l, F = Fence.wide.inRound l
theorem wideF_0 : WideF Fence.wide := .inl rfl
theorem wideF_1 (l : Nat) : WideF (Fence.wide.inRound l) := .inr ⟨l, rfl⟩
theorem WideF.calls {F : Fence} (hF : WideF F) {n : Nat} {P : Program} {f : FuncId} {args : Array Value} {w : World} {R : Ending → World → Prop} (h : Calls P f args w R) : CallsIn F n P f args w R := by
  rcases hF with rfl | ⟨l, rfl⟩
  · exact callsIn_wide.2 h
  · exact CallsIn.inRound l (callsIn_wide.2 h)
theorem WideF.rows {F : Fence} (hF : WideF F) {n : Nat} {P : Program} {row : String} {args : Array Value} {w : World} {R : Value → World → Prop} (h : Rows P row args w R) : RowsIn F n P row args w R := by
  rcases hF with rfl | ⟨l, rfl⟩ <;> exact fun c cs _ => let ⟨v, w', r, s⟩ := h c cs; ⟨v, w', r, stepsIn_wide.2 s⟩
theorem WideF.fn {F : Fence} (hF : WideF F) (f : FuncId) : F.fn f := by
  rcases hF with rfl | ⟨l, rfl⟩ <;> exact trivial
theorem WideF.depth {F : Fence} (hF : WideF F) (k : Nat) : F.depth.isSome = true → 1 ≤ k := by
  rcases hF with rfl | ⟨l, rfl⟩ <;> intro hd <;> simp [Fence.wide] at hd
def noDefer (o : Oper) : Bool := match o.op with
  | .defer _ => false
  | _ => true
theorem noDefer_spec {o : Oper} (h : noDefer o = true) : ∀ c, o.op ≠ .defer c := by
  intro c e; unfold noDefer at h; rw [e] at h; cases h
theorem oper_round {o : Oper} {a : Act} {w : World} {K : Act → World → Prop} (hF : WideF F) (hno : ¬ LetsOut Q) (hd : noDefer o = true) (h : o.wp P a w K Q) : o.wpIn F n P a w K Q := by
  refine ⟨fun f _ => hF.fn f, ?_⟩
  rw [Oper.semAt_plain _ _ _ (noDefer_spec hd)]
  unfold Oper.wp at h
  generalize (execOp a.eval o).run P w = r at h ⊢
  cases r with
  | ok x w' =>
    cases x with
    | value v => exact h
    | skip => exact h
    | defer d => exact h
    | enter f args => exact ⟨hF.depth _, hF.calls h⟩
    | row r args => exact ⟨hF.depth _, hF.rows h⟩
    | _ => exact h.elim
  | halt x w' => cases x <;> simp only [Oper.upon, Oper.uponIn] at h ⊢ <;> exact h
theorem list_round (hF : WideF F) (hno : ¬ LetsOut Q) : ∀ (rest : List Oper) (a : Act) (w : World), rest.all noDefer = true → wpList P ops Q rest a w → wpListIn F n P ops Q rest a w
  | [], _, _, _, h => h
  | o :: rest, a, w, hd, h => by
    simp only [List.all_cons, Bool.and_eq_true] at hd
    unfold wpList at h
    unfold wpListIn
    split
    · rename_i hw
      rw [if_pos hw] at h
      rcases h with h | ⟨_, h⟩
      · exact oper_round hF hno hd.1 (Oper.wp_mono (fun a w h => list_round hF hno rest a w hd.2 h) h)
      · exact absurd h hno
    · rename_i hw
      rw [if_neg hw] at h
      exact ⟨fun f _ => hF.fn f, list_round hF hno rest _ _ hd.2 h⟩
theorem any_round {md : Region.Mode} (hF : WideF F) (hno : ¬ LetsOut Q) (hd : ops.toList.all noDefer = true) : ∀ (fuel : Nat) (L : Array Bool) (a : Act) (w : World), wpAny P md ops Q fuel L a w → wpAnyIn F n P md ops Q fuel L a w
  | 0, _, _, _, h => h
  | fuel + 1, L, a, w, h => by
    refine ⟨h.1, fun i hi => ?_⟩
    have h2 := h.2 i hi
    unfold wpOp at h2
    unfold wpOpIn
    cases ho : ops[i]? with
    | none => rw [ho] at h2; exact any_round hF hno hd fuel _ a w h2
    | some o =>
      rw [ho] at h2
      simp only at h2 ⊢
      have hdo : noDefer o = true := by
        have := List.all_eq_true.1 hd o (by
          have hs := Array.getElem?_eq_some_iff.1 ho
          obtain ⟨h1, rfl⟩ := hs
          exact Array.getElem_mem_toList h1)
        exact this
      split
      · rename_i hw
        rw [if_pos hw] at h2
        rcases h2 with h2 | ⟨_, h2⟩
        · exact oper_round hF hno hdo (Oper.wp_mono (fun a w h => any_round hF hno hd fuel _ a w h) h2)
        · exact absurd h2 hno
      · rename_i hw
        rw [if_neg hw] at h2
        exact ⟨fun f _ => hF.fn f, any_round hF hno hd fuel _ _ w h2⟩
/-- a straight region -/
theorem wpIn_region_round {id : Nat} {a : Act} {w : World} {l' : List Oper} (hF : WideF F) (hno : ¬ LetsOut Q) (hd : l'.all noDefer = true) (h : wpList P l'.toArray Q l' a w) : (Code.region id l'.toArray false).wpIn F n P Q a w :=
  wpIn_region_lit (list_round hF hno l' a w hd h)
/-- a region that draws its order, by a plan -/
theorem wpIn_region_plan_round {id : Nat} {a : Act} {w : World} {l' : List Oper} (S : World → Prop) (r : List (List Nat × Nat)) (last : List Nat) (hm : P.follows .mixedOrders = true)
    (hB : (Region.noSelect l'.toArray && segsOk l'.toArray last r (Array.replicate l'.length false) && decide ((r.map (fun s => s.1.length + 1)).sum + last.length ≤ l'.length)) = true)
    (hF : WideF F) (hno : ¬ LetsOut Q) (hd : l'.all noDefer = true)
    (hQ : ∀ c a d v w, Q (.panic c) (a.put d v) w → Q (.panic c) a w) (hS : S w.drew) (h : wpSegs P l'.toArray S Q last r a w.drew) : (Code.region id l'.toArray true).wpIn F n P Q a w := by
  simp only [Bool.and_eq_true, decide_eq_true_eq] at hB
  exact wpIn_region_any hm (any_round hF hno (by simpa using hd) _ _ _ _ (wpAny_of_held _ _ _ _ (segs_run hB.1.1 hQ last r _ _ a _ hB.1.2 hS (by simpa using hB.2) h)))
/-- a region that draws its order and only reads -/
theorem wpIn_region_quiet_round {id : Nat} {a : Act} {w : World} {l' : List Oper} (C : World → Prop) (hm : P.follows .mixedOrders = true) (hB : Region.lexB .any l'.toArray = true) (hF : WideF F) (hno : ¬ LetsOut Q) (hd : l'.all noDefer = true) (hC : C w.drew)
    (h : wpQuiet P l'.toArray C (fun a' => ∀ w', C w' → Q .normal a' w') l' a) : (Code.region id l'.toArray true).wpIn F n P Q a w := by
  simp only [Region.lexB, Bool.and_eq_true] at hB
  refine wpIn_region_any hm (any_round hF hno (by simpa using hd) _ _ _ _ (wpAny_of_quiet (Q := fun a' => ∀ w', C w' → Q .normal a' w') (fun _ w' hw' h => h w' hw') _ _ _ _ hC ?_))
  have := wpAnyQ_lex (C := C) (md := .any) hB.1 l' 0 (Array.replicate l'.toArray.size false) a (by simp) (by simpa using hB.2) h
  simpa using this
theorem then_noOut {K : Act → World → Prop} {Q : Exit → Act → World → Prop} (h : ¬ LetsOut Q) : ¬ LetsOut (Exit.then K Q) := h
theorem ownPostG_noOut {α : Type} {B : Nat} {Kp : World → World → Prop} {I : List α → World → Prop} {Ix : Code → List α → World → Prop} {xs : List α} {W : World} : ¬ LetsOut (ownPostG B Kp I Ix xs W) := fun ⟨_, _, h⟩ => h
/-- an operation at the head of a straight list -/
theorem wpListIn_of_wp (hF : WideF F) (hno : ¬ LetsOut Q) {o : Oper} {rest : List Oper} {a : Act} {w : World} (hgd : o.guard = none) (hd : noDefer o = true)
    (h : ∀ K : Act → World → Prop, (∀ a w, wpListIn F n P ops Q rest a w → K a w) → o.wp P a w K Q) : wpListIn F n P ops Q (o :: rest) a w :=
  wpListIn_plain hgd fun K hK => oper_round hF hno hd (h K hK)
end
end Go.Own
