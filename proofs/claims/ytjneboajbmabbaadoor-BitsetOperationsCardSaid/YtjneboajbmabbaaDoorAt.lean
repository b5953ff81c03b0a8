/-
  The reference's functions on sets, in the form in which a law's walk meets them.
-/
import Derived.Test.YtjneboajbmabbaaDoorSetC
import Derived.Test.YtjneboajbmabbaaDoorPlan
set_option linter.unusedSimpArgs false
set_option linter.unusedVariables false
namespace Go.Proofs.YtjneboajbmabbaaDoor.ref1
open Go.RowKit Go.Own Go.Rw Go.SetL Go.Bits
set_option maxHeartbeats 1000000
set_option maxRecDepth 100000

/-- the slice reads as l, here -/
structure IsAt (q : Option Addr) (m c : Nat) (l : List Int) (w : World) : Prop where
  mk' :: (all : m = l.length ∧ m ≤ 999000 ∧ m ≤ c ∧ c ≤ maxLen ∧ Reads w q l)
/-- a call hands back such a slice, and nothing that was there has changed -/
def Ret (W : World) (l : List Int) (e : Ending) (w' : World) : Prop := ∃ q m c y, e = .returned (.slice q m c) ∧ w' = beyond W y ∧ IsAt q m c l w'
theorem IsAt.below {W w : World} {q : Option Addr} {m c : Nat} {l : List Int} (h : IsAt q m c l W) (hb : Below W.heap.size W w) : IsAt q m c l w := ⟨h.all.1, h.all.2.1, h.all.2.2.1, h.all.2.2.2.1, h.all.2.2.2.2.below hb⟩
theorem gives_ret {W : World} {l : List Int} (hl : l.length ≤ 999000) {e : Ending} {w' : World} (h : Gives W l e w') : Ret W l e w' := by
  obtain ⟨q, m, c, rfl, h1, h2, h3, h4, h5⟩ := h
  obtain ⟨y, rfl⟩ := beyond_of h5
  exact ⟨q, m, c, y, rfl, rfl, ⟨h1, by omega, h2, h3, h4⟩⟩
theorem elems_len (xs : List W) : (elems xs).length ≤ 999000 := Nat.le_trans (ofP_len _) (by decide)
theorem to_at {xs : List W} (hx : xs.length = 16) (w : World) : Calls Tryd.prog 18 #[.agg (rowW xs)] w (Ret w (elems xs)) :=
  (to_calls hx w).mono fun _ _ h => gives_ret (elems_len xs) h
theorem with_at {q : Option Addr} {m c : Nat} {xs : List W} (hx : xs.length = 16) {w : World} (n : Int) (h : IsAt q m c (elems xs) w) : Calls Tryd.prog 26 #[.slice q m c, .int .i64 n] w (Ret w (elems (withS xs n))) := by
  refine (with_calls n h.all.1 (by have := h.all.2.1; omega) h.all.2.2.1 h.all.2.2.2.1 h.all.2.2.2.2).mono fun _ _ h => ?_
  rw [elems_with hx]; exact gives_ret (by rw [← elems_with hx]; exact elems_len _) h
theorem without_at {q : Option Addr} {m c : Nat} {xs : List W} (hx : xs.length = 16) {w : World} (n : Int) (h : IsAt q m c (elems xs) w) : Calls Tryd.prog 28 #[.slice q m c, .int .i64 n] w (Ret w (elems (withoutS xs n))) := by
  refine (without_calls n h.all.1 (by have := h.all.2.1; omega) h.all.2.2.2.2).mono fun _ _ h => ?_
  rw [elems_without hx]; exact gives_ret (by rw [← elems_without hx]; exact elems_len _) h
theorem and_at {q q2 : Option Addr} {m c m2 c2 : Nat} {xs ys : List W} (hx : xs.length = 16) (hy : ys.length = 16) {w : World} (h : IsAt q m c (elems xs) w) (h2 : IsAt q2 m2 c2 (elems ys) w) : Calls Tryd.prog 30 #[.slice q m c, .slice q2 m2 c2] w (Ret w (elems (andR xs ys))) := by
  refine (and_calls h.all.1 (by have := h.all.2.1; omega) h.all.2.2.2.2 h2.all.1 (by have := h2.all.2.1; omega) h2.all.2.2.2.2).mono fun _ _ h => ?_
  rw [elems_and hx hy]; exact gives_ret (by rw [← elems_and hx hy]; exact elems_len _) h
theorem minus_at {q q2 : Option Addr} {m c m2 c2 : Nat} {xs ys : List W} (hx : xs.length = 16) (hy : ys.length = 16) {w : World} (h : IsAt q m c (elems xs) w) (h2 : IsAt q2 m2 c2 (elems ys) w) : Calls Tryd.prog 34 #[.slice q m c, .slice q2 m2 c2] w (Ret w (elems (subR xs ys))) := by
  refine (minus_calls h.all.1 (by have := h.all.2.1; omega) h.all.2.2.2.2 h2.all.1 (by have := h2.all.2.1; omega) h2.all.2.2.2.2).mono fun _ _ h => ?_
  rw [elems_sub hx hy]; exact gives_ret (by rw [← elems_sub hx hy]; exact elems_len _) h
theorem or_at {q q2 : Option Addr} {m c m2 c2 : Nat} {xs ys : List W} (hx : xs.length = 16) (hy : ys.length = 16) {w : World} (h : IsAt q m c (elems xs) w) (h2 : IsAt q2 m2 c2 (elems ys) w) : Calls Tryd.prog 32 #[.slice q m c, .slice q2 m2 c2] w (Ret w (elems (orR xs ys))) := by
  have e1 := ofP_len (bitAt xs); have e2 := ofP_len (bitAt ys)
  refine (or_calls h.all.1 h.all.2.2.1 h.all.2.2.2.1 h.all.2.2.2.2 h2.all.1 (by have := h.all.1; have := h2.all.1; unfold elems at *; omega) h2.all.2.2.2.2).mono fun _ _ h => ?_
  rw [elems_or hx hy]; exact gives_ret (by rw [← elems_or hx hy]; exact elems_len _) h
theorem within_at {q q2 : Option Addr} {m c m2 c2 : Nat} {xs ys : List W} (hx : xs.length = 16) (hy : ys.length = 16) {w : World} (h : IsAt q m c (elems xs) w) (h2 : IsAt q2 m2 c2 (elems ys) w) :
    Calls Tryd.prog 36 #[.slice q m c, .slice q2 m2 c2] w fun e w' => e = .returned (.bool (decide (subR xs ys = zeros))) ∧ ∃ x, w' = beyond w x := by
  refine (within_calls h.all.1 (by have := h.all.2.1; omega) h.all.2.2.2.2 h2.all.1 (by have := h2.all.2.1; omega) h2.all.2.2.2.2).mono fun _ _ h => ⟨h.1.trans (ret_bool ?_), h.2⟩
  rw [Bool.eq_iff_iff, beq_iff_eq, decide_eq_true_eq, sub_zero hx hy]
theorem same_at {q q2 : Option Addr} {m c m2 c2 : Nat} {l : List Int} {w : World} (h : IsAt q m c l w) (h2 : IsAt q2 m2 c2 l w) :
    Calls Tryd.prog 17 #[.slice q m c, .slice q2 m2 c2] w fun e w' => e = .returned (.bool true) ∧ ∃ x, w' = beyond w x := by
  refine (same_calls h.all.1 (by have := h.all.2.1; omega) h.all.2.2.2.2 h2.all.1 (by have := h2.all.2.1; omega) h2.all.2.2.2.2).mono fun _ _ h => ⟨h.1.trans (ret_bool ?_), h.2⟩
  simp
/-- a whole row is loaded, behind a guard or not -/
theorem wpList_load_any {P : Program} {ops : Array Oper} {rest : List Oper} {op : Oper} {a : Act} {w : World} {Q : Exit → Act → World → Prop} (hw : Region.wanted op (yielded ops a.tmps) = true) (ty : TypeId) (x : Operand) (ho : op.op = .load ty x)
    (g : Nat) (cells : Array Value) (t : TypeId) (d : TypeDesc) (hx : a.eval x = .pointer (some ⟨g, 0, none⟩))
    (hg : blockOf w g = some (.cells cells t (0, 0))) (hu : P.underlying ty = some d) (hd : (match d with | .struct _ | .array _ _ => true | _ => false) = true) (hi : (P.info? ty).map (·.size) = some cells.size)
    (h : wpList P ops Q rest (a.put op.dst (.agg cells)) w) : wpList P ops Q (op :: rest) a w := by
  unfold wpList
  rw [if_pos hw]
  exact .inl (wp_load_row ty x ho g hx t cells (0, 0) d hg hu hd hi h)
/-- a whole row is loaded, in a region that draws its order -/
theorem wpQuiet_load_row {P : Program} {ops : Array Oper} {C : World → Prop} {Q : Act → Prop} {a : Act} {o : Oper} {rest : List Oper} (hw : Region.wanted o (yielded ops a.tmps) = true) (ty : TypeId) (x : Operand) (ho : o.op = .load ty x)
    (g : Nat) (cells : Array Value) (t : TypeId) (d : TypeDesc) (hx : a.eval x = .pointer (some ⟨g, 0, none⟩))
    (hg : ∀ w, C w → blockOf w g = some (.cells cells t (0, 0))) (hu : P.underlying ty = some d) (hd : (match d with | .struct _ | .array _ _ => true | _ => false) = true) (hi : (P.info? ty).map (·.size) = some cells.size)
    (hk : wpQuiet P ops C Q rest (a.put o.dst (.agg cells))) : wpQuiet P ops C Q (o :: rest) a :=
  BigFrame.wpQuiet_want hw fun K hK => ⟨_, fun w hC => by
    unfold Oper.quietAt execOp
    simp only [ho, hx, Instr.loadAt, Instr.sureAddr, Sem.run_bind, Sem.run_pure, Result.andThen_ok, run_loadVar_row w g t ty cells (0, 0) d (hg w hC) hu hd hi]
    exact ⟨rfl, rfl⟩, hK _ hk⟩
end Go.Proofs.YtjneboajbmabbaaDoor.ref1
