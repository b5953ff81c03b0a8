/-
  Two rows of 64-bit words compared by == and !=, in a walk.
-/
import Derived.Test.YtjneboajbmabbaaDoorCanAF
import Derived.Test.YtjneboajbmabbaaDoorBitAt
import Derived.Test.YtjneboajbmabbaaDoorRow
set_option linter.unusedSimpArgs false
set_option linter.unusedVariables false
namespace Go.Rw
open Go.RowKit Go.Own Go.Can Go.Bits
section
variable {P : Program}
theorem ints_rowW (xs : List W) : (rowW xs).toList = (rowI xs).map (Value.int .u64) := by simp [rowW, rowI, List.map_map, Function.comp_def]
theorem rowV_rowW (xs : List W) : rowV .u64 (rowI xs) = .agg (rowW xs) := by simp [rowV, rowW, rowI, List.map_map, Function.comp_def]
theorem eq_run {t e : TypeId} {n : Nat} (hu : P.underlying t = some (.array n e)) (he : P.underlying e = some (.int .u64)) (hi : (P.info? e).map (·.size) = some 1) (hg : P.eqGuardType P.depth t = false)
    {xs ys : List W} (hx : xs.length = n) (hy : ys.length = n) (x y : Operand) (w : World) :
    (do eqGuard .eql t x y (.agg (rowW xs)) (.agg (rowW ys)); binOp .eql t (.agg (rowW xs)) (.agg (rowW ys))).run P w = .ok (.bool (decide (xs = ys))) w := by
  obtain ⟨i, hi', hs⟩ : ∃ i, P.info? e = some i ∧ i.size = 1 := by
    cases h : P.info? e with
    | none => rw [h] at hi; cases hi
    | some i => rw [h] at hi; exact ⟨i, rfl, by simpa using hi⟩
  have key : dry P (Op.equal t (.agg (rowW xs)) (.agg (rowW ys))) = some (rowB (rowI xs) (rowI ys)) :=
    dry_equalIn_array (d := 9998) hu hi' hs he _ _ (rowI xs) (rowI ys) (by rw [rowI_len]; exact hx) (by rw [rowI_len]; exact hy) (ints_rowW xs) (ints_rowW ys)
  refine dry_run _ ?_ w
  rw [dry_bind, show dry P (eqGuard .eql t x y (.agg (rowW xs)) (.agg (rowW ys))) = some () from (show dry P (if !(P.eqGuardType P.depth t) then pure () else _) = _ by rw [hg]; rfl)]
  show dry P (do pure (Value.bool (← Op.equal t (.agg (rowW xs)) (.agg (rowW ys)))) : Sem Value) = _
  rw [dry_bind, key]
  show some (Value.bool _) = _
  congr 2
  rw [Bool.eq_iff_iff, rowB_iff (by rw [rowI_len, rowI_len, hx, hy]), rowI_inj]
  simp
theorem ne_run {t e : TypeId} {n : Nat} (hu : P.underlying t = some (.array n e)) (he : P.underlying e = some (.int .u64)) (hi : (P.info? e).map (·.size) = some 1) (hg : P.eqGuardType P.depth t = false)
    {xs ys : List W} (hx : xs.length = n) (hy : ys.length = n) (x y : Operand) (w : World) :
    (do eqGuard .neq t x y (.agg (rowW xs)) (.agg (rowW ys)); binOp .neq t (.agg (rowW xs)) (.agg (rowW ys))).run P w = .ok (.bool (!decide (xs = ys))) w := by
  obtain ⟨i, hi', hs⟩ : ∃ i, P.info? e = some i ∧ i.size = 1 := by
    cases h : P.info? e with
    | none => rw [h] at hi; cases hi
    | some i => rw [h] at hi; exact ⟨i, rfl, by simpa using hi⟩
  have key : dry P (Op.equal t (.agg (rowW xs)) (.agg (rowW ys))) = some (rowB (rowI xs) (rowI ys)) :=
    dry_equalIn_array (d := 9998) hu hi' hs he _ _ (rowI xs) (rowI ys) (by rw [rowI_len]; exact hx) (by rw [rowI_len]; exact hy) (ints_rowW xs) (ints_rowW ys)
  refine dry_run _ ?_ w
  rw [dry_bind, show dry P (eqGuard .neq t x y (.agg (rowW xs)) (.agg (rowW ys))) = some () from (show dry P (if !(P.eqGuardType P.depth t) then pure () else _) = _ by rw [hg]; rfl)]
  show dry P (do pure (Value.bool (!(← Op.equal t (.agg (rowW xs)) (.agg (rowW ys))))) : Sem Value) = _
  rw [dry_bind, key]
  show some (Value.bool _) = _
  congr 3
  rw [Bool.eq_iff_iff, rowB_iff (by rw [rowI_len, rowI_len, hx, hy]), rowI_inj]
  simp
/-- == -/
theorem wpList_eqRow {ops : Array Oper} {rest : List Oper} {o : Oper} {a : Act} {w : World} {Q : Exit → Act → World → Prop} (hgd : o.guard = none) {t r e : TypeId} {n : Nat} (x y : Operand) (ho : o.op = .binOp .eql t x y r)
    (hu : P.underlying t = some (.array n e)) (he : P.underlying e = some (.int .u64)) (hi : (P.info? e).map (·.size) = some 1) (hg : P.eqGuardType P.depth t = false)
    {xs ys : List W} (hx : xs.length = n) (hy : ys.length = n) (ex : a.eval x = .agg (rowW xs)) (ey : a.eval y = .agg (rowW ys))
    (h : wpList P ops Q rest (a.put o.dst (.bool (decide (xs = ys)))) w) : wpList P ops Q (o :: rest) a w := by
  refine wpList_plain hgd fun _ hK => ?_
  unfold Oper.wp execOp
  simp only [ho, ex, ey]
  rw [Sem.run_bind, eq_run hu he hi hg hx hy x y w]
  exact hK _ _ h
end
end Go.Rw
