/-
  Texts of sets: what the laws' walks want.
-/
import Derived.Test.YtjneboajbmabbaaDoorMB1
import Derived.Test.YtjneboajbmabbaaDoorMB2
import Derived.Test.YtjneboajbmabbaaDoorMLP1
import Derived.Test.YtjneboajbmabbaaDoorMLP2
import Derived.Test.YtjneboajbmabbaaDoorMLP3
import Derived.Test.YtjneboajbmabbaaDoorMLP4
import Derived.Test.YtjneboajbmabbaaDoorMLP5
import Derived.Test.YtjneboajbmabbaaDoorMLP6
import Derived.Test.YtjneboajbmabbaaDoorMLP7
import Derived.Test.YtjneboajbmabbaaDoorMLP8
import Derived.Test.YtjneboajbmabbaaDoorMLP9
set_option linter.unusedSimpArgs false
set_option linter.unusedVariables false
namespace Go.Proofs.YtjneboajbmabbaaDoor.ref1
open Go.RowKit Go.Own Go.Rw Go.SetL Go.Bits Go.Tz Go.SetT Go.PlainAid
set_option maxHeartbeats 1000000
set_option maxRecDepth 100000

theorem wpList_eqRow_any {P : Program} {ops : Array Oper} {rest : List Oper} {o : Oper} {a : Act} {w : World} {Q : Exit → Act → World → Prop} (hw : Region.wanted o (yielded ops a.tmps) = true) {t r e : TypeId} {n : Nat} (x y : Operand) (ho : o.op = .binOp .eql t x y r)
    (hu : P.underlying t = some (.array n e)) (he : P.underlying e = some (.int .u64)) (hi : (P.info? e).map (·.size) = some 1) (hg : P.eqGuardType P.depth t = false)
    {xs ys : List W} (hx : xs.length = n) (hy : ys.length = n) (ex : a.eval x = .agg (rowW xs)) (ey : a.eval y = .agg (rowW ys))
    (h : wpList P ops Q rest (a.put o.dst (.bool (decide (xs = ys)))) w) : wpList P ops Q (o :: rest) a w := by
  unfold wpList
  rw [if_pos hw]
  refine .inl ?_
  unfold Oper.wp execOp
  simp only [ho, ex, ey]
  rw [Sem.run_bind, eq_run hu he hi hg hx hy x y w]
  exact h
theorem pow_lit : Can.tabCells Rows.laid_internal_strconv_uint64pow10 = (Lib.pow10Tab.map fun z => Value.int .u64 z).toArray := by kernel_rfl
theorem pow_at : Tryd.prog.globalNamed "internal/strconv.uint64pow10" = some 1 := by kernel_rfl
theorem decW_of {w : World} {T : TypeId} (h : w.heap[1]? = some (.cells (Can.tabCells Rows.laid_internal_strconv_uint64pow10) T (0, 0))) : DecW w := fun w' hb => by
  have h' := (hb.block 1 (by omega)).trans h
  unfold Lib.TabIs World.var?
  rw [pow_at]
  show (match w'.heap[1]? with | some (.cells cs _ _) => some cs | _ => none) = _
  rw [h', ← pow_lit]
theorem parse_back {xs : List W} (hx : xs.length = 16) (w : World) : Calls Tryd.prog 50 #[.string ⟨(textL (elems xs)).toArray⟩] w fun e w' => e = .returned (.tuple #[.agg (rowW xs), .int .i64 0]) ∧ ∃ y, w' = beyond w y := by
  have hr : ∀ y ∈ elems xs, 0 ≤ y ∧ y < 1024 := fun y hy => elems_range xs hy
  have hlen : (textL (elems xs)).length ≤ 1000000 := by
    have h1 := strL_len hr
    have h2 : (elems xs).length ≤ 1024 := ofN_len (bitAt xs) 1024
    unfold textL
    simp
    omega
  have hs : (ByteArray.mk (textL (elems xs)).toArray).size = (textL (elems xs)).length := by simp [ByteArray.size]
  have hp := parse_text (b := bt ⟨(textL (elems xs)).toArray⟩) (l := elems xs) (fun k c hk => by
    obtain ⟨h1, h2⟩ := List.getElem?_eq_some_iff.1 hk
    rw [bt_lit _ k h1, h2]) (sorted_ofP _) hr
  have := parse_calls ⟨(textL (elems xs)).toArray⟩ (by rw [hs]; exact hlen) w
  rw [hs, hp, rowOf_elems hx] at this
  exact this
theorem textE_at {q : Option Addr} {m c : Nat} {xs : List W} {w : World} (h : IsAt q m c (elems xs) w) : Calls Tryd.prog 51 #[.slice q m c] w fun e w' => e = .returned (.string ⟨(textL (elems xs)).toArray⟩) ∧ ∃ y, w' = beyond w y :=
  textR_calls h.all.1 (by rw [h.all.1]; exact ofN_len (bitAt xs) 1024) (fun y hy => elems_range xs hy) h.all.2.2.2.2
end Go.Proofs.YtjneboajbmabbaaDoor.ref1
