/-
  BitsetCompare: the call answers true whatever its arguments: the frame.
-/
import Derived.Test.YtjneboajbmabbaaDoorMB1
import Derived.Test.YtjneboajbmabbaaDoorMB2
import Derived.Test.YtjneboajbmabbaaDoorML41
import Derived.Test.YtjneboajbmabbaaDoorCards
import Derived.Test.YtjneboajbmabbaaDoorTie
import Derived.Test.YtjneboajbmabbaaDoorCanAG
import Derived.WalkKit
import Derived.ProofKit
import Derived.OpenShut
import Derived.Deep.DeepHandedRow
import Derived.Test.YtjneboajbmabbaaDoorFrame
set_option linter.unusedSimpArgs false
set_option linter.unusedVariables false
namespace Go.Proofs.YtjneboajbmabbaaDoor.bitsetCompare
open Go.ChangeShapes Go.WideShapes Go.ChangeAt Go.RowKit Go.Joins Go.Own

theorem own : ownKnob Tryd.prog.godebug = none := by kernel_rfl
theorem pc : Can.PC2 Tryd.prog := .of_bool (by kernel_rfl)
noncomputable def tab : Nat → Array Value
  | 0 => Can.tabCells Rows.laid_math_bits_deBruijn64tab
  | 1 => Can.tabCells Rows.laid_internal_strconv_uint64pow10
  | 2 => Can.tabCells Rows.laid_math_bits_deBruijn32tab
  | _ => #[]
noncomputable def H0 (T : Nat → TypeId) : Array Obj := #[.cells (tab 0) (T 0), .cells (tab 1) (T 1), .cells (tab 2) (T 2)]
theorem tabAt (T : Nat → TypeId) (g : Nat) (hg : g ∈ ([0, 1, 2] : List Nat)) : (H0 T)[g]? = some (.cells (tab g) (T g) (0, 0)) := by
  simp only [List.mem_cons, List.not_mem_nil, or_false] at hg
  rcases hg with rfl | rfl | rfl
  all_goals rfl
theorem tabPlain (g : Nat) (hg : g ∈ ([0, 1, 2] : List Nat)) : (tab g).all (Can.plainV 60) = true := by
  simp only [List.mem_cons, List.not_mem_nil, or_false] at hg
  rcases hg with rfl | rfl | rfl
  all_goals kernel_rfl
set_option maxRecDepth 100000 in
theorem knownTrue (T : Nat → TypeId) : Can.evTrue (Can.evS Tryd.prog [0, 1, 2] (Can.noSm) 3000 (.call 24 #[]) (Can.AW.start (H0 T))) = true := by kernel_rfl
noncomputable def sm : Can.RecD := Can.orSmD (Can.liftSm (Can.knownSm 24 tab [0, 1, 2])) (Can.liftSm (Can.noSm))
theorem sums : Can.RecOkD Tryd.prog [0, 1, 2] sm := Can.orSmD_ok (Can.liftSm_ok (Can.knownSm_ok pc (Can.noSm_ok) tabAt tabPlain knownTrue)) (Can.liftSm_ok (Can.noSm_ok))
theorem known {W : World} (hL : laidMetH Tryd.prog Rows.bitsetCompareRow.laid W) : Can.Known (H0 (Can.tyAt W)) (Can.onG [0, 1, 2]) W := by
  refine Can.known_onG fun g hg => ?_
  simp only [List.mem_cons, List.not_mem_nil, or_false] at hg
  rcases hg with rfl | rfl | rfl
  · exact ⟨tab 0, Can.tyAt W 0, rfl, Can.laid_tab hL (by kernel_rfl) (List.mem_of_getElem? (i := 1) rfl) (by kernel_rfl) (by kernel_rfl) (by decide +kernel), by kernel_rfl⟩
  · exact ⟨tab 1, Can.tyAt W 1, rfl, Can.laid_tab hL (by kernel_rfl) (List.mem_of_getElem? (i := 2) rfl) (by kernel_rfl) (by kernel_rfl) (by decide +kernel), by kernel_rfl⟩
  · exact ⟨tab 2, Can.tyAt W 2, rfl, Can.laid_tab hL (by kernel_rfl) (List.mem_of_getElem? (i := 0) rfl) (by kernel_rfl) (by kernel_rfl) (by decide +kernel), by kernel_rfl⟩
end Go.Proofs.YtjneboajbmabbaaDoor.bitsetCompare

namespace Go.Proofs.YtjneboajbmabbaaDoor.ref1
open Go.RowKit Go.Own Go.Rw Go.SetL Go.Bits Go.Tz
set_option maxHeartbeats 1000000
set_option maxRecDepth 100000
attribute [local irreducible] beyond grow over

def cmpLL : List (List W) → List (List W) → Int
  | [], [] => 0
  | [], _ :: _ => -1
  | _ :: _, [] => 1
  | x :: l, y :: m => if cmpL (elems x) (elems y) = 0 then cmpLL l m else cmpL (elems x) (elems y)
theorem drop_at {α : Type} {L : List α} {k : Nat} {x : α} (h : L[k]? = some x) : L.drop k = x :: L.drop (k + 1) := by
  obtain ⟨hk, rfl⟩ := List.getElem?_eq_some_iff.1 h
  exact List.drop_eq_getElem_cons hk
theorem cmpLL_step {L M : List (List W)} {k : Nat} {x y : List W} (hx : L[k]? = some x) (hy : M[k]? = some y) : cmpLL (L.drop k) (M.drop k) = if cmpL (elems x) (elems y) = 0 then cmpLL (L.drop (k + 1)) (M.drop (k + 1)) else cmpL (elems x) (elems y) := by
  rw [drop_at hx, drop_at hy, cmpLL]
theorem cmpLL_left {L M : List (List W)} {k : Nat} (hx : k = L.length) (hy : k < M.length) : cmpLL (L.drop k) (M.drop k) = -1 := by
  rw [List.drop_eq_nil_of_le (by omega), List.drop_eq_getElem_cons hy]; rfl
theorem cmpLL_right {L M : List (List W)} {k : Nat} (hx : k < L.length) (hy : k = M.length) : cmpLL (L.drop k) (M.drop k) = 1 := by
  rw [show M.drop k = [] from List.drop_eq_nil_of_le (by omega), List.drop_eq_getElem_cons hx]; rfl
theorem cmpLL_both {L M : List (List W)} {k : Nat} (hx : k = L.length) (hy : k = M.length) : cmpLL (L.drop k) (M.drop k) = 0 := by
  rw [List.drop_eq_nil_of_le (by omega), List.drop_eq_nil_of_le (by omega)]; rfl
/-- a slice of sets -/
structure RowsAt (q : Option Addr) (m c : Nat) (L : List (List W)) (w : World) : Prop where
  mk' :: (all : m = L.length ∧ m ≤ 100 ∧ m ≤ c ∧ c ≤ maxLen ∧ (∀ xs ∈ L, xs.length = 16) ∧ (L = [] ∨ ∃ b off, q = some ⟨b, off, none⟩ ∧ b < w.heap.size ∧ ∀ i xs, L[i]? = some xs → w.rangeAt b (off + i * 16) (rowW xs).toList))
theorem RowsAt.below {W w : World} {q : Option Addr} {m c : Nat} {L : List (List Bits.W)} (h : RowsAt q m c L W) (hb : Below W.heap.size W w) : RowsAt q m c L w := by
  obtain ⟨h1, h2, h3, h4, h5, h6⟩ := h.all
  refine ⟨h1, h2, h3, h4, h5, ?_⟩
  rcases h6 with h | ⟨b, off, hq, hbs, hc⟩
  · exact .inl h
  · exact .inr ⟨b, off, hq, Nat.lt_of_lt_of_le hbs hb.size, fun i xs hx j v hv => (hb.cell hbs).trans (hc i xs hx j v hv)⟩
/-- a slice of lists -/
structure ListsAt (q : Option Addr) (m c : Nat) (L : List (List W)) (w : World) : Prop where
  mk' :: (all : m = L.length ∧ m ≤ 100 ∧ m ≤ c ∧ c ≤ maxLen ∧ (L = [] ∨ ∃ b off, q = some ⟨b, off, none⟩ ∧ b < w.heap.size ∧ ∀ i xs, L[i]? = some xs → ∃ q' m' c', w.cell? ⟨b, off + i, none⟩ = some (.slice q' m' c') ∧ IsAt q' m' c' (elems xs) w))
theorem ListsAt.below {W w : World} {q : Option Addr} {m c : Nat} {L : List (List Bits.W)} (h : ListsAt q m c L W) (hb : Below W.heap.size W w) : ListsAt q m c L w := by
  obtain ⟨h1, h2, h3, h4, h6⟩ := h.all
  refine ⟨h1, h2, h3, h4, ?_⟩
  rcases h6 with h | ⟨b, off, hq, hbs, hc⟩
  · exact .inl h
  · refine .inr ⟨b, off, hq, Nat.lt_of_lt_of_le hbs hb.size, fun i xs hx => ?_⟩
    obtain ⟨q', m', c', h7, h8⟩ := hc i xs hx
    exact ⟨q', m', c', (hb.cell hbs).trans h7, h8.below hb⟩
theorem cmp_at {q q2 : Option Addr} {m c m2 c2 : Nat} {l p : List Int} {w : World} (h : IsAt q m c l w) (h2 : IsAt q2 m2 c2 p w) :
    Calls Tryd.prog 40 #[.slice q m c, .slice q2 m2 c2] w fun e w' => e = .returned (.int .i64 (cmpL l p)) ∧ ∃ x, w' = beyond w x :=
  cmp_calls h.all.1 (by have := h.all.2.1; omega) h.all.2.2.2.2 h2.all.1 (by have := h2.all.2.1; omega) h2.all.2.2.2.2
theorem cmpset_calls {xs ys : List W} (hx : xs.length = 16) (hy : ys.length = 16) (w : World) :
    Calls Tryd.prog 39 #[.agg (rowW xs), .agg (rowW ys)] w fun e w' => e = .returned (.int .i64 (cmpL (elems xs) (elems ys))) ∧ ∃ y, w' = beyond w y := by
  have := bits.cmp_calls (ps := rowI xs) (qs := rowI ys) (by rw [rowI_len]; exact hx) (by rw [rowI_len]; exact hy) w
  rwa [cmpV_elems hx hy, rowV_rowW, rowV_rowW] at this
theorem wpList_load_elem {P : Program} {ops : Array Oper} {rest : List Oper} {op : Oper} {a : Act} {w : World} {Q : Exit → Act → World → Prop} (hgd : op.guard = none) (ty : TypeId) (x : Operand) (ho : op.op = .load ty x)
    (b o : Nat) (hx : a.eval x = .pointer (some ⟨b, o, none⟩)) (cs : Array Value) (d : TypeDesc) (hc : w.rangeAt b o cs.toList)
    (hu : P.underlying ty = some d) (hd : d.isRow = true) (hi : (P.info? ty).map (·.size) = some cs.size)
    (h : wpList P ops Q rest (a.put op.dst (.agg cs)) w) : wpList P ops Q (op :: rest) a w :=
  wpList_load_mid hgd ty x ho b o hx cs.toList d hc hu hd (by simpa using hi) (by simpa using h)
theorem wpQuiet_load_elem {P : Program} {ops : Array Oper} {C : World → Prop} {Q : Act → Prop} {a : Act} {o : Oper} {rest : List Oper} (hw : Region.wanted o (yielded ops a.tmps) = true) (ty : TypeId) (x : Operand) (ho : o.op = .load ty x)
    (b off : Nat) (cells : Array Value) (d : TypeDesc) (hx : a.eval x = .pointer (some ⟨b, off, none⟩))
    (hc : ∀ w, C w → w.rangeAt b off cells.toList) (hu : P.underlying ty = some d) (hd : d.isRow = true) (hi : (P.info? ty).map (·.size) = some cells.size)
    (hk : wpQuiet P ops C Q rest (a.put o.dst (.agg cells))) : wpQuiet P ops C Q (o :: rest) a :=
  BigFrame.wpQuiet_want hw fun K hK => ⟨_, fun w hC => by
    unfold Oper.quietAt execOp
    simp only [ho, hx, Instr.loadAt, Instr.sureAddr, Sem.run_bind, Sem.run_pure, Result.andThen_ok, run_loadVar_mid w b off ty cells.toList d (hc w hC) hu hd (by simpa using hi)]
    exact ⟨rfl, by simp⟩, hK _ hk⟩
theorem range_below {w w' : World} {b o : Nat} {cs : List Value} (h : w.rangeAt b o cs) (hb : Below w.heap.size w w') (hbs : b < w.heap.size) : w'.rangeAt b o cs := fun j v hv => (hb.cell hbs).trans (h j v hv)
theorem cmpL_range (a b : List Int) : -1 ≤ cmpL a b ∧ cmpL a b ≤ 1 := by
  have : ∀ l m : List Int, -1 ≤ cmpR l m ∧ cmpR l m ≤ 1 := by
    intro l
    induction l with
    | nil => intro m; cases m <;> simp [cmpR]
    | cons x l ih =>
      intro m
      cases m with
      | nil => simp [cmpR]
      | cons y m =>
        simp only [cmpR]
        split
        · omega
        · split
          · omega
          · exact ih m
  exact this _ _
theorem cmpsl_calls {q q2 : Option Addr} {m c m2 c2 : Nat} {L M : List (List W)} {w : World} (h : RowsAt q m c L w) (h2 : RowsAt q2 m2 c2 M w) :
    Calls Tryd.prog 41 #[.slice q m c, .slice q2 m2 c2] w fun e w' => e = .returned (.int .i64 (cmpLL L M)) ∧ ∃ x, w' = beyond w x := by
  have HA := Lib.hid h
  have HA2 := Lib.hid h2
  have hm := h.all.2.1
  have hm2 := h2.all.2.1
  clear h h2
  by_cases hmm : (m : Int) ≤ (m2 : Int)
  all_goals
    go_enter Tryd.func41, Tryd.ntmps41
    go_wp2
    go_loopw [12] (fun i wr => ∃ k : Nat, k ≤ m ∧ k ≤ m2 ∧ i = .int .i64 k ∧ Hid (cmpLL L M = cmpLL (L.drop k) (M.drop k)) ∧ ∃ y, wr = beyond w y) (fun i _ => m + m2 - (intOf i).toNat)
    case atStart => exact ⟨0, Nat.zero_le _, Nat.zero_le _, rfl, Lib.hid rfl, beyond_of (by repeat (first | assumption | exact Below.refl _ _ | exact below_beyond _ _ | refine Below.beyond ?_ (by (try simp [size_beyond]) <;> omega) _ | refine Below.drew ?_ | refine Go.Rw.below_drewN ?_ _ | refine Go.Rw.below_setRow ?_ (by (try simp [size_beyond]) <;> omega) _ | refine Below.alloc ?_ (by (try simp [size_beyond]) <;> omega) _ | refine Below.setCell ?_ (by (try simp [size_beyond]) <;> omega) _))⟩
    case round =>
      obtain ⟨k, hk, hk2, rfl, HC, y, rfl⟩ := hrel
      by_cases hlt : k < m ∧ k < m2
      · obtain ⟨hlt1, hlt2⟩ := hlt
        rcases HA.out.all.2.2.2.2.2 with h0 | ⟨b, off, rfl, hbs, hcell⟩
        · exfalso; have := HA.out.all.1; rw [h0] at this; simp at this; omega
        rcases HA2.out.all.2.2.2.2.2 with h0 | ⟨b2, off2, rfl, hbs2, hcell2⟩
        · exfalso; have := HA2.out.all.1; rw [h0] at this; simp at this; omega
        obtain ⟨xs, hx⟩ : ∃ xs, L[k]? = some xs := ⟨_, List.getElem?_eq_getElem (by rw [← HA.out.all.1]; exact hlt1)⟩
        obtain ⟨ys, hy⟩ : ∃ ys, M[k]? = some ys := ⟨_, List.getElem?_eq_getElem (by rw [← HA2.out.all.1]; exact hlt2)⟩
        have hr1 : (beyond w y).rangeAt b (off + k * 16) (rowW xs).toList := fun j v hv => ((below_beyond w y).cell hbs).trans (hcell k xs hx j v hv)
        have hr2 : (beyond w y).rangeAt b2 (off2 + k * 16) (rowW ys).toList := fun j v hv => ((below_beyond w y).cell hbs2).trans (hcell2 k ys hy j v hv)
        have HXL := Lib.hid (HA.out.all.2.2.2.2.1 xs (List.mem_of_getElem? hx))
        have HYL := Lib.hid (HA2.out.all.2.2.2.2.1 ys (List.mem_of_getElem? hy))
        have HS := Lib.hid (cmpLL_step hx hy)
        have HR1 := Lib.hid hr1
        have HR2 := Lib.hid hr2
        have HZ1 := Lib.hid (show (rowW xs).size = 16 by rw [rowW_size, HXL.out])
        have HZ2 := Lib.hid (show (rowW ys).size = 16 by rw [rowW_size, HYL.out])
        clear hr1 hr2 hcell hcell2 hx hy
        have hb1 : b < (beyond w y).heap.size := Nat.lt_of_lt_of_le hbs (below_beyond w y).size
        have hb2 : b2 < (beyond w y).heap.size := Nat.lt_of_lt_of_le hbs2 (below_beyond w y).size
        have HCC := Lib.hid (fun w => cmpset_calls HXL.out HYL.out w)
        have hcr := cmpL_range (elems xs) (elems ys)
        generalize cmpL (elems xs) (elems ys) = cv at HS HCC hcr
        by_cases hcv : cv = 0
        · subst hcv
          go_wp2
          refine wp_region_beyond (by kernel_rfl) (by kernel_rfl) ?_
          iterate 3 (go_big_quiet_step (fail))
          refine wpQuiet_load_elem (by kernel_rfl) 25 (.tmp 17) rfl _ _ (rowW xs) _ rfl (by rintro _ ⟨x, rfl⟩; exact range_below HR1.out (below_beyond _ _) hb1) Tryd.underlying25 rfl (by rw [HZ1.out]; exact sInfo) ?_
          simp only [Act.put, List.setIfInBounds_toArray, List.set_cons_succ, List.set_cons_zero]
          iterate 3 (go_big_quiet_step (fail))
          refine wpQuiet_load_elem (by kernel_rfl) 25 (.tmp 21) rfl _ _ (rowW ys) _ rfl (by rintro _ ⟨x, rfl⟩; exact range_below HR2.out (below_beyond _ _) hb2) Tryd.underlying25 rfl (by rw [HZ2.out]; exact sInfo) ?_
          simp only [Act.put, List.setIfInBounds_toArray, List.set_cons_succ, List.set_cons_zero]
          repeat (go_big_quiet_step ((go_at_call 39; exact quiet_beyond (HCC.out _))))
          refine wpQuiet_nil ?_
          rintro _ ⟨x5, rfl⟩
          go_wp2
          go_roundw
          case rel => exact ⟨k + 1, by omega, by omega, by go_num, Lib.hid (by rw [HC.out, HS.out]; simp), beyond_of (by repeat (first | assumption | exact Below.refl _ _ | exact below_beyond _ _ | refine Below.beyond ?_ (by (try simp [size_beyond]) <;> omega) _ | refine Below.drew ?_ | refine Go.Rw.below_drewN ?_ _ | refine Go.Rw.below_setRow ?_ (by (try simp [size_beyond]) <;> omega) _ | refine Below.alloc ?_ (by (try simp [size_beyond]) <;> omega) _ | refine Below.setCell ?_ (by (try simp [size_beyond]) <;> omega) _))⟩
          case measure => simp [intOf] <;> omega
        · have hcb : (cv == 0) = false := beq_eq_false_iff_ne.2 hcv
          have hcb2 : (cv != 0) = true := bne_iff_ne.2 hcv
          have HCV := Lib.hid hcv; clear hcv
          go_wp2
          refine wp_region_beyond (by kernel_rfl) (by kernel_rfl) ?_
          iterate 3 (go_big_quiet_step (fail))
          refine wpQuiet_load_elem (by kernel_rfl) 25 (.tmp 17) rfl _ _ (rowW xs) _ rfl (by rintro _ ⟨x, rfl⟩; exact range_below HR1.out (below_beyond _ _) hb1) Tryd.underlying25 rfl (by rw [HZ1.out]; exact sInfo) ?_
          simp only [Act.put, List.setIfInBounds_toArray, List.set_cons_succ, List.set_cons_zero]
          iterate 3 (go_big_quiet_step (fail))
          refine wpQuiet_load_elem (by kernel_rfl) 25 (.tmp 21) rfl _ _ (rowW ys) _ rfl (by rintro _ ⟨x, rfl⟩; exact range_below HR2.out (below_beyond _ _) hb2) Tryd.underlying25 rfl (by rw [HZ2.out]; exact sInfo) ?_
          simp only [Act.put, List.setIfInBounds_toArray, List.set_cons_succ, List.set_cons_zero]
          repeat (go_big_quiet_step ((go_at_call 39; exact quiet_beyond (HCC.out _))))
          refine wpQuiet_nil ?_
          rintro _ ⟨x5, rfl⟩
          go_wp2
          go_ret
          exact ⟨ret_int (by rw [HC.out, HS.out, if_neg HCV.out]), beyond_of (by repeat (first | assumption | exact Below.refl _ _ | exact below_beyond _ _ | refine Below.beyond ?_ (by (try simp [size_beyond]) <;> omega) _ | refine Below.drew ?_ | refine Go.Rw.below_drewN ?_ _ | refine Go.Rw.below_setRow ?_ (by (try simp [size_beyond]) <;> omega) _ | refine Below.alloc ?_ (by (try simp [size_beyond]) <;> omega) _ | refine Below.setCell ?_ (by (try simp [size_beyond]) <;> omega) _))⟩
      · by_cases h1 : k < m
        · have hke : k = m2 := by omega
          first
          | (exfalso; omega)
          | (have HS := Lib.hid (cmpLL_right (L := L) (M := M) (k := k) (by rw [← HA.out.all.1]; exact h1) (by rw [← HA2.out.all.1]; exact hke))
             subst hke
             go_wp2
             go_ret
             exact ⟨ret_int (by rw [HC.out, HS.out]), beyond_of (by repeat (first | assumption | exact Below.refl _ _ | exact below_beyond _ _ | refine Below.beyond ?_ (by (try simp [size_beyond]) <;> omega) _ | refine Below.drew ?_ | refine Go.Rw.below_drewN ?_ _ | refine Go.Rw.below_setRow ?_ (by (try simp [size_beyond]) <;> omega) _ | refine Below.alloc ?_ (by (try simp [size_beyond]) <;> omega) _ | refine Below.setCell ?_ (by (try simp [size_beyond]) <;> omega) _))⟩)
        · have hke : k = m := by omega
          by_cases h2 : k < m2
          · first
            | (exfalso; omega)
            | (have HS := Lib.hid (cmpLL_left (L := L) (M := M) (k := k) (by rw [← HA.out.all.1]; exact hke) (by rw [← HA2.out.all.1]; exact h2))
               subst hke
               go_wp2
               go_ret
               exact ⟨ret_int (by rw [HC.out, HS.out]), beyond_of (by repeat (first | assumption | exact Below.refl _ _ | exact below_beyond _ _ | refine Below.beyond ?_ (by (try simp [size_beyond]) <;> omega) _ | refine Below.drew ?_ | refine Go.Rw.below_drewN ?_ _ | refine Go.Rw.below_setRow ?_ (by (try simp [size_beyond]) <;> omega) _ | refine Below.alloc ?_ (by (try simp [size_beyond]) <;> omega) _ | refine Below.setCell ?_ (by (try simp [size_beyond]) <;> omega) _))⟩)
          · have hke2 : k = m2 := by omega
            first
            | (exfalso; omega)
            | (have HS := Lib.hid (cmpLL_both (L := L) (M := M) (k := k) (by rw [← HA.out.all.1]; exact hke) (by rw [← HA2.out.all.1]; exact hke2))
               subst hke
               subst hke2
               go_wp2
               go_ret
               exact ⟨ret_int (by rw [HC.out, HS.out]), beyond_of (by repeat (first | assumption | exact Below.refl _ _ | exact below_beyond _ _ | refine Below.beyond ?_ (by (try simp [size_beyond]) <;> omega) _ | refine Below.drew ?_ | refine Go.Rw.below_drewN ?_ _ | refine Go.Rw.below_setRow ?_ (by (try simp [size_beyond]) <;> omega) _ | refine Below.alloc ?_ (by (try simp [size_beyond]) <;> omega) _ | refine Below.setCell ?_ (by (try simp [size_beyond]) <;> omega) _))⟩)
end Go.Proofs.YtjneboajbmabbaaDoor.ref1

namespace Go.Proofs.YtjneboajbmabbaaDoor.ref1
open Go.RowKit Go.Own Go.Rw Go.SetL Go.Bits Go.Tz
set_option maxHeartbeats 1000000
set_option maxRecDepth 100000
attribute [local irreducible] beyond grow over

theorem rI : (Tryd.prog.info? 27).map (fun i => (i.zero, i.size, i.bytes)) = some (some (.slice none 0 0), 1, 24) := by kernel_rfl
theorem lU : Tryd.prog.underlying 54 = some (.slice 27) := Tryd.underlying54
theorem owns_below {w w' : World} {B : Nat} {T : TypeId} {v : Value} {n : Nat} {xs : List Value} (h : w.ownsRow B T 1 v n xs) (hb : Below w.heap.size w w') : w'.ownsRow B T 1 v n xs := by
  refine ⟨h.1, ?_⟩
  rcases h.2 with hn | ⟨g, cap, cur, rfl, hb', hgg, rest⟩
  · exact .inl hn
  · exact .inr ⟨g, cap, cur, rfl, hb', (hb.block g (Array.getElem?_eq_some_iff.1 hgg).1).trans hgg, rest⟩
/-- a slice whose block, if it has one, is a row of this type -/
def TypedAt (T : TypeId) (q : Option Addr) (w : World) : Prop := ∀ b o s, q = some ⟨b, o, s⟩ → ∃ cs, w.heap[b]? = some (.cells cs T (0, 0))
theorem TypedAt.below {T : TypeId} {q : Option Addr} {w w' : World} (h : TypedAt T q w) (hb : Below w.heap.size w w') : TypedAt T q w' := fun b o s e => by
  obtain ⟨cs, hc⟩ := h b o s e
  exact ⟨cs, (hb.block b (Array.getElem?_eq_some_iff.1 hc).1).trans hc⟩
def GivesT (T : TypeId) (W : World) (l : List Int) (e : Ending) (w' : World) : Prop := ∃ q m c, e = .returned (.slice q m c) ∧ m = l.length ∧ m ≤ c ∧ c ≤ maxLen ∧ Reads w' q l ∧ Below W.heap.size W w' ∧ TypedAt T q w'
theorem giveT_of {W w : World} {B : Nat} {T : TypeId} {v : Value} {l : List Int} (h : Own w B T v l) (hb : Below W.heap.size W w) : GivesT T W l (.returned v) w := by
  obtain ⟨q, c, rfl, h1, h2, h3⟩ := h.slice
  refine ⟨q, _, c, rfl, rfl, h1, h2, h3, hb, ?_⟩
  rintro b o s rfl
  rcases h.2 with ⟨he, hk⟩ | ⟨g, cap, cur, he, hb', hgg, hn, hc, hs, ht⟩
  · cases he
  · cases he; exact ⟨cur, hgg⟩
theorem to_typed_calls {xs : List W} (hx : xs.length = 16) (w : World) :
    Calls Tryd.prog 18 #[.agg (rowW xs)] w (GivesT 3 w (elems xs)) := by
  have HX := Lib.hid hx; clear hx
  have hz : (rowW xs).size = 16 := by rw [rowW_size, HX.out]
  have HA := Lib.hid (fun (k : Nat) (h : k < 1024) => rowW_at (xs := xs) (k := k / 64) (by rw [HX.out]; omega))
  have HE := Lib.hid (show elems xs = ofN (bitAt xs) 1024 from rfl)
  rw [HE.out]
  generalize rowW xs = cs at hz HA ⊢
  have HZ := Lib.hid hz; clear hz
  go_enter Tryd.func18, Tryd.ntmps18
  go_wp2
  go_loopw [3, 4] (fun v i wr => ∃ k : Nat, k ≤ 1024 ∧ i = .int .i64 k ∧ Hid (Own wr (w.heap.size + 1) 3 v (ofN (bitAt xs) k)) ∧ Hid (Below (w.heap.size + 1) (w.alloc (.cells cs 25)) wr))
    (fun _ i _ => 1024 - (intOf i).toNat)
  case atStart => exact ⟨0, Nat.zero_le _, rfl, Lib.hid (by have := Own.made (w := w.alloc (.cells cs 25)) (B := w.heap.size + 1) 3 (by simp); rw [ofN_zero]; simpa using this), Lib.hid (by repeat (first | assumption | exact Below.refl _ _ | exact below_beyond _ _ | refine Below.beyond ?_ (by (try simp [size_beyond]) <;> omega) _ | refine Below.drew ?_ | refine Go.Rw.below_drewN ?_ _ | refine Go.Rw.below_setRow ?_ (by (try simp [size_beyond]) <;> omega) _ | refine Below.alloc ?_ (by (try simp [size_beyond]) <;> omega) _ | refine Below.setCell ?_ (by (try simp [size_beyond]) <;> omega) _))⟩
  case round =>
    obtain ⟨k, hk, rfl, HO, HB⟩ := hrel
    have hB : w.heap.size + 1 ≤ wr.heap.size := by have := HB.out.size; simpa using this
    have HL : (ofN (bitAt xs) k).length ≤ 1000000 := Nat.le_trans (ofN_len _ _) (by omega)
    by_cases hlt : k < 1024
    · have hc : wr.cell? ⟨w.heap.size, k / 64, none⟩ = some (.int .u64 (toI (xs.getD (k / 64) 0))) := by
        rw [HB.out.cell (p := ⟨w.heap.size, k / 64, none⟩) (by simp)]
        simp only [go_sem]; exact HA.out k hlt
      have ht := test_eq (xs.getD (k / 64) 0) (k % 64)
      rw [show (xs.getD (k / 64) 0).getLsbD (k % 64) = bitAt xs k from rfl] at ht
      have hu0 := toI_nonneg (xs.getD (k / 64) 0)
      have hu1 := toI_lt (xs.getD (k / 64) 0)
      generalize toI (xs.getD (k / 64) 0) = u at hc ht hu0 hu1
      cases hp : bitAt xs k
      all_goals
        rw [hp] at ht
        have HP := Lib.hid hp; clear hp
      · go_wp2
        go_roundw
        case rel => exact ⟨k + 1, by omega, by go_num, Lib.hid (by rw [ofN_no HP.out]; exact HO.out), HB⟩
        case measure => simp [intOf]; omega
      · go_wp2_with (at_builtin; refine wpList_app wr rfl _ _ _ rfl uI tI HO.out hB HL k rfl rfl ?_)
        intro v' w' hown hbel
        have HO2 := Lib.hid hown; clear hown
        have HB2 := Lib.hid (HB.out.trans hbel); clear hbel
        go_wp2
        go_roundw
        case rel => exact ⟨k + 1, by omega, by go_num, Lib.hid (by rw [ofN_yes HP.out]; exact HO2.out), HB2⟩
        case measure => simp [intOf]; omega
    · obtain rfl : k = 1024 := by omega
      go_wp2
      go_ret
      exact giveT_of HO.out (((Below.refl _ _).alloc (Nat.le_refl _) _).trans (HB.out.mono (by omega)))
theorem to_typed {xs : List W} (hx : xs.length = 16) (w : World) : Calls Tryd.prog 18 #[.agg (rowW xs)] w fun e w' => ∃ q m c y, e = .returned (.slice q m c) ∧ w' = beyond w y ∧ IsAt q m c (elems xs) w' ∧ TypedAt 3 q w' :=
  (to_typed_calls hx w).mono fun e w' h => by
    obtain ⟨q, m, c, rfl, h1, h2, h3, h4, h5, h6⟩ := h
    obtain ⟨y, rfl⟩ := beyond_of h5
    exact ⟨q, m, c, y, rfl, rfl, ⟨h1, by rw [h1]; exact elems_len xs, h2, h3, h4⟩, h6⟩
/-- the values that a slice of lists holds -/
def Held (L : List (List W)) (k : Nat) (vs : List Value) (w : World) : Prop := ∀ i xs, i < k → L[i]? = some xs → ∃ q m c, vs[i]? = some (.slice q m c) ∧ IsAt q m c (elems xs) w ∧ TypedAt 3 q w
theorem Held.below {L : List (List Bits.W)} {k : Nat} {vs : List Value} {w w' : World} (h : Held L k vs w) (hb : Below w.heap.size w w') : Held L k vs w' := fun i xs hi hx => by
  obtain ⟨q, m, c, h1, h2, h3⟩ := h i xs hi hx; exact ⟨q, m, c, h1, h2.below hb, h3.below hb⟩
theorem Held.snoc {L : List (List Bits.W)} {k : Nat} {vs : List Value} {w : World} (h : Held L k vs w) (hl : vs.length = k) {xs : List Bits.W} (hx : L[k]? = some xs) {q : Option Addr} {m c : Nat} (hi : IsAt q m c (elems xs) w) (ht : TypedAt 3 q w) : Held L (k + 1) (vs ++ [.slice q m c]) w := fun i ys hi' hy => by
  by_cases e : i = k
  · subst e; rw [hx] at hy; cases hy; exact ⟨q, m, c, by rw [← hl]; simp, hi, ht⟩
  · obtain ⟨q2, m2, c2, h1, h2⟩ := h i ys (by omega) hy
    exact ⟨q2, m2, c2, by rw [List.getElem?_append_left (by omega)]; exact h1, h2⟩
theorem Held.grown {L : List (List Bits.W)} {k : Nat} {vs : List Value} {w w' : World} (h : Held L k vs w) {B : Nat} {v : Value} {n : Nat} {us : List Value} (ho : w.ownsRow B 27 1 v n us) (hg : w.grownBy w' v.ownBlock) : Held L k vs w' := fun i xs hi hx => by
  obtain ⟨q, m, c, h1, h2, h3⟩ := h i xs hi hx
  have hk : ∀ b o s, q = some ⟨b, o, s⟩ → w'.heap[b]? = w.heap[b]? := fun b o s e => by
    obtain ⟨cs, hc⟩ := h3 b o s e
    refine hg.block b (Array.getElem?_eq_some_iff.1 hc).1 fun eb => ?_
    rcases ho.2 with ⟨rfl, _⟩ | ⟨g, cap, cur, rfl, _, hgg, _⟩
    · cases eb
    · cases eb
      rw [hgg] at hc
      have ht := Obj.cells.inj (Option.some.inj hc) |>.2.1
      exact absurd ht (by decide)
  refine ⟨q, m, c, h1, ⟨h2.all.1, h2.all.2.1, h2.all.2.2.1, h2.all.2.2.2.1, ?_⟩, fun b o s e => by
    obtain ⟨cs, hc⟩ := h3 b o s e; exact ⟨cs, (hk b o s e).trans hc⟩⟩
  rcases h2.all.2.2.2.2 with hr | ⟨b, off, hq, hb, hc⟩
  · exact .inl hr
  · exact .inr ⟨b, off, hq, Nat.lt_of_lt_of_le hb hg.size, fun i x hx => by rw [World.cell?_of_block (hk b off none hq)]; exact hc i x hx⟩
theorem cell_newV (w : World) (y : Value) (T : TypeId) : ∀ (j : Nat) (u : Value), [y][j]? = some u → (w.alloc (.cells #[y] T)).cell? ((⟨w.heap.size, 0, none⟩ : Addr).add j) = some u := by
  intro j u hu
  match j with
  | 0 => simp at hu; subst hu; simp [go_sem, Addr.add]
  | j + 1 => simp at hu
/-- what Lists hands back -/
def RetLL (W : World) (L : List (List Bits.W)) (e : Ending) (w' : World) : Prop := ∃ q m c y, e = .returned (.slice q m c) ∧ w' = beyond W y ∧ ListsAt q m c L w'
theorem lists_calls {q : Option Addr} {m c : Nat} {L : List (List W)} {w : World} (h : RowsAt q m c L w) :
    Calls Tryd.prog 43 #[.slice q m c] w (RetLL w L) := by
  have HA := Lib.hid h
  have hm := h.all.2.1
  clear h
  obtain ⟨i0, hi, hz0, hz1, hz2⟩ := info_parts rI
  have Hi := Lib.hid hi; clear hi
  go_enter Tryd.func43, Tryd.ntmps43
  go_wp2
  go_loopw [3, 4] (fun v i wr => ∃ k : Nat, k ≤ m ∧ i = .int .i64 k ∧ ∃ vs : List Value, Hid (vs.length = k) ∧ Hid (wr.ownsRow w.heap.size 27 1 v k vs) ∧ Hid (Held L k vs wr) ∧ Hid (Below w.heap.size w wr)) (fun _ i _ => m - (intOf i).toNat)
  case atStart => exact ⟨0, Nat.zero_le _, rfl, [], Lib.hid rfl, Lib.hid (World.ownsRow_nil _ _ _ _), Lib.hid (fun i xs h => absurd h (Nat.not_lt_zero _)), Lib.hid (by repeat (first | assumption | exact Below.refl _ _ | exact below_beyond _ _ | refine Below.beyond ?_ (by (try simp [size_beyond]) <;> omega) _ | refine Below.drew ?_ | refine Go.Rw.below_drewN ?_ _ | refine Go.Rw.below_setRow ?_ (by (try simp [size_beyond]) <;> omega) _ | refine Below.alloc ?_ (by (try simp [size_beyond]) <;> omega) _ | refine Below.setCell ?_ (by (try simp [size_beyond]) <;> omega) _))⟩
  case round =>
    obtain ⟨k, hk, rfl, vs, HV, HO, HH, HB⟩ := hrel
    have hB : w.heap.size ≤ wr.heap.size := HB.out.size
    by_cases hlt : k < m
    · rcases HA.out.all.2.2.2.2.2 with h0 | ⟨b, off, rfl, hbs, hcell⟩
      · exfalso; have := HA.out.all.1; rw [h0] at this; simp at this; omega
      obtain ⟨xs, hx⟩ : ∃ xs, L[k]? = some xs := ⟨_, List.getElem?_eq_getElem (by rw [← HA.out.all.1]; exact hlt)⟩
      have HR1 := Lib.hid (show wr.rangeAt b (off + k * 16) (rowW xs).toList from fun j v hv => (HB.out.cell hbs).trans (hcell k xs hx j v hv))
      have HXL := Lib.hid (HA.out.all.2.2.2.2.1 xs (List.mem_of_getElem? hx))
      have HZ1 := Lib.hid (show (rowW xs).size = 16 by rw [rowW_size, HXL.out])
      have HX := Lib.hid hx; clear hx hcell
      go_wp2_with (refine wpList_load_elem rfl 25 (.tmp 14) rfl _ _ rfl (rowW xs) _ HR1.out Tryd.underlying25 rfl (by rw [HZ1.out]; exact sInfo) ?_)
      go_at_call 18
      refine (to_typed HXL.out _).mono ?_
      rintro e w1 ⟨q1, m1, c1, y1, rfl, rfl, H1, T1⟩
      go_wp2_with (at_builtin; refine wpList_append_own _ rfl _ _ 54 rfl w.heap.size 27 i0 (.slice none 0 0) 1 24 lU Hi.out hz0 hz1 hz2 rfl (by decide) _ k vs rfl (World.ownsRow.alloc (owns_below HO.out (below_beyond _ _)) _) ⟨(beyond wr y1).heap.size, 0, none⟩ 1 1 [.slice q1 m1 c1] rfl rfl (cell_newV _ _ _) (by intro u hu; simp at hu; subst hu; rfl) (by unfold maxLen; omega) (by omega) (by simp [size_beyond]; omega) ?_)
      intro v' w' hown hgr _
      have hb2 : Below (beyond wr y1).heap.size (beyond wr y1) ((beyond wr y1).alloc (.cells #[.slice q1 m1 c1] 27)) := (by repeat (first | assumption | exact Below.refl _ _ | exact below_beyond _ _ | refine Below.beyond ?_ (by (try simp [size_beyond]) <;> omega) _ | refine Below.drew ?_ | refine Go.Rw.below_drewN ?_ _ | refine Go.Rw.below_setRow ?_ (by (try simp [size_beyond]) <;> omega) _ | refine Below.alloc ?_ (by (try simp [size_beyond]) <;> omega) _ | refine Below.setCell ?_ (by (try simp [size_beyond]) <;> omega) _))
      have HB2 := Lib.hid (show Below w.heap.size w w' from ((HB.out.trans ((below_beyond wr y1).mono hB)).trans (hb2.mono (by simp [size_beyond]; omega))).grown hgr (by simp [size_beyond]; omega) (fun r hr => (HO.out.lt r hr).1))
      have HH2 := Lib.hid (show Held L (k + 1) (vs ++ [.slice q1 m1 c1]) w' from
        Held.grown (((HH.out.below (below_beyond wr y1)).snoc HV.out HX.out H1 T1).below hb2) (World.ownsRow.alloc (owns_below HO.out (below_beyond wr y1)) _) hgr)
      have HO2 := Lib.hid hown
      have HV2 := Lib.hid (show (vs ++ [Value.slice q1 m1 c1]).length = k + 1 by rw [List.length_append, HV.out]; rfl)
      clear hown hgr hb2
      go_wp2
      go_roundw
      case rel => exact ⟨k + 1, by omega, by go_num, _, HV2, HO2, HH2, HB2⟩
      case measure => simp [intOf]; omega
    · obtain rfl : k = m := by omega
      go_wp2
      go_ret
      have hb := HB.out
      obtain ⟨y, rfl⟩ := beyond_of hb
      rcases HO.out.2 with ⟨rfl, h0⟩ | ⟨g, cap, cur, rfl, hb', hgg, hn, hc, hs, ht⟩
      · exact ⟨_, _, _, _, rfl, rfl, ⟨by rw [← HA.out.all.1, h0], by omega, Nat.le_refl _, Nat.zero_le _, .inl (List.eq_nil_of_length_eq_zero (by rw [← HA.out.all.1, h0]))⟩⟩
      · refine ⟨_, _, _, _, rfl, rfl, ⟨HA.out.all.1, by omega, hn, hc, .inr ⟨g, 0, rfl, (Array.getElem?_eq_some_iff.1 hgg).1, fun i xs hx => ?_⟩⟩⟩
        have hik : i < k := by rw [HA.out.all.1]; exact (List.getElem?_eq_some_iff.1 hx).1
        obtain ⟨q2, m2, c2, h1, h2, _⟩ := HH.out i xs hik hx
        refine ⟨q2, m2, c2, ?_, h2⟩
        have e := World.ownsRow.cells HO.out (g := g) rfl i _ h1
        have e2 : (⟨g, 0, Option.none⟩ : Addr).add i = ⟨g, i, Option.none⟩ := by unfold Addr.add; split <;> simp_all
        rw [Nat.zero_add, ← e2]; exact e
theorem cmpls_calls {q q2 : Option Addr} {m c m2 c2 : Nat} {L M : List (List W)} {w : World} (h : ListsAt q m c L w) (h2 : ListsAt q2 m2 c2 M w) :
    Calls Tryd.prog 42 #[.slice q m c, .slice q2 m2 c2] w fun e w' => e = .returned (.int .i64 (cmpLL L M)) ∧ ∃ x, w' = beyond w x := by
  have HA := Lib.hid h
  have HA2 := Lib.hid h2
  have hm := h.all.2.1
  have hm2 := h2.all.2.1
  clear h h2
  go_enter Tryd.func42, Tryd.ntmps42
  go_wp2
  go_loopw [5] (fun i wr => ∃ k : Nat, k ≤ m ∧ k ≤ m2 ∧ i = .int .i64 k ∧ Hid (cmpLL L M = cmpLL (L.drop k) (M.drop k)) ∧ ∃ y, wr = beyond w y) (fun i _ => m + m2 - (intOf i).toNat)
  case atStart => exact ⟨0, Nat.zero_le _, Nat.zero_le _, rfl, Lib.hid rfl, beyond_of (by repeat (first | assumption | exact Below.refl _ _ | exact below_beyond _ _ | refine Below.beyond ?_ (by (try simp [size_beyond]) <;> omega) _ | refine Below.drew ?_ | refine Go.Rw.below_drewN ?_ _ | refine Go.Rw.below_setRow ?_ (by (try simp [size_beyond]) <;> omega) _ | refine Below.alloc ?_ (by (try simp [size_beyond]) <;> omega) _ | refine Below.setCell ?_ (by (try simp [size_beyond]) <;> omega) _))⟩
  case round =>
    obtain ⟨k, hk, hk2, rfl, HC, y, rfl⟩ := hrel
    by_cases hlt : k < m ∧ k < m2
    · obtain ⟨hlt1, hlt2⟩ := hlt
      rcases HA.out.all.2.2.2.2 with h0 | ⟨b, off, rfl, hbs, hcell⟩
      · exfalso; have := HA.out.all.1; rw [h0] at this; simp at this; omega
      rcases HA2.out.all.2.2.2.2 with h0 | ⟨b2, off2, rfl, hbs2, hcell2⟩
      · exfalso; have := HA2.out.all.1; rw [h0] at this; simp at this; omega
      obtain ⟨xs, hx⟩ : ∃ xs, L[k]? = some xs := ⟨_, List.getElem?_eq_getElem (by rw [← HA.out.all.1]; exact hlt1)⟩
      obtain ⟨ys, hy⟩ : ∃ ys, M[k]? = some ys := ⟨_, List.getElem?_eq_getElem (by rw [← HA2.out.all.1]; exact hlt2)⟩
      obtain ⟨q3, m3, c3, hc3, i3⟩ := hcell k xs hx
      obtain ⟨q4, m4, c4, hc4, i4⟩ := hcell2 k ys hy
      have hc3 := ((below_beyond w y).cell hbs).trans hc3
      have hc4 := ((below_beyond w y).cell hbs2).trans hc4
      have hin3 : inW b (beyond w y) = true := inW_iff.2 (Nat.lt_of_lt_of_le hbs (below_beyond w y).size)
      have hin4 : inW b2 (beyond w y) = true := inW_iff.2 (Nat.lt_of_lt_of_le hbs2 (below_beyond w y).size)
      have i3 := i3.below (below_beyond w y)
      have i4 := i4.below (below_beyond w y)
      have HS := Lib.hid (cmpLL_step hx hy)
      clear hcell hcell2 hx hy
      have HB := Lib.hid (show Below w.heap.size w (beyond w y) from below_beyond w y)
      have hsz := HB.out.size
      generalize beyond w y = wr at hc3 hc4 hin3 hin4 i3 i4 HB hsz ⊢
      have HCC := Lib.hid (fun x => cmp_at (i3.below (below_beyond wr x)) (i4.below (below_beyond wr x)))
      have hcr := cmpL_range (elems xs) (elems ys)
      generalize cmpL (elems xs) (elems ys) = cv at HS HCC hcr
      by_cases hcv : cv = 0
      · subst hcv
        go_wp2
        refine wp_region_beyond (by kernel_rfl) (by kernel_rfl) ?_
        repeat (go_big_quiet_step ((go_at_call 40; exact quiet_beyond (HCC.out _))))
        refine wpQuiet_nil ?_
        rintro _ ⟨x5, rfl⟩
        go_wp2
        go_roundw
        case rel => exact ⟨k + 1, by omega, by omega, by go_num, Lib.hid (by rw [HC.out, HS.out]; simp), beyond_of (HB.out.trans ((below_beyond wr x5).mono hsz))⟩
        case measure => simp [intOf] <;> omega
      · have hcb : (cv == 0) = false := beq_eq_false_iff_ne.2 hcv
        have hcb2 : (cv != 0) = true := bne_iff_ne.2 hcv
        have HCV := Lib.hid hcv; clear hcv
        go_wp2
        refine wp_region_beyond (by kernel_rfl) (by kernel_rfl) ?_
        repeat (go_big_quiet_step ((go_at_call 40; exact quiet_beyond (HCC.out _))))
        refine wpQuiet_nil ?_
        rintro _ ⟨x5, rfl⟩
        go_wp2
        go_ret
        exact ⟨ret_int (by rw [HC.out, HS.out, if_neg HCV.out]), beyond_of (HB.out.trans ((below_beyond wr x5).mono hsz))⟩
    · by_cases h1 : k < m
      · have hke : k = m2 := by omega
        have HS := Lib.hid (cmpLL_right (L := L) (M := M) (k := k) (by rw [← HA.out.all.1]; exact h1) (by rw [← HA2.out.all.1]; exact hke))
        subst hke
        go_wp2
        go_ret
        exact ⟨ret_int (by rw [HC.out, HS.out]), beyond_of (by repeat (first | assumption | exact Below.refl _ _ | exact below_beyond _ _ | refine Below.beyond ?_ (by (try simp [size_beyond]) <;> omega) _ | refine Below.drew ?_ | refine Go.Rw.below_drewN ?_ _ | refine Go.Rw.below_setRow ?_ (by (try simp [size_beyond]) <;> omega) _ | refine Below.alloc ?_ (by (try simp [size_beyond]) <;> omega) _ | refine Below.setCell ?_ (by (try simp [size_beyond]) <;> omega) _))⟩
      · have hke : k = m := by omega
        by_cases h2 : k < m2
        · have HS := Lib.hid (cmpLL_left (L := L) (M := M) (k := k) (by rw [← HA.out.all.1]; exact hke) (by rw [← HA2.out.all.1]; exact h2))
          subst hke
          go_wp2
          go_ret
          exact ⟨ret_int (by rw [HC.out, HS.out]), beyond_of (by repeat (first | assumption | exact Below.refl _ _ | exact below_beyond _ _ | refine Below.beyond ?_ (by (try simp [size_beyond]) <;> omega) _ | refine Below.drew ?_ | refine Go.Rw.below_drewN ?_ _ | refine Go.Rw.below_setRow ?_ (by (try simp [size_beyond]) <;> omega) _ | refine Below.alloc ?_ (by (try simp [size_beyond]) <;> omega) _ | refine Below.setCell ?_ (by (try simp [size_beyond]) <;> omega) _))⟩
        · have hke2 : k = m2 := by omega
          have HS := Lib.hid (cmpLL_both (L := L) (M := M) (k := k) (by rw [← HA.out.all.1]; exact hke) (by rw [← HA2.out.all.1]; exact hke2))
          subst hke
          subst hke2
          go_wp2
          go_ret
          exact ⟨ret_int (by rw [HC.out, HS.out]), beyond_of (by repeat (first | assumption | exact Below.refl _ _ | exact below_beyond _ _ | refine Below.beyond ?_ (by (try simp [size_beyond]) <;> omega) _ | refine Below.drew ?_ | refine Go.Rw.below_drewN ?_ _ | refine Go.Rw.below_setRow ?_ (by (try simp [size_beyond]) <;> omega) _ | refine Below.alloc ?_ (by (try simp [size_beyond]) <;> omega) _ | refine Below.setCell ?_ (by (try simp [size_beyond]) <;> omega) _))⟩
end Go.Proofs.YtjneboajbmabbaaDoor.ref1

namespace Go.Proofs.YtjneboajbmabbaaDoor.ref1
open Go.RowKit Go.Own Go.Rw Go.SetL Go.Bits Go.Tz Go.ChangeShapes Go.WideShapes Go.ChangeAt
set_option maxRecDepth 100000

theorem words_of {H : Type} {enc : TypeId × Value → H} {P : Program} {w : World} {base n : Nat} {spare : Nat → Bool} {held : Bool} {t e : TypeId} {cs : List Value} {x : DataW H × List MemPlace} {fuel : Nat}
    (hu : P.underlying t = some (.array n e)) (he : P.underlying e = some (.int .u64)) (hct : P.cellsOf t = n) (hce : P.cellsOf e = 1) (hf : DataW.trod enc P w base spare held fuel t cs = some x) :
    ∃ xs : List Bits.W, xs.length = n ∧ cs = (rowW xs).toList := by
  obtain ⟨ys, m, _, _, hlen, hyn, hall⟩ := DataW.trod_array hu hf
  have hcell : ∀ i, i < n → ∃ x : Bits.W, cs[i]? = some (Value.int .u64 (toI x)) := by
    intro i hi
    have h1 := hall i hi
    rw [hce, Nat.mul_one] at h1
    have hy : ys[i]? = some ys[i] := List.getElem?_eq_getElem (by omega)
    rw [hy] at h1
    obtain ⟨x, hx, _, hw⟩ := DataW.trod_int he h1
    have h0 := congrArg (·[0]?) hx
    have hh : IntKind.u64.has x := by have h := hw; simp [Lit.wf] at h; exact ⟨h.1, h.2⟩
    obtain ⟨y, rfl⟩ := toI_of hh
    exact ⟨y, by simpa using h0⟩
  obtain ⟨V, hV⟩ := Go.Deep.choose_lt (α := Bits.W) (p := fun i x => cs[i]? = some (Value.int .u64 (toI x))) hcell
  refine ⟨(List.range n).map V, by simp, ?_⟩
  have hn : cs.length = n := hlen.trans hct
  apply List.ext_getElem?
  intro i
  rcases Nat.lt_or_ge i n with hi | hi
  · rw [hV i hi]; simp [rowW, hi]
  · rw [List.getElem?_eq_none (by omega), List.getElem?_eq_none (by simp [rowW]; omega)]
theorem open_set {H : Type} {enc : TypeId × Value → H} {P : Program} {w : World} {r : Reach} {b0 base : Nat} {spare : Nat → Bool} {held : Bool} {t e : TypeId} {v : Value} {d : DataW H} {p : List MemPlace}
    (hu : P.underlying t = some (.array 16 e)) (he : P.underlying e = some (.int .u64)) (hct : P.cellsOf t = 16) (hce : P.cellsOf e = 1) (hv : Value.okWide P w r b0 t v) (h : DataW.Trod enc P w base spare held t v d p) :
    ∃ xs : List Bits.W, xs.length = 16 ∧ v = .agg (rowW xs) := by
  obtain ⟨xs, hl, rfl, hwf⟩ := Go.Own.open_array_ints hu he hct hce hv h
  refine ⟨xs.map (BitVec.ofInt 64), by simpa using hl, ?_⟩
  unfold rowW
  rw [List.map_map]
  congr 2
  refine List.map_congr_left fun x hx => ?_
  have hh : IntKind.u64.has x := by have h := hwf x hx; simp [Lit.wf] at h; exact ⟨h.1, h.2⟩
  obtain ⟨y, rfl⟩ := toI_of hh
  simp [ofInt_toI]
theorem open_rows {H : Type} {enc : TypeId × Value → H} {P : Program} {w : World} {r : Reach} {b0 base : Nat} {spare : Nat → Bool} {held : Bool} {t e u : TypeId} {v : Value} {d : DataW H} {p : List MemPlace}
    (hu : P.underlying t = some (.slice e)) (he : P.underlying e = some (.array 16 u)) (hw : P.underlying u = some (.int .u64)) (hce : P.cellsOf e = 16) (hcu : P.cellsOf u = 1) (hv : Value.okWide P w r b0 t v) (h : DataW.Trod enc P w base spare held t v d p) :
    ∃ (q : Option Addr) (n cap : Nat) (L : List (List Bits.W)), v = .slice q n cap ∧ n = L.length ∧ n ≤ cap ∧ cap ≤ maxLen ∧ (∀ xs ∈ L, xs.length = 16) ∧
      (L = [] ∨ ∃ b off, q = some ⟨b, off, none⟩ ∧ b < w.heap.size ∧ ∀ i xs, L[i]? = some xs → w.rangeAt b (off + i * 16) (rowW xs).toList) := by
  obtain ⟨a0, n0, c0, rfl⟩ := okWide_slice hu hv
  obtain ⟨fuel, hf⟩ := h
  have hcells : (Value.slice a0 n0 c0).cells.toList = [.slice a0 n0 c0] := by simp [Value.cells]
  rw [hcells] at hf
  rcases Go.Deep.open_slice hu hf with ⟨hcs, _⟩ | ⟨a, len, cap, m, n, D, Pl, hcs, _, hl, hm, hmm, _, hx⟩
  · simp at hcs
    obtain ⟨rfl, rfl, rfl⟩ := hcs
    exact ⟨none, 0, 0, [], rfl, rfl, Nat.le_refl _, Nat.zero_le _, by simp, .inl rfl⟩
  · simp at hcs
    obtain ⟨rfl, rfl, rfl⟩ := hcs
    have hle : n0 ≤ m := by rw [hmm]; split <;> omega
    rw [hce] at hx
    have hrow : ∀ i, i < n0 → ∃ xs : List Bits.W, xs.length = 16 ∧ ∀ j v, (rowW xs).toList[j]? = some v → w.cell? ((a.add (i * 16)).add j) = some v := by
      intro i hi
      obtain ⟨cs', h1, h2⟩ := hx i (by omega)
      obtain ⟨xs, hxl, rfl⟩ := words_of he hw hce hcu h2
      obtain ⟨_, hl16, hc⟩ := World.cells?_some h1
      refine ⟨xs, hxl, fun j v hj => ?_⟩
      have hj16 : j < 16 := by have := (List.getElem?_eq_some_iff.1 hj).1; rw [hl16] at this; exact this
      rw [hc j hj16]; exact hj
    obtain ⟨V, hV⟩ := Go.Deep.choose_lt (α := List Bits.W) (p := fun i xs => xs.length = 16 ∧ ∀ j v, (rowW xs).toList[j]? = some v → w.cell? ((a.add (i * 16)).add j) = some v) hrow
    refine ⟨some a, n0, c0, (List.range n0).map V, rfl, by simp, hl, hm, ?_, ?_⟩
    · intro xs hxs
      obtain ⟨i, hi, rfl⟩ := List.mem_map.1 hxs
      exact (hV i (List.mem_range.1 hi)).1
    · by_cases hn : 0 < n0
      · obtain ⟨b, off, spot⟩ := a
        have h00 := hV 0 hn
        obtain ⟨v0, hv0⟩ : ∃ v, (rowW (V 0)).toList[0]? = some v := ⟨_, List.getElem?_eq_getElem (by simp [rowW, h00.1])⟩
        have h0 := h00.2 0 v0 hv0
        rw [Nat.zero_mul, Addr.add_zero', Addr.add_zero'] at h0
        have hlt := World.block_lt_of_cell? w ⟨b, off, spot⟩ h0
        have hs : spot = none := by
          unfold World.cell? at h0
          cases spot with
          | none => rfl
          | some s => simp at h0; split at h0 <;> simp_all
        subst hs
        refine .inr ⟨b, off, rfl, hlt, fun i xs hxs j v hj => ?_⟩
        by_cases hi : i < n0
        · simp only [List.getElem?_map, List.getElem?_range hi, Option.map_some, Option.some.injEq] at hxs
          subst hxs
          have := (hV i hi).2 j v hj
          rw [Addr.add_mid, Addr.add_mid] at this
          exact this
        · rw [List.getElem?_eq_none (by simp; omega)] at hxs; cases hxs
      · obtain rfl : n0 = 0 := by omega
        exact .inl rfl
end Go.Proofs.YtjneboajbmabbaaDoor.ref1

namespace Go.Proofs.YtjneboajbmabbaaDoor.bitsetCompare
open Go.RowKit Go.Own Go.Rw Go.SetL Go.Bits Go.Proofs.YtjneboajbmabbaaDoor.ref1
set_option maxHeartbeats 1000000
set_option maxRecDepth 100000
attribute [local irreducible] beyond grow over

theorem sumsS : Can.RecOk Tryd.prog [0, 1, 2] (Can.knownSm 24 tab [0, 1, 2]) := Can.knownSm_ok pc (Can.noSm_ok) tabAt tabPlain knownTrue
/-- the examples hold in every world that comes behind one where the tables are laid -/
theorem known_calls {W : World} (hL : laidMetH Tryd.prog Rows.bitsetCompareRow.laid W) (X : World) (hb : Below W.heap.size W X) : Calls Tryd.prog 24 #[] X fun e w' => e = .returned (.bool true) ∧ ∃ y, w' = beyond X y := by
  have hk : Can.Known (H0 (Can.tyAt W)) (Can.onG [0, 1, 2]) X := by
    refine Can.known_onG fun g hg => ?_
    have hg' := hg
    simp only [List.mem_cons, List.not_mem_nil, or_false] at hg
    rcases hg with rfl | rfl | rfl
    · have h0 : W.heap[0]? = some (.cells (tab 0) (Can.tyAt W 0) (0, 0)) := Can.laid_tab hL (by kernel_rfl) (List.mem_of_getElem? (i := 1) rfl) (by kernel_rfl) (by kernel_rfl) (by decide +kernel)
      exact ⟨tab 0, Can.tyAt W 0, rfl, (hb.block 0 (Array.getElem?_eq_some_iff.1 h0).1).trans h0, by kernel_rfl⟩
    · have h0 : W.heap[1]? = some (.cells (tab 1) (Can.tyAt W 1) (0, 0)) := Can.laid_tab hL (by kernel_rfl) (List.mem_of_getElem? (i := 2) rfl) (by kernel_rfl) (by kernel_rfl) (by decide +kernel)
      exact ⟨tab 1, Can.tyAt W 1, rfl, (hb.block 1 (Array.getElem?_eq_some_iff.1 h0).1).trans h0, by kernel_rfl⟩
    · have h0 : W.heap[2]? = some (.cells (tab 2) (Can.tyAt W 2) (0, 0)) := Can.laid_tab hL (by kernel_rfl) (List.mem_of_getElem? (i := 0) rfl) (by kernel_rfl) (by kernel_rfl) (by decide +kernel)
      exact ⟨tab 2, Can.tyAt W 2, rfl, (hb.block 2 (Array.getElem?_eq_some_iff.1 h0).1).trans h0, by kernel_rfl⟩
  exact Can.true_callsS pc sumsS (n := 5) (by kernel_rfl) hk (Can.gl_onG _) (Can.plain_args (by kernel_rfl))
theorem part_nn {W : World} (hL : laidMetH Tryd.prog Rows.bitsetCompareRow.laid W) {xs ys : List Bits.W} (hx : xs.length = 16) (hy : ys.length = 16) {L M : List (List Bits.W)} {q3 : Option Addr} {m3 c3 : Nat} {q4 : Option Addr} {m4 c4 : Nat} (hl : m3 ≤ 20) (hm : m4 ≤ 20)
    (h3 : RowsAt q3 m3 c3 L W) (h4 : RowsAt q4 m4 c4 M W) :
    Calls Tryd.prog 6 #[.agg (rowW xs), .agg (rowW ys), .slice q3 m3 c3, .slice q4 m4 c4] W fun e w' => e = .returned (.bool true) ∧ ∃ x, w' = beyond W x := by
  have HX := Lib.hid hx; clear hx
  have HY := Lib.hid hy; clear hy
  have KK := Lib.hid (fun X hb => known_calls hL X hb); clear hL
  have HZ := Lib.hid (show (rowW xs).size = 16 by rw [rowW_size, HX.out])
  have HZ2 := Lib.hid (show (rowW ys).size = 16 by rw [rowW_size, HY.out])
  have HCP := Lib.hid (fun w => cmpset_calls HX.out HY.out w)
  have HCR := Lib.hid (fun (q q2 : Option Addr) (m c m2 c2 : Nat) (w : World) (h : IsAt q m c (elems xs) w) (h2 : IsAt q2 m2 c2 (elems ys) w) => cmp_at h h2)
  generalize cmpL (elems xs) (elems ys) = cv at HCP HCR
  have HSL := Lib.hid (fun w (hb : Below W.heap.size W w) => cmpsl_calls (h3.below hb) (h4.below hb))
  have HSR := Lib.hid (fun (q q2 : Option Addr) (m c m2 c2 : Nat) (w : World) (h : ListsAt q m c L w) (h2 : ListsAt q2 m2 c2 M w) => cmpls_calls h h2)
  generalize cmpLL L M = sv at HSL HSR
  have HL3 := Lib.hid (fun w (hb : Below W.heap.size W w) => lists_calls (h3.below hb))
  have HL4 := Lib.hid (fun w (hb : Below W.heap.size W w) => lists_calls (h4.below hb))
  clear h3 h4
  go_enter Tryd.func6, Tryd.ntmps6
  go_wp2
  refine wp_region_plan (fun w' => ∃ x, w' = beyond ((W.alloc (.cells (rowW xs) 25)).alloc (.cells (rowW ys) 25)) x) [([], 0), ([1, 2, 3, 5, 7], 4), ([], 6), ([], 8), ([], 9), ([10, 11, 12, 13, 14, 16, 18], 15), ([], 17), ([], 19), ([], 20)] [21, 22, 23] (by kernel_rfl) (by kernel_rfl) (by intro _ _ d _ _ h; cases d <;> exact h) (beyond_of (by repeat (first | assumption | exact Below.refl _ _ | exact below_beyond _ _ | refine Below.beyond ?_ (by (try simp [size_beyond]) <;> omega) _ | refine Below.drew ?_ | refine Go.Rw.below_drewN ?_ _ | refine Go.Rw.below_setRow ?_ (by (try simp [size_beyond]) <;> omega) _ | refine Below.alloc ?_ (by (try simp [size_beyond]) <;> omega) _ | refine Below.setCell ?_ (by (try simp [size_beyond]) <;> omega) _))) ?_
  simp only [wpSegs, pick, List.filterMap, List.size_toArray, List.getElem?_toArray, List.getElem?_cons_zero, List.getElem?_cons_succ]
  refine wpQuiet_nil ?_
  go_wp2_with (go_at_call 24; refine (KK.out _ (by repeat (first | assumption | exact Below.refl _ _ | exact below_beyond _ _ | refine Below.beyond ?_ (by (try simp [size_beyond]) <;> omega) _ | refine Below.drew ?_ | refine Go.Rw.below_drewN ?_ _ | refine Go.Rw.below_setRow ?_ (by (try simp [size_beyond]) <;> omega) _ | refine Below.alloc ?_ (by (try simp [size_beyond]) <;> omega) _ | refine Below.setCell ?_ (by (try simp [size_beyond]) <;> omega) _))).mono ?_; rintro e w1 ⟨rfl, y1, rfl⟩)
  refine ⟨beyond_of (by repeat (first | assumption | exact Below.refl _ _ | exact below_beyond _ _ | refine Below.beyond ?_ (by (try simp [size_beyond]) <;> omega) _ | refine Below.drew ?_ | refine Go.Rw.below_drewN ?_ _ | refine Go.Rw.below_setRow ?_ (by (try simp [size_beyond]) <;> omega) _ | refine Below.alloc ?_ (by (try simp [size_beyond]) <;> omega) _ | refine Below.setCell ?_ (by (try simp [size_beyond]) <;> omega) _)), ?_⟩
  go_big_quiet_step (fail)
  refine wpQuiet_load_row (by kernel_rfl) 25 (.tmp 4) rfl W.heap.size (rowW xs) 25 _ rfl (by rintro _ ⟨x, rfl⟩; simp [go_sem, inW]) Tryd.underlying25 rfl (by rw [HZ.out]; exact sInfo) ?_
  simp only [Act.put, List.setIfInBounds_toArray, List.set_cons_succ, List.set_cons_zero]
  refine wpQuiet_load_row (by kernel_rfl) 25 (.tmp 5) rfl (W.heap.size + 1) (rowW ys) 25 _ rfl (by rintro _ ⟨x, rfl⟩; simp [go_sem, inW]) Tryd.underlying25 rfl (by rw [HZ2.out]; exact sInfo) ?_
  simp only [Act.put, List.setIfInBounds_toArray, List.set_cons_succ, List.set_cons_zero]
  refine wpQuiet_load_row (by kernel_rfl) 25 (.tmp 4) rfl W.heap.size (rowW xs) 25 _ rfl (by rintro _ ⟨x, rfl⟩; simp [go_sem, inW]) Tryd.underlying25 rfl (by rw [HZ.out]; exact sInfo) ?_
  simp only [Act.put, List.setIfInBounds_toArray, List.set_cons_succ, List.set_cons_zero]
  refine wpQuiet_load_row (by kernel_rfl) 25 (.tmp 5) rfl (W.heap.size + 1) (rowW ys) 25 _ rfl (by rintro _ ⟨x, rfl⟩; simp [go_sem, inW]) Tryd.underlying25 rfl (by rw [HZ2.out]; exact sInfo) ?_
  simp only [Act.put, List.setIfInBounds_toArray, List.set_cons_succ, List.set_cons_zero]
  refine wpQuiet_nil ?_
  go_wp2_with (go_at_call 39; refine (HCP.out _).mono ?_; rintro e w1 ⟨rfl, y2, rfl⟩)
  refine ⟨beyond_of (by repeat (first | assumption | exact Below.refl _ _ | exact below_beyond _ _ | refine Below.beyond ?_ (by (try simp [size_beyond]) <;> omega) _ | refine Below.drew ?_ | refine Go.Rw.below_drewN ?_ _ | refine Go.Rw.below_setRow ?_ (by (try simp [size_beyond]) <;> omega) _ | refine Below.alloc ?_ (by (try simp [size_beyond]) <;> omega) _ | refine Below.setCell ?_ (by (try simp [size_beyond]) <;> omega) _)), wpQuiet_nil ?_⟩
  go_wp2_with (go_at_call 18; refine (to_at HX.out _).mono ?_; rintro e w1 ⟨qa, ma, ca, y3, rfl, rfl, H1⟩)
  refine ⟨beyond_of (by repeat (first | assumption | exact Below.refl _ _ | exact below_beyond _ _ | refine Below.beyond ?_ (by (try simp [size_beyond]) <;> omega) _ | refine Below.drew ?_ | refine Go.Rw.below_drewN ?_ _ | refine Go.Rw.below_setRow ?_ (by (try simp [size_beyond]) <;> omega) _ | refine Below.alloc ?_ (by (try simp [size_beyond]) <;> omega) _ | refine Below.setCell ?_ (by (try simp [size_beyond]) <;> omega) _)), wpQuiet_nil ?_⟩
  go_wp2_with (go_at_call 18; refine (to_at HY.out _).mono ?_; rintro e w1 ⟨qb, mb, cb, y4, rfl, rfl, H2⟩)
  refine ⟨beyond_of (by repeat (first | assumption | exact Below.refl _ _ | exact below_beyond _ _ | refine Below.beyond ?_ (by (try simp [size_beyond]) <;> omega) _ | refine Below.drew ?_ | refine Go.Rw.below_drewN ?_ _ | refine Go.Rw.below_setRow ?_ (by (try simp [size_beyond]) <;> omega) _ | refine Below.alloc ?_ (by (try simp [size_beyond]) <;> omega) _ | refine Below.setCell ?_ (by (try simp [size_beyond]) <;> omega) _)), wpQuiet_nil ?_⟩
  go_wp2_with (go_at_call 40; refine (HCR.out _ _ _ _ _ _ _ (by first | (with_reducible assumption) | (refine IsAt.below (by with_reducible assumption) ?_; exact (by repeat (first | assumption | exact Below.refl _ _ | exact below_beyond _ _ | refine Below.beyond ?_ (by (try simp [size_beyond]) <;> omega) _ | refine Below.drew ?_ | refine Go.Rw.below_drewN ?_ _ | refine Go.Rw.below_setRow ?_ (by (try simp [size_beyond]) <;> omega) _ | refine Below.alloc ?_ (by (try simp [size_beyond]) <;> omega) _ | refine Below.setCell ?_ (by (try simp [size_beyond]) <;> omega) _)))) (by first | (with_reducible assumption) | (refine IsAt.below (by with_reducible assumption) ?_; exact (by repeat (first | assumption | exact Below.refl _ _ | exact below_beyond _ _ | refine Below.beyond ?_ (by (try simp [size_beyond]) <;> omega) _ | refine Below.drew ?_ | refine Go.Rw.below_drewN ?_ _ | refine Go.Rw.below_setRow ?_ (by (try simp [size_beyond]) <;> omega) _ | refine Below.alloc ?_ (by (try simp [size_beyond]) <;> omega) _ | refine Below.setCell ?_ (by (try simp [size_beyond]) <;> omega) _))))).mono ?_; rintro e w1 ⟨rfl, y5, rfl⟩)
  refine ⟨beyond_of (by repeat (first | assumption | exact Below.refl _ _ | exact below_beyond _ _ | refine Below.beyond ?_ (by (try simp [size_beyond]) <;> omega) _ | refine Below.drew ?_ | refine Go.Rw.below_drewN ?_ _ | refine Go.Rw.below_setRow ?_ (by (try simp [size_beyond]) <;> omega) _ | refine Below.alloc ?_ (by (try simp [size_beyond]) <;> omega) _ | refine Below.setCell ?_ (by (try simp [size_beyond]) <;> omega) _)), ?_⟩
  repeat (go_big_quiet_step (fail))
  refine wpQuiet_nil ?_
  go_wp2_with (go_at_call 41; refine (HSL.out _ (by repeat (first | assumption | exact Below.refl _ _ | exact below_beyond _ _ | refine Below.beyond ?_ (by (try simp [size_beyond]) <;> omega) _ | refine Below.drew ?_ | refine Go.Rw.below_drewN ?_ _ | refine Go.Rw.below_setRow ?_ (by (try simp [size_beyond]) <;> omega) _ | refine Below.alloc ?_ (by (try simp [size_beyond]) <;> omega) _ | refine Below.setCell ?_ (by (try simp [size_beyond]) <;> omega) _))).mono ?_; rintro e w1 ⟨rfl, y6, rfl⟩)
  refine ⟨beyond_of (by repeat (first | assumption | exact Below.refl _ _ | exact below_beyond _ _ | refine Below.beyond ?_ (by (try simp [size_beyond]) <;> omega) _ | refine Below.drew ?_ | refine Go.Rw.below_drewN ?_ _ | refine Go.Rw.below_setRow ?_ (by (try simp [size_beyond]) <;> omega) _ | refine Below.alloc ?_ (by (try simp [size_beyond]) <;> omega) _ | refine Below.setCell ?_ (by (try simp [size_beyond]) <;> omega) _)), wpQuiet_nil ?_⟩
  go_wp2_with (go_at_call 43; refine (HL3.out _ (by repeat (first | assumption | exact Below.refl _ _ | exact below_beyond _ _ | refine Below.beyond ?_ (by (try simp [size_beyond]) <;> omega) _ | refine Below.drew ?_ | refine Go.Rw.below_drewN ?_ _ | refine Go.Rw.below_setRow ?_ (by (try simp [size_beyond]) <;> omega) _ | refine Below.alloc ?_ (by (try simp [size_beyond]) <;> omega) _ | refine Below.setCell ?_ (by (try simp [size_beyond]) <;> omega) _))).mono ?_; rintro e w1 ⟨qc, mc, cc, y7, rfl, rfl, H3⟩)
  refine ⟨beyond_of (by repeat (first | assumption | exact Below.refl _ _ | exact below_beyond _ _ | refine Below.beyond ?_ (by (try simp [size_beyond]) <;> omega) _ | refine Below.drew ?_ | refine Go.Rw.below_drewN ?_ _ | refine Go.Rw.below_setRow ?_ (by (try simp [size_beyond]) <;> omega) _ | refine Below.alloc ?_ (by (try simp [size_beyond]) <;> omega) _ | refine Below.setCell ?_ (by (try simp [size_beyond]) <;> omega) _)), wpQuiet_nil ?_⟩
  go_wp2_with (go_at_call 43; refine (HL4.out _ (by repeat (first | assumption | exact Below.refl _ _ | exact below_beyond _ _ | refine Below.beyond ?_ (by (try simp [size_beyond]) <;> omega) _ | refine Below.drew ?_ | refine Go.Rw.below_drewN ?_ _ | refine Go.Rw.below_setRow ?_ (by (try simp [size_beyond]) <;> omega) _ | refine Below.alloc ?_ (by (try simp [size_beyond]) <;> omega) _ | refine Below.setCell ?_ (by (try simp [size_beyond]) <;> omega) _))).mono ?_; rintro e w1 ⟨qd, md, cd, y8, rfl, rfl, H4⟩)
  refine ⟨beyond_of (by repeat (first | assumption | exact Below.refl _ _ | exact below_beyond _ _ | refine Below.beyond ?_ (by (try simp [size_beyond]) <;> omega) _ | refine Below.drew ?_ | refine Go.Rw.below_drewN ?_ _ | refine Go.Rw.below_setRow ?_ (by (try simp [size_beyond]) <;> omega) _ | refine Below.alloc ?_ (by (try simp [size_beyond]) <;> omega) _ | refine Below.setCell ?_ (by (try simp [size_beyond]) <;> omega) _)), wpQuiet_nil ?_⟩
  go_wp2_with (go_at_call 42; refine (HSR.out _ _ _ _ _ _ _ (by first | (with_reducible assumption) | (refine ListsAt.below (by with_reducible assumption) ?_; exact (by repeat (first | assumption | exact Below.refl _ _ | exact below_beyond _ _ | refine Below.beyond ?_ (by (try simp [size_beyond]) <;> omega) _ | refine Below.drew ?_ | refine Go.Rw.below_drewN ?_ _ | refine Go.Rw.below_setRow ?_ (by (try simp [size_beyond]) <;> omega) _ | refine Below.alloc ?_ (by (try simp [size_beyond]) <;> omega) _ | refine Below.setCell ?_ (by (try simp [size_beyond]) <;> omega) _)))) (by first | (with_reducible assumption) | (refine ListsAt.below (by with_reducible assumption) ?_; exact (by repeat (first | assumption | exact Below.refl _ _ | exact below_beyond _ _ | refine Below.beyond ?_ (by (try simp [size_beyond]) <;> omega) _ | refine Below.drew ?_ | refine Go.Rw.below_drewN ?_ _ | refine Go.Rw.below_setRow ?_ (by (try simp [size_beyond]) <;> omega) _ | refine Below.alloc ?_ (by (try simp [size_beyond]) <;> omega) _ | refine Below.setCell ?_ (by (try simp [size_beyond]) <;> omega) _))))).mono ?_; rintro e w1 ⟨rfl, y9, rfl⟩)
  refine ⟨beyond_of (by repeat (first | assumption | exact Below.refl _ _ | exact below_beyond _ _ | refine Below.beyond ?_ (by (try simp [size_beyond]) <;> omega) _ | refine Below.drew ?_ | refine Go.Rw.below_drewN ?_ _ | refine Go.Rw.below_setRow ?_ (by (try simp [size_beyond]) <;> omega) _ | refine Below.alloc ?_ (by (try simp [size_beyond]) <;> omega) _ | refine Below.setCell ?_ (by (try simp [size_beyond]) <;> omega) _)), ?_⟩
  repeat (go_big_quiet_step (fail))
  refine wpQuiet_nil ?_
  go_wp2
  go_ret
  exact ⟨rfl, beyond_of (by repeat (first | assumption | exact Below.refl _ _ | exact below_beyond _ _ | refine Below.beyond ?_ (by (try simp [size_beyond]) <;> omega) _ | refine Below.drew ?_ | refine Go.Rw.below_drewN ?_ _ | refine Go.Rw.below_setRow ?_ (by (try simp [size_beyond]) <;> omega) _ | refine Below.alloc ?_ (by (try simp [size_beyond]) <;> omega) _ | refine Below.setCell ?_ (by (try simp [size_beyond]) <;> omega) _))⟩
theorem part_wn {W : World} (hL : laidMetH Tryd.prog Rows.bitsetCompareRow.laid W) {xs ys : List Bits.W} (hx : xs.length = 16) (hy : ys.length = 16) {L M : List (List Bits.W)} {b3 off3 m3 c3 : Nat} {q4 : Option Addr} {m4 c4 : Nat} (hl : 20 < m3) (hlc : m3 ≤ c3) (hlm : c3 ≤ 9223372036854775807) (hm : m4 ≤ 20)
    (h3 : RowsAt (some ⟨b3, off3, none⟩) ((20 : Nat)) c3 L W) (h4 : RowsAt q4 m4 c4 M W) :
    Calls Tryd.prog 6 #[.agg (rowW xs), .agg (rowW ys), .slice (some ⟨b3, off3, none⟩) m3 c3, .slice q4 m4 c4] W fun e w' => e = .returned (.bool true) ∧ ∃ x, w' = beyond W x := by
  have HX := Lib.hid hx; clear hx
  have HY := Lib.hid hy; clear hy
  have KK := Lib.hid (fun X hb => known_calls hL X hb); clear hL
  have HZ := Lib.hid (show (rowW xs).size = 16 by rw [rowW_size, HX.out])
  have HZ2 := Lib.hid (show (rowW ys).size = 16 by rw [rowW_size, HY.out])
  have HCP := Lib.hid (fun w => cmpset_calls HX.out HY.out w)
  have HCR := Lib.hid (fun (q q2 : Option Addr) (m c m2 c2 : Nat) (w : World) (h : IsAt q m c (elems xs) w) (h2 : IsAt q2 m2 c2 (elems ys) w) => cmp_at h h2)
  generalize cmpL (elems xs) (elems ys) = cv at HCP HCR
  have HSL := Lib.hid (fun w (hb : Below W.heap.size W w) => cmpsl_calls (h3.below hb) (h4.below hb))
  have HSR := Lib.hid (fun (q q2 : Option Addr) (m c m2 c2 : Nat) (w : World) (h : ListsAt q m c L w) (h2 : ListsAt q2 m2 c2 M w) => cmpls_calls h h2)
  generalize cmpLL L M = sv at HSL HSR
  have HL3 := Lib.hid (fun w (hb : Below W.heap.size W w) => lists_calls (h3.below hb))
  have HL4 := Lib.hid (fun w (hb : Below W.heap.size W w) => lists_calls (h4.below hb))
  clear h3 h4
  go_enter Tryd.func6, Tryd.ntmps6
  go_wp2
  refine wp_region_plan (fun w' => ∃ x, w' = beyond ((W.alloc (.cells (rowW xs) 25)).alloc (.cells (rowW ys) 25)) x) [([], 0), ([1, 2, 3, 5, 7], 4), ([], 6), ([], 8), ([], 9), ([10, 11, 12, 13, 14, 16, 18], 15), ([], 17), ([], 19), ([], 20)] [21, 22, 23] (by kernel_rfl) (by kernel_rfl) (by intro _ _ d _ _ h; cases d <;> exact h) (beyond_of (by repeat (first | assumption | exact Below.refl _ _ | exact below_beyond _ _ | refine Below.beyond ?_ (by (try simp [size_beyond]) <;> omega) _ | refine Below.drew ?_ | refine Go.Rw.below_drewN ?_ _ | refine Go.Rw.below_setRow ?_ (by (try simp [size_beyond]) <;> omega) _ | refine Below.alloc ?_ (by (try simp [size_beyond]) <;> omega) _ | refine Below.setCell ?_ (by (try simp [size_beyond]) <;> omega) _))) ?_
  simp only [wpSegs, pick, List.filterMap, List.size_toArray, List.getElem?_toArray, List.getElem?_cons_zero, List.getElem?_cons_succ]
  refine wpQuiet_nil ?_
  go_wp2_with (go_at_call 24; refine (KK.out _ (by repeat (first | assumption | exact Below.refl _ _ | exact below_beyond _ _ | refine Below.beyond ?_ (by (try simp [size_beyond]) <;> omega) _ | refine Below.drew ?_ | refine Go.Rw.below_drewN ?_ _ | refine Go.Rw.below_setRow ?_ (by (try simp [size_beyond]) <;> omega) _ | refine Below.alloc ?_ (by (try simp [size_beyond]) <;> omega) _ | refine Below.setCell ?_ (by (try simp [size_beyond]) <;> omega) _))).mono ?_; rintro e w1 ⟨rfl, y1, rfl⟩)
  refine ⟨beyond_of (by repeat (first | assumption | exact Below.refl _ _ | exact below_beyond _ _ | refine Below.beyond ?_ (by (try simp [size_beyond]) <;> omega) _ | refine Below.drew ?_ | refine Go.Rw.below_drewN ?_ _ | refine Go.Rw.below_setRow ?_ (by (try simp [size_beyond]) <;> omega) _ | refine Below.alloc ?_ (by (try simp [size_beyond]) <;> omega) _ | refine Below.setCell ?_ (by (try simp [size_beyond]) <;> omega) _)), ?_⟩
  go_big_quiet_step (fail)
  refine wpQuiet_load_row (by kernel_rfl) 25 (.tmp 4) rfl W.heap.size (rowW xs) 25 _ rfl (by rintro _ ⟨x, rfl⟩; simp [go_sem, inW]) Tryd.underlying25 rfl (by rw [HZ.out]; exact sInfo) ?_
  simp only [Act.put, List.setIfInBounds_toArray, List.set_cons_succ, List.set_cons_zero]
  refine wpQuiet_load_row (by kernel_rfl) 25 (.tmp 5) rfl (W.heap.size + 1) (rowW ys) 25 _ rfl (by rintro _ ⟨x, rfl⟩; simp [go_sem, inW]) Tryd.underlying25 rfl (by rw [HZ2.out]; exact sInfo) ?_
  simp only [Act.put, List.setIfInBounds_toArray, List.set_cons_succ, List.set_cons_zero]
  refine wpQuiet_load_row (by kernel_rfl) 25 (.tmp 4) rfl W.heap.size (rowW xs) 25 _ rfl (by rintro _ ⟨x, rfl⟩; simp [go_sem, inW]) Tryd.underlying25 rfl (by rw [HZ.out]; exact sInfo) ?_
  simp only [Act.put, List.setIfInBounds_toArray, List.set_cons_succ, List.set_cons_zero]
  refine wpQuiet_load_row (by kernel_rfl) 25 (.tmp 5) rfl (W.heap.size + 1) (rowW ys) 25 _ rfl (by rintro _ ⟨x, rfl⟩; simp [go_sem, inW]) Tryd.underlying25 rfl (by rw [HZ2.out]; exact sInfo) ?_
  simp only [Act.put, List.setIfInBounds_toArray, List.set_cons_succ, List.set_cons_zero]
  refine wpQuiet_nil ?_
  go_wp2_with (go_at_call 39; refine (HCP.out _).mono ?_; rintro e w1 ⟨rfl, y2, rfl⟩)
  refine ⟨beyond_of (by repeat (first | assumption | exact Below.refl _ _ | exact below_beyond _ _ | refine Below.beyond ?_ (by (try simp [size_beyond]) <;> omega) _ | refine Below.drew ?_ | refine Go.Rw.below_drewN ?_ _ | refine Go.Rw.below_setRow ?_ (by (try simp [size_beyond]) <;> omega) _ | refine Below.alloc ?_ (by (try simp [size_beyond]) <;> omega) _ | refine Below.setCell ?_ (by (try simp [size_beyond]) <;> omega) _)), wpQuiet_nil ?_⟩
  go_wp2_with (go_at_call 18; refine (to_at HX.out _).mono ?_; rintro e w1 ⟨qa, ma, ca, y3, rfl, rfl, H1⟩)
  refine ⟨beyond_of (by repeat (first | assumption | exact Below.refl _ _ | exact below_beyond _ _ | refine Below.beyond ?_ (by (try simp [size_beyond]) <;> omega) _ | refine Below.drew ?_ | refine Go.Rw.below_drewN ?_ _ | refine Go.Rw.below_setRow ?_ (by (try simp [size_beyond]) <;> omega) _ | refine Below.alloc ?_ (by (try simp [size_beyond]) <;> omega) _ | refine Below.setCell ?_ (by (try simp [size_beyond]) <;> omega) _)), wpQuiet_nil ?_⟩
  go_wp2_with (go_at_call 18; refine (to_at HY.out _).mono ?_; rintro e w1 ⟨qb, mb, cb, y4, rfl, rfl, H2⟩)
  refine ⟨beyond_of (by repeat (first | assumption | exact Below.refl _ _ | exact below_beyond _ _ | refine Below.beyond ?_ (by (try simp [size_beyond]) <;> omega) _ | refine Below.drew ?_ | refine Go.Rw.below_drewN ?_ _ | refine Go.Rw.below_setRow ?_ (by (try simp [size_beyond]) <;> omega) _ | refine Below.alloc ?_ (by (try simp [size_beyond]) <;> omega) _ | refine Below.setCell ?_ (by (try simp [size_beyond]) <;> omega) _)), wpQuiet_nil ?_⟩
  go_wp2_with (go_at_call 40; refine (HCR.out _ _ _ _ _ _ _ (by first | (with_reducible assumption) | (refine IsAt.below (by with_reducible assumption) ?_; exact (by repeat (first | assumption | exact Below.refl _ _ | exact below_beyond _ _ | refine Below.beyond ?_ (by (try simp [size_beyond]) <;> omega) _ | refine Below.drew ?_ | refine Go.Rw.below_drewN ?_ _ | refine Go.Rw.below_setRow ?_ (by (try simp [size_beyond]) <;> omega) _ | refine Below.alloc ?_ (by (try simp [size_beyond]) <;> omega) _ | refine Below.setCell ?_ (by (try simp [size_beyond]) <;> omega) _)))) (by first | (with_reducible assumption) | (refine IsAt.below (by with_reducible assumption) ?_; exact (by repeat (first | assumption | exact Below.refl _ _ | exact below_beyond _ _ | refine Below.beyond ?_ (by (try simp [size_beyond]) <;> omega) _ | refine Below.drew ?_ | refine Go.Rw.below_drewN ?_ _ | refine Go.Rw.below_setRow ?_ (by (try simp [size_beyond]) <;> omega) _ | refine Below.alloc ?_ (by (try simp [size_beyond]) <;> omega) _ | refine Below.setCell ?_ (by (try simp [size_beyond]) <;> omega) _))))).mono ?_; rintro e w1 ⟨rfl, y5, rfl⟩)
  refine ⟨beyond_of (by repeat (first | assumption | exact Below.refl _ _ | exact below_beyond _ _ | refine Below.beyond ?_ (by (try simp [size_beyond]) <;> omega) _ | refine Below.drew ?_ | refine Go.Rw.below_drewN ?_ _ | refine Go.Rw.below_setRow ?_ (by (try simp [size_beyond]) <;> omega) _ | refine Below.alloc ?_ (by (try simp [size_beyond]) <;> omega) _ | refine Below.setCell ?_ (by (try simp [size_beyond]) <;> omega) _)), ?_⟩
  repeat (go_big_quiet_step (fail))
  refine wpQuiet_nil ?_
  go_wp2_with (go_at_call 41; refine (HSL.out _ (by repeat (first | assumption | exact Below.refl _ _ | exact below_beyond _ _ | refine Below.beyond ?_ (by (try simp [size_beyond]) <;> omega) _ | refine Below.drew ?_ | refine Go.Rw.below_drewN ?_ _ | refine Go.Rw.below_setRow ?_ (by (try simp [size_beyond]) <;> omega) _ | refine Below.alloc ?_ (by (try simp [size_beyond]) <;> omega) _ | refine Below.setCell ?_ (by (try simp [size_beyond]) <;> omega) _))).mono ?_; rintro e w1 ⟨rfl, y6, rfl⟩)
  refine ⟨beyond_of (by repeat (first | assumption | exact Below.refl _ _ | exact below_beyond _ _ | refine Below.beyond ?_ (by (try simp [size_beyond]) <;> omega) _ | refine Below.drew ?_ | refine Go.Rw.below_drewN ?_ _ | refine Go.Rw.below_setRow ?_ (by (try simp [size_beyond]) <;> omega) _ | refine Below.alloc ?_ (by (try simp [size_beyond]) <;> omega) _ | refine Below.setCell ?_ (by (try simp [size_beyond]) <;> omega) _)), wpQuiet_nil ?_⟩
  go_wp2_with (go_at_call 43; refine (HL3.out _ (by repeat (first | assumption | exact Below.refl _ _ | exact below_beyond _ _ | refine Below.beyond ?_ (by (try simp [size_beyond]) <;> omega) _ | refine Below.drew ?_ | refine Go.Rw.below_drewN ?_ _ | refine Go.Rw.below_setRow ?_ (by (try simp [size_beyond]) <;> omega) _ | refine Below.alloc ?_ (by (try simp [size_beyond]) <;> omega) _ | refine Below.setCell ?_ (by (try simp [size_beyond]) <;> omega) _))).mono ?_; rintro e w1 ⟨qc, mc, cc, y7, rfl, rfl, H3⟩)
  refine ⟨beyond_of (by repeat (first | assumption | exact Below.refl _ _ | exact below_beyond _ _ | refine Below.beyond ?_ (by (try simp [size_beyond]) <;> omega) _ | refine Below.drew ?_ | refine Go.Rw.below_drewN ?_ _ | refine Go.Rw.below_setRow ?_ (by (try simp [size_beyond]) <;> omega) _ | refine Below.alloc ?_ (by (try simp [size_beyond]) <;> omega) _ | refine Below.setCell ?_ (by (try simp [size_beyond]) <;> omega) _)), wpQuiet_nil ?_⟩
  go_wp2_with (go_at_call 43; refine (HL4.out _ (by repeat (first | assumption | exact Below.refl _ _ | exact below_beyond _ _ | refine Below.beyond ?_ (by (try simp [size_beyond]) <;> omega) _ | refine Below.drew ?_ | refine Go.Rw.below_drewN ?_ _ | refine Go.Rw.below_setRow ?_ (by (try simp [size_beyond]) <;> omega) _ | refine Below.alloc ?_ (by (try simp [size_beyond]) <;> omega) _ | refine Below.setCell ?_ (by (try simp [size_beyond]) <;> omega) _))).mono ?_; rintro e w1 ⟨qd, md, cd, y8, rfl, rfl, H4⟩)
  refine ⟨beyond_of (by repeat (first | assumption | exact Below.refl _ _ | exact below_beyond _ _ | refine Below.beyond ?_ (by (try simp [size_beyond]) <;> omega) _ | refine Below.drew ?_ | refine Go.Rw.below_drewN ?_ _ | refine Go.Rw.below_setRow ?_ (by (try simp [size_beyond]) <;> omega) _ | refine Below.alloc ?_ (by (try simp [size_beyond]) <;> omega) _ | refine Below.setCell ?_ (by (try simp [size_beyond]) <;> omega) _)), wpQuiet_nil ?_⟩
  go_wp2_with (go_at_call 42; refine (HSR.out _ _ _ _ _ _ _ (by first | (with_reducible assumption) | (refine ListsAt.below (by with_reducible assumption) ?_; exact (by repeat (first | assumption | exact Below.refl _ _ | exact below_beyond _ _ | refine Below.beyond ?_ (by (try simp [size_beyond]) <;> omega) _ | refine Below.drew ?_ | refine Go.Rw.below_drewN ?_ _ | refine Go.Rw.below_setRow ?_ (by (try simp [size_beyond]) <;> omega) _ | refine Below.alloc ?_ (by (try simp [size_beyond]) <;> omega) _ | refine Below.setCell ?_ (by (try simp [size_beyond]) <;> omega) _)))) (by first | (with_reducible assumption) | (refine ListsAt.below (by with_reducible assumption) ?_; exact (by repeat (first | assumption | exact Below.refl _ _ | exact below_beyond _ _ | refine Below.beyond ?_ (by (try simp [size_beyond]) <;> omega) _ | refine Below.drew ?_ | refine Go.Rw.below_drewN ?_ _ | refine Go.Rw.below_setRow ?_ (by (try simp [size_beyond]) <;> omega) _ | refine Below.alloc ?_ (by (try simp [size_beyond]) <;> omega) _ | refine Below.setCell ?_ (by (try simp [size_beyond]) <;> omega) _))))).mono ?_; rintro e w1 ⟨rfl, y9, rfl⟩)
  refine ⟨beyond_of (by repeat (first | assumption | exact Below.refl _ _ | exact below_beyond _ _ | refine Below.beyond ?_ (by (try simp [size_beyond]) <;> omega) _ | refine Below.drew ?_ | refine Go.Rw.below_drewN ?_ _ | refine Go.Rw.below_setRow ?_ (by (try simp [size_beyond]) <;> omega) _ | refine Below.alloc ?_ (by (try simp [size_beyond]) <;> omega) _ | refine Below.setCell ?_ (by (try simp [size_beyond]) <;> omega) _)), ?_⟩
  repeat (go_big_quiet_step (fail))
  refine wpQuiet_nil ?_
  go_wp2
  go_ret
  exact ⟨rfl, beyond_of (by repeat (first | assumption | exact Below.refl _ _ | exact below_beyond _ _ | refine Below.beyond ?_ (by (try simp [size_beyond]) <;> omega) _ | refine Below.drew ?_ | refine Go.Rw.below_drewN ?_ _ | refine Go.Rw.below_setRow ?_ (by (try simp [size_beyond]) <;> omega) _ | refine Below.alloc ?_ (by (try simp [size_beyond]) <;> omega) _ | refine Below.setCell ?_ (by (try simp [size_beyond]) <;> omega) _))⟩
theorem part_nw {W : World} (hL : laidMetH Tryd.prog Rows.bitsetCompareRow.laid W) {xs ys : List Bits.W} (hx : xs.length = 16) (hy : ys.length = 16) {L M : List (List Bits.W)} {q3 : Option Addr} {m3 c3 : Nat} {b4 off4 m4 c4 : Nat} (hl : m3 ≤ 20) (hm : 20 < m4) (hmc : m4 ≤ c4) (hmm : c4 ≤ 9223372036854775807)
    (h3 : RowsAt q3 m3 c3 L W) (h4 : RowsAt (some ⟨b4, off4, none⟩) ((20 : Nat)) c4 M W) :
    Calls Tryd.prog 6 #[.agg (rowW xs), .agg (rowW ys), .slice q3 m3 c3, .slice (some ⟨b4, off4, none⟩) m4 c4] W fun e w' => e = .returned (.bool true) ∧ ∃ x, w' = beyond W x := by
  have HX := Lib.hid hx; clear hx
  have HY := Lib.hid hy; clear hy
  have KK := Lib.hid (fun X hb => known_calls hL X hb); clear hL
  have HZ := Lib.hid (show (rowW xs).size = 16 by rw [rowW_size, HX.out])
  have HZ2 := Lib.hid (show (rowW ys).size = 16 by rw [rowW_size, HY.out])
  have HCP := Lib.hid (fun w => cmpset_calls HX.out HY.out w)
  have HCR := Lib.hid (fun (q q2 : Option Addr) (m c m2 c2 : Nat) (w : World) (h : IsAt q m c (elems xs) w) (h2 : IsAt q2 m2 c2 (elems ys) w) => cmp_at h h2)
  generalize cmpL (elems xs) (elems ys) = cv at HCP HCR
  have HSL := Lib.hid (fun w (hb : Below W.heap.size W w) => cmpsl_calls (h3.below hb) (h4.below hb))
  have HSR := Lib.hid (fun (q q2 : Option Addr) (m c m2 c2 : Nat) (w : World) (h : ListsAt q m c L w) (h2 : ListsAt q2 m2 c2 M w) => cmpls_calls h h2)
  generalize cmpLL L M = sv at HSL HSR
  have HL3 := Lib.hid (fun w (hb : Below W.heap.size W w) => lists_calls (h3.below hb))
  have HL4 := Lib.hid (fun w (hb : Below W.heap.size W w) => lists_calls (h4.below hb))
  clear h3 h4
  go_enter Tryd.func6, Tryd.ntmps6
  go_wp2
  refine wp_region_plan (fun w' => ∃ x, w' = beyond ((W.alloc (.cells (rowW xs) 25)).alloc (.cells (rowW ys) 25)) x) [([], 0), ([1, 2, 3, 5, 7], 4), ([], 6), ([], 8), ([], 9), ([10, 11, 12, 13, 14, 16, 18], 15), ([], 17), ([], 19), ([], 20)] [21, 22, 23] (by kernel_rfl) (by kernel_rfl) (by intro _ _ d _ _ h; cases d <;> exact h) (beyond_of (by repeat (first | assumption | exact Below.refl _ _ | exact below_beyond _ _ | refine Below.beyond ?_ (by (try simp [size_beyond]) <;> omega) _ | refine Below.drew ?_ | refine Go.Rw.below_drewN ?_ _ | refine Go.Rw.below_setRow ?_ (by (try simp [size_beyond]) <;> omega) _ | refine Below.alloc ?_ (by (try simp [size_beyond]) <;> omega) _ | refine Below.setCell ?_ (by (try simp [size_beyond]) <;> omega) _))) ?_
  simp only [wpSegs, pick, List.filterMap, List.size_toArray, List.getElem?_toArray, List.getElem?_cons_zero, List.getElem?_cons_succ]
  refine wpQuiet_nil ?_
  go_wp2_with (go_at_call 24; refine (KK.out _ (by repeat (first | assumption | exact Below.refl _ _ | exact below_beyond _ _ | refine Below.beyond ?_ (by (try simp [size_beyond]) <;> omega) _ | refine Below.drew ?_ | refine Go.Rw.below_drewN ?_ _ | refine Go.Rw.below_setRow ?_ (by (try simp [size_beyond]) <;> omega) _ | refine Below.alloc ?_ (by (try simp [size_beyond]) <;> omega) _ | refine Below.setCell ?_ (by (try simp [size_beyond]) <;> omega) _))).mono ?_; rintro e w1 ⟨rfl, y1, rfl⟩)
  refine ⟨beyond_of (by repeat (first | assumption | exact Below.refl _ _ | exact below_beyond _ _ | refine Below.beyond ?_ (by (try simp [size_beyond]) <;> omega) _ | refine Below.drew ?_ | refine Go.Rw.below_drewN ?_ _ | refine Go.Rw.below_setRow ?_ (by (try simp [size_beyond]) <;> omega) _ | refine Below.alloc ?_ (by (try simp [size_beyond]) <;> omega) _ | refine Below.setCell ?_ (by (try simp [size_beyond]) <;> omega) _)), ?_⟩
  go_big_quiet_step (fail)
  refine wpQuiet_load_row (by kernel_rfl) 25 (.tmp 4) rfl W.heap.size (rowW xs) 25 _ rfl (by rintro _ ⟨x, rfl⟩; simp [go_sem, inW]) Tryd.underlying25 rfl (by rw [HZ.out]; exact sInfo) ?_
  simp only [Act.put, List.setIfInBounds_toArray, List.set_cons_succ, List.set_cons_zero]
  refine wpQuiet_load_row (by kernel_rfl) 25 (.tmp 5) rfl (W.heap.size + 1) (rowW ys) 25 _ rfl (by rintro _ ⟨x, rfl⟩; simp [go_sem, inW]) Tryd.underlying25 rfl (by rw [HZ2.out]; exact sInfo) ?_
  simp only [Act.put, List.setIfInBounds_toArray, List.set_cons_succ, List.set_cons_zero]
  refine wpQuiet_load_row (by kernel_rfl) 25 (.tmp 4) rfl W.heap.size (rowW xs) 25 _ rfl (by rintro _ ⟨x, rfl⟩; simp [go_sem, inW]) Tryd.underlying25 rfl (by rw [HZ.out]; exact sInfo) ?_
  simp only [Act.put, List.setIfInBounds_toArray, List.set_cons_succ, List.set_cons_zero]
  refine wpQuiet_load_row (by kernel_rfl) 25 (.tmp 5) rfl (W.heap.size + 1) (rowW ys) 25 _ rfl (by rintro _ ⟨x, rfl⟩; simp [go_sem, inW]) Tryd.underlying25 rfl (by rw [HZ2.out]; exact sInfo) ?_
  simp only [Act.put, List.setIfInBounds_toArray, List.set_cons_succ, List.set_cons_zero]
  refine wpQuiet_nil ?_
  go_wp2_with (go_at_call 39; refine (HCP.out _).mono ?_; rintro e w1 ⟨rfl, y2, rfl⟩)
  refine ⟨beyond_of (by repeat (first | assumption | exact Below.refl _ _ | exact below_beyond _ _ | refine Below.beyond ?_ (by (try simp [size_beyond]) <;> omega) _ | refine Below.drew ?_ | refine Go.Rw.below_drewN ?_ _ | refine Go.Rw.below_setRow ?_ (by (try simp [size_beyond]) <;> omega) _ | refine Below.alloc ?_ (by (try simp [size_beyond]) <;> omega) _ | refine Below.setCell ?_ (by (try simp [size_beyond]) <;> omega) _)), wpQuiet_nil ?_⟩
  go_wp2_with (go_at_call 18; refine (to_at HX.out _).mono ?_; rintro e w1 ⟨qa, ma, ca, y3, rfl, rfl, H1⟩)
  refine ⟨beyond_of (by repeat (first | assumption | exact Below.refl _ _ | exact below_beyond _ _ | refine Below.beyond ?_ (by (try simp [size_beyond]) <;> omega) _ | refine Below.drew ?_ | refine Go.Rw.below_drewN ?_ _ | refine Go.Rw.below_setRow ?_ (by (try simp [size_beyond]) <;> omega) _ | refine Below.alloc ?_ (by (try simp [size_beyond]) <;> omega) _ | refine Below.setCell ?_ (by (try simp [size_beyond]) <;> omega) _)), wpQuiet_nil ?_⟩
  go_wp2_with (go_at_call 18; refine (to_at HY.out _).mono ?_; rintro e w1 ⟨qb, mb, cb, y4, rfl, rfl, H2⟩)
  refine ⟨beyond_of (by repeat (first | assumption | exact Below.refl _ _ | exact below_beyond _ _ | refine Below.beyond ?_ (by (try simp [size_beyond]) <;> omega) _ | refine Below.drew ?_ | refine Go.Rw.below_drewN ?_ _ | refine Go.Rw.below_setRow ?_ (by (try simp [size_beyond]) <;> omega) _ | refine Below.alloc ?_ (by (try simp [size_beyond]) <;> omega) _ | refine Below.setCell ?_ (by (try simp [size_beyond]) <;> omega) _)), wpQuiet_nil ?_⟩
  go_wp2_with (go_at_call 40; refine (HCR.out _ _ _ _ _ _ _ (by first | (with_reducible assumption) | (refine IsAt.below (by with_reducible assumption) ?_; exact (by repeat (first | assumption | exact Below.refl _ _ | exact below_beyond _ _ | refine Below.beyond ?_ (by (try simp [size_beyond]) <;> omega) _ | refine Below.drew ?_ | refine Go.Rw.below_drewN ?_ _ | refine Go.Rw.below_setRow ?_ (by (try simp [size_beyond]) <;> omega) _ | refine Below.alloc ?_ (by (try simp [size_beyond]) <;> omega) _ | refine Below.setCell ?_ (by (try simp [size_beyond]) <;> omega) _)))) (by first | (with_reducible assumption) | (refine IsAt.below (by with_reducible assumption) ?_; exact (by repeat (first | assumption | exact Below.refl _ _ | exact below_beyond _ _ | refine Below.beyond ?_ (by (try simp [size_beyond]) <;> omega) _ | refine Below.drew ?_ | refine Go.Rw.below_drewN ?_ _ | refine Go.Rw.below_setRow ?_ (by (try simp [size_beyond]) <;> omega) _ | refine Below.alloc ?_ (by (try simp [size_beyond]) <;> omega) _ | refine Below.setCell ?_ (by (try simp [size_beyond]) <;> omega) _))))).mono ?_; rintro e w1 ⟨rfl, y5, rfl⟩)
  refine ⟨beyond_of (by repeat (first | assumption | exact Below.refl _ _ | exact below_beyond _ _ | refine Below.beyond ?_ (by (try simp [size_beyond]) <;> omega) _ | refine Below.drew ?_ | refine Go.Rw.below_drewN ?_ _ | refine Go.Rw.below_setRow ?_ (by (try simp [size_beyond]) <;> omega) _ | refine Below.alloc ?_ (by (try simp [size_beyond]) <;> omega) _ | refine Below.setCell ?_ (by (try simp [size_beyond]) <;> omega) _)), ?_⟩
  repeat (go_big_quiet_step (fail))
  refine wpQuiet_nil ?_
  go_wp2_with (go_at_call 41; refine (HSL.out _ (by repeat (first | assumption | exact Below.refl _ _ | exact below_beyond _ _ | refine Below.beyond ?_ (by (try simp [size_beyond]) <;> omega) _ | refine Below.drew ?_ | refine Go.Rw.below_drewN ?_ _ | refine Go.Rw.below_setRow ?_ (by (try simp [size_beyond]) <;> omega) _ | refine Below.alloc ?_ (by (try simp [size_beyond]) <;> omega) _ | refine Below.setCell ?_ (by (try simp [size_beyond]) <;> omega) _))).mono ?_; rintro e w1 ⟨rfl, y6, rfl⟩)
  refine ⟨beyond_of (by repeat (first | assumption | exact Below.refl _ _ | exact below_beyond _ _ | refine Below.beyond ?_ (by (try simp [size_beyond]) <;> omega) _ | refine Below.drew ?_ | refine Go.Rw.below_drewN ?_ _ | refine Go.Rw.below_setRow ?_ (by (try simp [size_beyond]) <;> omega) _ | refine Below.alloc ?_ (by (try simp [size_beyond]) <;> omega) _ | refine Below.setCell ?_ (by (try simp [size_beyond]) <;> omega) _)), wpQuiet_nil ?_⟩
  go_wp2_with (go_at_call 43; refine (HL3.out _ (by repeat (first | assumption | exact Below.refl _ _ | exact below_beyond _ _ | refine Below.beyond ?_ (by (try simp [size_beyond]) <;> omega) _ | refine Below.drew ?_ | refine Go.Rw.below_drewN ?_ _ | refine Go.Rw.below_setRow ?_ (by (try simp [size_beyond]) <;> omega) _ | refine Below.alloc ?_ (by (try simp [size_beyond]) <;> omega) _ | refine Below.setCell ?_ (by (try simp [size_beyond]) <;> omega) _))).mono ?_; rintro e w1 ⟨qc, mc, cc, y7, rfl, rfl, H3⟩)
  refine ⟨beyond_of (by repeat (first | assumption | exact Below.refl _ _ | exact below_beyond _ _ | refine Below.beyond ?_ (by (try simp [size_beyond]) <;> omega) _ | refine Below.drew ?_ | refine Go.Rw.below_drewN ?_ _ | refine Go.Rw.below_setRow ?_ (by (try simp [size_beyond]) <;> omega) _ | refine Below.alloc ?_ (by (try simp [size_beyond]) <;> omega) _ | refine Below.setCell ?_ (by (try simp [size_beyond]) <;> omega) _)), wpQuiet_nil ?_⟩
  go_wp2_with (go_at_call 43; refine (HL4.out _ (by repeat (first | assumption | exact Below.refl _ _ | exact below_beyond _ _ | refine Below.beyond ?_ (by (try simp [size_beyond]) <;> omega) _ | refine Below.drew ?_ | refine Go.Rw.below_drewN ?_ _ | refine Go.Rw.below_setRow ?_ (by (try simp [size_beyond]) <;> omega) _ | refine Below.alloc ?_ (by (try simp [size_beyond]) <;> omega) _ | refine Below.setCell ?_ (by (try simp [size_beyond]) <;> omega) _))).mono ?_; rintro e w1 ⟨qd, md, cd, y8, rfl, rfl, H4⟩)
  refine ⟨beyond_of (by repeat (first | assumption | exact Below.refl _ _ | exact below_beyond _ _ | refine Below.beyond ?_ (by (try simp [size_beyond]) <;> omega) _ | refine Below.drew ?_ | refine Go.Rw.below_drewN ?_ _ | refine Go.Rw.below_setRow ?_ (by (try simp [size_beyond]) <;> omega) _ | refine Below.alloc ?_ (by (try simp [size_beyond]) <;> omega) _ | refine Below.setCell ?_ (by (try simp [size_beyond]) <;> omega) _)), wpQuiet_nil ?_⟩
  go_wp2_with (go_at_call 42; refine (HSR.out _ _ _ _ _ _ _ (by first | (with_reducible assumption) | (refine ListsAt.below (by with_reducible assumption) ?_; exact (by repeat (first | assumption | exact Below.refl _ _ | exact below_beyond _ _ | refine Below.beyond ?_ (by (try simp [size_beyond]) <;> omega) _ | refine Below.drew ?_ | refine Go.Rw.below_drewN ?_ _ | refine Go.Rw.below_setRow ?_ (by (try simp [size_beyond]) <;> omega) _ | refine Below.alloc ?_ (by (try simp [size_beyond]) <;> omega) _ | refine Below.setCell ?_ (by (try simp [size_beyond]) <;> omega) _)))) (by first | (with_reducible assumption) | (refine ListsAt.below (by with_reducible assumption) ?_; exact (by repeat (first | assumption | exact Below.refl _ _ | exact below_beyond _ _ | refine Below.beyond ?_ (by (try simp [size_beyond]) <;> omega) _ | refine Below.drew ?_ | refine Go.Rw.below_drewN ?_ _ | refine Go.Rw.below_setRow ?_ (by (try simp [size_beyond]) <;> omega) _ | refine Below.alloc ?_ (by (try simp [size_beyond]) <;> omega) _ | refine Below.setCell ?_ (by (try simp [size_beyond]) <;> omega) _))))).mono ?_; rintro e w1 ⟨rfl, y9, rfl⟩)
  refine ⟨beyond_of (by repeat (first | assumption | exact Below.refl _ _ | exact below_beyond _ _ | refine Below.beyond ?_ (by (try simp [size_beyond]) <;> omega) _ | refine Below.drew ?_ | refine Go.Rw.below_drewN ?_ _ | refine Go.Rw.below_setRow ?_ (by (try simp [size_beyond]) <;> omega) _ | refine Below.alloc ?_ (by (try simp [size_beyond]) <;> omega) _ | refine Below.setCell ?_ (by (try simp [size_beyond]) <;> omega) _)), ?_⟩
  repeat (go_big_quiet_step (fail))
  refine wpQuiet_nil ?_
  go_wp2
  go_ret
  exact ⟨rfl, beyond_of (by repeat (first | assumption | exact Below.refl _ _ | exact below_beyond _ _ | refine Below.beyond ?_ (by (try simp [size_beyond]) <;> omega) _ | refine Below.drew ?_ | refine Go.Rw.below_drewN ?_ _ | refine Go.Rw.below_setRow ?_ (by (try simp [size_beyond]) <;> omega) _ | refine Below.alloc ?_ (by (try simp [size_beyond]) <;> omega) _ | refine Below.setCell ?_ (by (try simp [size_beyond]) <;> omega) _))⟩
theorem part_ww {W : World} (hL : laidMetH Tryd.prog Rows.bitsetCompareRow.laid W) {xs ys : List Bits.W} (hx : xs.length = 16) (hy : ys.length = 16) {L M : List (List Bits.W)} {b3 off3 m3 c3 : Nat} {b4 off4 m4 c4 : Nat} (hl : 20 < m3) (hlc : m3 ≤ c3) (hlm : c3 ≤ 9223372036854775807) (hm : 20 < m4) (hmc : m4 ≤ c4) (hmm : c4 ≤ 9223372036854775807)
    (h3 : RowsAt (some ⟨b3, off3, none⟩) ((20 : Nat)) c3 L W) (h4 : RowsAt (some ⟨b4, off4, none⟩) ((20 : Nat)) c4 M W) :
    Calls Tryd.prog 6 #[.agg (rowW xs), .agg (rowW ys), .slice (some ⟨b3, off3, none⟩) m3 c3, .slice (some ⟨b4, off4, none⟩) m4 c4] W fun e w' => e = .returned (.bool true) ∧ ∃ x, w' = beyond W x := by
  have HX := Lib.hid hx; clear hx
  have HY := Lib.hid hy; clear hy
  have KK := Lib.hid (fun X hb => known_calls hL X hb); clear hL
  have HZ := Lib.hid (show (rowW xs).size = 16 by rw [rowW_size, HX.out])
  have HZ2 := Lib.hid (show (rowW ys).size = 16 by rw [rowW_size, HY.out])
  have HCP := Lib.hid (fun w => cmpset_calls HX.out HY.out w)
  have HCR := Lib.hid (fun (q q2 : Option Addr) (m c m2 c2 : Nat) (w : World) (h : IsAt q m c (elems xs) w) (h2 : IsAt q2 m2 c2 (elems ys) w) => cmp_at h h2)
  generalize cmpL (elems xs) (elems ys) = cv at HCP HCR
  have HSL := Lib.hid (fun w (hb : Below W.heap.size W w) => cmpsl_calls (h3.below hb) (h4.below hb))
  have HSR := Lib.hid (fun (q q2 : Option Addr) (m c m2 c2 : Nat) (w : World) (h : ListsAt q m c L w) (h2 : ListsAt q2 m2 c2 M w) => cmpls_calls h h2)
  generalize cmpLL L M = sv at HSL HSR
  have HL3 := Lib.hid (fun w (hb : Below W.heap.size W w) => lists_calls (h3.below hb))
  have HL4 := Lib.hid (fun w (hb : Below W.heap.size W w) => lists_calls (h4.below hb))
  clear h3 h4
  go_enter Tryd.func6, Tryd.ntmps6
  go_wp2
  refine wp_region_plan (fun w' => ∃ x, w' = beyond ((W.alloc (.cells (rowW xs) 25)).alloc (.cells (rowW ys) 25)) x) [([], 0), ([1, 2, 3, 5, 7], 4), ([], 6), ([], 8), ([], 9), ([10, 11, 12, 13, 14, 16, 18], 15), ([], 17), ([], 19), ([], 20)] [21, 22, 23] (by kernel_rfl) (by kernel_rfl) (by intro _ _ d _ _ h; cases d <;> exact h) (beyond_of (by repeat (first | assumption | exact Below.refl _ _ | exact below_beyond _ _ | refine Below.beyond ?_ (by (try simp [size_beyond]) <;> omega) _ | refine Below.drew ?_ | refine Go.Rw.below_drewN ?_ _ | refine Go.Rw.below_setRow ?_ (by (try simp [size_beyond]) <;> omega) _ | refine Below.alloc ?_ (by (try simp [size_beyond]) <;> omega) _ | refine Below.setCell ?_ (by (try simp [size_beyond]) <;> omega) _))) ?_
  simp only [wpSegs, pick, List.filterMap, List.size_toArray, List.getElem?_toArray, List.getElem?_cons_zero, List.getElem?_cons_succ]
  refine wpQuiet_nil ?_
  go_wp2_with (go_at_call 24; refine (KK.out _ (by repeat (first | assumption | exact Below.refl _ _ | exact below_beyond _ _ | refine Below.beyond ?_ (by (try simp [size_beyond]) <;> omega) _ | refine Below.drew ?_ | refine Go.Rw.below_drewN ?_ _ | refine Go.Rw.below_setRow ?_ (by (try simp [size_beyond]) <;> omega) _ | refine Below.alloc ?_ (by (try simp [size_beyond]) <;> omega) _ | refine Below.setCell ?_ (by (try simp [size_beyond]) <;> omega) _))).mono ?_; rintro e w1 ⟨rfl, y1, rfl⟩)
  refine ⟨beyond_of (by repeat (first | assumption | exact Below.refl _ _ | exact below_beyond _ _ | refine Below.beyond ?_ (by (try simp [size_beyond]) <;> omega) _ | refine Below.drew ?_ | refine Go.Rw.below_drewN ?_ _ | refine Go.Rw.below_setRow ?_ (by (try simp [size_beyond]) <;> omega) _ | refine Below.alloc ?_ (by (try simp [size_beyond]) <;> omega) _ | refine Below.setCell ?_ (by (try simp [size_beyond]) <;> omega) _)), ?_⟩
  go_big_quiet_step (fail)
  refine wpQuiet_load_row (by kernel_rfl) 25 (.tmp 4) rfl W.heap.size (rowW xs) 25 _ rfl (by rintro _ ⟨x, rfl⟩; simp [go_sem, inW]) Tryd.underlying25 rfl (by rw [HZ.out]; exact sInfo) ?_
  simp only [Act.put, List.setIfInBounds_toArray, List.set_cons_succ, List.set_cons_zero]
  refine wpQuiet_load_row (by kernel_rfl) 25 (.tmp 5) rfl (W.heap.size + 1) (rowW ys) 25 _ rfl (by rintro _ ⟨x, rfl⟩; simp [go_sem, inW]) Tryd.underlying25 rfl (by rw [HZ2.out]; exact sInfo) ?_
  simp only [Act.put, List.setIfInBounds_toArray, List.set_cons_succ, List.set_cons_zero]
  refine wpQuiet_load_row (by kernel_rfl) 25 (.tmp 4) rfl W.heap.size (rowW xs) 25 _ rfl (by rintro _ ⟨x, rfl⟩; simp [go_sem, inW]) Tryd.underlying25 rfl (by rw [HZ.out]; exact sInfo) ?_
  simp only [Act.put, List.setIfInBounds_toArray, List.set_cons_succ, List.set_cons_zero]
  refine wpQuiet_load_row (by kernel_rfl) 25 (.tmp 5) rfl (W.heap.size + 1) (rowW ys) 25 _ rfl (by rintro _ ⟨x, rfl⟩; simp [go_sem, inW]) Tryd.underlying25 rfl (by rw [HZ2.out]; exact sInfo) ?_
  simp only [Act.put, List.setIfInBounds_toArray, List.set_cons_succ, List.set_cons_zero]
  refine wpQuiet_nil ?_
  go_wp2_with (go_at_call 39; refine (HCP.out _).mono ?_; rintro e w1 ⟨rfl, y2, rfl⟩)
  refine ⟨beyond_of (by repeat (first | assumption | exact Below.refl _ _ | exact below_beyond _ _ | refine Below.beyond ?_ (by (try simp [size_beyond]) <;> omega) _ | refine Below.drew ?_ | refine Go.Rw.below_drewN ?_ _ | refine Go.Rw.below_setRow ?_ (by (try simp [size_beyond]) <;> omega) _ | refine Below.alloc ?_ (by (try simp [size_beyond]) <;> omega) _ | refine Below.setCell ?_ (by (try simp [size_beyond]) <;> omega) _)), wpQuiet_nil ?_⟩
  go_wp2_with (go_at_call 18; refine (to_at HX.out _).mono ?_; rintro e w1 ⟨qa, ma, ca, y3, rfl, rfl, H1⟩)
  refine ⟨beyond_of (by repeat (first | assumption | exact Below.refl _ _ | exact below_beyond _ _ | refine Below.beyond ?_ (by (try simp [size_beyond]) <;> omega) _ | refine Below.drew ?_ | refine Go.Rw.below_drewN ?_ _ | refine Go.Rw.below_setRow ?_ (by (try simp [size_beyond]) <;> omega) _ | refine Below.alloc ?_ (by (try simp [size_beyond]) <;> omega) _ | refine Below.setCell ?_ (by (try simp [size_beyond]) <;> omega) _)), wpQuiet_nil ?_⟩
  go_wp2_with (go_at_call 18; refine (to_at HY.out _).mono ?_; rintro e w1 ⟨qb, mb, cb, y4, rfl, rfl, H2⟩)
  refine ⟨beyond_of (by repeat (first | assumption | exact Below.refl _ _ | exact below_beyond _ _ | refine Below.beyond ?_ (by (try simp [size_beyond]) <;> omega) _ | refine Below.drew ?_ | refine Go.Rw.below_drewN ?_ _ | refine Go.Rw.below_setRow ?_ (by (try simp [size_beyond]) <;> omega) _ | refine Below.alloc ?_ (by (try simp [size_beyond]) <;> omega) _ | refine Below.setCell ?_ (by (try simp [size_beyond]) <;> omega) _)), wpQuiet_nil ?_⟩
  go_wp2_with (go_at_call 40; refine (HCR.out _ _ _ _ _ _ _ (by first | (with_reducible assumption) | (refine IsAt.below (by with_reducible assumption) ?_; exact (by repeat (first | assumption | exact Below.refl _ _ | exact below_beyond _ _ | refine Below.beyond ?_ (by (try simp [size_beyond]) <;> omega) _ | refine Below.drew ?_ | refine Go.Rw.below_drewN ?_ _ | refine Go.Rw.below_setRow ?_ (by (try simp [size_beyond]) <;> omega) _ | refine Below.alloc ?_ (by (try simp [size_beyond]) <;> omega) _ | refine Below.setCell ?_ (by (try simp [size_beyond]) <;> omega) _)))) (by first | (with_reducible assumption) | (refine IsAt.below (by with_reducible assumption) ?_; exact (by repeat (first | assumption | exact Below.refl _ _ | exact below_beyond _ _ | refine Below.beyond ?_ (by (try simp [size_beyond]) <;> omega) _ | refine Below.drew ?_ | refine Go.Rw.below_drewN ?_ _ | refine Go.Rw.below_setRow ?_ (by (try simp [size_beyond]) <;> omega) _ | refine Below.alloc ?_ (by (try simp [size_beyond]) <;> omega) _ | refine Below.setCell ?_ (by (try simp [size_beyond]) <;> omega) _))))).mono ?_; rintro e w1 ⟨rfl, y5, rfl⟩)
  refine ⟨beyond_of (by repeat (first | assumption | exact Below.refl _ _ | exact below_beyond _ _ | refine Below.beyond ?_ (by (try simp [size_beyond]) <;> omega) _ | refine Below.drew ?_ | refine Go.Rw.below_drewN ?_ _ | refine Go.Rw.below_setRow ?_ (by (try simp [size_beyond]) <;> omega) _ | refine Below.alloc ?_ (by (try simp [size_beyond]) <;> omega) _ | refine Below.setCell ?_ (by (try simp [size_beyond]) <;> omega) _)), ?_⟩
  repeat (go_big_quiet_step (fail))
  refine wpQuiet_nil ?_
  go_wp2_with (go_at_call 41; refine (HSL.out _ (by repeat (first | assumption | exact Below.refl _ _ | exact below_beyond _ _ | refine Below.beyond ?_ (by (try simp [size_beyond]) <;> omega) _ | refine Below.drew ?_ | refine Go.Rw.below_drewN ?_ _ | refine Go.Rw.below_setRow ?_ (by (try simp [size_beyond]) <;> omega) _ | refine Below.alloc ?_ (by (try simp [size_beyond]) <;> omega) _ | refine Below.setCell ?_ (by (try simp [size_beyond]) <;> omega) _))).mono ?_; rintro e w1 ⟨rfl, y6, rfl⟩)
  refine ⟨beyond_of (by repeat (first | assumption | exact Below.refl _ _ | exact below_beyond _ _ | refine Below.beyond ?_ (by (try simp [size_beyond]) <;> omega) _ | refine Below.drew ?_ | refine Go.Rw.below_drewN ?_ _ | refine Go.Rw.below_setRow ?_ (by (try simp [size_beyond]) <;> omega) _ | refine Below.alloc ?_ (by (try simp [size_beyond]) <;> omega) _ | refine Below.setCell ?_ (by (try simp [size_beyond]) <;> omega) _)), wpQuiet_nil ?_⟩
  go_wp2_with (go_at_call 43; refine (HL3.out _ (by repeat (first | assumption | exact Below.refl _ _ | exact below_beyond _ _ | refine Below.beyond ?_ (by (try simp [size_beyond]) <;> omega) _ | refine Below.drew ?_ | refine Go.Rw.below_drewN ?_ _ | refine Go.Rw.below_setRow ?_ (by (try simp [size_beyond]) <;> omega) _ | refine Below.alloc ?_ (by (try simp [size_beyond]) <;> omega) _ | refine Below.setCell ?_ (by (try simp [size_beyond]) <;> omega) _))).mono ?_; rintro e w1 ⟨qc, mc, cc, y7, rfl, rfl, H3⟩)
  refine ⟨beyond_of (by repeat (first | assumption | exact Below.refl _ _ | exact below_beyond _ _ | refine Below.beyond ?_ (by (try simp [size_beyond]) <;> omega) _ | refine Below.drew ?_ | refine Go.Rw.below_drewN ?_ _ | refine Go.Rw.below_setRow ?_ (by (try simp [size_beyond]) <;> omega) _ | refine Below.alloc ?_ (by (try simp [size_beyond]) <;> omega) _ | refine Below.setCell ?_ (by (try simp [size_beyond]) <;> omega) _)), wpQuiet_nil ?_⟩
  go_wp2_with (go_at_call 43; refine (HL4.out _ (by repeat (first | assumption | exact Below.refl _ _ | exact below_beyond _ _ | refine Below.beyond ?_ (by (try simp [size_beyond]) <;> omega) _ | refine Below.drew ?_ | refine Go.Rw.below_drewN ?_ _ | refine Go.Rw.below_setRow ?_ (by (try simp [size_beyond]) <;> omega) _ | refine Below.alloc ?_ (by (try simp [size_beyond]) <;> omega) _ | refine Below.setCell ?_ (by (try simp [size_beyond]) <;> omega) _))).mono ?_; rintro e w1 ⟨qd, md, cd, y8, rfl, rfl, H4⟩)
  refine ⟨beyond_of (by repeat (first | assumption | exact Below.refl _ _ | exact below_beyond _ _ | refine Below.beyond ?_ (by (try simp [size_beyond]) <;> omega) _ | refine Below.drew ?_ | refine Go.Rw.below_drewN ?_ _ | refine Go.Rw.below_setRow ?_ (by (try simp [size_beyond]) <;> omega) _ | refine Below.alloc ?_ (by (try simp [size_beyond]) <;> omega) _ | refine Below.setCell ?_ (by (try simp [size_beyond]) <;> omega) _)), wpQuiet_nil ?_⟩
  go_wp2_with (go_at_call 42; refine (HSR.out _ _ _ _ _ _ _ (by first | (with_reducible assumption) | (refine ListsAt.below (by with_reducible assumption) ?_; exact (by repeat (first | assumption | exact Below.refl _ _ | exact below_beyond _ _ | refine Below.beyond ?_ (by (try simp [size_beyond]) <;> omega) _ | refine Below.drew ?_ | refine Go.Rw.below_drewN ?_ _ | refine Go.Rw.below_setRow ?_ (by (try simp [size_beyond]) <;> omega) _ | refine Below.alloc ?_ (by (try simp [size_beyond]) <;> omega) _ | refine Below.setCell ?_ (by (try simp [size_beyond]) <;> omega) _)))) (by first | (with_reducible assumption) | (refine ListsAt.below (by with_reducible assumption) ?_; exact (by repeat (first | assumption | exact Below.refl _ _ | exact below_beyond _ _ | refine Below.beyond ?_ (by (try simp [size_beyond]) <;> omega) _ | refine Below.drew ?_ | refine Go.Rw.below_drewN ?_ _ | refine Go.Rw.below_setRow ?_ (by (try simp [size_beyond]) <;> omega) _ | refine Below.alloc ?_ (by (try simp [size_beyond]) <;> omega) _ | refine Below.setCell ?_ (by (try simp [size_beyond]) <;> omega) _))))).mono ?_; rintro e w1 ⟨rfl, y9, rfl⟩)
  refine ⟨beyond_of (by repeat (first | assumption | exact Below.refl _ _ | exact below_beyond _ _ | refine Below.beyond ?_ (by (try simp [size_beyond]) <;> omega) _ | refine Below.drew ?_ | refine Go.Rw.below_drewN ?_ _ | refine Go.Rw.below_setRow ?_ (by (try simp [size_beyond]) <;> omega) _ | refine Below.alloc ?_ (by (try simp [size_beyond]) <;> omega) _ | refine Below.setCell ?_ (by (try simp [size_beyond]) <;> omega) _)), ?_⟩
  repeat (go_big_quiet_step (fail))
  refine wpQuiet_nil ?_
  go_wp2
  go_ret
  exact ⟨rfl, beyond_of (by repeat (first | assumption | exact Below.refl _ _ | exact below_beyond _ _ | refine Below.beyond ?_ (by (try simp [size_beyond]) <;> omega) _ | refine Below.drew ?_ | refine Go.Rw.below_drewN ?_ _ | refine Go.Rw.below_setRow ?_ (by (try simp [size_beyond]) <;> omega) _ | refine Below.alloc ?_ (by (try simp [size_beyond]) <;> omega) _ | refine Below.setCell ?_ (by (try simp [size_beyond]) <;> omega) _))⟩
theorem rows_take {q : Option Addr} {m c : Nat} {L : List (List Bits.W)} {w : World} (hm : m = L.length) (hc : m ≤ c) (hcm : c ≤ maxLen) (h16 : ∀ xs ∈ L, xs.length = 16)
    (h : L = [] ∨ ∃ b off, q = some ⟨b, off, none⟩ ∧ b < w.heap.size ∧ ∀ i xs, L[i]? = some xs → w.rangeAt b (off + i * 16) (rowW xs).toList) (hw : 20 < m) :
    ∃ b off, q = some ⟨b, off, none⟩ ∧ RowsAt (some ⟨b, off, none⟩) 20 c (L.take 20) w := by
  rcases h with h | ⟨b, off, rfl, h1, h2⟩
  · rw [h] at hm; simp at hm; omega
  · refine ⟨b, off, rfl, ⟨by simp; omega, by omega, by omega, hcm, fun xs hx => h16 xs (List.mem_of_mem_take hx), .inr ⟨b, off, rfl, h1, fun i xs hx => ?_⟩⟩⟩
    rw [List.getElem?_take] at hx
    split at hx
    · exact h2 i xs hx
    · cases hx
theorem main {W : World} (hL : laidMetH Tryd.prog Rows.bitsetCompareRow.laid W) {xs ys : List Bits.W} (hx : xs.length = 16) (hy : ys.length = 16) {L M : List (List Bits.W)} {q3 q4 : Option Addr} {m3 c3 m4 c4 : Nat}
    (hm : m3 = L.length) (hc : m3 ≤ c3) (hcm : c3 ≤ maxLen) (h16 : ∀ xs ∈ L, xs.length = 16) (h : L = [] ∨ ∃ b off, q3 = some ⟨b, off, none⟩ ∧ b < W.heap.size ∧ ∀ i xs, L[i]? = some xs → W.rangeAt b (off + i * 16) (rowW xs).toList)
    (hm2 : m4 = M.length) (hc2 : m4 ≤ c4) (hcm2 : c4 ≤ maxLen) (h162 : ∀ xs ∈ M, xs.length = 16) (h2 : M = [] ∨ ∃ b off, q4 = some ⟨b, off, none⟩ ∧ b < W.heap.size ∧ ∀ i xs, M[i]? = some xs → W.rangeAt b (off + i * 16) (rowW xs).toList) :
    Calls Tryd.prog 6 #[.agg (rowW xs), .agg (rowW ys), .slice q3 m3 c3, .slice q4 m4 c4] W fun e w' => e = .returned (.bool true) ∧ ∃ x, w' = beyond W x := by
  by_cases hl : m3 ≤ 20
  · have r3 : RowsAt q3 m3 c3 L W := ⟨hm, by omega, hc, hcm, h16, h⟩
    by_cases hr : m4 ≤ 20
    · exact part_nn hL hx hy hl hr r3 ⟨hm2, by omega, hc2, hcm2, h162, h2⟩
    · obtain ⟨b, off, rfl, r4⟩ := rows_take hm2 hc2 hcm2 h162 h2 (by omega)
      exact part_nw hL hx hy hl (by omega) hc2 hcm2 r3 r4
  · obtain ⟨b, off, rfl, r3⟩ := rows_take hm hc hcm h16 h (by omega)
    by_cases hr : m4 ≤ 20
    · exact part_wn hL hx hy (by omega) hc hcm hr r3 ⟨hm2, by omega, hc2, hcm2, h162, h2⟩
    · obtain ⟨b2, off2, rfl, r4⟩ := rows_take hm2 hc2 hcm2 h162 h2 (by omega)
      exact part_ww hL hx hy (by omega) hc hcm (by omega) hc2 hcm2 r3 r4
end Go.Proofs.YtjneboajbmabbaaDoor.bitsetCompare

namespace Go.Proofs.YtjneboajbmabbaaDoor.bitsetCompare
open Go.ChangeShapes Go.WideShapes Go.ChangeAt Go.RowKit Go.Joins Go.Own

set_option maxRecDepth 100000 in
theorem contract (H : Type) (enc : TypeId × Value → H) (W : World) (base : Nat) (args : Array Value) (ds gs : List (DataW H)) (before : List MemPlace)
    (hval : ∀ (j : Nat) t v, Tryd.f6.params[j]? = some t → args[j]? = some v → Value.okWide Tryd.prog W .any base t v)
    (hW : DataW.Whole enc Tryd.prog Tryd.f6.params.toList Rows.bitsetCompareSpec.vars false W args.toList ds gs before) (hL : laidMetH Tryd.prog Rows.bitsetCompareRow.laid W) :
    Calls Tryd.prog 6 args W fun e W' => ∃ v, e = .returned v ∧ Rows.bitsetCompareSpec.post enc Tryd.prog Tryd.f6 false true false false W args v W' := by
  have hW' := hW
  obtain ⟨p, q, hA0, hV, rfl, hfz, hnd⟩ := hW
  have hA : DataW.TrodAll enc Tryd.prog W 0 (fun _ => true) true Tryd.f6.params.toList args.toList ds p := hA0
  rw [Tryd.params6] at hA hval
  obtain ⟨v0, vs0, d0, ds0, p0, q0, hargs, rfl, rfl, h0, r0⟩ := trodAll_cons hA
  obtain ⟨v1, vs1, d1, ds1, p1, q1, rfl, rfl, rfl, h1, r1⟩ := trodAll_cons r0
  obtain ⟨v2, vs2, d2, ds2, p2, q2, rfl, rfl, rfl, h2, r2⟩ := trodAll_cons r1
  obtain ⟨v3, vs3, d3, ds3, p3, q3, rfl, rfl, rfl, h3, r3⟩ := trodAll_cons r2
  obtain ⟨rfl, rfl, rfl⟩ := trodAll_nil r3
  obtain rfl : args = #[v0, v1, v2, v3] := by cases args; simp_all
  obtain ⟨rfl, rfl⟩ := trodVars_none hV
  obtain ⟨xs, hxl, rfl⟩ := ref1.open_set Tryd.underlying25 Tryd.underlying23 (by kernel_rfl) (by kernel_rfl) (hval 0 25 v0 rfl rfl) h0
  obtain ⟨ys, hyl, rfl⟩ := ref1.open_set Tryd.underlying25 Tryd.underlying23 (by kernel_rfl) (by kernel_rfl) (hval 1 25 v1 rfl rfl) h1
  obtain ⟨qa, na, ca, L, rfl, a1, a2, a3, a4, a5⟩ := ref1.open_rows Tryd.underlying49 Tryd.underlying25 Tryd.underlying23 (by kernel_rfl) (by kernel_rfl) (hval 2 49 v2 rfl rfl) h2
  obtain ⟨qb, nb, cb, M, rfl, b1, b2, b3, b4, b5⟩ := ref1.open_rows Tryd.underlying49 Tryd.underlying25 Tryd.underlying23 (by kernel_rfl) (by kernel_rfl) (hval 3 49 v3 rfl rfl) h3
  refine (main hL hxl hyl a1 a2 a3 a4 a5 b1 b2 b3 b4 b5).mono fun e W' ⟨he, x, hx⟩ => ?_
  subst he; subst hx
  exact ⟨_, rfl, law_post hW' rfl rfl (below_beyond _ _) rfl Tryd.underlying4 (by kernel_rfl) (by kernel_rfl)⟩

noncomputable def laid1 (cs : Array Value) : Obj → Obj
  | .cells _ t frozen => .cells cs t frozen
  | o => o
/-- A world for the witness: the settled one, the tables holding what their initialisers lay. -/
noncomputable def laidWorld (os : Os) : World := { World.holding Tryd.prog os ⟨#[], #[], []⟩ with heap := ((((World.holding Tryd.prog os ⟨#[], #[], []⟩).heap.modify 2 (laid1 (Can.tabCells Rows.laid_math_bits_deBruijn32tab))).modify 0 (laid1 (Can.tabCells Rows.laid_math_bits_deBruijn64tab))).modify 1 (laid1 (Can.tabCells Rows.laid_internal_strconv_uint64pow10))) }
theorem laid_met (os : Os) : laidMet Tryd.prog Rows.bitsetCompareRow.laid ((laidWorld os).forCall (fun _ _ => 0) ⟨#[], #[.agg #[.int .u64 0, .int .u64 0, .int .u64 0, .int .u64 0, .int .u64 0, .int .u64 0, .int .u64 0, .int .u64 0, .int .u64 0, .int .u64 0, .int .u64 0, .int .u64 0, .int .u64 0, .int .u64 0, .int .u64 0, .int .u64 0], .agg #[.int .u64 0, .int .u64 0, .int .u64 0, .int .u64 0, .int .u64 0, .int .u64 0, .int .u64 0, .int .u64 0, .int .u64 0, .int .u64 0, .int .u64 0, .int .u64 0, .int .u64 0, .int .u64 0, .int .u64 0, .int .u64 0], .slice none 0 0, .slice none 0 0], []⟩).memory :=
  laidMet_of_run' 8 (by kernel_rfl) (by kernel_rfl)
theorem reads (os : Os) {H : Type} (enc : TypeId × Value → H) : ∃ places, DataW.whole enc Tryd.prog ((laidWorld os).forCall (fun _ _ => 0) ⟨#[], #[.agg #[.int .u64 0, .int .u64 0, .int .u64 0, .int .u64 0, .int .u64 0, .int .u64 0, .int .u64 0, .int .u64 0, .int .u64 0, .int .u64 0, .int .u64 0, .int .u64 0, .int .u64 0, .int .u64 0, .int .u64 0, .int .u64 0], .agg #[.int .u64 0, .int .u64 0, .int .u64 0, .int .u64 0, .int .u64 0, .int .u64 0, .int .u64 0, .int .u64 0, .int .u64 0, .int .u64 0, .int .u64 0, .int .u64 0, .int .u64 0, .int .u64 0, .int .u64 0, .int .u64 0], .slice none 0 0, .slice none 0 0], []⟩).memory Tryd.f6.params.toList Rows.bitsetCompareSpec.vars false (#[.agg #[.int .u64 0, .int .u64 0, .int .u64 0, .int .u64 0, .int .u64 0, .int .u64 0, .int .u64 0, .int .u64 0, .int .u64 0, .int .u64 0, .int .u64 0, .int .u64 0, .int .u64 0, .int .u64 0, .int .u64 0, .int .u64 0], .agg #[.int .u64 0, .int .u64 0, .int .u64 0, .int .u64 0, .int .u64 0, .int .u64 0, .int .u64 0, .int .u64 0, .int .u64 0, .int .u64 0, .int .u64 0, .int .u64 0, .int .u64 0, .int .u64 0, .int .u64 0, .int .u64 0], .slice none 0 0, .slice none 0 0] : Array Value).toList 8 = some ([.agg [.lit (.int .u64 0), .lit (.int .u64 0), .lit (.int .u64 0), .lit (.int .u64 0), .lit (.int .u64 0), .lit (.int .u64 0), .lit (.int .u64 0), .lit (.int .u64 0), .lit (.int .u64 0), .lit (.int .u64 0), .lit (.int .u64 0), .lit (.int .u64 0), .lit (.int .u64 0), .lit (.int .u64 0), .lit (.int .u64 0), .lit (.int .u64 0)], .agg [.lit (.int .u64 0), .lit (.int .u64 0), .lit (.int .u64 0), .lit (.int .u64 0), .lit (.int .u64 0), .lit (.int .u64 0), .lit (.int .u64 0), .lit (.int .u64 0), .lit (.int .u64 0), .lit (.int .u64 0), .lit (.int .u64 0), .lit (.int .u64 0), .lit (.int .u64 0), .lit (.int .u64 0), .lit (.int .u64 0), .lit (.int .u64 0)], .nil, .nil], [], places) :=
  ⟨[], by kernel_rfl⟩

set_option maxRecDepth 100000 in
theorem lifted (os : Os) (started : os.Started) (H : Type) (enc : TypeId × Value → H) (F : Stop.Interp) :
    ReturnsInHanded {} Tryd.checked os 6 .any ((OpenSpec.ofChange Rows.bitsetCompareSpec).preRow enc Tryd.prog Tryd.f6 Rows.bitsetCompareRow.domain false Rows.bitsetCompareRow.laid) (((OpenSpec.ofChange Rows.bitsetCompareSpec).at F).post enc Tryd.prog Tryd.f6 false true false false) := by
  obtain ⟨places, hx⟩ := reads os enc
  refine returnsInHanded_of_row (C := Tryd.checked) (s := OpenSpec.ofChange Rows.bitsetCompareSpec) own started (by kernel_rfl) Tryd.func6
    (witness_row_at (enc := enc) (C := Tryd.checked) false (laidWorld os) #[.agg #[.int .u64 0, .int .u64 0, .int .u64 0, .int .u64 0, .int .u64 0, .int .u64 0, .int .u64 0, .int .u64 0, .int .u64 0, .int .u64 0, .int .u64 0, .int .u64 0, .int .u64 0, .int .u64 0, .int .u64 0, .int .u64 0], .agg #[.int .u64 0, .int .u64 0, .int .u64 0, .int .u64 0, .int .u64 0, .int .u64 0, .int .u64 0, .int .u64 0, .int .u64 0, .int .u64 0, .int .u64 0, .int .u64 0, .int .u64 0, .int .u64 0, .int .u64 0, .int .u64 0], .slice none 0 0, .slice none 0 0] rfl (by kernel_rfl) (by kernel_rfl) (by kernel_rfl)
      (OpenSpec.preRow_of_cond 8 hx (by kernel_rfl) (fun k hk => by cases hk) (by kernel_rfl) (laid_met os))) ?_
  intro W base args ds gs before hval hW _ _ _ hL _ _
  exact contract H enc W base args ds gs before hval hW hL

theorem said : Rows.BitsetCompareSaid :=
  OpenClaim.holds_of_cond 6 Tryd.f6 rfl rfl rfl rfl rfl rfl rfl ⟨rfl, rfl, rfl, rfl, rfl⟩ rfl rfl rfl rfl rfl (by kernel_rfl) Tryd.func6 (by kernel_rfl)
    (of_decide_eq_true (by kernel_rfl)) (by unfold Func.isWrapper; first | (rw [if_pos (by decide +kernel)]; kernel_rfl) | (rw [if_neg (by decide +kernel)]; exact ⟨rfl, rfl⟩))
    (fun os started H enc _ F => by rw [OpenClaim.pre_eq_preRow]; exact lifted os started H enc F)

theorem plain (f : FuncId) (fn : Func) (hf : Tryd.pinned.checked.prog.funcNamed "palmette/palmettelaw01.BitsetCompare" = some f) (hfn : Tryd.pinned.checked.prog.funcs[f]? = some fn) :
    false = Tryd.pinned.checked.prog.looks [] ∧ ∀ (j : Nat) t, fn.params[j]? = some t → Tryd.pinned.checked.prog.wantsStandIn t = false := by
  obtain rfl : f = 6 := Option.some.inj ((show Tryd.prog.funcNamed "palmette/palmettelaw01.BitsetCompare" = some 6 by kernel_rfl).symm.trans hf) |>.symm
  obtain rfl : fn = Tryd.f6 := (Option.some.inj (Tryd.func6.symm.trans hfn)).symm
  exact ⟨by kernel_rfl, fun j t ht => Can.wants_of (P := Tryd.pinned.checked.prog) (by kernel_rfl) j t ht⟩

theorem card : Rows.BitsetCompareCardSaid :=
  Claim7.holds_tied_plain_at .later [] _ _ _ _ said (fun _ h => by cases h) (by kernel_rfl) (fun _ h => by cases h) bitsetCompare_row_tie rfl ⟨rfl, rfl⟩ (by kernel_rfl) rfl plain (by kernel_rfl)
end Go.Proofs.YtjneboajbmabbaaDoor.bitsetCompare
