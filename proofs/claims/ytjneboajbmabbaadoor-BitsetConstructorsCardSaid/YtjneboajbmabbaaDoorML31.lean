/-
  BitsetConstructors: the call answers true whatever its arguments: the frame.
-/
import Derived.Test.YtjneboajbmabbaaDoorMB1
import Derived.Test.YtjneboajbmabbaaDoorMB2
import Derived.Test.YtjneboajbmabbaaDoorCards
import Derived.Test.YtjneboajbmabbaaDoorTie
import Derived.Test.YtjneboajbmabbaaDoorCanAG
import Derived.WalkKit
import Derived.ProofKit
import Derived.OpenShut
import Derived.Deep.DeepHandedRow
import Derived.Test.YtjneboajbmabbaaDoorFrame
set_option linter.unusedSimpArgs false
set_option linter.unusedVariables false
namespace Go.Proofs.YtjneboajbmabbaaDoor.bitsetConstructors
open Go.ChangeShapes Go.WideShapes Go.ChangeAt Go.RowKit Go.Joins Go.Own

theorem own : ownKnob Tryd.prog.godebug = none := by kernel_rfl
theorem pc : Can.PC2 Tryd.prog := .of_bool (by kernel_rfl)
noncomputable def tab : Nat → Array Value
  | 0 => Can.tabCells Rows.laid_math_bits_deBruijn64tab
  | 1 => Can.tabCells Rows.laid_internal_strconv_uint64pow10
  | 2 => Can.tabCells Rows.laid_math_bits_deBruijn32tab
  | _ => #[]
noncomputable def H0 (T : Nat → TypeId) : Array Obj := #[.cells (tab 0) (T 0), .cells (tab 1) (T 1), .cells (tab 2) (T 2)]
theorem tabAt (T : Nat → TypeId) (g : Nat) (hg : g ∈ ([0, 1, 2] : List Nat)) : (H0 T)[g]? = some (.cells (tab g) (T g) (0, 0)) := by
  simp only [List.mem_cons, List.not_mem_nil, or_false] at hg
  rcases hg with rfl | rfl | rfl
  all_goals rfl
theorem tabPlain (g : Nat) (hg : g ∈ ([0, 1, 2] : List Nat)) : (tab g).all (Can.plainV 60) = true := by
  simp only [List.mem_cons, List.not_mem_nil, or_false] at hg
  rcases hg with rfl | rfl | rfl
  all_goals kernel_rfl
set_option maxRecDepth 100000 in
theorem knownTrue (T : Nat → TypeId) : Can.evTrue (Can.evS Tryd.prog [0, 1, 2] (Can.noSm) 3000 (.call 24 #[]) (Can.AW.start (H0 T))) = true := by kernel_rfl
noncomputable def sm : Can.RecD := Can.orSmD (Can.liftSm (Can.knownSm 24 tab [0, 1, 2])) (Can.liftSm (Can.noSm))
theorem sums : Can.RecOkD Tryd.prog [0, 1, 2] sm := Can.orSmD_ok (Can.liftSm_ok (Can.knownSm_ok pc (Can.noSm_ok) tabAt tabPlain knownTrue)) (Can.liftSm_ok (Can.noSm_ok))
theorem known {W : World} (hL : laidMetH Tryd.prog Rows.bitsetConstructorsRow.laid W) : Can.Known (H0 (Can.tyAt W)) (Can.onG [0, 1, 2]) W := by
  refine Can.known_onG fun g hg => ?_
  simp only [List.mem_cons, List.not_mem_nil, or_false] at hg
  rcases hg with rfl | rfl | rfl
  · exact ⟨tab 0, Can.tyAt W 0, rfl, Can.laid_tab hL (by kernel_rfl) (List.mem_of_getElem? (i := 1) rfl) (by kernel_rfl) (by kernel_rfl) (by decide +kernel), by kernel_rfl⟩
  · exact ⟨tab 1, Can.tyAt W 1, rfl, Can.laid_tab hL (by kernel_rfl) (List.mem_of_getElem? (i := 2) rfl) (by kernel_rfl) (by kernel_rfl) (by decide +kernel), by kernel_rfl⟩
  · exact ⟨tab 2, Can.tyAt W 2, rfl, Can.laid_tab hL (by kernel_rfl) (List.mem_of_getElem? (i := 0) rfl) (by kernel_rfl) (by kernel_rfl) (by decide +kernel), by kernel_rfl⟩
end Go.Proofs.YtjneboajbmabbaaDoor.bitsetConstructors

namespace Go.Proofs.YtjneboajbmabbaaDoor.bitsetConstructors
open Go.RowKit Go.Own Go.Rw Go.SetL Go.Bits Go.Proofs.YtjneboajbmabbaaDoor.ref1
set_option maxHeartbeats 1000000
set_option maxRecDepth 100000
attribute [local irreducible] beyond grow over

theorem sumsS : Can.RecOk Tryd.prog [0, 1, 2] (Can.knownSm 24 tab [0, 1, 2]) := Can.knownSm_ok pc (Can.noSm_ok) tabAt tabPlain knownTrue
/-- the examples hold in every world that comes behind one where the tables are laid -/
theorem known_calls {W : World} (hL : laidMetH Tryd.prog Rows.bitsetConstructorsRow.laid W) (X : World) (hb : Below W.heap.size W X) : Calls Tryd.prog 24 #[] X fun e w' => e = .returned (.bool true) ∧ ∃ y, w' = beyond X y := by
  have hk : Can.Known (H0 (Can.tyAt W)) (Can.onG [0, 1, 2]) X := by
    refine Can.known_onG fun g hg => ?_
    have hg' := hg
    simp only [List.mem_cons, List.not_mem_nil, or_false] at hg
    rcases hg with rfl | rfl | rfl
    · have h0 : W.heap[0]? = some (.cells (tab 0) (Can.tyAt W 0) (0, 0)) := Can.laid_tab hL (by kernel_rfl) (List.mem_of_getElem? (i := 1) rfl) (by kernel_rfl) (by kernel_rfl) (by decide +kernel)
      exact ⟨tab 0, Can.tyAt W 0, rfl, (hb.block 0 (Array.getElem?_eq_some_iff.1 h0).1).trans h0, by kernel_rfl⟩
    · have h0 : W.heap[1]? = some (.cells (tab 1) (Can.tyAt W 1) (0, 0)) := Can.laid_tab hL (by kernel_rfl) (List.mem_of_getElem? (i := 2) rfl) (by kernel_rfl) (by kernel_rfl) (by decide +kernel)
      exact ⟨tab 1, Can.tyAt W 1, rfl, (hb.block 1 (Array.getElem?_eq_some_iff.1 h0).1).trans h0, by kernel_rfl⟩
    · have h0 : W.heap[2]? = some (.cells (tab 2) (Can.tyAt W 2) (0, 0)) := Can.laid_tab hL (by kernel_rfl) (List.mem_of_getElem? (i := 0) rfl) (by kernel_rfl) (by kernel_rfl) (by decide +kernel)
      exact ⟨tab 2, Can.tyAt W 2, rfl, (hb.block 2 (Array.getElem?_eq_some_iff.1 h0).1).trans h0, by kernel_rfl⟩
  exact Can.true_callsS pc sumsS (n := 5) (by kernel_rfl) hk (Can.gl_onG _) (Can.plain_args (by kernel_rfl))
theorem tzW {W : World} (hL : laidMetH Tryd.prog Rows.bitsetConstructorsRow.laid W) : TzW W :=
  tzW_of (T := Can.tyAt W 0) (Can.laid_tab hL (by kernel_rfl) (List.mem_of_getElem? (i := 1) rfl) (by kernel_rfl) (by kernel_rfl) (by decide +kernel))

theorem part_yes {W : World} (hL : laidMetH Tryd.prog Rows.bitsetConstructorsRow.laid W) {q : Option Addr} {m c : Nat} {l : List Int} (h : IsAt q m c l W) (hm : m ≤ 200) (n : Int) (hn : IntKind.i64.has n)
  {xs : List Bits.W} (hx : xs.length = 16) (hof : ∀ w, IsAt q m c l w → Calls Tryd.prog 13 #[.slice q m c] w fun e w' => e = .returned (.agg (rowW xs)) ∧ ∃ y, w' = beyond w y)
  (hrof : ∀ w, IsAt q m c l w → Calls Tryd.prog 14 #[.slice q m c] w (Ret w (elems xs))) (cb : Bool) (hcb : (elems xs).contains n = cb) {n0 n1 : Int} (hmin : (elems xs).head? = some n0) (hmax : (elems xs).getLast? = some n1) {L : Nat} (hll : (elems xs).length = L) (hl0 : 0 < L) :
    Calls Tryd.prog 3 #[.slice q m c, .int .i64 n] W fun e w' => e = .returned (.bool true) ∧ ∃ x, w' = beyond W x := by
  have HX := Lib.hid hx; clear hx
  have KK := Lib.hid (fun X hb => known_calls hL X hb)
  have TZ := Lib.hid (tzW hL); clear hL
  have HZ := Lib.hid (show (rowW xs).size = 16 by rw [rowW_size, HX.out])
  have HZB := Lib.hid (show (rowW (belowS n)).size = 16 by rw [rowW_size, belowS_len])
  have HOF := Lib.hid hof; clear hof
  have HROF := Lib.hid hrof; clear hrof
  have HCB := Lib.hid hcb; clear hcb
  have HN0 := Lib.hid (show (elems xs)[0]? = some n0 by rw [← List.head?_eq_getElem?]; exact hmin)
  have HN1 := Lib.hid (show (elems xs)[L - 1]? = some n1 by rw [← hll, ← List.getLast?_eq_getElem?]; exact hmax)
  have HMIN := Lib.hid (fun w => min_yes HX.out (w := w) hmin); clear hmin
  have HMAX := Lib.hid (fun w => max_yes HX.out (w := w) hmax); clear hmax
  have hl1 : L ≤ 1024 := by rw [← hll]; exact ofP_len _
  have HLL := Lib.hid hll; clear hll
  have hle : ((L : Int) == 0) = false := beq_eq_false_iff_ne.2 (by omega)
  have HEMP := Lib.hid (fun w => show Calls Tryd.prog 20 #[.agg (rowW xs)] w (fun e w' => e = .returned (.bool false) ∧ ∃ y, w' = beyond w y) by
    have h := empty_set HX.out w
    rw [show decide (xs = zeros) = false from decide_eq_false (fun e => by have := HLL.out; rw [e, elems_zeros] at this; simp at this; omega)] at h; exact h)

  go_enter Tryd.func3, Tryd.ntmps3
  go_wp2_with (refine wpList_load_any (by kernel_rfl) 25 (.tmp 5) rfl _ (rowW xs) 25 _ rfl (BlkAt.all (by first | (with_reducible assumption) | (refine BlkAt.below (by with_reducible assumption) ?_; exact (by repeat (first | assumption | exact Below.refl _ _ | exact below_beyond _ _ | refine Below.beyond ?_ (by (try simp [size_beyond]) <;> omega) _ | refine Below.drew ?_ | refine Go.Rw.below_drewN ?_ _ | refine Go.Rw.below_setRow ?_ (by (try simp [size_beyond]) <;> omega) _ | refine Below.alloc ?_ (by (try simp [size_beyond]) <;> omega) _ | refine Below.setCell ?_ (by (try simp [size_beyond]) <;> omega) _))))) Tryd.underlying25 rfl (by rw [HZ.out]; exact sInfo) ?_)
  go_at_call 13
  refine (HOF.out _ (by first | (with_reducible assumption) | (refine IsAt.below (by with_reducible assumption) ?_; exact (by repeat (first | assumption | exact Below.refl _ _ | exact below_beyond _ _ | refine Below.beyond ?_ (by (try simp [size_beyond]) <;> omega) _ | refine Below.drew ?_ | refine Go.Rw.below_drewN ?_ _ | refine Go.Rw.below_setRow ?_ (by (try simp [size_beyond]) <;> omega) _ | refine Below.alloc ?_ (by (try simp [size_beyond]) <;> omega) _ | refine Below.setCell ?_ (by (try simp [size_beyond]) <;> omega) _))))).mono ?_; rintro e w1 ⟨rfl, y1, rfl⟩
  go_wp2_with (refine wpList_load_any (by kernel_rfl) 25 (.tmp 5) rfl _ (rowW xs) 25 _ rfl (BlkAt.all (by first | (with_reducible assumption) | (refine BlkAt.below (by with_reducible assumption) ?_; exact (by repeat (first | assumption | exact Below.refl _ _ | exact below_beyond _ _ | refine Below.beyond ?_ (by (try simp [size_beyond]) <;> omega) _ | refine Below.drew ?_ | refine Go.Rw.below_drewN ?_ _ | refine Go.Rw.below_setRow ?_ (by (try simp [size_beyond]) <;> omega) _ | refine Below.alloc ?_ (by (try simp [size_beyond]) <;> omega) _ | refine Below.setCell ?_ (by (try simp [size_beyond]) <;> omega) _))))) Tryd.underlying25 rfl (by rw [HZ.out]; exact sInfo) ?_)
  go_at_call 14
  refine (HROF.out _ (by first | (with_reducible assumption) | (refine IsAt.below (by with_reducible assumption) ?_; exact (by repeat (first | assumption | exact Below.refl _ _ | exact below_beyond _ _ | refine Below.beyond ?_ (by (try simp [size_beyond]) <;> omega) _ | refine Below.drew ?_ | refine Go.Rw.below_drewN ?_ _ | refine Go.Rw.below_setRow ?_ (by (try simp [size_beyond]) <;> omega) _ | refine Below.alloc ?_ (by (try simp [size_beyond]) <;> omega) _ | refine Below.setCell ?_ (by (try simp [size_beyond]) <;> omega) _))))).mono ?_; rintro e w1 ⟨q1, m1, c1, y1, rfl, rfl, H1⟩
  obtain rfl : L = m1 := (H1.all.1.trans HLL.out).symm
  go_wp2_with (first | (refine wpList_store_fresh rfl 25 (.tmp 5) (.tmp 19) rfl (rowW xs) 25 _ _ rfl rfl rfl (by rw [HZ.out]; exact sInfo) (by rw [HZ.out] <;> rfl) (rowW_one _) ?_; intro wr hbel HBK; have HWB : Below W.heap.size W wr := Below.trans (by repeat (first | assumption | exact Below.refl _ _ | exact below_beyond _ _ | refine Below.beyond ?_ (by (try simp [size_beyond]) <;> omega) _ | refine Below.drew ?_ | refine Go.Rw.below_drewN ?_ _ | refine Go.Rw.below_setRow ?_ (by (try simp [size_beyond]) <;> omega) _ | refine Below.alloc ?_ (by (try simp [size_beyond]) <;> omega) _ | refine Below.setCell ?_ (by (try simp [size_beyond]) <;> omega) _)) (Below.mono hbel (by simp [size_beyond] <;> omega)); have hws := HWB.size; have HIW := H1.below hbel; clear hbel H1) | (refine wpList_load_any (by kernel_rfl) 25 (.tmp 5) rfl _ (rowW xs) 25 _ rfl (BlkAt.all (by first | (with_reducible assumption) | (refine BlkAt.below (by with_reducible assumption) ?_; exact (by repeat (first | assumption | exact Below.refl _ _ | exact below_beyond _ _ | refine Below.beyond ?_ (by (try simp [size_beyond]) <;> omega) _ | refine Below.drew ?_ | refine Go.Rw.below_drewN ?_ _ | refine Go.Rw.below_setRow ?_ (by (try simp [size_beyond]) <;> omega) _ | refine Below.alloc ?_ (by (try simp [size_beyond]) <;> omega) _ | refine Below.setCell ?_ (by (try simp [size_beyond]) <;> omega) _))))) Tryd.underlying25 rfl (by rw [HZ.out]; exact sInfo) ?_))
  rcases HIW.all.2.2.2.2 with h0 | ⟨bb, off, rfl, hbw, hcc⟩
  · exfalso
    have := HLL.out
    rw [h0] at this; simp at this; omega
  have hin : inW bb wr = true := inW_iff.2 hbw
  have hc0 := hcc 0 n0 HN0.out
  rw [Nat.add_zero] at hc0
  have hc1 := hcc (L - 1) n1 HN1.out
  clear hcc
  go_at_call 15
  refine (HMIN.out _ (TZ.out.below (by repeat (first | assumption | exact Below.refl _ _ | exact below_beyond _ _ | refine Below.beyond ?_ (by (try simp [size_beyond]) <;> omega) _ | refine Below.drew ?_ | refine Go.Rw.below_drewN ?_ _ | refine Go.Rw.below_setRow ?_ (by (try simp [size_beyond]) <;> omega) _ | refine Below.alloc ?_ (by (try simp [size_beyond]) <;> omega) _ | refine Below.setCell ?_ (by (try simp [size_beyond]) <;> omega) _)))).mono ?_; rintro e w1 ⟨rfl, y1, rfl⟩
  go_wp2_with (refine wpList_load_any (by kernel_rfl) 25 (.tmp 5) rfl _ (rowW xs) 25 _ rfl (BlkAt.all (by first | (with_reducible assumption) | (refine BlkAt.below (by with_reducible assumption) ?_; exact (by repeat (first | assumption | exact Below.refl _ _ | exact below_beyond _ _ | refine Below.beyond ?_ (by (try simp [size_beyond]) <;> omega) _ | refine Below.drew ?_ | refine Go.Rw.below_drewN ?_ _ | refine Go.Rw.below_setRow ?_ (by (try simp [size_beyond]) <;> omega) _ | refine Below.alloc ?_ (by (try simp [size_beyond]) <;> omega) _ | refine Below.setCell ?_ (by (try simp [size_beyond]) <;> omega) _))))) Tryd.underlying25 rfl (by rw [HZ.out]; exact sInfo) ?_)
  go_at_call 16
  refine (HMAX.out _).mono ?_; rintro e w1 ⟨rfl, y1, rfl⟩
  go_wp2_with (refine wpList_load_any (by kernel_rfl) 25 (.tmp 5) rfl _ (rowW xs) 25 _ rfl (BlkAt.all (by first | (with_reducible assumption) | (refine BlkAt.below (by with_reducible assumption) ?_; exact (by repeat (first | assumption | exact Below.refl _ _ | exact below_beyond _ _ | refine Below.beyond ?_ (by (try simp [size_beyond]) <;> omega) _ | refine Below.drew ?_ | refine Go.Rw.below_drewN ?_ _ | refine Go.Rw.below_setRow ?_ (by (try simp [size_beyond]) <;> omega) _ | refine Below.alloc ?_ (by (try simp [size_beyond]) <;> omega) _ | refine Below.setCell ?_ (by (try simp [size_beyond]) <;> omega) _))))) Tryd.underlying25 rfl (by rw [HZ.out]; exact sInfo) ?_)
  go_at_call 18
  refine (to_at HX.out _).mono ?_; rintro e w1 ⟨q1, m1, c1, y1, rfl, rfl, H1⟩
  go_wp2_with (refine wpList_load_any (by kernel_rfl) 25 (.tmp 5) rfl _ (rowW xs) 25 _ rfl (BlkAt.all (by first | (with_reducible assumption) | (refine BlkAt.below (by with_reducible assumption) ?_; exact (by repeat (first | assumption | exact Below.refl _ _ | exact below_beyond _ _ | refine Below.beyond ?_ (by (try simp [size_beyond]) <;> omega) _ | refine Below.drew ?_ | refine Go.Rw.below_drewN ?_ _ | refine Go.Rw.below_setRow ?_ (by (try simp [size_beyond]) <;> omega) _ | refine Below.alloc ?_ (by (try simp [size_beyond]) <;> omega) _ | refine Below.setCell ?_ (by (try simp [size_beyond]) <;> omega) _))))) Tryd.underlying25 rfl (by rw [HZ.out]; exact sInfo) ?_)
  go_at_call 17
  refine (same_at (by first | (with_reducible assumption) | (refine IsAt.below (by with_reducible assumption) ?_; exact (by repeat (first | assumption | exact Below.refl _ _ | exact below_beyond _ _ | refine Below.beyond ?_ (by (try simp [size_beyond]) <;> omega) _ | refine Below.drew ?_ | refine Go.Rw.below_drewN ?_ _ | refine Go.Rw.below_setRow ?_ (by (try simp [size_beyond]) <;> omega) _ | refine Below.alloc ?_ (by (try simp [size_beyond]) <;> omega) _ | refine Below.setCell ?_ (by (try simp [size_beyond]) <;> omega) _)))) (by first | (with_reducible assumption) | (refine IsAt.below (by with_reducible assumption) ?_; exact (by repeat (first | assumption | exact Below.refl _ _ | exact below_beyond _ _ | refine Below.beyond ?_ (by (try simp [size_beyond]) <;> omega) _ | refine Below.drew ?_ | refine Go.Rw.below_drewN ?_ _ | refine Go.Rw.below_setRow ?_ (by (try simp [size_beyond]) <;> omega) _ | refine Below.alloc ?_ (by (try simp [size_beyond]) <;> omega) _ | refine Below.setCell ?_ (by (try simp [size_beyond]) <;> omega) _))))).mono ?_; rintro e w1 ⟨rfl, y1, rfl⟩
  go_wp2_with (refine wpList_load_any (by kernel_rfl) 25 (.tmp 5) rfl _ (rowW xs) 25 _ rfl (BlkAt.all (by first | (with_reducible assumption) | (refine BlkAt.below (by with_reducible assumption) ?_; exact (by repeat (first | assumption | exact Below.refl _ _ | exact below_beyond _ _ | refine Below.beyond ?_ (by (try simp [size_beyond]) <;> omega) _ | refine Below.drew ?_ | refine Go.Rw.below_drewN ?_ _ | refine Go.Rw.below_setRow ?_ (by (try simp [size_beyond]) <;> omega) _ | refine Below.alloc ?_ (by (try simp [size_beyond]) <;> omega) _ | refine Below.setCell ?_ (by (try simp [size_beyond]) <;> omega) _))))) Tryd.underlying25 rfl (by rw [HZ.out]; exact sInfo) ?_)
  go_at_call 19
  refine (len_at HX.out _).mono ?_; rw [HLL.out]; rintro e w1 ⟨rfl, y1, rfl⟩
  go_wp2_with (refine wpList_load_any (by kernel_rfl) 25 (.tmp 5) rfl _ (rowW xs) 25 _ rfl (BlkAt.all (by first | (with_reducible assumption) | (refine BlkAt.below (by with_reducible assumption) ?_; exact (by repeat (first | assumption | exact Below.refl _ _ | exact below_beyond _ _ | refine Below.beyond ?_ (by (try simp [size_beyond]) <;> omega) _ | refine Below.drew ?_ | refine Go.Rw.below_drewN ?_ _ | refine Go.Rw.below_setRow ?_ (by (try simp [size_beyond]) <;> omega) _ | refine Below.alloc ?_ (by (try simp [size_beyond]) <;> omega) _ | refine Below.setCell ?_ (by (try simp [size_beyond]) <;> omega) _))))) Tryd.underlying25 rfl (by rw [HZ.out]; exact sInfo) ?_)
  go_at_call 20
  refine (HEMP.out _).mono ?_; rintro e w1 ⟨rfl, y1, rfl⟩
  go_wp2_with (refine wpList_load_any (by kernel_rfl) 25 (.tmp 5) rfl _ (rowW xs) 25 _ rfl (BlkAt.all (by first | (with_reducible assumption) | (refine BlkAt.below (by with_reducible assumption) ?_; exact (by repeat (first | assumption | exact Below.refl _ _ | exact below_beyond _ _ | refine Below.beyond ?_ (by (try simp [size_beyond]) <;> omega) _ | refine Below.drew ?_ | refine Go.Rw.below_drewN ?_ _ | refine Go.Rw.below_setRow ?_ (by (try simp [size_beyond]) <;> omega) _ | refine Below.alloc ?_ (by (try simp [size_beyond]) <;> omega) _ | refine Below.setCell ?_ (by (try simp [size_beyond]) <;> omega) _))))) Tryd.underlying25 rfl (by rw [HZ.out]; exact sInfo) ?_)
  go_at_call 21
  refine (has_set HX.out _ _).mono ?_; rw [HCB.out]; rintro e w1 ⟨rfl, y1, rfl⟩
  go_wp2_with (refine wpList_load_any (by kernel_rfl) 25 (.tmp 5) rfl _ (rowW xs) 25 _ rfl (BlkAt.all (by first | (with_reducible assumption) | (refine BlkAt.below (by with_reducible assumption) ?_; exact (by repeat (first | assumption | exact Below.refl _ _ | exact below_beyond _ _ | refine Below.beyond ?_ (by (try simp [size_beyond]) <;> omega) _ | refine Below.drew ?_ | refine Go.Rw.below_drewN ?_ _ | refine Go.Rw.below_setRow ?_ (by (try simp [size_beyond]) <;> omega) _ | refine Below.alloc ?_ (by (try simp [size_beyond]) <;> omega) _ | refine Below.setCell ?_ (by (try simp [size_beyond]) <;> omega) _))))) Tryd.underlying25 rfl (by rw [HZ.out]; exact sInfo) ?_)
  go_at_call 22
  refine (rhas_at _ (by first | (with_reducible assumption) | (refine IsAt.below (by with_reducible assumption) ?_; exact (by repeat (first | assumption | exact Below.refl _ _ | exact below_beyond _ _ | refine Below.beyond ?_ (by (try simp [size_beyond]) <;> omega) _ | refine Below.drew ?_ | refine Go.Rw.below_drewN ?_ _ | refine Go.Rw.below_setRow ?_ (by (try simp [size_beyond]) <;> omega) _ | refine Below.alloc ?_ (by (try simp [size_beyond]) <;> omega) _ | refine Below.setCell ?_ (by (try simp [size_beyond]) <;> omega) _))))).mono ?_; rw [HCB.out]; rintro e w1 ⟨rfl, rfl⟩
  go_wp2_with ((refine wpList_load_any (by kernel_rfl) 25 (.tmp 5) rfl _ (rowW xs) 25 _ rfl (BlkAt.all (by first | (with_reducible assumption) | (refine BlkAt.below (by with_reducible assumption) ?_; exact (by repeat (first | assumption | exact Below.refl _ _ | exact below_beyond _ _ | refine Below.beyond ?_ (by (try simp [size_beyond]) <;> omega) _ | refine Below.drew ?_ | refine Go.Rw.below_drewN ?_ _ | refine Go.Rw.below_setRow ?_ (by (try simp [size_beyond]) <;> omega) _ | refine Below.alloc ?_ (by (try simp [size_beyond]) <;> omega) _ | refine Below.setCell ?_ (by (try simp [size_beyond]) <;> omega) _))))) Tryd.underlying25 rfl (by rw [HZ.out]; exact sInfo) ?_))
  go_at_call 23
  refine (below_set n hn.1 hn.2 _).mono ?_; rintro e w1 ⟨rfl, y1, rfl⟩
  go_wp2_with (refine wpList_store_fresh rfl 25 (.tmp 11) (.tmp 104) rfl (rowW (belowS n)) 25 _ _ rfl rfl rfl (by rw [HZB.out]; exact sInfo) (by rw [HZB.out] <;> rfl) (rowW_one _) ?_; intro wr2 hbel2 HBK2; have HWB2 : Below W.heap.size W wr2 := Below.trans (by repeat (first | assumption | exact Below.refl _ _ | exact below_beyond _ _ | refine Below.beyond ?_ (by (try simp [size_beyond]) <;> omega) _ | refine Below.drew ?_ | refine Go.Rw.below_drewN ?_ _ | refine Go.Rw.below_setRow ?_ (by (try simp [size_beyond]) <;> omega) _ | refine Below.alloc ?_ (by (try simp [size_beyond]) <;> omega) _ | refine Below.setCell ?_ (by (try simp [size_beyond]) <;> omega) _)) (Below.mono hbel2 (by simp [size_beyond] <;> omega)); have hws2 := HWB2.size; clear hbel2)
  go_loopw [12] (fun i wk => ∃ k : Nat, k ≤ 1024 ∧ i = .int .i64 k ∧ ∃ y, wk = beyond wr2 y) (fun i _ => 1024 - (intOf i).toNat)
  case atStart => exact ⟨0, Nat.zero_le _, rfl, beyond_of (by repeat (first | assumption | exact Below.refl _ _ | exact below_beyond _ _ | refine Below.beyond ?_ (by (try simp [size_beyond]) <;> omega) _ | refine Below.drew ?_ | refine Go.Rw.below_drewN ?_ _ | refine Go.Rw.below_setRow ?_ (by (try simp [size_beyond]) <;> omega) _ | refine Below.alloc ?_ (by (try simp [size_beyond]) <;> omega) _ | refine Below.setCell ?_ (by (try simp [size_beyond]) <;> omega) _))⟩
  case round =>
    obtain ⟨k, hk, rfl, y2, rfl⟩ := hrel
    by_cases hlt : k < 1024
    · have HC := Lib.hid (show (elems (belowS n)).contains ((k : Nat) : Int) = decide ((k : Int) < n) from (contains_ofP _ _ hlt).trans (bitAt_below n k hlt))
      by_cases hkn : (k : Int) < n
      · have HD := Lib.hid (show decide ((k : Int) < n) = true from decide_eq_true hkn)
        go_wp2_with (first
          | (refine wpList_load_any (by kernel_rfl) 25 (.tmp 11) rfl _ (rowW (belowS n)) 25 _ rfl (BlkAt.all (by first | (with_reducible assumption) | (refine BlkAt.below (by with_reducible assumption) ?_; exact (by repeat (first | assumption | exact Below.refl _ _ | exact below_beyond _ _ | refine Below.beyond ?_ (by (try simp [size_beyond]) <;> omega) _ | refine Below.drew ?_ | refine Go.Rw.below_drewN ?_ _ | refine Go.Rw.below_setRow ?_ (by (try simp [size_beyond]) <;> omega) _ | refine Below.alloc ?_ (by (try simp [size_beyond]) <;> omega) _ | refine Below.setCell ?_ (by (try simp [size_beyond]) <;> omega) _))))) Tryd.underlying25 rfl (by rw [HZB.out]; exact sInfo) ?_)
          | (go_at_call 21; refine (has_set (belowS_len n) _ _).mono ?_; rw [HC.out, HD.out]; rintro e w1 ⟨rfl, y1, rfl⟩))
        go_roundw
        case rel => exact ⟨k + 1, by omega, by go_num, beyond_of (by repeat (first | assumption | exact Below.refl _ _ | exact below_beyond _ _ | refine Below.beyond ?_ (by (try simp [size_beyond]) <;> omega) _ | refine Below.drew ?_ | refine Go.Rw.below_drewN ?_ _ | refine Go.Rw.below_setRow ?_ (by (try simp [size_beyond]) <;> omega) _ | refine Below.alloc ?_ (by (try simp [size_beyond]) <;> omega) _ | refine Below.setCell ?_ (by (try simp [size_beyond]) <;> omega) _))⟩
        case measure => simp [intOf] <;> omega
      · have HD := Lib.hid (show decide ((k : Int) < n) = false from decide_eq_false hkn)
        go_wp2_with (first
          | (refine wpList_load_any (by kernel_rfl) 25 (.tmp 11) rfl _ (rowW (belowS n)) 25 _ rfl (BlkAt.all (by first | (with_reducible assumption) | (refine BlkAt.below (by with_reducible assumption) ?_; exact (by repeat (first | assumption | exact Below.refl _ _ | exact below_beyond _ _ | refine Below.beyond ?_ (by (try simp [size_beyond]) <;> omega) _ | refine Below.drew ?_ | refine Go.Rw.below_drewN ?_ _ | refine Go.Rw.below_setRow ?_ (by (try simp [size_beyond]) <;> omega) _ | refine Below.alloc ?_ (by (try simp [size_beyond]) <;> omega) _ | refine Below.setCell ?_ (by (try simp [size_beyond]) <;> omega) _))))) Tryd.underlying25 rfl (by rw [HZB.out]; exact sInfo) ?_)
          | (go_at_call 21; refine (has_set (belowS_len n) _ _).mono ?_; rw [HC.out, HD.out]; rintro e w1 ⟨rfl, y1, rfl⟩))
        go_roundw
        case rel => exact ⟨k + 1, by omega, by go_num, beyond_of (by repeat (first | assumption | exact Below.refl _ _ | exact below_beyond _ _ | refine Below.beyond ?_ (by (try simp [size_beyond]) <;> omega) _ | refine Below.drew ?_ | refine Go.Rw.below_drewN ?_ _ | refine Go.Rw.below_setRow ?_ (by (try simp [size_beyond]) <;> omega) _ | refine Below.alloc ?_ (by (try simp [size_beyond]) <;> omega) _ | refine Below.setCell ?_ (by (try simp [size_beyond]) <;> omega) _))⟩
        case measure => simp [intOf] <;> omega
    · obtain rfl : k = 1024 := by omega
      go_wp2_with (go_at_call 24; refine (KK.out _ (by repeat (first | assumption | exact Below.refl _ _ | exact below_beyond _ _ | refine Below.beyond ?_ (by (try simp [size_beyond]) <;> omega) _ | refine Below.drew ?_ | refine Go.Rw.below_drewN ?_ _ | refine Go.Rw.below_setRow ?_ (by (try simp [size_beyond]) <;> omega) _ | refine Below.alloc ?_ (by (try simp [size_beyond]) <;> omega) _ | refine Below.setCell ?_ (by (try simp [size_beyond]) <;> omega) _))).mono ?_; rintro e w1 ⟨rfl, y1, rfl⟩)
      go_ret
      exact ⟨rfl, beyond_of (by repeat (first | assumption | exact Below.refl _ _ | exact below_beyond _ _ | refine Below.beyond ?_ (by (try simp [size_beyond]) <;> omega) _ | refine Below.drew ?_ | refine Go.Rw.below_drewN ?_ _ | refine Go.Rw.below_setRow ?_ (by (try simp [size_beyond]) <;> omega) _ | refine Below.alloc ?_ (by (try simp [size_beyond]) <;> omega) _ | refine Below.setCell ?_ (by (try simp [size_beyond]) <;> omega) _))⟩

theorem part_yes_wide {W : World} (hL : laidMetH Tryd.prog Rows.bitsetConstructorsRow.laid W) {b0 off0 m c : Nat} {l : List Int} (h : IsAt (some ⟨b0, off0, none⟩) 200 c l W) (hm : 200 < m) (hmc : m ≤ c) (hcc : c ≤ 9223372036854775807) (n : Int) (hn : IntKind.i64.has n)
  {xs : List Bits.W} (hx : xs.length = 16) (hof : ∀ w, IsAt (some ⟨b0, off0, none⟩) 200 c l w → Calls Tryd.prog 13 #[.slice (some ⟨b0, off0, none⟩) ((200 : Nat)) c] w fun e w' => e = .returned (.agg (rowW xs)) ∧ ∃ y, w' = beyond w y)
  (hrof : ∀ w, IsAt (some ⟨b0, off0, none⟩) 200 c l w → Calls Tryd.prog 14 #[.slice (some ⟨b0, off0, none⟩) ((200 : Nat)) c] w (Ret w (elems xs))) (cb : Bool) (hcb : (elems xs).contains n = cb) {n0 n1 : Int} (hmin : (elems xs).head? = some n0) (hmax : (elems xs).getLast? = some n1) {L : Nat} (hll : (elems xs).length = L) (hl0 : 0 < L) :
    Calls Tryd.prog 3 #[.slice (some ⟨b0, off0, none⟩) m c, .int .i64 n] W fun e w' => e = .returned (.bool true) ∧ ∃ x, w' = beyond W x := by
  have HX := Lib.hid hx; clear hx
  have KK := Lib.hid (fun X hb => known_calls hL X hb)
  have TZ := Lib.hid (tzW hL); clear hL
  have HZ := Lib.hid (show (rowW xs).size = 16 by rw [rowW_size, HX.out])
  have HZB := Lib.hid (show (rowW (belowS n)).size = 16 by rw [rowW_size, belowS_len])
  have HOF := Lib.hid hof; clear hof
  have HROF := Lib.hid hrof; clear hrof
  have HCB := Lib.hid hcb; clear hcb
  have HN0 := Lib.hid (show (elems xs)[0]? = some n0 by rw [← List.head?_eq_getElem?]; exact hmin)
  have HN1 := Lib.hid (show (elems xs)[L - 1]? = some n1 by rw [← hll, ← List.getLast?_eq_getElem?]; exact hmax)
  have HMIN := Lib.hid (fun w => min_yes HX.out (w := w) hmin); clear hmin
  have HMAX := Lib.hid (fun w => max_yes HX.out (w := w) hmax); clear hmax
  have hl1 : L ≤ 1024 := by rw [← hll]; exact ofP_len _
  have HLL := Lib.hid hll; clear hll
  have hle : ((L : Int) == 0) = false := beq_eq_false_iff_ne.2 (by omega)
  have HEMP := Lib.hid (fun w => show Calls Tryd.prog 20 #[.agg (rowW xs)] w (fun e w' => e = .returned (.bool false) ∧ ∃ y, w' = beyond w y) by
    have h := empty_set HX.out w
    rw [show decide (xs = zeros) = false from decide_eq_false (fun e => by have := HLL.out; rw [e, elems_zeros] at this; simp at this; omega)] at h; exact h)

  go_enter Tryd.func3, Tryd.ntmps3
  go_wp2_with (refine wpList_load_any (by kernel_rfl) 25 (.tmp 5) rfl _ (rowW xs) 25 _ rfl (BlkAt.all (by first | (with_reducible assumption) | (refine BlkAt.below (by with_reducible assumption) ?_; exact (by repeat (first | assumption | exact Below.refl _ _ | exact below_beyond _ _ | refine Below.beyond ?_ (by (try simp [size_beyond]) <;> omega) _ | refine Below.drew ?_ | refine Go.Rw.below_drewN ?_ _ | refine Go.Rw.below_setRow ?_ (by (try simp [size_beyond]) <;> omega) _ | refine Below.alloc ?_ (by (try simp [size_beyond]) <;> omega) _ | refine Below.setCell ?_ (by (try simp [size_beyond]) <;> omega) _))))) Tryd.underlying25 rfl (by rw [HZ.out]; exact sInfo) ?_)
  go_at_call 13
  refine (HOF.out _ (by first | (with_reducible assumption) | (refine IsAt.below (by with_reducible assumption) ?_; exact (by repeat (first | assumption | exact Below.refl _ _ | exact below_beyond _ _ | refine Below.beyond ?_ (by (try simp [size_beyond]) <;> omega) _ | refine Below.drew ?_ | refine Go.Rw.below_drewN ?_ _ | refine Go.Rw.below_setRow ?_ (by (try simp [size_beyond]) <;> omega) _ | refine Below.alloc ?_ (by (try simp [size_beyond]) <;> omega) _ | refine Below.setCell ?_ (by (try simp [size_beyond]) <;> omega) _))))).mono ?_; rintro e w1 ⟨rfl, y1, rfl⟩
  go_wp2_with (refine wpList_load_any (by kernel_rfl) 25 (.tmp 5) rfl _ (rowW xs) 25 _ rfl (BlkAt.all (by first | (with_reducible assumption) | (refine BlkAt.below (by with_reducible assumption) ?_; exact (by repeat (first | assumption | exact Below.refl _ _ | exact below_beyond _ _ | refine Below.beyond ?_ (by (try simp [size_beyond]) <;> omega) _ | refine Below.drew ?_ | refine Go.Rw.below_drewN ?_ _ | refine Go.Rw.below_setRow ?_ (by (try simp [size_beyond]) <;> omega) _ | refine Below.alloc ?_ (by (try simp [size_beyond]) <;> omega) _ | refine Below.setCell ?_ (by (try simp [size_beyond]) <;> omega) _))))) Tryd.underlying25 rfl (by rw [HZ.out]; exact sInfo) ?_)
  go_at_call 14
  refine (HROF.out _ (by first | (with_reducible assumption) | (refine IsAt.below (by with_reducible assumption) ?_; exact (by repeat (first | assumption | exact Below.refl _ _ | exact below_beyond _ _ | refine Below.beyond ?_ (by (try simp [size_beyond]) <;> omega) _ | refine Below.drew ?_ | refine Go.Rw.below_drewN ?_ _ | refine Go.Rw.below_setRow ?_ (by (try simp [size_beyond]) <;> omega) _ | refine Below.alloc ?_ (by (try simp [size_beyond]) <;> omega) _ | refine Below.setCell ?_ (by (try simp [size_beyond]) <;> omega) _))))).mono ?_; rintro e w1 ⟨q1, m1, c1, y1, rfl, rfl, H1⟩
  obtain rfl : L = m1 := (H1.all.1.trans HLL.out).symm
  go_wp2_with (first | (refine wpList_store_fresh rfl 25 (.tmp 5) (.tmp 19) rfl (rowW xs) 25 _ _ rfl rfl rfl (by rw [HZ.out]; exact sInfo) (by rw [HZ.out] <;> rfl) (rowW_one _) ?_; intro wr hbel HBK; have HWB : Below W.heap.size W wr := Below.trans (by repeat (first | assumption | exact Below.refl _ _ | exact below_beyond _ _ | refine Below.beyond ?_ (by (try simp [size_beyond]) <;> omega) _ | refine Below.drew ?_ | refine Go.Rw.below_drewN ?_ _ | refine Go.Rw.below_setRow ?_ (by (try simp [size_beyond]) <;> omega) _ | refine Below.alloc ?_ (by (try simp [size_beyond]) <;> omega) _ | refine Below.setCell ?_ (by (try simp [size_beyond]) <;> omega) _)) (Below.mono hbel (by simp [size_beyond] <;> omega)); have hws := HWB.size; have HIW := H1.below hbel; clear hbel H1) | (refine wpList_load_any (by kernel_rfl) 25 (.tmp 5) rfl _ (rowW xs) 25 _ rfl (BlkAt.all (by first | (with_reducible assumption) | (refine BlkAt.below (by with_reducible assumption) ?_; exact (by repeat (first | assumption | exact Below.refl _ _ | exact below_beyond _ _ | refine Below.beyond ?_ (by (try simp [size_beyond]) <;> omega) _ | refine Below.drew ?_ | refine Go.Rw.below_drewN ?_ _ | refine Go.Rw.below_setRow ?_ (by (try simp [size_beyond]) <;> omega) _ | refine Below.alloc ?_ (by (try simp [size_beyond]) <;> omega) _ | refine Below.setCell ?_ (by (try simp [size_beyond]) <;> omega) _))))) Tryd.underlying25 rfl (by rw [HZ.out]; exact sInfo) ?_))
  rcases HIW.all.2.2.2.2 with h0 | ⟨bb, off, rfl, hbw, hcc⟩
  · exfalso
    have := HLL.out
    rw [h0] at this; simp at this; omega
  have hin : inW bb wr = true := inW_iff.2 hbw
  have hc0 := hcc 0 n0 HN0.out
  rw [Nat.add_zero] at hc0
  have hc1 := hcc (L - 1) n1 HN1.out
  clear hcc
  go_at_call 15
  refine (HMIN.out _ (TZ.out.below (by repeat (first | assumption | exact Below.refl _ _ | exact below_beyond _ _ | refine Below.beyond ?_ (by (try simp [size_beyond]) <;> omega) _ | refine Below.drew ?_ | refine Go.Rw.below_drewN ?_ _ | refine Go.Rw.below_setRow ?_ (by (try simp [size_beyond]) <;> omega) _ | refine Below.alloc ?_ (by (try simp [size_beyond]) <;> omega) _ | refine Below.setCell ?_ (by (try simp [size_beyond]) <;> omega) _)))).mono ?_; rintro e w1 ⟨rfl, y1, rfl⟩
  go_wp2_with (refine wpList_load_any (by kernel_rfl) 25 (.tmp 5) rfl _ (rowW xs) 25 _ rfl (BlkAt.all (by first | (with_reducible assumption) | (refine BlkAt.below (by with_reducible assumption) ?_; exact (by repeat (first | assumption | exact Below.refl _ _ | exact below_beyond _ _ | refine Below.beyond ?_ (by (try simp [size_beyond]) <;> omega) _ | refine Below.drew ?_ | refine Go.Rw.below_drewN ?_ _ | refine Go.Rw.below_setRow ?_ (by (try simp [size_beyond]) <;> omega) _ | refine Below.alloc ?_ (by (try simp [size_beyond]) <;> omega) _ | refine Below.setCell ?_ (by (try simp [size_beyond]) <;> omega) _))))) Tryd.underlying25 rfl (by rw [HZ.out]; exact sInfo) ?_)
  go_at_call 16
  refine (HMAX.out _).mono ?_; rintro e w1 ⟨rfl, y1, rfl⟩
  go_wp2_with (refine wpList_load_any (by kernel_rfl) 25 (.tmp 5) rfl _ (rowW xs) 25 _ rfl (BlkAt.all (by first | (with_reducible assumption) | (refine BlkAt.below (by with_reducible assumption) ?_; exact (by repeat (first | assumption | exact Below.refl _ _ | exact below_beyond _ _ | refine Below.beyond ?_ (by (try simp [size_beyond]) <;> omega) _ | refine Below.drew ?_ | refine Go.Rw.below_drewN ?_ _ | refine Go.Rw.below_setRow ?_ (by (try simp [size_beyond]) <;> omega) _ | refine Below.alloc ?_ (by (try simp [size_beyond]) <;> omega) _ | refine Below.setCell ?_ (by (try simp [size_beyond]) <;> omega) _))))) Tryd.underlying25 rfl (by rw [HZ.out]; exact sInfo) ?_)
  go_at_call 18
  refine (to_at HX.out _).mono ?_; rintro e w1 ⟨q1, m1, c1, y1, rfl, rfl, H1⟩
  go_wp2_with (refine wpList_load_any (by kernel_rfl) 25 (.tmp 5) rfl _ (rowW xs) 25 _ rfl (BlkAt.all (by first | (with_reducible assumption) | (refine BlkAt.below (by with_reducible assumption) ?_; exact (by repeat (first | assumption | exact Below.refl _ _ | exact below_beyond _ _ | refine Below.beyond ?_ (by (try simp [size_beyond]) <;> omega) _ | refine Below.drew ?_ | refine Go.Rw.below_drewN ?_ _ | refine Go.Rw.below_setRow ?_ (by (try simp [size_beyond]) <;> omega) _ | refine Below.alloc ?_ (by (try simp [size_beyond]) <;> omega) _ | refine Below.setCell ?_ (by (try simp [size_beyond]) <;> omega) _))))) Tryd.underlying25 rfl (by rw [HZ.out]; exact sInfo) ?_)
  go_at_call 17
  refine (same_at (by first | (with_reducible assumption) | (refine IsAt.below (by with_reducible assumption) ?_; exact (by repeat (first | assumption | exact Below.refl _ _ | exact below_beyond _ _ | refine Below.beyond ?_ (by (try simp [size_beyond]) <;> omega) _ | refine Below.drew ?_ | refine Go.Rw.below_drewN ?_ _ | refine Go.Rw.below_setRow ?_ (by (try simp [size_beyond]) <;> omega) _ | refine Below.alloc ?_ (by (try simp [size_beyond]) <;> omega) _ | refine Below.setCell ?_ (by (try simp [size_beyond]) <;> omega) _)))) (by first | (with_reducible assumption) | (refine IsAt.below (by with_reducible assumption) ?_; exact (by repeat (first | assumption | exact Below.refl _ _ | exact below_beyond _ _ | refine Below.beyond ?_ (by (try simp [size_beyond]) <;> omega) _ | refine Below.drew ?_ | refine Go.Rw.below_drewN ?_ _ | refine Go.Rw.below_setRow ?_ (by (try simp [size_beyond]) <;> omega) _ | refine Below.alloc ?_ (by (try simp [size_beyond]) <;> omega) _ | refine Below.setCell ?_ (by (try simp [size_beyond]) <;> omega) _))))).mono ?_; rintro e w1 ⟨rfl, y1, rfl⟩
  go_wp2_with (refine wpList_load_any (by kernel_rfl) 25 (.tmp 5) rfl _ (rowW xs) 25 _ rfl (BlkAt.all (by first | (with_reducible assumption) | (refine BlkAt.below (by with_reducible assumption) ?_; exact (by repeat (first | assumption | exact Below.refl _ _ | exact below_beyond _ _ | refine Below.beyond ?_ (by (try simp [size_beyond]) <;> omega) _ | refine Below.drew ?_ | refine Go.Rw.below_drewN ?_ _ | refine Go.Rw.below_setRow ?_ (by (try simp [size_beyond]) <;> omega) _ | refine Below.alloc ?_ (by (try simp [size_beyond]) <;> omega) _ | refine Below.setCell ?_ (by (try simp [size_beyond]) <;> omega) _))))) Tryd.underlying25 rfl (by rw [HZ.out]; exact sInfo) ?_)
  go_at_call 19
  refine (len_at HX.out _).mono ?_; rw [HLL.out]; rintro e w1 ⟨rfl, y1, rfl⟩
  go_wp2_with (refine wpList_load_any (by kernel_rfl) 25 (.tmp 5) rfl _ (rowW xs) 25 _ rfl (BlkAt.all (by first | (with_reducible assumption) | (refine BlkAt.below (by with_reducible assumption) ?_; exact (by repeat (first | assumption | exact Below.refl _ _ | exact below_beyond _ _ | refine Below.beyond ?_ (by (try simp [size_beyond]) <;> omega) _ | refine Below.drew ?_ | refine Go.Rw.below_drewN ?_ _ | refine Go.Rw.below_setRow ?_ (by (try simp [size_beyond]) <;> omega) _ | refine Below.alloc ?_ (by (try simp [size_beyond]) <;> omega) _ | refine Below.setCell ?_ (by (try simp [size_beyond]) <;> omega) _))))) Tryd.underlying25 rfl (by rw [HZ.out]; exact sInfo) ?_)
  go_at_call 20
  refine (HEMP.out _).mono ?_; rintro e w1 ⟨rfl, y1, rfl⟩
  go_wp2_with (refine wpList_load_any (by kernel_rfl) 25 (.tmp 5) rfl _ (rowW xs) 25 _ rfl (BlkAt.all (by first | (with_reducible assumption) | (refine BlkAt.below (by with_reducible assumption) ?_; exact (by repeat (first | assumption | exact Below.refl _ _ | exact below_beyond _ _ | refine Below.beyond ?_ (by (try simp [size_beyond]) <;> omega) _ | refine Below.drew ?_ | refine Go.Rw.below_drewN ?_ _ | refine Go.Rw.below_setRow ?_ (by (try simp [size_beyond]) <;> omega) _ | refine Below.alloc ?_ (by (try simp [size_beyond]) <;> omega) _ | refine Below.setCell ?_ (by (try simp [size_beyond]) <;> omega) _))))) Tryd.underlying25 rfl (by rw [HZ.out]; exact sInfo) ?_)
  go_at_call 21
  refine (has_set HX.out _ _).mono ?_; rw [HCB.out]; rintro e w1 ⟨rfl, y1, rfl⟩
  go_wp2_with (refine wpList_load_any (by kernel_rfl) 25 (.tmp 5) rfl _ (rowW xs) 25 _ rfl (BlkAt.all (by first | (with_reducible assumption) | (refine BlkAt.below (by with_reducible assumption) ?_; exact (by repeat (first | assumption | exact Below.refl _ _ | exact below_beyond _ _ | refine Below.beyond ?_ (by (try simp [size_beyond]) <;> omega) _ | refine Below.drew ?_ | refine Go.Rw.below_drewN ?_ _ | refine Go.Rw.below_setRow ?_ (by (try simp [size_beyond]) <;> omega) _ | refine Below.alloc ?_ (by (try simp [size_beyond]) <;> omega) _ | refine Below.setCell ?_ (by (try simp [size_beyond]) <;> omega) _))))) Tryd.underlying25 rfl (by rw [HZ.out]; exact sInfo) ?_)
  go_at_call 22
  refine (rhas_at _ (by first | (with_reducible assumption) | (refine IsAt.below (by with_reducible assumption) ?_; exact (by repeat (first | assumption | exact Below.refl _ _ | exact below_beyond _ _ | refine Below.beyond ?_ (by (try simp [size_beyond]) <;> omega) _ | refine Below.drew ?_ | refine Go.Rw.below_drewN ?_ _ | refine Go.Rw.below_setRow ?_ (by (try simp [size_beyond]) <;> omega) _ | refine Below.alloc ?_ (by (try simp [size_beyond]) <;> omega) _ | refine Below.setCell ?_ (by (try simp [size_beyond]) <;> omega) _))))).mono ?_; rw [HCB.out]; rintro e w1 ⟨rfl, rfl⟩
  go_wp2_with ((refine wpList_load_any (by kernel_rfl) 25 (.tmp 5) rfl _ (rowW xs) 25 _ rfl (BlkAt.all (by first | (with_reducible assumption) | (refine BlkAt.below (by with_reducible assumption) ?_; exact (by repeat (first | assumption | exact Below.refl _ _ | exact below_beyond _ _ | refine Below.beyond ?_ (by (try simp [size_beyond]) <;> omega) _ | refine Below.drew ?_ | refine Go.Rw.below_drewN ?_ _ | refine Go.Rw.below_setRow ?_ (by (try simp [size_beyond]) <;> omega) _ | refine Below.alloc ?_ (by (try simp [size_beyond]) <;> omega) _ | refine Below.setCell ?_ (by (try simp [size_beyond]) <;> omega) _))))) Tryd.underlying25 rfl (by rw [HZ.out]; exact sInfo) ?_))
  go_at_call 23
  refine (below_set n hn.1 hn.2 _).mono ?_; rintro e w1 ⟨rfl, y1, rfl⟩
  go_wp2_with (refine wpList_store_fresh rfl 25 (.tmp 11) (.tmp 104) rfl (rowW (belowS n)) 25 _ _ rfl rfl rfl (by rw [HZB.out]; exact sInfo) (by rw [HZB.out] <;> rfl) (rowW_one _) ?_; intro wr2 hbel2 HBK2; have HWB2 : Below W.heap.size W wr2 := Below.trans (by repeat (first | assumption | exact Below.refl _ _ | exact below_beyond _ _ | refine Below.beyond ?_ (by (try simp [size_beyond]) <;> omega) _ | refine Below.drew ?_ | refine Go.Rw.below_drewN ?_ _ | refine Go.Rw.below_setRow ?_ (by (try simp [size_beyond]) <;> omega) _ | refine Below.alloc ?_ (by (try simp [size_beyond]) <;> omega) _ | refine Below.setCell ?_ (by (try simp [size_beyond]) <;> omega) _)) (Below.mono hbel2 (by simp [size_beyond] <;> omega)); have hws2 := HWB2.size; clear hbel2)
  go_loopw [12] (fun i wk => ∃ k : Nat, k ≤ 1024 ∧ i = .int .i64 k ∧ ∃ y, wk = beyond wr2 y) (fun i _ => 1024 - (intOf i).toNat)
  case atStart => exact ⟨0, Nat.zero_le _, rfl, beyond_of (by repeat (first | assumption | exact Below.refl _ _ | exact below_beyond _ _ | refine Below.beyond ?_ (by (try simp [size_beyond]) <;> omega) _ | refine Below.drew ?_ | refine Go.Rw.below_drewN ?_ _ | refine Go.Rw.below_setRow ?_ (by (try simp [size_beyond]) <;> omega) _ | refine Below.alloc ?_ (by (try simp [size_beyond]) <;> omega) _ | refine Below.setCell ?_ (by (try simp [size_beyond]) <;> omega) _))⟩
  case round =>
    obtain ⟨k, hk, rfl, y2, rfl⟩ := hrel
    by_cases hlt : k < 1024
    · have HC := Lib.hid (show (elems (belowS n)).contains ((k : Nat) : Int) = decide ((k : Int) < n) from (contains_ofP _ _ hlt).trans (bitAt_below n k hlt))
      by_cases hkn : (k : Int) < n
      · have HD := Lib.hid (show decide ((k : Int) < n) = true from decide_eq_true hkn)
        go_wp2_with (first
          | (refine wpList_load_any (by kernel_rfl) 25 (.tmp 11) rfl _ (rowW (belowS n)) 25 _ rfl (BlkAt.all (by first | (with_reducible assumption) | (refine BlkAt.below (by with_reducible assumption) ?_; exact (by repeat (first | assumption | exact Below.refl _ _ | exact below_beyond _ _ | refine Below.beyond ?_ (by (try simp [size_beyond]) <;> omega) _ | refine Below.drew ?_ | refine Go.Rw.below_drewN ?_ _ | refine Go.Rw.below_setRow ?_ (by (try simp [size_beyond]) <;> omega) _ | refine Below.alloc ?_ (by (try simp [size_beyond]) <;> omega) _ | refine Below.setCell ?_ (by (try simp [size_beyond]) <;> omega) _))))) Tryd.underlying25 rfl (by rw [HZB.out]; exact sInfo) ?_)
          | (go_at_call 21; refine (has_set (belowS_len n) _ _).mono ?_; rw [HC.out, HD.out]; rintro e w1 ⟨rfl, y1, rfl⟩))
        go_roundw
        case rel => exact ⟨k + 1, by omega, by go_num, beyond_of (by repeat (first | assumption | exact Below.refl _ _ | exact below_beyond _ _ | refine Below.beyond ?_ (by (try simp [size_beyond]) <;> omega) _ | refine Below.drew ?_ | refine Go.Rw.below_drewN ?_ _ | refine Go.Rw.below_setRow ?_ (by (try simp [size_beyond]) <;> omega) _ | refine Below.alloc ?_ (by (try simp [size_beyond]) <;> omega) _ | refine Below.setCell ?_ (by (try simp [size_beyond]) <;> omega) _))⟩
        case measure => simp [intOf] <;> omega
      · have HD := Lib.hid (show decide ((k : Int) < n) = false from decide_eq_false hkn)
        go_wp2_with (first
          | (refine wpList_load_any (by kernel_rfl) 25 (.tmp 11) rfl _ (rowW (belowS n)) 25 _ rfl (BlkAt.all (by first | (with_reducible assumption) | (refine BlkAt.below (by with_reducible assumption) ?_; exact (by repeat (first | assumption | exact Below.refl _ _ | exact below_beyond _ _ | refine Below.beyond ?_ (by (try simp [size_beyond]) <;> omega) _ | refine Below.drew ?_ | refine Go.Rw.below_drewN ?_ _ | refine Go.Rw.below_setRow ?_ (by (try simp [size_beyond]) <;> omega) _ | refine Below.alloc ?_ (by (try simp [size_beyond]) <;> omega) _ | refine Below.setCell ?_ (by (try simp [size_beyond]) <;> omega) _))))) Tryd.underlying25 rfl (by rw [HZB.out]; exact sInfo) ?_)
          | (go_at_call 21; refine (has_set (belowS_len n) _ _).mono ?_; rw [HC.out, HD.out]; rintro e w1 ⟨rfl, y1, rfl⟩))
        go_roundw
        case rel => exact ⟨k + 1, by omega, by go_num, beyond_of (by repeat (first | assumption | exact Below.refl _ _ | exact below_beyond _ _ | refine Below.beyond ?_ (by (try simp [size_beyond]) <;> omega) _ | refine Below.drew ?_ | refine Go.Rw.below_drewN ?_ _ | refine Go.Rw.below_setRow ?_ (by (try simp [size_beyond]) <;> omega) _ | refine Below.alloc ?_ (by (try simp [size_beyond]) <;> omega) _ | refine Below.setCell ?_ (by (try simp [size_beyond]) <;> omega) _))⟩
        case measure => simp [intOf] <;> omega
    · obtain rfl : k = 1024 := by omega
      go_wp2_with (go_at_call 24; refine (KK.out _ (by repeat (first | assumption | exact Below.refl _ _ | exact below_beyond _ _ | refine Below.beyond ?_ (by (try simp [size_beyond]) <;> omega) _ | refine Below.drew ?_ | refine Go.Rw.below_drewN ?_ _ | refine Go.Rw.below_setRow ?_ (by (try simp [size_beyond]) <;> omega) _ | refine Below.alloc ?_ (by (try simp [size_beyond]) <;> omega) _ | refine Below.setCell ?_ (by (try simp [size_beyond]) <;> omega) _))).mono ?_; rintro e w1 ⟨rfl, y1, rfl⟩)
      go_ret
      exact ⟨rfl, beyond_of (by repeat (first | assumption | exact Below.refl _ _ | exact below_beyond _ _ | refine Below.beyond ?_ (by (try simp [size_beyond]) <;> omega) _ | refine Below.drew ?_ | refine Go.Rw.below_drewN ?_ _ | refine Go.Rw.below_setRow ?_ (by (try simp [size_beyond]) <;> omega) _ | refine Below.alloc ?_ (by (try simp [size_beyond]) <;> omega) _ | refine Below.setCell ?_ (by (try simp [size_beyond]) <;> omega) _))⟩

theorem part_no {W : World} (hL : laidMetH Tryd.prog Rows.bitsetConstructorsRow.laid W) {q : Option Addr} {m c : Nat} {l : List Int} (h : IsAt q m c l W) (hm : m ≤ 200) (n : Int) (hn : IntKind.i64.has n)
  {xs : List Bits.W} (hx : xs.length = 16) (hof : ∀ w, IsAt q m c l w → Calls Tryd.prog 13 #[.slice q m c] w fun e w' => e = .returned (.agg (rowW xs)) ∧ ∃ y, w' = beyond w y)
  (hrof : ∀ w, IsAt q m c l w → Calls Tryd.prog 14 #[.slice q m c] w (Ret w (elems xs))) (cb : Bool) (hcb : (elems xs).contains n = cb) (hnil : elems xs = []) :
    Calls Tryd.prog 3 #[.slice q m c, .int .i64 n] W fun e w' => e = .returned (.bool true) ∧ ∃ x, w' = beyond W x := by
  have HX := Lib.hid hx; clear hx
  have KK := Lib.hid (fun X hb => known_calls hL X hb)
  have TZ := Lib.hid (tzW hL); clear hL
  have HZ := Lib.hid (show (rowW xs).size = 16 by rw [rowW_size, HX.out])
  have HZB := Lib.hid (show (rowW (belowS n)).size = 16 by rw [rowW_size, belowS_len])
  have HOF := Lib.hid hof; clear hof
  have HROF := Lib.hid hrof; clear hrof
  have HCB := Lib.hid hcb; clear hcb
  have HLL := Lib.hid (show (elems xs).length = 0 by rw [hnil]; rfl)
  have HMIN := Lib.hid (fun w => min_no HX.out hnil w)
  have HMAX := Lib.hid (fun w => max_no HX.out hnil w)
  have HEMP := Lib.hid (fun w => show Calls Tryd.prog 20 #[.agg (rowW xs)] w (fun e w' => e = .returned (.bool true) ∧ ∃ y, w' = beyond w y) by
    have h := empty_set HX.out w
    rw [show decide (xs = zeros) = true from decide_eq_true (elems_inj HX.out zeros_len (hnil.trans elems_zeros.symm))] at h; exact h)
  clear hnil

  go_enter Tryd.func3, Tryd.ntmps3
  go_wp2_with (refine wpList_load_any (by kernel_rfl) 25 (.tmp 5) rfl _ (rowW xs) 25 _ rfl (BlkAt.all (by first | (with_reducible assumption) | (refine BlkAt.below (by with_reducible assumption) ?_; exact (by repeat (first | assumption | exact Below.refl _ _ | exact below_beyond _ _ | refine Below.beyond ?_ (by (try simp [size_beyond]) <;> omega) _ | refine Below.drew ?_ | refine Go.Rw.below_drewN ?_ _ | refine Go.Rw.below_setRow ?_ (by (try simp [size_beyond]) <;> omega) _ | refine Below.alloc ?_ (by (try simp [size_beyond]) <;> omega) _ | refine Below.setCell ?_ (by (try simp [size_beyond]) <;> omega) _))))) Tryd.underlying25 rfl (by rw [HZ.out]; exact sInfo) ?_)
  go_at_call 13
  refine (HOF.out _ (by first | (with_reducible assumption) | (refine IsAt.below (by with_reducible assumption) ?_; exact (by repeat (first | assumption | exact Below.refl _ _ | exact below_beyond _ _ | refine Below.beyond ?_ (by (try simp [size_beyond]) <;> omega) _ | refine Below.drew ?_ | refine Go.Rw.below_drewN ?_ _ | refine Go.Rw.below_setRow ?_ (by (try simp [size_beyond]) <;> omega) _ | refine Below.alloc ?_ (by (try simp [size_beyond]) <;> omega) _ | refine Below.setCell ?_ (by (try simp [size_beyond]) <;> omega) _))))).mono ?_; rintro e w1 ⟨rfl, y1, rfl⟩
  go_wp2_with (refine wpList_load_any (by kernel_rfl) 25 (.tmp 5) rfl _ (rowW xs) 25 _ rfl (BlkAt.all (by first | (with_reducible assumption) | (refine BlkAt.below (by with_reducible assumption) ?_; exact (by repeat (first | assumption | exact Below.refl _ _ | exact below_beyond _ _ | refine Below.beyond ?_ (by (try simp [size_beyond]) <;> omega) _ | refine Below.drew ?_ | refine Go.Rw.below_drewN ?_ _ | refine Go.Rw.below_setRow ?_ (by (try simp [size_beyond]) <;> omega) _ | refine Below.alloc ?_ (by (try simp [size_beyond]) <;> omega) _ | refine Below.setCell ?_ (by (try simp [size_beyond]) <;> omega) _))))) Tryd.underlying25 rfl (by rw [HZ.out]; exact sInfo) ?_)
  go_at_call 14
  refine (HROF.out _ (by first | (with_reducible assumption) | (refine IsAt.below (by with_reducible assumption) ?_; exact (by repeat (first | assumption | exact Below.refl _ _ | exact below_beyond _ _ | refine Below.beyond ?_ (by (try simp [size_beyond]) <;> omega) _ | refine Below.drew ?_ | refine Go.Rw.below_drewN ?_ _ | refine Go.Rw.below_setRow ?_ (by (try simp [size_beyond]) <;> omega) _ | refine Below.alloc ?_ (by (try simp [size_beyond]) <;> omega) _ | refine Below.setCell ?_ (by (try simp [size_beyond]) <;> omega) _))))).mono ?_; rintro e w1 ⟨q1, m1, c1, y1, rfl, rfl, H1⟩
  obtain rfl : m1 = 0 := H1.all.1.trans HLL.out
  go_wp2_with (first | (refine wpList_store_fresh rfl 25 (.tmp 5) (.tmp 19) rfl (rowW xs) 25 _ _ rfl rfl rfl (by rw [HZ.out]; exact sInfo) (by rw [HZ.out] <;> rfl) (rowW_one _) ?_; intro wr hbel HBK; have HWB : Below W.heap.size W wr := Below.trans (by repeat (first | assumption | exact Below.refl _ _ | exact below_beyond _ _ | refine Below.beyond ?_ (by (try simp [size_beyond]) <;> omega) _ | refine Below.drew ?_ | refine Go.Rw.below_drewN ?_ _ | refine Go.Rw.below_setRow ?_ (by (try simp [size_beyond]) <;> omega) _ | refine Below.alloc ?_ (by (try simp [size_beyond]) <;> omega) _ | refine Below.setCell ?_ (by (try simp [size_beyond]) <;> omega) _)) (Below.mono hbel (by simp [size_beyond] <;> omega)); have hws := HWB.size; have HIW := H1.below hbel; clear hbel H1) | (refine wpList_load_any (by kernel_rfl) 25 (.tmp 5) rfl _ (rowW xs) 25 _ rfl (BlkAt.all (by first | (with_reducible assumption) | (refine BlkAt.below (by with_reducible assumption) ?_; exact (by repeat (first | assumption | exact Below.refl _ _ | exact below_beyond _ _ | refine Below.beyond ?_ (by (try simp [size_beyond]) <;> omega) _ | refine Below.drew ?_ | refine Go.Rw.below_drewN ?_ _ | refine Go.Rw.below_setRow ?_ (by (try simp [size_beyond]) <;> omega) _ | refine Below.alloc ?_ (by (try simp [size_beyond]) <;> omega) _ | refine Below.setCell ?_ (by (try simp [size_beyond]) <;> omega) _))))) Tryd.underlying25 rfl (by rw [HZ.out]; exact sInfo) ?_))
  go_at_call 15
  refine (HMIN.out _ (TZ.out.below (by repeat (first | assumption | exact Below.refl _ _ | exact below_beyond _ _ | refine Below.beyond ?_ (by (try simp [size_beyond]) <;> omega) _ | refine Below.drew ?_ | refine Go.Rw.below_drewN ?_ _ | refine Go.Rw.below_setRow ?_ (by (try simp [size_beyond]) <;> omega) _ | refine Below.alloc ?_ (by (try simp [size_beyond]) <;> omega) _ | refine Below.setCell ?_ (by (try simp [size_beyond]) <;> omega) _)))).mono ?_; rintro e w1 ⟨rfl, y1, rfl⟩
  go_wp2_with (refine wpList_load_any (by kernel_rfl) 25 (.tmp 5) rfl _ (rowW xs) 25 _ rfl (BlkAt.all (by first | (with_reducible assumption) | (refine BlkAt.below (by with_reducible assumption) ?_; exact (by repeat (first | assumption | exact Below.refl _ _ | exact below_beyond _ _ | refine Below.beyond ?_ (by (try simp [size_beyond]) <;> omega) _ | refine Below.drew ?_ | refine Go.Rw.below_drewN ?_ _ | refine Go.Rw.below_setRow ?_ (by (try simp [size_beyond]) <;> omega) _ | refine Below.alloc ?_ (by (try simp [size_beyond]) <;> omega) _ | refine Below.setCell ?_ (by (try simp [size_beyond]) <;> omega) _))))) Tryd.underlying25 rfl (by rw [HZ.out]; exact sInfo) ?_)
  go_at_call 16
  refine (HMAX.out _).mono ?_; rintro e w1 ⟨rfl, y1, rfl⟩
  go_wp2_with (refine wpList_load_any (by kernel_rfl) 25 (.tmp 5) rfl _ (rowW xs) 25 _ rfl (BlkAt.all (by first | (with_reducible assumption) | (refine BlkAt.below (by with_reducible assumption) ?_; exact (by repeat (first | assumption | exact Below.refl _ _ | exact below_beyond _ _ | refine Below.beyond ?_ (by (try simp [size_beyond]) <;> omega) _ | refine Below.drew ?_ | refine Go.Rw.below_drewN ?_ _ | refine Go.Rw.below_setRow ?_ (by (try simp [size_beyond]) <;> omega) _ | refine Below.alloc ?_ (by (try simp [size_beyond]) <;> omega) _ | refine Below.setCell ?_ (by (try simp [size_beyond]) <;> omega) _))))) Tryd.underlying25 rfl (by rw [HZ.out]; exact sInfo) ?_)
  go_at_call 18
  refine (to_at HX.out _).mono ?_; rintro e w1 ⟨q1, m1, c1, y1, rfl, rfl, H1⟩
  go_wp2_with (refine wpList_load_any (by kernel_rfl) 25 (.tmp 5) rfl _ (rowW xs) 25 _ rfl (BlkAt.all (by first | (with_reducible assumption) | (refine BlkAt.below (by with_reducible assumption) ?_; exact (by repeat (first | assumption | exact Below.refl _ _ | exact below_beyond _ _ | refine Below.beyond ?_ (by (try simp [size_beyond]) <;> omega) _ | refine Below.drew ?_ | refine Go.Rw.below_drewN ?_ _ | refine Go.Rw.below_setRow ?_ (by (try simp [size_beyond]) <;> omega) _ | refine Below.alloc ?_ (by (try simp [size_beyond]) <;> omega) _ | refine Below.setCell ?_ (by (try simp [size_beyond]) <;> omega) _))))) Tryd.underlying25 rfl (by rw [HZ.out]; exact sInfo) ?_)
  go_at_call 17
  refine (same_at (by first | (with_reducible assumption) | (refine IsAt.below (by with_reducible assumption) ?_; exact (by repeat (first | assumption | exact Below.refl _ _ | exact below_beyond _ _ | refine Below.beyond ?_ (by (try simp [size_beyond]) <;> omega) _ | refine Below.drew ?_ | refine Go.Rw.below_drewN ?_ _ | refine Go.Rw.below_setRow ?_ (by (try simp [size_beyond]) <;> omega) _ | refine Below.alloc ?_ (by (try simp [size_beyond]) <;> omega) _ | refine Below.setCell ?_ (by (try simp [size_beyond]) <;> omega) _)))) (by first | (with_reducible assumption) | (refine IsAt.below (by with_reducible assumption) ?_; exact (by repeat (first | assumption | exact Below.refl _ _ | exact below_beyond _ _ | refine Below.beyond ?_ (by (try simp [size_beyond]) <;> omega) _ | refine Below.drew ?_ | refine Go.Rw.below_drewN ?_ _ | refine Go.Rw.below_setRow ?_ (by (try simp [size_beyond]) <;> omega) _ | refine Below.alloc ?_ (by (try simp [size_beyond]) <;> omega) _ | refine Below.setCell ?_ (by (try simp [size_beyond]) <;> omega) _))))).mono ?_; rintro e w1 ⟨rfl, y1, rfl⟩
  go_wp2_with (refine wpList_load_any (by kernel_rfl) 25 (.tmp 5) rfl _ (rowW xs) 25 _ rfl (BlkAt.all (by first | (with_reducible assumption) | (refine BlkAt.below (by with_reducible assumption) ?_; exact (by repeat (first | assumption | exact Below.refl _ _ | exact below_beyond _ _ | refine Below.beyond ?_ (by (try simp [size_beyond]) <;> omega) _ | refine Below.drew ?_ | refine Go.Rw.below_drewN ?_ _ | refine Go.Rw.below_setRow ?_ (by (try simp [size_beyond]) <;> omega) _ | refine Below.alloc ?_ (by (try simp [size_beyond]) <;> omega) _ | refine Below.setCell ?_ (by (try simp [size_beyond]) <;> omega) _))))) Tryd.underlying25 rfl (by rw [HZ.out]; exact sInfo) ?_)
  go_at_call 19
  refine (len_at HX.out _).mono ?_; rw [HLL.out]; rintro e w1 ⟨rfl, y1, rfl⟩
  go_wp2_with (refine wpList_load_any (by kernel_rfl) 25 (.tmp 5) rfl _ (rowW xs) 25 _ rfl (BlkAt.all (by first | (with_reducible assumption) | (refine BlkAt.below (by with_reducible assumption) ?_; exact (by repeat (first | assumption | exact Below.refl _ _ | exact below_beyond _ _ | refine Below.beyond ?_ (by (try simp [size_beyond]) <;> omega) _ | refine Below.drew ?_ | refine Go.Rw.below_drewN ?_ _ | refine Go.Rw.below_setRow ?_ (by (try simp [size_beyond]) <;> omega) _ | refine Below.alloc ?_ (by (try simp [size_beyond]) <;> omega) _ | refine Below.setCell ?_ (by (try simp [size_beyond]) <;> omega) _))))) Tryd.underlying25 rfl (by rw [HZ.out]; exact sInfo) ?_)
  go_at_call 20
  refine (HEMP.out _).mono ?_; rintro e w1 ⟨rfl, y1, rfl⟩
  go_wp2_with (refine wpList_load_any (by kernel_rfl) 25 (.tmp 5) rfl _ (rowW xs) 25 _ rfl (BlkAt.all (by first | (with_reducible assumption) | (refine BlkAt.below (by with_reducible assumption) ?_; exact (by repeat (first | assumption | exact Below.refl _ _ | exact below_beyond _ _ | refine Below.beyond ?_ (by (try simp [size_beyond]) <;> omega) _ | refine Below.drew ?_ | refine Go.Rw.below_drewN ?_ _ | refine Go.Rw.below_setRow ?_ (by (try simp [size_beyond]) <;> omega) _ | refine Below.alloc ?_ (by (try simp [size_beyond]) <;> omega) _ | refine Below.setCell ?_ (by (try simp [size_beyond]) <;> omega) _))))) Tryd.underlying25 rfl (by rw [HZ.out]; exact sInfo) ?_)
  go_at_call 21
  refine (has_set HX.out _ _).mono ?_; rw [HCB.out]; rintro e w1 ⟨rfl, y1, rfl⟩
  go_wp2_with (refine wpList_load_any (by kernel_rfl) 25 (.tmp 5) rfl _ (rowW xs) 25 _ rfl (BlkAt.all (by first | (with_reducible assumption) | (refine BlkAt.below (by with_reducible assumption) ?_; exact (by repeat (first | assumption | exact Below.refl _ _ | exact below_beyond _ _ | refine Below.beyond ?_ (by (try simp [size_beyond]) <;> omega) _ | refine Below.drew ?_ | refine Go.Rw.below_drewN ?_ _ | refine Go.Rw.below_setRow ?_ (by (try simp [size_beyond]) <;> omega) _ | refine Below.alloc ?_ (by (try simp [size_beyond]) <;> omega) _ | refine Below.setCell ?_ (by (try simp [size_beyond]) <;> omega) _))))) Tryd.underlying25 rfl (by rw [HZ.out]; exact sInfo) ?_)
  go_at_call 22
  refine (rhas_at _ (by first | (with_reducible assumption) | (refine IsAt.below (by with_reducible assumption) ?_; exact (by repeat (first | assumption | exact Below.refl _ _ | exact below_beyond _ _ | refine Below.beyond ?_ (by (try simp [size_beyond]) <;> omega) _ | refine Below.drew ?_ | refine Go.Rw.below_drewN ?_ _ | refine Go.Rw.below_setRow ?_ (by (try simp [size_beyond]) <;> omega) _ | refine Below.alloc ?_ (by (try simp [size_beyond]) <;> omega) _ | refine Below.setCell ?_ (by (try simp [size_beyond]) <;> omega) _))))).mono ?_; rw [HCB.out]; rintro e w1 ⟨rfl, rfl⟩
  go_wp2_with ((refine wpList_load_any (by kernel_rfl) 25 (.tmp 5) rfl _ (rowW xs) 25 _ rfl (BlkAt.all (by first | (with_reducible assumption) | (refine BlkAt.below (by with_reducible assumption) ?_; exact (by repeat (first | assumption | exact Below.refl _ _ | exact below_beyond _ _ | refine Below.beyond ?_ (by (try simp [size_beyond]) <;> omega) _ | refine Below.drew ?_ | refine Go.Rw.below_drewN ?_ _ | refine Go.Rw.below_setRow ?_ (by (try simp [size_beyond]) <;> omega) _ | refine Below.alloc ?_ (by (try simp [size_beyond]) <;> omega) _ | refine Below.setCell ?_ (by (try simp [size_beyond]) <;> omega) _))))) Tryd.underlying25 rfl (by rw [HZ.out]; exact sInfo) ?_))
  go_at_call 23
  refine (below_set n hn.1 hn.2 _).mono ?_; rintro e w1 ⟨rfl, y1, rfl⟩
  go_wp2_with (refine wpList_store_fresh rfl 25 (.tmp 11) (.tmp 104) rfl (rowW (belowS n)) 25 _ _ rfl rfl rfl (by rw [HZB.out]; exact sInfo) (by rw [HZB.out] <;> rfl) (rowW_one _) ?_; intro wr2 hbel2 HBK2; have HWB2 : Below W.heap.size W wr2 := Below.trans (by repeat (first | assumption | exact Below.refl _ _ | exact below_beyond _ _ | refine Below.beyond ?_ (by (try simp [size_beyond]) <;> omega) _ | refine Below.drew ?_ | refine Go.Rw.below_drewN ?_ _ | refine Go.Rw.below_setRow ?_ (by (try simp [size_beyond]) <;> omega) _ | refine Below.alloc ?_ (by (try simp [size_beyond]) <;> omega) _ | refine Below.setCell ?_ (by (try simp [size_beyond]) <;> omega) _)) (Below.mono hbel2 (by simp [size_beyond] <;> omega)); have hws2 := HWB2.size; clear hbel2)
  go_loopw [12] (fun i wk => ∃ k : Nat, k ≤ 1024 ∧ i = .int .i64 k ∧ ∃ y, wk = beyond wr2 y) (fun i _ => 1024 - (intOf i).toNat)
  case atStart => exact ⟨0, Nat.zero_le _, rfl, beyond_of (by repeat (first | assumption | exact Below.refl _ _ | exact below_beyond _ _ | refine Below.beyond ?_ (by (try simp [size_beyond]) <;> omega) _ | refine Below.drew ?_ | refine Go.Rw.below_drewN ?_ _ | refine Go.Rw.below_setRow ?_ (by (try simp [size_beyond]) <;> omega) _ | refine Below.alloc ?_ (by (try simp [size_beyond]) <;> omega) _ | refine Below.setCell ?_ (by (try simp [size_beyond]) <;> omega) _))⟩
  case round =>
    obtain ⟨k, hk, rfl, y2, rfl⟩ := hrel
    by_cases hlt : k < 1024
    · have HC := Lib.hid (show (elems (belowS n)).contains ((k : Nat) : Int) = decide ((k : Int) < n) from (contains_ofP _ _ hlt).trans (bitAt_below n k hlt))
      by_cases hkn : (k : Int) < n
      · have HD := Lib.hid (show decide ((k : Int) < n) = true from decide_eq_true hkn)
        go_wp2_with (first
          | (refine wpList_load_any (by kernel_rfl) 25 (.tmp 11) rfl _ (rowW (belowS n)) 25 _ rfl (BlkAt.all (by first | (with_reducible assumption) | (refine BlkAt.below (by with_reducible assumption) ?_; exact (by repeat (first | assumption | exact Below.refl _ _ | exact below_beyond _ _ | refine Below.beyond ?_ (by (try simp [size_beyond]) <;> omega) _ | refine Below.drew ?_ | refine Go.Rw.below_drewN ?_ _ | refine Go.Rw.below_setRow ?_ (by (try simp [size_beyond]) <;> omega) _ | refine Below.alloc ?_ (by (try simp [size_beyond]) <;> omega) _ | refine Below.setCell ?_ (by (try simp [size_beyond]) <;> omega) _))))) Tryd.underlying25 rfl (by rw [HZB.out]; exact sInfo) ?_)
          | (go_at_call 21; refine (has_set (belowS_len n) _ _).mono ?_; rw [HC.out, HD.out]; rintro e w1 ⟨rfl, y1, rfl⟩))
        go_roundw
        case rel => exact ⟨k + 1, by omega, by go_num, beyond_of (by repeat (first | assumption | exact Below.refl _ _ | exact below_beyond _ _ | refine Below.beyond ?_ (by (try simp [size_beyond]) <;> omega) _ | refine Below.drew ?_ | refine Go.Rw.below_drewN ?_ _ | refine Go.Rw.below_setRow ?_ (by (try simp [size_beyond]) <;> omega) _ | refine Below.alloc ?_ (by (try simp [size_beyond]) <;> omega) _ | refine Below.setCell ?_ (by (try simp [size_beyond]) <;> omega) _))⟩
        case measure => simp [intOf] <;> omega
      · have HD := Lib.hid (show decide ((k : Int) < n) = false from decide_eq_false hkn)
        go_wp2_with (first
          | (refine wpList_load_any (by kernel_rfl) 25 (.tmp 11) rfl _ (rowW (belowS n)) 25 _ rfl (BlkAt.all (by first | (with_reducible assumption) | (refine BlkAt.below (by with_reducible assumption) ?_; exact (by repeat (first | assumption | exact Below.refl _ _ | exact below_beyond _ _ | refine Below.beyond ?_ (by (try simp [size_beyond]) <;> omega) _ | refine Below.drew ?_ | refine Go.Rw.below_drewN ?_ _ | refine Go.Rw.below_setRow ?_ (by (try simp [size_beyond]) <;> omega) _ | refine Below.alloc ?_ (by (try simp [size_beyond]) <;> omega) _ | refine Below.setCell ?_ (by (try simp [size_beyond]) <;> omega) _))))) Tryd.underlying25 rfl (by rw [HZB.out]; exact sInfo) ?_)
          | (go_at_call 21; refine (has_set (belowS_len n) _ _).mono ?_; rw [HC.out, HD.out]; rintro e w1 ⟨rfl, y1, rfl⟩))
        go_roundw
        case rel => exact ⟨k + 1, by omega, by go_num, beyond_of (by repeat (first | assumption | exact Below.refl _ _ | exact below_beyond _ _ | refine Below.beyond ?_ (by (try simp [size_beyond]) <;> omega) _ | refine Below.drew ?_ | refine Go.Rw.below_drewN ?_ _ | refine Go.Rw.below_setRow ?_ (by (try simp [size_beyond]) <;> omega) _ | refine Below.alloc ?_ (by (try simp [size_beyond]) <;> omega) _ | refine Below.setCell ?_ (by (try simp [size_beyond]) <;> omega) _))⟩
        case measure => simp [intOf] <;> omega
    · obtain rfl : k = 1024 := by omega
      go_wp2_with (go_at_call 24; refine (KK.out _ (by repeat (first | assumption | exact Below.refl _ _ | exact below_beyond _ _ | refine Below.beyond ?_ (by (try simp [size_beyond]) <;> omega) _ | refine Below.drew ?_ | refine Go.Rw.below_drewN ?_ _ | refine Go.Rw.below_setRow ?_ (by (try simp [size_beyond]) <;> omega) _ | refine Below.alloc ?_ (by (try simp [size_beyond]) <;> omega) _ | refine Below.setCell ?_ (by (try simp [size_beyond]) <;> omega) _))).mono ?_; rintro e w1 ⟨rfl, y1, rfl⟩)
      go_ret
      exact ⟨rfl, beyond_of (by repeat (first | assumption | exact Below.refl _ _ | exact below_beyond _ _ | refine Below.beyond ?_ (by (try simp [size_beyond]) <;> omega) _ | refine Below.drew ?_ | refine Go.Rw.below_drewN ?_ _ | refine Go.Rw.below_setRow ?_ (by (try simp [size_beyond]) <;> omega) _ | refine Below.alloc ?_ (by (try simp [size_beyond]) <;> omega) _ | refine Below.setCell ?_ (by (try simp [size_beyond]) <;> omega) _))⟩

theorem part_no_wide {W : World} (hL : laidMetH Tryd.prog Rows.bitsetConstructorsRow.laid W) {b0 off0 m c : Nat} {l : List Int} (h : IsAt (some ⟨b0, off0, none⟩) 200 c l W) (hm : 200 < m) (hmc : m ≤ c) (hcc : c ≤ 9223372036854775807) (n : Int) (hn : IntKind.i64.has n)
  {xs : List Bits.W} (hx : xs.length = 16) (hof : ∀ w, IsAt (some ⟨b0, off0, none⟩) 200 c l w → Calls Tryd.prog 13 #[.slice (some ⟨b0, off0, none⟩) ((200 : Nat)) c] w fun e w' => e = .returned (.agg (rowW xs)) ∧ ∃ y, w' = beyond w y)
  (hrof : ∀ w, IsAt (some ⟨b0, off0, none⟩) 200 c l w → Calls Tryd.prog 14 #[.slice (some ⟨b0, off0, none⟩) ((200 : Nat)) c] w (Ret w (elems xs))) (cb : Bool) (hcb : (elems xs).contains n = cb) (hnil : elems xs = []) :
    Calls Tryd.prog 3 #[.slice (some ⟨b0, off0, none⟩) m c, .int .i64 n] W fun e w' => e = .returned (.bool true) ∧ ∃ x, w' = beyond W x := by
  have HX := Lib.hid hx; clear hx
  have KK := Lib.hid (fun X hb => known_calls hL X hb)
  have TZ := Lib.hid (tzW hL); clear hL
  have HZ := Lib.hid (show (rowW xs).size = 16 by rw [rowW_size, HX.out])
  have HZB := Lib.hid (show (rowW (belowS n)).size = 16 by rw [rowW_size, belowS_len])
  have HOF := Lib.hid hof; clear hof
  have HROF := Lib.hid hrof; clear hrof
  have HCB := Lib.hid hcb; clear hcb
  have HLL := Lib.hid (show (elems xs).length = 0 by rw [hnil]; rfl)
  have HMIN := Lib.hid (fun w => min_no HX.out hnil w)
  have HMAX := Lib.hid (fun w => max_no HX.out hnil w)
  have HEMP := Lib.hid (fun w => show Calls Tryd.prog 20 #[.agg (rowW xs)] w (fun e w' => e = .returned (.bool true) ∧ ∃ y, w' = beyond w y) by
    have h := empty_set HX.out w
    rw [show decide (xs = zeros) = true from decide_eq_true (elems_inj HX.out zeros_len (hnil.trans elems_zeros.symm))] at h; exact h)
  clear hnil

  go_enter Tryd.func3, Tryd.ntmps3
  go_wp2_with (refine wpList_load_any (by kernel_rfl) 25 (.tmp 5) rfl _ (rowW xs) 25 _ rfl (BlkAt.all (by first | (with_reducible assumption) | (refine BlkAt.below (by with_reducible assumption) ?_; exact (by repeat (first | assumption | exact Below.refl _ _ | exact below_beyond _ _ | refine Below.beyond ?_ (by (try simp [size_beyond]) <;> omega) _ | refine Below.drew ?_ | refine Go.Rw.below_drewN ?_ _ | refine Go.Rw.below_setRow ?_ (by (try simp [size_beyond]) <;> omega) _ | refine Below.alloc ?_ (by (try simp [size_beyond]) <;> omega) _ | refine Below.setCell ?_ (by (try simp [size_beyond]) <;> omega) _))))) Tryd.underlying25 rfl (by rw [HZ.out]; exact sInfo) ?_)
  go_at_call 13
  refine (HOF.out _ (by first | (with_reducible assumption) | (refine IsAt.below (by with_reducible assumption) ?_; exact (by repeat (first | assumption | exact Below.refl _ _ | exact below_beyond _ _ | refine Below.beyond ?_ (by (try simp [size_beyond]) <;> omega) _ | refine Below.drew ?_ | refine Go.Rw.below_drewN ?_ _ | refine Go.Rw.below_setRow ?_ (by (try simp [size_beyond]) <;> omega) _ | refine Below.alloc ?_ (by (try simp [size_beyond]) <;> omega) _ | refine Below.setCell ?_ (by (try simp [size_beyond]) <;> omega) _))))).mono ?_; rintro e w1 ⟨rfl, y1, rfl⟩
  go_wp2_with (refine wpList_load_any (by kernel_rfl) 25 (.tmp 5) rfl _ (rowW xs) 25 _ rfl (BlkAt.all (by first | (with_reducible assumption) | (refine BlkAt.below (by with_reducible assumption) ?_; exact (by repeat (first | assumption | exact Below.refl _ _ | exact below_beyond _ _ | refine Below.beyond ?_ (by (try simp [size_beyond]) <;> omega) _ | refine Below.drew ?_ | refine Go.Rw.below_drewN ?_ _ | refine Go.Rw.below_setRow ?_ (by (try simp [size_beyond]) <;> omega) _ | refine Below.alloc ?_ (by (try simp [size_beyond]) <;> omega) _ | refine Below.setCell ?_ (by (try simp [size_beyond]) <;> omega) _))))) Tryd.underlying25 rfl (by rw [HZ.out]; exact sInfo) ?_)
  go_at_call 14
  refine (HROF.out _ (by first | (with_reducible assumption) | (refine IsAt.below (by with_reducible assumption) ?_; exact (by repeat (first | assumption | exact Below.refl _ _ | exact below_beyond _ _ | refine Below.beyond ?_ (by (try simp [size_beyond]) <;> omega) _ | refine Below.drew ?_ | refine Go.Rw.below_drewN ?_ _ | refine Go.Rw.below_setRow ?_ (by (try simp [size_beyond]) <;> omega) _ | refine Below.alloc ?_ (by (try simp [size_beyond]) <;> omega) _ | refine Below.setCell ?_ (by (try simp [size_beyond]) <;> omega) _))))).mono ?_; rintro e w1 ⟨q1, m1, c1, y1, rfl, rfl, H1⟩
  obtain rfl : m1 = 0 := H1.all.1.trans HLL.out
  go_wp2_with (first | (refine wpList_store_fresh rfl 25 (.tmp 5) (.tmp 19) rfl (rowW xs) 25 _ _ rfl rfl rfl (by rw [HZ.out]; exact sInfo) (by rw [HZ.out] <;> rfl) (rowW_one _) ?_; intro wr hbel HBK; have HWB : Below W.heap.size W wr := Below.trans (by repeat (first | assumption | exact Below.refl _ _ | exact below_beyond _ _ | refine Below.beyond ?_ (by (try simp [size_beyond]) <;> omega) _ | refine Below.drew ?_ | refine Go.Rw.below_drewN ?_ _ | refine Go.Rw.below_setRow ?_ (by (try simp [size_beyond]) <;> omega) _ | refine Below.alloc ?_ (by (try simp [size_beyond]) <;> omega) _ | refine Below.setCell ?_ (by (try simp [size_beyond]) <;> omega) _)) (Below.mono hbel (by simp [size_beyond] <;> omega)); have hws := HWB.size; have HIW := H1.below hbel; clear hbel H1) | (refine wpList_load_any (by kernel_rfl) 25 (.tmp 5) rfl _ (rowW xs) 25 _ rfl (BlkAt.all (by first | (with_reducible assumption) | (refine BlkAt.below (by with_reducible assumption) ?_; exact (by repeat (first | assumption | exact Below.refl _ _ | exact below_beyond _ _ | refine Below.beyond ?_ (by (try simp [size_beyond]) <;> omega) _ | refine Below.drew ?_ | refine Go.Rw.below_drewN ?_ _ | refine Go.Rw.below_setRow ?_ (by (try simp [size_beyond]) <;> omega) _ | refine Below.alloc ?_ (by (try simp [size_beyond]) <;> omega) _ | refine Below.setCell ?_ (by (try simp [size_beyond]) <;> omega) _))))) Tryd.underlying25 rfl (by rw [HZ.out]; exact sInfo) ?_))
  go_at_call 15
  refine (HMIN.out _ (TZ.out.below (by repeat (first | assumption | exact Below.refl _ _ | exact below_beyond _ _ | refine Below.beyond ?_ (by (try simp [size_beyond]) <;> omega) _ | refine Below.drew ?_ | refine Go.Rw.below_drewN ?_ _ | refine Go.Rw.below_setRow ?_ (by (try simp [size_beyond]) <;> omega) _ | refine Below.alloc ?_ (by (try simp [size_beyond]) <;> omega) _ | refine Below.setCell ?_ (by (try simp [size_beyond]) <;> omega) _)))).mono ?_; rintro e w1 ⟨rfl, y1, rfl⟩
  go_wp2_with (refine wpList_load_any (by kernel_rfl) 25 (.tmp 5) rfl _ (rowW xs) 25 _ rfl (BlkAt.all (by first | (with_reducible assumption) | (refine BlkAt.below (by with_reducible assumption) ?_; exact (by repeat (first | assumption | exact Below.refl _ _ | exact below_beyond _ _ | refine Below.beyond ?_ (by (try simp [size_beyond]) <;> omega) _ | refine Below.drew ?_ | refine Go.Rw.below_drewN ?_ _ | refine Go.Rw.below_setRow ?_ (by (try simp [size_beyond]) <;> omega) _ | refine Below.alloc ?_ (by (try simp [size_beyond]) <;> omega) _ | refine Below.setCell ?_ (by (try simp [size_beyond]) <;> omega) _))))) Tryd.underlying25 rfl (by rw [HZ.out]; exact sInfo) ?_)
  go_at_call 16
  refine (HMAX.out _).mono ?_; rintro e w1 ⟨rfl, y1, rfl⟩
  go_wp2_with (refine wpList_load_any (by kernel_rfl) 25 (.tmp 5) rfl _ (rowW xs) 25 _ rfl (BlkAt.all (by first | (with_reducible assumption) | (refine BlkAt.below (by with_reducible assumption) ?_; exact (by repeat (first | assumption | exact Below.refl _ _ | exact below_beyond _ _ | refine Below.beyond ?_ (by (try simp [size_beyond]) <;> omega) _ | refine Below.drew ?_ | refine Go.Rw.below_drewN ?_ _ | refine Go.Rw.below_setRow ?_ (by (try simp [size_beyond]) <;> omega) _ | refine Below.alloc ?_ (by (try simp [size_beyond]) <;> omega) _ | refine Below.setCell ?_ (by (try simp [size_beyond]) <;> omega) _))))) Tryd.underlying25 rfl (by rw [HZ.out]; exact sInfo) ?_)
  go_at_call 18
  refine (to_at HX.out _).mono ?_; rintro e w1 ⟨q1, m1, c1, y1, rfl, rfl, H1⟩
  go_wp2_with (refine wpList_load_any (by kernel_rfl) 25 (.tmp 5) rfl _ (rowW xs) 25 _ rfl (BlkAt.all (by first | (with_reducible assumption) | (refine BlkAt.below (by with_reducible assumption) ?_; exact (by repeat (first | assumption | exact Below.refl _ _ | exact below_beyond _ _ | refine Below.beyond ?_ (by (try simp [size_beyond]) <;> omega) _ | refine Below.drew ?_ | refine Go.Rw.below_drewN ?_ _ | refine Go.Rw.below_setRow ?_ (by (try simp [size_beyond]) <;> omega) _ | refine Below.alloc ?_ (by (try simp [size_beyond]) <;> omega) _ | refine Below.setCell ?_ (by (try simp [size_beyond]) <;> omega) _))))) Tryd.underlying25 rfl (by rw [HZ.out]; exact sInfo) ?_)
  go_at_call 17
  refine (same_at (by first | (with_reducible assumption) | (refine IsAt.below (by with_reducible assumption) ?_; exact (by repeat (first | assumption | exact Below.refl _ _ | exact below_beyond _ _ | refine Below.beyond ?_ (by (try simp [size_beyond]) <;> omega) _ | refine Below.drew ?_ | refine Go.Rw.below_drewN ?_ _ | refine Go.Rw.below_setRow ?_ (by (try simp [size_beyond]) <;> omega) _ | refine Below.alloc ?_ (by (try simp [size_beyond]) <;> omega) _ | refine Below.setCell ?_ (by (try simp [size_beyond]) <;> omega) _)))) (by first | (with_reducible assumption) | (refine IsAt.below (by with_reducible assumption) ?_; exact (by repeat (first | assumption | exact Below.refl _ _ | exact below_beyond _ _ | refine Below.beyond ?_ (by (try simp [size_beyond]) <;> omega) _ | refine Below.drew ?_ | refine Go.Rw.below_drewN ?_ _ | refine Go.Rw.below_setRow ?_ (by (try simp [size_beyond]) <;> omega) _ | refine Below.alloc ?_ (by (try simp [size_beyond]) <;> omega) _ | refine Below.setCell ?_ (by (try simp [size_beyond]) <;> omega) _))))).mono ?_; rintro e w1 ⟨rfl, y1, rfl⟩
  go_wp2_with (refine wpList_load_any (by kernel_rfl) 25 (.tmp 5) rfl _ (rowW xs) 25 _ rfl (BlkAt.all (by first | (with_reducible assumption) | (refine BlkAt.below (by with_reducible assumption) ?_; exact (by repeat (first | assumption | exact Below.refl _ _ | exact below_beyond _ _ | refine Below.beyond ?_ (by (try simp [size_beyond]) <;> omega) _ | refine Below.drew ?_ | refine Go.Rw.below_drewN ?_ _ | refine Go.Rw.below_setRow ?_ (by (try simp [size_beyond]) <;> omega) _ | refine Below.alloc ?_ (by (try simp [size_beyond]) <;> omega) _ | refine Below.setCell ?_ (by (try simp [size_beyond]) <;> omega) _))))) Tryd.underlying25 rfl (by rw [HZ.out]; exact sInfo) ?_)
  go_at_call 19
  refine (len_at HX.out _).mono ?_; rw [HLL.out]; rintro e w1 ⟨rfl, y1, rfl⟩
  go_wp2_with (refine wpList_load_any (by kernel_rfl) 25 (.tmp 5) rfl _ (rowW xs) 25 _ rfl (BlkAt.all (by first | (with_reducible assumption) | (refine BlkAt.below (by with_reducible assumption) ?_; exact (by repeat (first | assumption | exact Below.refl _ _ | exact below_beyond _ _ | refine Below.beyond ?_ (by (try simp [size_beyond]) <;> omega) _ | refine Below.drew ?_ | refine Go.Rw.below_drewN ?_ _ | refine Go.Rw.below_setRow ?_ (by (try simp [size_beyond]) <;> omega) _ | refine Below.alloc ?_ (by (try simp [size_beyond]) <;> omega) _ | refine Below.setCell ?_ (by (try simp [size_beyond]) <;> omega) _))))) Tryd.underlying25 rfl (by rw [HZ.out]; exact sInfo) ?_)
  go_at_call 20
  refine (HEMP.out _).mono ?_; rintro e w1 ⟨rfl, y1, rfl⟩
  go_wp2_with (refine wpList_load_any (by kernel_rfl) 25 (.tmp 5) rfl _ (rowW xs) 25 _ rfl (BlkAt.all (by first | (with_reducible assumption) | (refine BlkAt.below (by with_reducible assumption) ?_; exact (by repeat (first | assumption | exact Below.refl _ _ | exact below_beyond _ _ | refine Below.beyond ?_ (by (try simp [size_beyond]) <;> omega) _ | refine Below.drew ?_ | refine Go.Rw.below_drewN ?_ _ | refine Go.Rw.below_setRow ?_ (by (try simp [size_beyond]) <;> omega) _ | refine Below.alloc ?_ (by (try simp [size_beyond]) <;> omega) _ | refine Below.setCell ?_ (by (try simp [size_beyond]) <;> omega) _))))) Tryd.underlying25 rfl (by rw [HZ.out]; exact sInfo) ?_)
  go_at_call 21
  refine (has_set HX.out _ _).mono ?_; rw [HCB.out]; rintro e w1 ⟨rfl, y1, rfl⟩
  go_wp2_with (refine wpList_load_any (by kernel_rfl) 25 (.tmp 5) rfl _ (rowW xs) 25 _ rfl (BlkAt.all (by first | (with_reducible assumption) | (refine BlkAt.below (by with_reducible assumption) ?_; exact (by repeat (first | assumption | exact Below.refl _ _ | exact below_beyond _ _ | refine Below.beyond ?_ (by (try simp [size_beyond]) <;> omega) _ | refine Below.drew ?_ | refine Go.Rw.below_drewN ?_ _ | refine Go.Rw.below_setRow ?_ (by (try simp [size_beyond]) <;> omega) _ | refine Below.alloc ?_ (by (try simp [size_beyond]) <;> omega) _ | refine Below.setCell ?_ (by (try simp [size_beyond]) <;> omega) _))))) Tryd.underlying25 rfl (by rw [HZ.out]; exact sInfo) ?_)
  go_at_call 22
  refine (rhas_at _ (by first | (with_reducible assumption) | (refine IsAt.below (by with_reducible assumption) ?_; exact (by repeat (first | assumption | exact Below.refl _ _ | exact below_beyond _ _ | refine Below.beyond ?_ (by (try simp [size_beyond]) <;> omega) _ | refine Below.drew ?_ | refine Go.Rw.below_drewN ?_ _ | refine Go.Rw.below_setRow ?_ (by (try simp [size_beyond]) <;> omega) _ | refine Below.alloc ?_ (by (try simp [size_beyond]) <;> omega) _ | refine Below.setCell ?_ (by (try simp [size_beyond]) <;> omega) _))))).mono ?_; rw [HCB.out]; rintro e w1 ⟨rfl, rfl⟩
  go_wp2_with ((refine wpList_load_any (by kernel_rfl) 25 (.tmp 5) rfl _ (rowW xs) 25 _ rfl (BlkAt.all (by first | (with_reducible assumption) | (refine BlkAt.below (by with_reducible assumption) ?_; exact (by repeat (first | assumption | exact Below.refl _ _ | exact below_beyond _ _ | refine Below.beyond ?_ (by (try simp [size_beyond]) <;> omega) _ | refine Below.drew ?_ | refine Go.Rw.below_drewN ?_ _ | refine Go.Rw.below_setRow ?_ (by (try simp [size_beyond]) <;> omega) _ | refine Below.alloc ?_ (by (try simp [size_beyond]) <;> omega) _ | refine Below.setCell ?_ (by (try simp [size_beyond]) <;> omega) _))))) Tryd.underlying25 rfl (by rw [HZ.out]; exact sInfo) ?_))
  go_at_call 23
  refine (below_set n hn.1 hn.2 _).mono ?_; rintro e w1 ⟨rfl, y1, rfl⟩
  go_wp2_with (refine wpList_store_fresh rfl 25 (.tmp 11) (.tmp 104) rfl (rowW (belowS n)) 25 _ _ rfl rfl rfl (by rw [HZB.out]; exact sInfo) (by rw [HZB.out] <;> rfl) (rowW_one _) ?_; intro wr2 hbel2 HBK2; have HWB2 : Below W.heap.size W wr2 := Below.trans (by repeat (first | assumption | exact Below.refl _ _ | exact below_beyond _ _ | refine Below.beyond ?_ (by (try simp [size_beyond]) <;> omega) _ | refine Below.drew ?_ | refine Go.Rw.below_drewN ?_ _ | refine Go.Rw.below_setRow ?_ (by (try simp [size_beyond]) <;> omega) _ | refine Below.alloc ?_ (by (try simp [size_beyond]) <;> omega) _ | refine Below.setCell ?_ (by (try simp [size_beyond]) <;> omega) _)) (Below.mono hbel2 (by simp [size_beyond] <;> omega)); have hws2 := HWB2.size; clear hbel2)
  go_loopw [12] (fun i wk => ∃ k : Nat, k ≤ 1024 ∧ i = .int .i64 k ∧ ∃ y, wk = beyond wr2 y) (fun i _ => 1024 - (intOf i).toNat)
  case atStart => exact ⟨0, Nat.zero_le _, rfl, beyond_of (by repeat (first | assumption | exact Below.refl _ _ | exact below_beyond _ _ | refine Below.beyond ?_ (by (try simp [size_beyond]) <;> omega) _ | refine Below.drew ?_ | refine Go.Rw.below_drewN ?_ _ | refine Go.Rw.below_setRow ?_ (by (try simp [size_beyond]) <;> omega) _ | refine Below.alloc ?_ (by (try simp [size_beyond]) <;> omega) _ | refine Below.setCell ?_ (by (try simp [size_beyond]) <;> omega) _))⟩
  case round =>
    obtain ⟨k, hk, rfl, y2, rfl⟩ := hrel
    by_cases hlt : k < 1024
    · have HC := Lib.hid (show (elems (belowS n)).contains ((k : Nat) : Int) = decide ((k : Int) < n) from (contains_ofP _ _ hlt).trans (bitAt_below n k hlt))
      by_cases hkn : (k : Int) < n
      · have HD := Lib.hid (show decide ((k : Int) < n) = true from decide_eq_true hkn)
        go_wp2_with (first
          | (refine wpList_load_any (by kernel_rfl) 25 (.tmp 11) rfl _ (rowW (belowS n)) 25 _ rfl (BlkAt.all (by first | (with_reducible assumption) | (refine BlkAt.below (by with_reducible assumption) ?_; exact (by repeat (first | assumption | exact Below.refl _ _ | exact below_beyond _ _ | refine Below.beyond ?_ (by (try simp [size_beyond]) <;> omega) _ | refine Below.drew ?_ | refine Go.Rw.below_drewN ?_ _ | refine Go.Rw.below_setRow ?_ (by (try simp [size_beyond]) <;> omega) _ | refine Below.alloc ?_ (by (try simp [size_beyond]) <;> omega) _ | refine Below.setCell ?_ (by (try simp [size_beyond]) <;> omega) _))))) Tryd.underlying25 rfl (by rw [HZB.out]; exact sInfo) ?_)
          | (go_at_call 21; refine (has_set (belowS_len n) _ _).mono ?_; rw [HC.out, HD.out]; rintro e w1 ⟨rfl, y1, rfl⟩))
        go_roundw
        case rel => exact ⟨k + 1, by omega, by go_num, beyond_of (by repeat (first | assumption | exact Below.refl _ _ | exact below_beyond _ _ | refine Below.beyond ?_ (by (try simp [size_beyond]) <;> omega) _ | refine Below.drew ?_ | refine Go.Rw.below_drewN ?_ _ | refine Go.Rw.below_setRow ?_ (by (try simp [size_beyond]) <;> omega) _ | refine Below.alloc ?_ (by (try simp [size_beyond]) <;> omega) _ | refine Below.setCell ?_ (by (try simp [size_beyond]) <;> omega) _))⟩
        case measure => simp [intOf] <;> omega
      · have HD := Lib.hid (show decide ((k : Int) < n) = false from decide_eq_false hkn)
        go_wp2_with (first
          | (refine wpList_load_any (by kernel_rfl) 25 (.tmp 11) rfl _ (rowW (belowS n)) 25 _ rfl (BlkAt.all (by first | (with_reducible assumption) | (refine BlkAt.below (by with_reducible assumption) ?_; exact (by repeat (first | assumption | exact Below.refl _ _ | exact below_beyond _ _ | refine Below.beyond ?_ (by (try simp [size_beyond]) <;> omega) _ | refine Below.drew ?_ | refine Go.Rw.below_drewN ?_ _ | refine Go.Rw.below_setRow ?_ (by (try simp [size_beyond]) <;> omega) _ | refine Below.alloc ?_ (by (try simp [size_beyond]) <;> omega) _ | refine Below.setCell ?_ (by (try simp [size_beyond]) <;> omega) _))))) Tryd.underlying25 rfl (by rw [HZB.out]; exact sInfo) ?_)
          | (go_at_call 21; refine (has_set (belowS_len n) _ _).mono ?_; rw [HC.out, HD.out]; rintro e w1 ⟨rfl, y1, rfl⟩))
        go_roundw
        case rel => exact ⟨k + 1, by omega, by go_num, beyond_of (by repeat (first | assumption | exact Below.refl _ _ | exact below_beyond _ _ | refine Below.beyond ?_ (by (try simp [size_beyond]) <;> omega) _ | refine Below.drew ?_ | refine Go.Rw.below_drewN ?_ _ | refine Go.Rw.below_setRow ?_ (by (try simp [size_beyond]) <;> omega) _ | refine Below.alloc ?_ (by (try simp [size_beyond]) <;> omega) _ | refine Below.setCell ?_ (by (try simp [size_beyond]) <;> omega) _))⟩
        case measure => simp [intOf] <;> omega
    · obtain rfl : k = 1024 := by omega
      go_wp2_with (go_at_call 24; refine (KK.out _ (by repeat (first | assumption | exact Below.refl _ _ | exact below_beyond _ _ | refine Below.beyond ?_ (by (try simp [size_beyond]) <;> omega) _ | refine Below.drew ?_ | refine Go.Rw.below_drewN ?_ _ | refine Go.Rw.below_setRow ?_ (by (try simp [size_beyond]) <;> omega) _ | refine Below.alloc ?_ (by (try simp [size_beyond]) <;> omega) _ | refine Below.setCell ?_ (by (try simp [size_beyond]) <;> omega) _))).mono ?_; rintro e w1 ⟨rfl, y1, rfl⟩)
      go_ret
      exact ⟨rfl, beyond_of (by repeat (first | assumption | exact Below.refl _ _ | exact below_beyond _ _ | refine Below.beyond ?_ (by (try simp [size_beyond]) <;> omega) _ | refine Below.drew ?_ | refine Go.Rw.below_drewN ?_ _ | refine Go.Rw.below_setRow ?_ (by (try simp [size_beyond]) <;> omega) _ | refine Below.alloc ?_ (by (try simp [size_beyond]) <;> omega) _ | refine Below.setCell ?_ (by (try simp [size_beyond]) <;> omega) _))⟩
theorem walk {W : World} (hL : laidMetH Tryd.prog Rows.bitsetConstructorsRow.laid W) (q : Option Addr) (n c b off : Nat) (V : Nat → Int) (hl : n ≤ c) (hm : c ≤ maxLen) (hq : 0 < n → q = some ⟨b, off, none⟩ ∧ b < W.heap.size)
    (hx : ∀ i, i < n → W.cell? ⟨b, off + i, none⟩ = some (.int .i64 (V i)) ∧ (Lit.int .i64 (V i)).wf = true) (k : Int) (hk : IntKind.i64.has k) :
    Calls Tryd.prog 3 #[.slice q n c, .int .i64 k] W fun e w' => e = .returned (.bool true) ∧ ∃ x, w' = beyond W x := by
  have hr := reads_of (V := V) hq (fun i hi => (hx i hi).1)
  by_cases h200 : n ≤ 200
  · have h : IsAt q n c ((List.range n).map V) W := ⟨by simp, by omega, hl, hm, hr⟩
    generalize (List.range n).map V = l at h
    have hxs := rowOf_len l
    have hof := fun w (h : IsAt q n c l w) => of_at h
    have hrof := fun w (h : IsAt q n c l w) => rof_at h
    generalize rowOf l = xs at hxs hof hrof
    cases he : elems xs with
    | nil => exact part_no hL h h200 k hk hxs hof hrof _ rfl he
    | cons a t =>
      have hlast : (elems xs).getLast? = some ((a :: t).getLast (by simp)) := by rw [he]; exact List.getLast?_eq_some_getLast _
      exact part_yes hL h h200 k hk hxs hof hrof _ rfl (by rw [he]; rfl) hlast rfl (by rw [he]; simp)
  · obtain ⟨rfl, hb⟩ := hq (by omega)
    have h : IsAt (some ⟨b, off, none⟩) 200 c (((List.range n).map V).take 200) W := ⟨by simp; omega, by omega, by omega, hm, reads_take hr 200⟩
    generalize ((List.range n).map V).take 200 = l at h
    have hxs := rowOf_len l
    have hof := fun w (h : IsAt (some ⟨b, off, none⟩) 200 c l w) => of_at h
    have hrof := fun w (h : IsAt (some ⟨b, off, none⟩) 200 c l w) => rof_at h
    generalize rowOf l = xs at hxs hof hrof
    have hcc : c ≤ 9223372036854775807 := hm
    cases he : elems xs with
    | nil => exact part_no_wide hL h (by omega) hl hcc k hk hxs hof hrof _ rfl he
    | cons a t =>
      have hlast : (elems xs).getLast? = some ((a :: t).getLast (by simp)) := by rw [he]; exact List.getLast?_eq_some_getLast _
      exact part_yes_wide hL h (by omega) hl hcc k hk hxs hof hrof _ rfl (by rw [he]; rfl) hlast rfl (by rw [he]; simp)
end Go.Proofs.YtjneboajbmabbaaDoor.bitsetConstructors

namespace Go.Proofs.YtjneboajbmabbaaDoor.bitsetConstructors
open Go.ChangeShapes Go.WideShapes Go.ChangeAt Go.RowKit Go.Joins Go.Own

set_option maxRecDepth 100000 in
theorem contract (H : Type) (enc : TypeId × Value → H) (W : World) (base : Nat) (args : Array Value) (ds gs : List (DataW H)) (before : List MemPlace)
    (hval : ∀ (j : Nat) t v, Tryd.f3.params[j]? = some t → args[j]? = some v → Value.okWide Tryd.prog W .any base t v)
    (hW : DataW.Whole enc Tryd.prog Tryd.f3.params.toList Rows.bitsetConstructorsSpec.vars false W args.toList ds gs before) (hL : laidMetH Tryd.prog Rows.bitsetConstructorsRow.laid W) :
    Calls Tryd.prog 3 args W fun e W' => ∃ v, e = .returned v ∧ Rows.bitsetConstructorsSpec.post enc Tryd.prog Tryd.f3 false true false false W args v W' := by
  have hW' := hW
  obtain ⟨p, q, hA0, hV, rfl, hfz, hnd⟩ := hW
  have hA : DataW.TrodAll enc Tryd.prog W 0 (fun _ => true) true Tryd.f3.params.toList args.toList ds p := hA0
  rw [Tryd.params3] at hA hval
  obtain ⟨v0, vs0, d0, ds0, p0, q0, hargs, rfl, rfl, h0, r0⟩ := trodAll_cons hA
  obtain ⟨v1, vs1, d1, ds1, p1, q1, rfl, rfl, rfl, h1, r1⟩ := trodAll_cons r0
  obtain ⟨rfl, rfl, rfl⟩ := trodAll_nil r1
  obtain rfl : args = #[v0, v1] := by cases args; simp_all
  obtain ⟨rfl, rfl⟩ := trodVars_none hV
  obtain ⟨sq, n, cap, b, off, V, rfl, hl, hm, hq, hx⟩ := open_ints_cells Tryd.underlying22 Tryd.underlying3 (by kernel_rfl) (hval 0 22 v0 rfl rfl) h0
  obtain ⟨x1, rfl, rfl, _, w1⟩ := open_int Tryd.underlying3 (hval 1 3 v1 rfl rfl) h1
  refine (walk hL sq n cap b off V hl hm hq hx x1 (by have h := w1; simp [Lit.wf] at h; exact ⟨h.1, h.2⟩)).mono fun e W' ⟨he, x, hx⟩ => ?_
  subst he; subst hx
  exact ⟨_, rfl, law_post hW' rfl rfl (below_beyond _ _) rfl Tryd.underlying4 (by kernel_rfl) (by kernel_rfl)⟩

noncomputable def laid1 (cs : Array Value) : Obj → Obj
  | .cells _ t frozen => .cells cs t frozen
  | o => o
/-- A world for the witness: the settled one, the tables holding what their initialisers lay. -/
noncomputable def laidWorld (os : Os) : World := { World.holding Tryd.prog os ⟨#[], #[], []⟩ with heap := ((((World.holding Tryd.prog os ⟨#[], #[], []⟩).heap.modify 2 (laid1 (Can.tabCells Rows.laid_math_bits_deBruijn32tab))).modify 0 (laid1 (Can.tabCells Rows.laid_math_bits_deBruijn64tab))).modify 1 (laid1 (Can.tabCells Rows.laid_internal_strconv_uint64pow10))) }
theorem laid_met (os : Os) : laidMet Tryd.prog Rows.bitsetConstructorsRow.laid ((laidWorld os).forCall (fun _ _ => 0) ⟨#[], #[.slice none 0 0, .int .i64 0], []⟩).memory :=
  laidMet_of_run' 8 (by kernel_rfl) (by kernel_rfl)
theorem reads (os : Os) {H : Type} (enc : TypeId × Value → H) : ∃ places, DataW.whole enc Tryd.prog ((laidWorld os).forCall (fun _ _ => 0) ⟨#[], #[.slice none 0 0, .int .i64 0], []⟩).memory Tryd.f3.params.toList Rows.bitsetConstructorsSpec.vars false (#[.slice none 0 0, .int .i64 0] : Array Value).toList 8 = some ([.nil, .lit (.int .i64 0)], [], places) :=
  ⟨[], by kernel_rfl⟩

set_option maxRecDepth 100000 in
theorem lifted (os : Os) (started : os.Started) (H : Type) (enc : TypeId × Value → H) (F : Stop.Interp) :
    ReturnsInHanded {} Tryd.checked os 3 .any ((OpenSpec.ofChange Rows.bitsetConstructorsSpec).preRow enc Tryd.prog Tryd.f3 Rows.bitsetConstructorsRow.domain false Rows.bitsetConstructorsRow.laid) (((OpenSpec.ofChange Rows.bitsetConstructorsSpec).at F).post enc Tryd.prog Tryd.f3 false true false false) := by
  obtain ⟨places, hx⟩ := reads os enc
  refine returnsInHanded_of_row (C := Tryd.checked) (s := OpenSpec.ofChange Rows.bitsetConstructorsSpec) own started (by kernel_rfl) Tryd.func3
    (witness_row_at (enc := enc) (C := Tryd.checked) false (laidWorld os) #[.slice none 0 0, .int .i64 0] rfl (by kernel_rfl) (by kernel_rfl) (by kernel_rfl)
      (OpenSpec.preRow_of_cond 8 hx (by kernel_rfl) (fun k hk => by cases hk) (by kernel_rfl) (laid_met os))) ?_
  intro W base args ds gs before hval hW _ _ _ hL _ _
  exact contract H enc W base args ds gs before hval hW hL

theorem said : Rows.BitsetConstructorsSaid :=
  OpenClaim.holds_of_cond 3 Tryd.f3 rfl rfl rfl rfl rfl rfl rfl ⟨rfl, rfl, rfl, rfl, rfl⟩ rfl rfl rfl rfl rfl (by kernel_rfl) Tryd.func3 (by kernel_rfl)
    (of_decide_eq_true (by kernel_rfl)) (by unfold Func.isWrapper; first | (rw [if_pos (by decide +kernel)]; kernel_rfl) | (rw [if_neg (by decide +kernel)]; exact ⟨rfl, rfl⟩))
    (fun os started H enc _ F => by rw [OpenClaim.pre_eq_preRow]; exact lifted os started H enc F)

theorem plain (f : FuncId) (fn : Func) (hf : Tryd.pinned.checked.prog.funcNamed "palmette/palmettelaw01.BitsetConstructors" = some f) (hfn : Tryd.pinned.checked.prog.funcs[f]? = some fn) :
    false = Tryd.pinned.checked.prog.looks [] ∧ ∀ (j : Nat) t, fn.params[j]? = some t → Tryd.pinned.checked.prog.wantsStandIn t = false := by
  obtain rfl : f = 3 := Option.some.inj ((show Tryd.prog.funcNamed "palmette/palmettelaw01.BitsetConstructors" = some 3 by kernel_rfl).symm.trans hf) |>.symm
  obtain rfl : fn = Tryd.f3 := (Option.some.inj (Tryd.func3.symm.trans hfn)).symm
  exact ⟨by kernel_rfl, fun j t ht => Can.wants_of (P := Tryd.pinned.checked.prog) (by kernel_rfl) j t ht⟩

theorem card : Rows.BitsetConstructorsCardSaid :=
  Claim7.holds_tied_plain_at .later [] _ _ _ _ said (fun _ h => by cases h) (by kernel_rfl) (fun _ h => by cases h) bitsetConstructors_row_tie rfl ⟨rfl, rfl⟩ (by kernel_rfl) rfl plain (by kernel_rfl)
end Go.Proofs.YtjneboajbmabbaaDoor.bitsetConstructors
