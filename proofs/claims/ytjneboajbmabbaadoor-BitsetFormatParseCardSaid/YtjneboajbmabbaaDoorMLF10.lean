/-
  BitsetFormatParse: the walk.
-/
import Derived.Test.YtjneboajbmabbaaDoorMB1
import Derived.Test.YtjneboajbmabbaaDoorMB2
import Derived.Test.YtjneboajbmabbaaDoorMLF1
import Derived.Test.YtjneboajbmabbaaDoorMLF2
import Derived.Test.YtjneboajbmabbaaDoorMLF3
import Derived.Test.YtjneboajbmabbaaDoorMLF4
import Derived.Test.YtjneboajbmabbaaDoorMLF5
import Derived.Test.YtjneboajbmabbaaDoorMLF6
import Derived.Test.YtjneboajbmabbaaDoorMLF7
import Derived.Test.YtjneboajbmabbaaDoorMLF8
import Derived.Test.YtjneboajbmabbaaDoorMLF9
set_option linter.unusedSimpArgs false
set_option linter.unusedVariables false
namespace Go.Proofs.YtjneboajbmabbaaDoor.bitsetFormatParse
open Go.RowKit Go.Own Go.Rw Go.SetL Go.Bits Go.SetT Go.Tz Go.PlainAid Go.Proofs.YtjneboajbmabbaaDoor.ref1
set_option maxHeartbeats 1000000
set_option maxRecDepth 100000
attribute [local irreducible] beyond grow over

theorem sumsS : Can.RecOk Tryd.prog [0, 1, 2] (Can.knownSm 24 tab [0, 1, 2]) := Can.knownSm_ok pc (Can.noSm_ok) tabAt tabPlain knownTrue
/-- the examples hold in every world that comes behind one where the tables are laid -/
theorem known_calls {W : World} (hL : laidMetH Tryd.prog Rows.bitsetFormatParseRow.laid W) (X : World) (hb : Below W.heap.size W X) : Calls Tryd.prog 24 #[] X fun e w' => e = .returned (.bool true) ∧ ∃ y, w' = beyond X y := by
  have hk : Can.Known (H0 (Can.tyAt W)) (Can.onG [0, 1, 2]) X := by
    refine Can.known_onG fun g hg => ?_
    have hg' := hg
    simp only [List.mem_cons, List.not_mem_nil, or_false] at hg
    rcases hg with rfl | rfl | rfl
    · have h0 : W.heap[0]? = some (.cells (tab 0) (Can.tyAt W 0) (0, 0)) := Can.laid_tab hL (by kernel_rfl) (List.mem_of_getElem? (i := 1) rfl) (by kernel_rfl) (by kernel_rfl) (by decide +kernel)
      exact ⟨tab 0, Can.tyAt W 0, rfl, (hb.block 0 (Array.getElem?_eq_some_iff.1 h0).1).trans h0, by kernel_rfl⟩
    · have h0 : W.heap[1]? = some (.cells (tab 1) (Can.tyAt W 1) (0, 0)) := Can.laid_tab hL (by kernel_rfl) (List.mem_of_getElem? (i := 2) rfl) (by kernel_rfl) (by kernel_rfl) (by decide +kernel)
      exact ⟨tab 1, Can.tyAt W 1, rfl, (hb.block 1 (Array.getElem?_eq_some_iff.1 h0).1).trans h0, by kernel_rfl⟩
    · have h0 : W.heap[2]? = some (.cells (tab 2) (Can.tyAt W 2) (0, 0)) := Can.laid_tab hL (by kernel_rfl) (List.mem_of_getElem? (i := 0) rfl) (by kernel_rfl) (by kernel_rfl) (by decide +kernel)
      exact ⟨tab 2, Can.tyAt W 2, rfl, (hb.block 2 (Array.getElem?_eq_some_iff.1 h0).1).trans h0, by kernel_rfl⟩
  exact Can.true_callsS pc sumsS (n := 5) (by kernel_rfl) hk (Can.gl_onG _) (Can.plain_args (by kernel_rfl))
theorem tzW {W : World} (hL : laidMetH Tryd.prog Rows.bitsetFormatParseRow.laid W) : TzW W :=
  tzW_of (T := Can.tyAt W 0) (Can.laid_tab hL (by kernel_rfl) (List.mem_of_getElem? (i := 1) rfl) (by kernel_rfl) (by kernel_rfl) (by decide +kernel))
theorem decW {W : World} (hL : laidMetH Tryd.prog Rows.bitsetFormatParseRow.laid W) : DecW W :=
  decW_of (T := Can.tyAt W 1) (Can.laid_tab hL (by kernel_rfl) (List.mem_of_getElem? (i := 2) rfl) (by kernel_rfl) (by kernel_rfl) (by decide +kernel))
theorem big {W : World} (hL : laidMetH Tryd.prog Rows.bitsetFormatParseRow.laid W) : 3 ≤ W.heap.size := by
  have h0 : W.heap[2]? = some (.cells (tab 2) (Can.tyAt W 2) (0, 0)) := Can.laid_tab hL (by kernel_rfl) (List.mem_of_getElem? (i := 0) rfl) (by kernel_rfl) (by kernel_rfl) (by decide +kernel)
  exact (Array.getElem?_eq_some_iff.1 h0).1
theorem main {W : World} (hL : laidMetH Tryd.prog Rows.bitsetFormatParseRow.laid W) {xs : List Bits.W} (hx : xs.length = 16) :
    Calls Tryd.prog 10 #[.agg (rowW xs)] W fun e w' => e = .returned (.bool true) ∧ ∃ x, w' = beyond W x := by
  have KK := Lib.hid (fun X hb => known_calls hL X hb)
  have TZ := Lib.hid (tzW hL)
  have DZ := Lib.hid (decW hL)
  have h3 := big hL
  clear hL
  have HZ := Lib.hid (show (rowW xs).size = 16 by rw [rowW_size, hx])
  have HTX := Lib.hid (fun w hT hD h0 => text_calls hx w hT hD h0)
  have HPA := Lib.hid (parse_back hx)
  have HTO := Lib.hid (fun w => to_at hx w)
  have HTR := Lib.hid (fun (q : Option Addr) (m c : Nat) (w : World) (h : IsAt q m c (elems xs) w) => textE_at h)
  have HX := Lib.hid hx; clear hx
  generalize (⟨(textL (elems xs)).toArray⟩ : ByteArray) = tx at HTX HPA HTR
  have K1 : BlkAt W.heap.size (rowW xs) 25 (W.alloc (.cells (rowW xs) 25)) := ⟨by simp [go_sem, inW]⟩
  go_enter Tryd.func10, Tryd.ntmps10
  go_wp2_with (refine wpList_load_any (by kernel_rfl) 25 (.tmp 1) rfl _ (rowW xs) 25 _ rfl (BlkAt.all (by first | (with_reducible assumption) | (refine BlkAt.below (by with_reducible assumption) ?_; exact (by repeat (first | assumption | exact Below.refl _ _ | exact below_beyond _ _ | refine Below.beyond ?_ (by (try simp [size_beyond]) <;> omega) _ | refine Below.drew ?_ | refine Go.Rw.below_drewN ?_ _ | refine Go.Rw.below_setRow ?_ (by (try simp [size_beyond]) <;> omega) _ | refine Below.alloc ?_ (by (try simp [size_beyond]) <;> omega) _ | refine Below.setCell ?_ (by (try simp [size_beyond]) <;> omega) _))))) Tryd.underlying25 rfl (by rw [HZ.out]; exact sInfo) ?_)
  go_at_call 49
  refine (HTX.out _ (TZ.out.below (by repeat (first | assumption | exact Below.refl _ _ | exact below_beyond _ _ | refine Below.beyond ?_ (by (try simp [size_beyond]) <;> omega) _ | refine Below.drew ?_ | refine Go.Rw.below_drewN ?_ _ | refine Go.Rw.below_setRow ?_ (by (try simp [size_beyond]) <;> omega) _ | refine Below.alloc ?_ (by (try simp [size_beyond]) <;> omega) _ | refine Below.setCell ?_ (by (try simp [size_beyond]) <;> omega) _))) (DZ.out.below (B := W.heap.size) h3 (by repeat (first | assumption | exact Below.refl _ _ | exact below_beyond _ _ | refine Below.beyond ?_ (by (try simp [size_beyond]) <;> omega) _ | refine Below.drew ?_ | refine Go.Rw.below_drewN ?_ _ | refine Go.Rw.below_setRow ?_ (by (try simp [size_beyond]) <;> omega) _ | refine Below.alloc ?_ (by (try simp [size_beyond]) <;> omega) _ | refine Below.setCell ?_ (by (try simp [size_beyond]) <;> omega) _))) (by simp; omega)).mono ?_
  rintro e w1 ⟨rfl, hw1⟩
  obtain ⟨y1, rfl⟩ := beyond_of hw1
  clear hw1
  go_wp2_with (fail)
  go_at_call 50
  refine (HPA.out _).mono ?_
  rintro e w1 ⟨rfl, y2, rfl⟩
  go_wp2_with (refine wpList_store_fresh rfl 25 (.tmp 4) (.tmp 11) rfl (rowW xs) 25 _ _ rfl rfl rfl (by rw [HZ.out]; exact sInfo) (by rw [HZ.out] <;> rfl) (rowW_one _) ?_; intro wr hbel KF; have HWB : Below W.heap.size W wr := Below.trans (by repeat (first | assumption | exact Below.refl _ _ | exact below_beyond _ _ | refine Below.beyond ?_ (by (try simp [size_beyond]) <;> omega) _ | refine Below.drew ?_ | refine Go.Rw.below_drewN ?_ _ | refine Go.Rw.below_setRow ?_ (by (try simp [size_beyond]) <;> omega) _ | refine Below.alloc ?_ (by (try simp [size_beyond]) <;> omega) _ | refine Below.setCell ?_ (by (try simp [size_beyond]) <;> omega) _)) (Below.mono hbel (by simp [size_beyond] <;> omega)); have J1 := BlkAt.below ((K1.below (below_beyond _ y1)).below (below_beyond _ y2)) hbel; have hws := HWB.size; clear hbel K1)
  go_at_call 24
  refine (KK.out _ (by repeat (first | assumption | exact Below.refl _ _ | exact below_beyond _ _ | refine Below.beyond ?_ (by (try simp [size_beyond]) <;> omega) _ | refine Below.drew ?_ | refine Go.Rw.below_drewN ?_ _ | refine Go.Rw.below_setRow ?_ (by (try simp [size_beyond]) <;> omega) _ | refine Below.alloc ?_ (by (try simp [size_beyond]) <;> omega) _ | refine Below.setCell ?_ (by (try simp [size_beyond]) <;> omega) _))).mono ?_
  rintro e w1 ⟨rfl, y3, rfl⟩
  generalize (beyond (beyond (W.alloc (.cells (rowW xs) 25)) y1) y2).heap.size = gF at KF ⊢
  go_wp2_with (refine wpList_load_any (by kernel_rfl) 25 (.tmp 1) rfl _ (rowW xs) 25 _ rfl (BlkAt.all (by first | (with_reducible assumption) | (refine BlkAt.below (by with_reducible assumption) ?_; exact (by repeat (first | assumption | exact Below.refl _ _ | exact below_beyond _ _ | refine Below.beyond ?_ (by (try simp [size_beyond]) <;> omega) _ | refine Below.drew ?_ | refine Go.Rw.below_drewN ?_ _ | refine Go.Rw.below_setRow ?_ (by (try simp [size_beyond]) <;> omega) _ | refine Below.alloc ?_ (by (try simp [size_beyond]) <;> omega) _ | refine Below.setCell ?_ (by (try simp [size_beyond]) <;> omega) _))))) Tryd.underlying25 rfl (by rw [HZ.out]; exact sInfo) ?_)
  go_at_call 18
  refine (HTO.out _).mono ?_
  rintro e w1 ⟨q1, m1, c1, y4, rfl, rfl, H1⟩
  go_wp2_with (fail)
  go_at_call 51
  refine (HTR.out _ _ _ _ H1).mono ?_
  rintro e w1 ⟨rfl, y5, rfl⟩
  go_wp2_with (first | (refine wpList_load_any (by kernel_rfl) 25 (.tmp 4) rfl _ (rowW xs) 25 _ rfl (BlkAt.all (by first | (with_reducible assumption) | (refine BlkAt.below (by with_reducible assumption) ?_; exact (by repeat (first | assumption | exact Below.refl _ _ | exact below_beyond _ _ | refine Below.beyond ?_ (by (try simp [size_beyond]) <;> omega) _ | refine Below.drew ?_ | refine Go.Rw.below_drewN ?_ _ | refine Go.Rw.below_setRow ?_ (by (try simp [size_beyond]) <;> omega) _ | refine Below.alloc ?_ (by (try simp [size_beyond]) <;> omega) _ | refine Below.setCell ?_ (by (try simp [size_beyond]) <;> omega) _))))) Tryd.underlying25 rfl (by rw [HZ.out]; exact sInfo) ?_) | (refine wpList_load_any (by kernel_rfl) 25 (.tmp 1) rfl _ (rowW xs) 25 _ rfl (BlkAt.all (by first | (with_reducible assumption) | (refine BlkAt.below (by with_reducible assumption) ?_; exact (by repeat (first | assumption | exact Below.refl _ _ | exact below_beyond _ _ | refine Below.beyond ?_ (by (try simp [size_beyond]) <;> omega) _ | refine Below.drew ?_ | refine Go.Rw.below_drewN ?_ _ | refine Go.Rw.below_setRow ?_ (by (try simp [size_beyond]) <;> omega) _ | refine Below.alloc ?_ (by (try simp [size_beyond]) <;> omega) _ | refine Below.setCell ?_ (by (try simp [size_beyond]) <;> omega) _))))) Tryd.underlying25 rfl (by rw [HZ.out]; exact sInfo) ?_) | (refine wpList_eqRow_any (by kernel_rfl) (.tmp 26) (.tmp 27) rfl sU wU wI sG HX.out HX.out rfl rfl ?_; rw [decide_eq_true rfl]))
  go_ret
  exact ⟨rfl, beyond_of (by repeat (first | assumption | exact Below.refl _ _ | exact below_beyond _ _ | refine Below.beyond ?_ (by (try simp [size_beyond]) <;> omega) _ | refine Below.drew ?_ | refine Go.Rw.below_drewN ?_ _ | refine Go.Rw.below_setRow ?_ (by (try simp [size_beyond]) <;> omega) _ | refine Below.alloc ?_ (by (try simp [size_beyond]) <;> omega) _ | refine Below.setCell ?_ (by (try simp [size_beyond]) <;> omega) _))⟩
theorem walk {W : World} (hL : laidMetH Tryd.prog Rows.bitsetFormatParseRow.laid W) (x0_0 x0_1 x0_2 x0_3 x0_4 x0_5 x0_6 x0_7 x0_8 x0_9 x0_10 x0_11 x0_12 x0_13 x0_14 x0_15 : Int) (w0_0 : IntKind.u64.has x0_0) (w0_1 : IntKind.u64.has x0_1) (w0_2 : IntKind.u64.has x0_2) (w0_3 : IntKind.u64.has x0_3) (w0_4 : IntKind.u64.has x0_4) (w0_5 : IntKind.u64.has x0_5) (w0_6 : IntKind.u64.has x0_6) (w0_7 : IntKind.u64.has x0_7) (w0_8 : IntKind.u64.has x0_8) (w0_9 : IntKind.u64.has x0_9) (w0_10 : IntKind.u64.has x0_10) (w0_11 : IntKind.u64.has x0_11) (w0_12 : IntKind.u64.has x0_12) (w0_13 : IntKind.u64.has x0_13) (w0_14 : IntKind.u64.has x0_14) (w0_15 : IntKind.u64.has x0_15) :
    Calls Tryd.prog 10 #[.agg #[.int .u64 x0_0, .int .u64 x0_1, .int .u64 x0_2, .int .u64 x0_3, .int .u64 x0_4, .int .u64 x0_5, .int .u64 x0_6, .int .u64 x0_7, .int .u64 x0_8, .int .u64 x0_9, .int .u64 x0_10, .int .u64 x0_11, .int .u64 x0_12, .int .u64 x0_13, .int .u64 x0_14, .int .u64 x0_15]] W fun e w' => e = .returned (.bool true) ∧ ∃ x, w' = beyond W x := by
  obtain ⟨A0, rfl⟩ := toI_of w0_0
  obtain ⟨A1, rfl⟩ := toI_of w0_1
  obtain ⟨A2, rfl⟩ := toI_of w0_2
  obtain ⟨A3, rfl⟩ := toI_of w0_3
  obtain ⟨A4, rfl⟩ := toI_of w0_4
  obtain ⟨A5, rfl⟩ := toI_of w0_5
  obtain ⟨A6, rfl⟩ := toI_of w0_6
  obtain ⟨A7, rfl⟩ := toI_of w0_7
  obtain ⟨A8, rfl⟩ := toI_of w0_8
  obtain ⟨A9, rfl⟩ := toI_of w0_9
  obtain ⟨A10, rfl⟩ := toI_of w0_10
  obtain ⟨A11, rfl⟩ := toI_of w0_11
  obtain ⟨A12, rfl⟩ := toI_of w0_12
  obtain ⟨A13, rfl⟩ := toI_of w0_13
  obtain ⟨A14, rfl⟩ := toI_of w0_14
  obtain ⟨A15, rfl⟩ := toI_of w0_15
  exact main hL (xs := [A0, A1, A2, A3, A4, A5, A6, A7, A8, A9, A10, A11, A12, A13, A14, A15]) rfl
end Go.Proofs.YtjneboajbmabbaaDoor.bitsetFormatParse
