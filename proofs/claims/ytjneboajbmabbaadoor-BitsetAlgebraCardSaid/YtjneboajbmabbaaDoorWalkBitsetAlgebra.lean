/-
  BitsetAlgebra: the cases put together: the call answers true whatever its arguments.
-/
import Derived.Test.YtjneboajbmabbaaDoorCaseBitsetAlgebra
set_option linter.unusedSimpArgs false
set_option linter.unusedVariables false
namespace Go.Proofs.YtjneboajbmabbaaDoor.bitsetAlgebra
open Go.ChangeShapes Go.WideShapes Go.ChangeAt Go.RowKit Go.Joins Go.Own Go.Bits Go.Can
set_option maxRecDepth 100000
theorem not_row {b : Bool} (h : b = true) : (!b) = false := by rw [h]; rfl

theorem main {W : World} (hL : laidMetH Tryd.prog Rows.bitsetAlgebraRow.laid W) (A0 A1 A2 A3 A4 A5 A6 A7 A8 A9 A10 A11 A12 A13 A14 A15 B0 B1 B2 B3 B4 B5 B6 B7 B8 B9 B10 B11 B12 B13 B14 B15 C0 C1 C2 C3 C4 C5 C6 C7 C8 C9 C10 C11 C12 C13 C14 C15 : Bits.W) :
    Calls Tryd.prog 12 #[.agg #[.int .u64 (toI A0), .int .u64 (toI A1), .int .u64 (toI A2), .int .u64 (toI A3), .int .u64 (toI A4), .int .u64 (toI A5), .int .u64 (toI A6), .int .u64 (toI A7), .int .u64 (toI A8), .int .u64 (toI A9), .int .u64 (toI A10), .int .u64 (toI A11), .int .u64 (toI A12), .int .u64 (toI A13), .int .u64 (toI A14), .int .u64 (toI A15)], .agg #[.int .u64 (toI B0), .int .u64 (toI B1), .int .u64 (toI B2), .int .u64 (toI B3), .int .u64 (toI B4), .int .u64 (toI B5), .int .u64 (toI B6), .int .u64 (toI B7), .int .u64 (toI B8), .int .u64 (toI B9), .int .u64 (toI B10), .int .u64 (toI B11), .int .u64 (toI B12), .int .u64 (toI B13), .int .u64 (toI B14), .int .u64 (toI B15)], .agg #[.int .u64 (toI C0), .int .u64 (toI C1), .int .u64 (toI C2), .int .u64 (toI C3), .int .u64 (toI C4), .int .u64 (toI C5), .int .u64 (toI C6), .int .u64 (toI C7), .int .u64 (toI C8), .int .u64 (toI C9), .int .u64 (toI C10), .int .u64 (toI C11), .int .u64 (toI C12), .int .u64 (toI C13), .int .u64 (toI C14), .int .u64 (toI C15)]] W fun e w' => e = .returned (.bool true) ∧ ∃ x, w' = beyond W x := by
  have go : ∀ {orc : List Can.Site → FuncId → Can.Orc} {args : Array Value} {l : Can.Obl} {tags : List Nat}, Can.evDTrue (Can.evD Tryd.prog [0, 1, 2] sm orc 3000 [] (.call 12 args) (Can.AW.start (H0 (Can.tyAt W)))) = some (Can.Obl.tab l tags) → args.all (Can.plainV 60) = true → l.Ok →
      Calls Tryd.prog 12 args W fun e w' => e = .returned (.bool true) ∧ ∃ x, w' = beyond W x :=
    fun h ha ok => Can.true_callsD pc sums h (Can.Obl.tab_ok ok) (known hL) (Can.gl_onG _) (Can.plain_args ha)
  have F : AFacts [toI A0, toI A1, toI A2, toI A3, toI A4, toI A5, toI A6, toI A7, toI A8, toI A9, toI A10, toI A11, toI A12, toI A13, toI A14, toI A15] [toI B0, toI B1, toI B2, toI B3, toI B4, toI B5, toI B6, toI B7, toI B8, toI B9, toI B10, toI B11, toI B12, toI B13, toI B14, toI B15] [toI C0, toI C1, toI C2, toI C3, toI C4, toI C5, toI C6, toI C7, toI C8, toI C9, toI C10, toI C11, toI C12, toI C13, toI C14, toI C15] [0, 0, 0, 0, 0, 0, 0, 0, 0, 0, 0, 0, 0, 0, 0, 0] := afacts (p := [A0, A1, A2, A3, A4, A5, A6, A7, A8, A9, A10, A11, A12, A13, A14, A15]) (q := [B0, B1, B2, B3, B4, B5, B6, B7, B8, B9, B10, B11, B12, B13, B14, B15]) (r := [C0, C1, C2, C3, C4, C5, C6, C7, C8, C9, C10, C11, C12, C13, C14, C15]) rfl rfl rfl
  obtain ⟨e20, e34, e45, e61, es, e96, e105, eab, same, e121, imp⟩ := F
  cases h1 : rowB (List.zipWith subI [toI A0, toI A1, toI A2, toI A3, toI A4, toI A5, toI A6, toI A7, toI A8, toI A9, toI A10, toI A11, toI A12, toI A13, toI A14, toI A15] [toI B0, toI B1, toI B2, toI B3, toI B4, toI B5, toI B6, toI B7, toI B8, toI B9, toI B10, toI B11, toI B12, toI B13, toI B14, toI B15]) [0, 0, 0, 0, 0, 0, 0, 0, 0, 0, 0, 0, 0, 0, 0, 0] with
  | true =>
    cases h2 : rowB [toI A0, toI A1, toI A2, toI A3, toI A4, toI A5, toI A6, toI A7, toI A8, toI A9, toI A10, toI A11, toI A12, toI A13, toI A14, toI A15] [toI B0, toI B1, toI B2, toI B3, toI B4, toI B5, toI B6, toI B7, toI B8, toI B9, toI B10, toI B11, toI B12, toI B13, toI B14, toI B15] with
    | true => exact go (c11 (Can.tyAt W) (toI A0) (toI A1) (toI A2) (toI A3) (toI A4) (toI A5) (toI A6) (toI A7) (toI A8) (toI A9) (toI A10) (toI A11) (toI A12) (toI A13) (toI A14) (toI A15) (toI B0) (toI B1) (toI B2) (toI B3) (toI B4) (toI B5) (toI B6) (toI B7) (toI B8) (toI B9) (toI B10) (toI B11) (toI B12) (toI B13) (toI B14) (toI B15) (toI C0) (toI C1) (toI C2) (toI C3) (toI C4) (toI C5) (toI C6) (toI C7) (toI C8) (toI C9) (toI C10) (toI C11) (toI C12) (toI C13) (toI C14) (toI C15)) (by kernel_rfl) (Can.Obl.ok_more (not_row e20) (Can.Obl.ok_more (not_row e34) (Can.Obl.ok_more (not_row e45) (Can.Obl.ok_more e61 (Can.Obl.ok_more h1 (Can.Obl.ok_more (es.trans h1) (Can.Obl.ok_more (eab.trans h2) (Can.Obl.ok_more e96 (Can.Obl.ok_more e105 (Can.Obl.ok_more h2 (Can.Obl.ok_more e121 (Can.Obl.ok_nil))))))))))))
    | false => exact go (c10 (Can.tyAt W) (toI A0) (toI A1) (toI A2) (toI A3) (toI A4) (toI A5) (toI A6) (toI A7) (toI A8) (toI A9) (toI A10) (toI A11) (toI A12) (toI A13) (toI A14) (toI A15) (toI B0) (toI B1) (toI B2) (toI B3) (toI B4) (toI B5) (toI B6) (toI B7) (toI B8) (toI B9) (toI B10) (toI B11) (toI B12) (toI B13) (toI B14) (toI B15) (toI C0) (toI C1) (toI C2) (toI C3) (toI C4) (toI C5) (toI C6) (toI C7) (toI C8) (toI C9) (toI C10) (toI C11) (toI C12) (toI C13) (toI C14) (toI C15)) (by kernel_rfl) (Can.Obl.ok_more (not_row e20) (Can.Obl.ok_more (not_row e34) (Can.Obl.ok_more (not_row e45) (Can.Obl.ok_more e61 (Can.Obl.ok_more h1 (Can.Obl.ok_more (es.trans h1) (Can.Obl.ok_more (eab.trans h2) (Can.Obl.ok_more e96 (Can.Obl.ok_more e105 (Can.Obl.ok_more same (Can.Obl.ok_more h2 (Can.Obl.ok_more e121 (Can.Obl.ok_nil)))))))))))))
  | false =>
    cases h2 : rowB [toI A0, toI A1, toI A2, toI A3, toI A4, toI A5, toI A6, toI A7, toI A8, toI A9, toI A10, toI A11, toI A12, toI A13, toI A14, toI A15] [toI B0, toI B1, toI B2, toI B3, toI B4, toI B5, toI B6, toI B7, toI B8, toI B9, toI B10, toI B11, toI B12, toI B13, toI B14, toI B15] with
    | true => rw [imp h2] at h1; cases h1
    | false => exact go (c00 (Can.tyAt W) (toI A0) (toI A1) (toI A2) (toI A3) (toI A4) (toI A5) (toI A6) (toI A7) (toI A8) (toI A9) (toI A10) (toI A11) (toI A12) (toI A13) (toI A14) (toI A15) (toI B0) (toI B1) (toI B2) (toI B3) (toI B4) (toI B5) (toI B6) (toI B7) (toI B8) (toI B9) (toI B10) (toI B11) (toI B12) (toI B13) (toI B14) (toI B15) (toI C0) (toI C1) (toI C2) (toI C3) (toI C4) (toI C5) (toI C6) (toI C7) (toI C8) (toI C9) (toI C10) (toI C11) (toI C12) (toI C13) (toI C14) (toI C15)) (by kernel_rfl) (Can.Obl.ok_more (not_row e20) (Can.Obl.ok_more (not_row e34) (Can.Obl.ok_more (not_row e45) (Can.Obl.ok_more e61 (Can.Obl.ok_more h1 (Can.Obl.ok_more (es.trans h1) (Can.Obl.ok_more (eab.trans h2) (Can.Obl.ok_more e96 (Can.Obl.ok_more e105 (Can.Obl.ok_more same (Can.Obl.ok_more h2 (Can.Obl.ok_more e121 (Can.Obl.ok_nil)))))))))))))

theorem walk {W : World} (hL : laidMetH Tryd.prog Rows.bitsetAlgebraRow.laid W) (x0_0 x0_1 x0_2 x0_3 x0_4 x0_5 x0_6 x0_7 x0_8 x0_9 x0_10 x0_11 x0_12 x0_13 x0_14 x0_15 x1_0 x1_1 x1_2 x1_3 x1_4 x1_5 x1_6 x1_7 x1_8 x1_9 x1_10 x1_11 x1_12 x1_13 x1_14 x1_15 x2_0 x2_1 x2_2 x2_3 x2_4 x2_5 x2_6 x2_7 x2_8 x2_9 x2_10 x2_11 x2_12 x2_13 x2_14 x2_15 : Int) (w0_0 : IntKind.u64.has x0_0) (w0_1 : IntKind.u64.has x0_1) (w0_2 : IntKind.u64.has x0_2) (w0_3 : IntKind.u64.has x0_3) (w0_4 : IntKind.u64.has x0_4) (w0_5 : IntKind.u64.has x0_5) (w0_6 : IntKind.u64.has x0_6) (w0_7 : IntKind.u64.has x0_7) (w0_8 : IntKind.u64.has x0_8) (w0_9 : IntKind.u64.has x0_9) (w0_10 : IntKind.u64.has x0_10) (w0_11 : IntKind.u64.has x0_11) (w0_12 : IntKind.u64.has x0_12) (w0_13 : IntKind.u64.has x0_13) (w0_14 : IntKind.u64.has x0_14) (w0_15 : IntKind.u64.has x0_15) (w1_0 : IntKind.u64.has x1_0) (w1_1 : IntKind.u64.has x1_1) (w1_2 : IntKind.u64.has x1_2) (w1_3 : IntKind.u64.has x1_3) (w1_4 : IntKind.u64.has x1_4) (w1_5 : IntKind.u64.has x1_5) (w1_6 : IntKind.u64.has x1_6) (w1_7 : IntKind.u64.has x1_7) (w1_8 : IntKind.u64.has x1_8) (w1_9 : IntKind.u64.has x1_9) (w1_10 : IntKind.u64.has x1_10) (w1_11 : IntKind.u64.has x1_11) (w1_12 : IntKind.u64.has x1_12) (w1_13 : IntKind.u64.has x1_13) (w1_14 : IntKind.u64.has x1_14) (w1_15 : IntKind.u64.has x1_15) (w2_0 : IntKind.u64.has x2_0) (w2_1 : IntKind.u64.has x2_1) (w2_2 : IntKind.u64.has x2_2) (w2_3 : IntKind.u64.has x2_3) (w2_4 : IntKind.u64.has x2_4) (w2_5 : IntKind.u64.has x2_5) (w2_6 : IntKind.u64.has x2_6) (w2_7 : IntKind.u64.has x2_7) (w2_8 : IntKind.u64.has x2_8) (w2_9 : IntKind.u64.has x2_9) (w2_10 : IntKind.u64.has x2_10) (w2_11 : IntKind.u64.has x2_11) (w2_12 : IntKind.u64.has x2_12) (w2_13 : IntKind.u64.has x2_13) (w2_14 : IntKind.u64.has x2_14) (w2_15 : IntKind.u64.has x2_15) :
    Calls Tryd.prog 12 #[.agg #[.int .u64 x0_0, .int .u64 x0_1, .int .u64 x0_2, .int .u64 x0_3, .int .u64 x0_4, .int .u64 x0_5, .int .u64 x0_6, .int .u64 x0_7, .int .u64 x0_8, .int .u64 x0_9, .int .u64 x0_10, .int .u64 x0_11, .int .u64 x0_12, .int .u64 x0_13, .int .u64 x0_14, .int .u64 x0_15], .agg #[.int .u64 x1_0, .int .u64 x1_1, .int .u64 x1_2, .int .u64 x1_3, .int .u64 x1_4, .int .u64 x1_5, .int .u64 x1_6, .int .u64 x1_7, .int .u64 x1_8, .int .u64 x1_9, .int .u64 x1_10, .int .u64 x1_11, .int .u64 x1_12, .int .u64 x1_13, .int .u64 x1_14, .int .u64 x1_15], .agg #[.int .u64 x2_0, .int .u64 x2_1, .int .u64 x2_2, .int .u64 x2_3, .int .u64 x2_4, .int .u64 x2_5, .int .u64 x2_6, .int .u64 x2_7, .int .u64 x2_8, .int .u64 x2_9, .int .u64 x2_10, .int .u64 x2_11, .int .u64 x2_12, .int .u64 x2_13, .int .u64 x2_14, .int .u64 x2_15]] W fun e w' => e = .returned (.bool true) ∧ ∃ x, w' = beyond W x := by
  obtain ⟨A0, rfl⟩ := toI_of w0_0
  obtain ⟨A1, rfl⟩ := toI_of w0_1
  obtain ⟨A2, rfl⟩ := toI_of w0_2
  obtain ⟨A3, rfl⟩ := toI_of w0_3
  obtain ⟨A4, rfl⟩ := toI_of w0_4
  obtain ⟨A5, rfl⟩ := toI_of w0_5
  obtain ⟨A6, rfl⟩ := toI_of w0_6
  obtain ⟨A7, rfl⟩ := toI_of w0_7
  obtain ⟨A8, rfl⟩ := toI_of w0_8
  obtain ⟨A9, rfl⟩ := toI_of w0_9
  obtain ⟨A10, rfl⟩ := toI_of w0_10
  obtain ⟨A11, rfl⟩ := toI_of w0_11
  obtain ⟨A12, rfl⟩ := toI_of w0_12
  obtain ⟨A13, rfl⟩ := toI_of w0_13
  obtain ⟨A14, rfl⟩ := toI_of w0_14
  obtain ⟨A15, rfl⟩ := toI_of w0_15
  obtain ⟨B0, rfl⟩ := toI_of w1_0
  obtain ⟨B1, rfl⟩ := toI_of w1_1
  obtain ⟨B2, rfl⟩ := toI_of w1_2
  obtain ⟨B3, rfl⟩ := toI_of w1_3
  obtain ⟨B4, rfl⟩ := toI_of w1_4
  obtain ⟨B5, rfl⟩ := toI_of w1_5
  obtain ⟨B6, rfl⟩ := toI_of w1_6
  obtain ⟨B7, rfl⟩ := toI_of w1_7
  obtain ⟨B8, rfl⟩ := toI_of w1_8
  obtain ⟨B9, rfl⟩ := toI_of w1_9
  obtain ⟨B10, rfl⟩ := toI_of w1_10
  obtain ⟨B11, rfl⟩ := toI_of w1_11
  obtain ⟨B12, rfl⟩ := toI_of w1_12
  obtain ⟨B13, rfl⟩ := toI_of w1_13
  obtain ⟨B14, rfl⟩ := toI_of w1_14
  obtain ⟨B15, rfl⟩ := toI_of w1_15
  obtain ⟨C0, rfl⟩ := toI_of w2_0
  obtain ⟨C1, rfl⟩ := toI_of w2_1
  obtain ⟨C2, rfl⟩ := toI_of w2_2
  obtain ⟨C3, rfl⟩ := toI_of w2_3
  obtain ⟨C4, rfl⟩ := toI_of w2_4
  obtain ⟨C5, rfl⟩ := toI_of w2_5
  obtain ⟨C6, rfl⟩ := toI_of w2_6
  obtain ⟨C7, rfl⟩ := toI_of w2_7
  obtain ⟨C8, rfl⟩ := toI_of w2_8
  obtain ⟨C9, rfl⟩ := toI_of w2_9
  obtain ⟨C10, rfl⟩ := toI_of w2_10
  obtain ⟨C11, rfl⟩ := toI_of w2_11
  obtain ⟨C12, rfl⟩ := toI_of w2_12
  obtain ⟨C13, rfl⟩ := toI_of w2_13
  obtain ⟨C14, rfl⟩ := toI_of w2_14
  obtain ⟨C15, rfl⟩ := toI_of w2_15
  exact main hL A0 A1 A2 A3 A4 A5 A6 A7 A8 A9 A10 A11 A12 A13 A14 A15 B0 B1 B2 B3 B4 B5 B6 B7 B8 B9 B10 B11 B12 B13 B14 B15 C0 C1 C2 C3 C4 C5 C6 C7 C8 C9 C10 C11 C12 C13 C14 C15
end Go.Proofs.YtjneboajbmabbaaDoor.bitsetAlgebra
