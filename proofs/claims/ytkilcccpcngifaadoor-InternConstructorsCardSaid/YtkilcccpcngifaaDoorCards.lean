/-
  DERIVED. GIVEN WITH THE SEED: THE CARDS: each row of YtkilcccpcngifaaDoorRows.lean that lists a variable, with what it lists TIED to the program's text (the seventh form; the later family's looks); each row that meets fmt, with fmt's text TOLD by the authors' own Lean function (tested against real Go, not proved from fmt's source: count such statements apart). THE CARD IS WHAT COUNTS. Prove the row's statement (the work); the ties are given (YtkilcccpcngifaaDoorTie.lean); close each card by the builder's one call (the guide's Derived/Test/ToyasCard.lean, 'card_holds'). Laid BY PROGRAM, IN A SANDBOX (cutbox-door.mjs). By AI agents, Wed Nov 11 2026. No macro, syntax, notation, axiom, sorry.
-/
import Derived.Test.YtkilcccpcngifaaDoorRows
import GoSem.ClaimSeven
namespace Go.Proofs.YtkilcccpcngifaaDoor
namespace Rows

/-- THE TIED CARD OF 'palmettelaw04.InternConstructors'. -/
def internConstructorsCard : Claim7 := { stood := { row := internConstructorsRow, standIns := [], harness := (true, "edcdac302025a5fc638adb8e3adaece3021df2f81ea6169e7733c9fa44e621fb"), looks := true }, kinds := [], alts := [], laidByText := true, laidKinds := [.data, .data, .data], laidTests := true, laidLooks := .later }
def InternConstructorsCardSaid : Prop := Claim7.holds Tryd.pinned (.plain (OpenSpec.ofChange internConstructorsSpec)) internConstructorsCard

/-- THE SECOND FORM's CARD OF 'palmettelaw04.InternConstructors'. -/
def internConstructorsUptoCard : Claim7 := { stood := { row := internConstructorsUptoRow, standIns := [], harness := (true, "edcdac302025a5fc638adb8e3adaece3021df2f81ea6169e7733c9fa44e621fb"), looks := true }, kinds := [], alts := [], laidByText := true, laidKinds := [.data, .data, .data], laidTests := true, laidLooks := .later }
def InternConstructorsUptoCardSaid : Prop := Claim7.holds Tryd.pinned (.plain (OpenSpec.upto internConstructorsSpec)) internConstructorsUptoCard
end Rows
end Go.Proofs.YtkilcccpcngifaaDoor
