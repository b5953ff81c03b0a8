/-
  DERIVED. GIVEN WITH THE SEED: THE CARDS: each row of YthanddljibcaiaaGreatDoorRows.lean that lists a variable, with what it lists TIED to the program's text (the seventh form; the later family's looks); each row that meets fmt, with fmt's text TOLD by the authors' own Lean function (tested against real Go, not proved from fmt's source: count such statements apart). THE CARD IS WHAT COUNTS. Prove the row's statement (the work); the ties are given (YthanddljibcaiaaGreatDoorTie.lean); close each card by the builder's one call (the guide's Derived/Test/ToyasCard.lean, 'card_holds'). Laid BY PROGRAM, IN A SANDBOX (cutbox-door.mjs). By AI agents, Wed Nov 11 2026. No macro, syntax, notation, axiom, sorry.
-/
import Derived.Test.YthanddljibcaiaaGreatDoorRows
import GoSem.ClaimSeven
namespace Go.Proofs.YthanddljibcaiaaGreatDoor
namespace Rows

/-- THE TIED CARD OF 'palmettelaw21.EliminationNil'. -/
def eliminationNilCard : Claim7 := { stood := { row := eliminationNilRow, standIns := [], harness := (true, "430e4a3aaa033589f4e9ff6c4b3fc7c0b720b5bcd2d80d72bbaebc7234eea66d"), looks := false }, kinds := [], alts := [], laidByText := true, laidKinds := [.data], laidTests := true, laidLooks := .later }
def EliminationNilCardSaid : Prop := Claim7.holds Tryz.pinned (.plain (OpenSpec.ofChange eliminationNilSpec)) eliminationNilCard

/-- THE SECOND FORM's CARD OF 'palmettelaw21.EliminationNil'. -/
def eliminationNilUptoCard : Claim7 := { stood := { row := eliminationNilUptoRow, standIns := [], harness := (true, "430e4a3aaa033589f4e9ff6c4b3fc7c0b720b5bcd2d80d72bbaebc7234eea66d"), looks := false }, kinds := [], alts := [], laidByText := true, laidKinds := [.data], laidTests := true, laidLooks := .later }
def EliminationNilUptoCardSaid : Prop := Claim7.holds Tryz.pinned (.plain (OpenSpec.upto eliminationNilSpec)) eliminationNilUptoCard
end Rows
end Go.Proofs.YthanddljibcaiaaGreatDoor
