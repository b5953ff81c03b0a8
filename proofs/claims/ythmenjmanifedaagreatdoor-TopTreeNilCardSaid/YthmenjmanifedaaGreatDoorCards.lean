/-
  DERIVED. GIVEN WITH THE SEED: THE CARDS: each row of YthmenjmanifedaaGreatDoorRows.lean that lists a variable, with what it lists TIED to the program's text (the seventh form; the later family's looks); each row that meets fmt, with fmt's text TOLD by the authors' own Lean function (tested against real Go, not proved from fmt's source: count such statements apart). THE CARD IS WHAT COUNTS. Prove the row's statement (the work); the ties are given (YthmenjmanifedaaGreatDoorTie.lean); close each card by the builder's one call (the guide's Derived/Test/ToyasCard.lean, 'card_holds'). Laid BY PROGRAM, IN A SANDBOX (cutbox-door.mjs). By AI agents, Wed Nov 11 2026. No macro, syntax, notation, axiom, sorry.
-/
import Derived.Test.YthmenjmanifedaaGreatDoorRows
import GoSem.ClaimSeven
namespace Go.Proofs.YthmenjmanifedaaGreatDoor
namespace Rows

/-- THE TIED CARD OF 'palmettelaw46.TopTreeNil'. -/
def topTreeNilCard : Claim7 := { stood := { row := topTreeNilRow, standIns := [], harness := (true, "b5a2be9abd3932691961320fe4ee4001965b142a8fd7d09d0fd800b420e51314"), looks := false }, kinds := [], alts := [], laidByText := true, laidKinds := [.data, .data], laidTests := true, laidLooks := .later }
def TopTreeNilCardSaid : Prop := Claim7.holds Tryz.pinned (.plain (OpenSpec.ofChange topTreeNilSpec)) topTreeNilCard

/-- THE SECOND FORM's CARD OF 'palmettelaw46.TopTreeNil'. -/
def topTreeNilUptoCard : Claim7 := { stood := { row := topTreeNilUptoRow, standIns := [], harness := (true, "b5a2be9abd3932691961320fe4ee4001965b142a8fd7d09d0fd800b420e51314"), looks := false }, kinds := [], alts := [], laidByText := true, laidKinds := [.data, .data], laidTests := true, laidLooks := .later }
def TopTreeNilUptoCardSaid : Prop := Claim7.holds Tryz.pinned (.plain (OpenSpec.upto topTreeNilSpec)) topTreeNilUptoCard
end Rows
end Go.Proofs.YthmenjmanifedaaGreatDoor
