/-
  DERIVED. GIVEN WITH THE SEED: THE CARDS: each row of YtdeimgdhfdlhoaaDoorRows.lean that lists a variable, with what it lists TIED to the program's text (the seventh form; the later family's looks); each row that meets fmt, with fmt's text TOLD by the authors' own Lean function (tested against real Go, not proved from fmt's source: count such statements apart). THE CARD IS WHAT COUNTS. Prove the row's statement (the work); the ties are given (YtdeimgdhfdlhoaaDoorTie.lean); close each card by the builder's one call (the guide's Derived/Test/ToyasCard.lean, 'card_holds'). Laid BY PROGRAM, IN A SANDBOX (cutbox-door.mjs). By AI agents, Wed Nov 11 2026. No macro, syntax, notation, axiom, sorry.
-/
import Derived.Test.YtdeimgdhfdlhoaaDoorRows
import GoSem.ClaimSeven
namespace Go.Proofs.YtdeimgdhfdlhoaaDoor
namespace Rows

/-- THE TIED CARD OF 'palmettelaw53.WALNil'. -/
def wALNilCard : Claim7 := { stood := { row := wALNilRow, standIns := [], harness := (true, "cbb75590df23d945830ba850240b6f1437739a03363a7290d1b3e890bacfb848"), looks := false }, kinds := [], alts := [], laidByText := true, laidKinds := [.data, .data, .data], laidTests := true, laidLooks := .later }
def WALNilCardSaid : Prop := Claim7.holds Tryd.pinned (.plain (OpenSpec.ofChange wALNilSpec)) wALNilCard

/-- THE SECOND FORM's CARD OF 'palmettelaw53.WALNil'. -/
def wALNilUptoCard : Claim7 := { stood := { row := wALNilUptoRow, standIns := [], harness := (true, "cbb75590df23d945830ba850240b6f1437739a03363a7290d1b3e890bacfb848"), looks := false }, kinds := [], alts := [], laidByText := true, laidKinds := [.data, .data, .data], laidTests := true, laidLooks := .later }
def WALNilUptoCardSaid : Prop := Claim7.holds Tryd.pinned (.plain (OpenSpec.upto wALNilSpec)) wALNilUptoCard
end Rows
end Go.Proofs.YtdeimgdhfdlhoaaDoor
