/-
  DERIVED. GIVEN WITH THE SEED: THE CARDS: each row of YtdljpdejgplhmaaDoorRows.lean that lists a variable, with what it lists TIED to the program's text (the seventh form; the later family's looks); each row that meets fmt, with fmt's text TOLD by the authors' own Lean function (tested against real Go, not proved from fmt's source: count such statements apart). THE CARD IS WHAT COUNTS. Prove the row's statement (the work); the ties are given (YtdljpdejgplhmaaDoorTie.lean); close each card by the builder's one call (the guide's Derived/Test/ToyasCard.lean, 'card_holds'). Laid BY PROGRAM, IN A SANDBOX (cutbox-door.mjs). By AI agents, Wed Nov 11 2026. No macro, syntax, notation, axiom, sorry.
-/
import Derived.Test.YtdljpdejgplhmaaDoorRows
import GoSem.ClaimSeven
namespace Go.Proofs.YtdljpdejgplhmaaDoor
namespace Rows

/-- THE TIED CARD OF 'palmettelaw20.MonoidValidity'. -/
def monoidValidityCard : Claim7 := { stood := { row := monoidValidityRow, standIns := [], harness := (true, "45f09ff593728e89a0a5e6c681dfb6f31d54648f6568f36e9832f5fdd7dbcda0"), looks := false }, kinds := [], alts := [], laidByText := true, laidKinds := [.data, .data, .data], laidTests := true, laidLooks := .later }
def MonoidValidityCardSaid : Prop := Claim7.holds Tryd.pinned (.plain (OpenSpec.ofChange monoidValiditySpec)) monoidValidityCard

/-- THE TIED CARD OF 'palmettelaw20.MonoidTexts'. -/
def monoidTextsCard : Claim7 := { stood := { row := monoidTextsRow, standIns := [], harness := (true, "45f09ff593728e89a0a5e6c681dfb6f31d54648f6568f36e9832f5fdd7dbcda0"), looks := false }, kinds := [], alts := [], laidByText := true, laidKinds := [.data, .data, .data], laidTests := true, laidLooks := .later }
def MonoidTextsCardSaid : Prop := Claim7.holds Tryd.pinned (.plain (OpenSpec.ofChange monoidTextsSpec)) monoidTextsCard

/-- THE SECOND FORM's CARD OF 'palmettelaw20.MonoidValidity'. -/
def monoidValidityUptoCard : Claim7 := { stood := { row := monoidValidityUptoRow, standIns := [], harness := (true, "45f09ff593728e89a0a5e6c681dfb6f31d54648f6568f36e9832f5fdd7dbcda0"), looks := false }, kinds := [], alts := [], laidByText := true, laidKinds := [.data, .data, .data], laidTests := true, laidLooks := .later }
def MonoidValidityUptoCardSaid : Prop := Claim7.holds Tryd.pinned (.plain (OpenSpec.upto monoidValiditySpec)) monoidValidityUptoCard

/-- THE SECOND FORM's CARD OF 'palmettelaw20.MonoidTexts'. -/
def monoidTextsUptoCard : Claim7 := { stood := { row := monoidTextsUptoRow, standIns := [], harness := (true, "45f09ff593728e89a0a5e6c681dfb6f31d54648f6568f36e9832f5fdd7dbcda0"), looks := false }, kinds := [], alts := [], laidByText := true, laidKinds := [.data, .data, .data], laidTests := true, laidLooks := .later }
def MonoidTextsUptoCardSaid : Prop := Claim7.holds Tryd.pinned (.plain (OpenSpec.upto monoidTextsSpec)) monoidTextsUptoCard
end Rows
end Go.Proofs.YtdljpdejgplhmaaDoor
