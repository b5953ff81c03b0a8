/-
  DERIVED. GIVEN WITH THE SEED: THE CARDS: each row of YtmcfnnapgbgdeaaDoorRows.lean that lists a variable, with what it lists TIED to the program's text (the seventh form; the later family's looks); each row that meets fmt, with fmt's text TOLD by the authors' own Lean function (tested against real Go, not proved from fmt's source: count such statements apart). THE CARD IS WHAT COUNTS. Prove the row's statement (the work); the ties are given (YtmcfnnapgbgdeaaDoorTie.lean); close each card by the builder's one call (the guide's Derived/Test/ToyasCard.lean, 'card_holds'). Laid BY PROGRAM, IN A SANDBOX (cutbox-door.mjs). By AI agents, Wed Nov 11 2026. No macro, syntax, notation, axiom, sorry.
-/
import Derived.Test.YtmcfnnapgbgdeaaDoorRows
import GoSem.ClaimSeven
namespace Go.Proofs.YtmcfnnapgbgdeaaDoor
namespace Rows

/-- THE TIED CARD OF 'palmettelaw39.SemiringHomomorphisms'. -/
def semiringHomomorphismsCard : Claim7 := { stood := { row := semiringHomomorphismsRow, standIns := [], harness := (true, "219673a61c7de336cbd2dc3dd2594b117adcda965e20db9b239555c8d510d9de"), looks := false }, kinds := [], alts := [], laidByText := true, laidKinds := [.data, .data, .data], laidTests := true, laidLooks := .later }
def SemiringHomomorphismsCardSaid : Prop := Claim7.holds Tryd.pinned (.plain (OpenSpec.ofChange semiringHomomorphismsSpec)) semiringHomomorphismsCard

/-- THE TIED CARD OF 'palmettelaw39.SemiringNil'. -/
def semiringNilCard : Claim7 := { stood := { row := semiringNilRow, standIns := [], harness := (true, "219673a61c7de336cbd2dc3dd2594b117adcda965e20db9b239555c8d510d9de"), looks := false }, kinds := [], alts := [], laidByText := true, laidKinds := [.data, .data, .data], laidTests := true, laidLooks := .later }
def SemiringNilCardSaid : Prop := Claim7.holds Tryd.pinned (.plain (OpenSpec.ofChange semiringNilSpec)) semiringNilCard

/-- THE SECOND FORM's CARD OF 'palmettelaw39.SemiringHomomorphisms'. -/
def semiringHomomorphismsUptoCard : Claim7 := { stood := { row := semiringHomomorphismsUptoRow, standIns := [], harness := (true, "219673a61c7de336cbd2dc3dd2594b117adcda965e20db9b239555c8d510d9de"), looks := false }, kinds := [], alts := [], laidByText := true, laidKinds := [.data, .data, .data], laidTests := true, laidLooks := .later }
def SemiringHomomorphismsUptoCardSaid : Prop := Claim7.holds Tryd.pinned (.plain (OpenSpec.upto semiringHomomorphismsSpec)) semiringHomomorphismsUptoCard

/-- THE SECOND FORM's CARD OF 'palmettelaw39.SemiringNil'. -/
def semiringNilUptoCard : Claim7 := { stood := { row := semiringNilUptoRow, standIns := [], harness := (true, "219673a61c7de336cbd2dc3dd2594b117adcda965e20db9b239555c8d510d9de"), looks := false }, kinds := [], alts := [], laidByText := true, laidKinds := [.data, .data, .data], laidTests := true, laidLooks := .later }
def SemiringNilUptoCardSaid : Prop := Claim7.holds Tryd.pinned (.plain (OpenSpec.upto semiringNilSpec)) semiringNilUptoCard
end Rows
end Go.Proofs.YtmcfnnapgbgdeaaDoor
