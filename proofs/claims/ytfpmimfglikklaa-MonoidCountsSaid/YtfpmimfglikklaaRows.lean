/-
  No cell of these rows narrows 'for every input' (looked for: loops, veiled, ifaces, maps, wideKeys, modest, calm, conditions, laid).
  DERIVED. THE GIVEN ROWS OF THIS SEAT. 7 by the template 'for every input the law returns true; each argument reads behind the call as it read before'; 0 by the template 'total and deterministic' (their statements: YtfpmimfglikklaaTotals.lean).
  GIVEN WITH THE SEED: the statements are not yours to turn. If you find one false, say at which input.
  Laid BY PROGRAM, IN A SANDBOX (cutbox-rows.mjs): the forced cells as the released guide's own fill.sh prints them over the translation 214067511531b3f7… (all of the seat's roots in one cut). By AI agents, Wed Nov 11 2026. No macro, syntax, notation, axiom, sorry.
-/
import Derived.Test.YtfpmimfglikklaaChecked
import GoSem.Claim
import GoSem.ClaimJoined
import GoSem.ClaimMapViews
import Derived.JoinedTies
import Derived.KernelRfl
namespace Go.Proofs.Ytfpmimfglikklaa
/- THE CELL 'sum', in the pinned program and in every row, IS THE sha256 OF THE DUMP (.gsa) THAT YtfpmimfglikklaaProg.lean LOADS. Nothing in Lean hashes anything: it is a label: what it is worth is what the hold of that sum in a sandbox is worth. -/
noncomputable def Try.pinned : Pinned := { name := "ytfpmimfglikklaa", sum := "214067511531b3f7038b891f9ad503c43fca9d5f64ecd620383dbaee81fa5d0c", checked := Try.checked }
namespace Rows
def none {H : Type} : Left H := { results := [], args := [] }

/-- 'palmettelaw20.MonoidValues': WHATEVER THE INPUT: true; the input reads as it did. -/
def monoidValuesSpec : ChangeSpec := { name := "monoidValues", fn := fun _ => fun
  | [d1, d2, d3] => { results := [.lit (.bool true)], args := [d1, d2, d3] }
  | _ => none }
def monoidValuesRow : OpenClaim := { program := "ytfpmimfglikklaa", sum := "214067511531b3f7038b891f9ad503c43fca9d5f64ecd620383dbaee81fa5d0c", func := "palmette/palmettelaw20.MonoidValues", spec := "monoidValues", unfollowed := true, recurses := true, apart := false }
def MonoidValuesSaid : Prop := monoidValuesRow.holds Try.pinned (OpenSpec.ofChange monoidValuesSpec)

/-- ITS FALSE NEIGHBOUR: 'it returns false'. Refute it at one input. -/
def monoidValuesWrong : ChangeSpec := { name := "monoidValues", fn := fun _ => fun
  | [d1, d2, d3] => { results := [.lit (.bool false)], args := [d1, d2, d3] }
  | _ => none }
def MonoidValuesWrongFalsely : Prop := monoidValuesRow.holds Try.pinned (OpenSpec.ofChange monoidValuesWrong)

/-- 'palmettelaw20.MonoidCounts': WHATEVER THE INPUT: true; the input reads as it did. -/
def monoidCountsSpec : ChangeSpec := { name := "monoidCounts", fn := fun _ => fun
  | [d1, d2, d3] => { results := [.lit (.bool true)], args := [d1, d2, d3] }
  | _ => none }
def monoidCountsRow : OpenClaim := { program := "ytfpmimfglikklaa", sum := "214067511531b3f7038b891f9ad503c43fca9d5f64ecd620383dbaee81fa5d0c", func := "palmette/palmettelaw20.MonoidCounts", spec := "monoidCounts", unfollowed := true, recurses := true, apart := false }
def MonoidCountsSaid : Prop := monoidCountsRow.holds Try.pinned (OpenSpec.ofChange monoidCountsSpec)

/-- ITS FALSE NEIGHBOUR: 'it returns false'. Refute it at one input. -/
def monoidCountsWrong : ChangeSpec := { name := "monoidCounts", fn := fun _ => fun
  | [d1, d2, d3] => { results := [.lit (.bool false)], args := [d1, d2, d3] }
  | _ => none }
def MonoidCountsWrongFalsely : Prop := monoidCountsRow.holds Try.pinned (OpenSpec.ofChange monoidCountsWrong)

/-- 'palmettelaw20.MonoidLaws': WHATEVER THE INPUT: true; the input reads as it did. -/
def monoidLawsSpec : ChangeSpec := { name := "monoidLaws", fn := fun _ => fun
  | [d1, d2] => { results := [.lit (.bool true)], args := [d1, d2] }
  | _ => none }
def monoidLawsRow : OpenClaim := { program := "ytfpmimfglikklaa", sum := "214067511531b3f7038b891f9ad503c43fca9d5f64ecd620383dbaee81fa5d0c", func := "palmette/palmettelaw20.MonoidLaws", spec := "monoidLaws", unfollowed := true, recurses := true, apart := false }
def MonoidLawsSaid : Prop := monoidLawsRow.holds Try.pinned (OpenSpec.ofChange monoidLawsSpec)

/-- ITS FALSE NEIGHBOUR: 'it returns false'. Refute it at one input. -/
def monoidLawsWrong : ChangeSpec := { name := "monoidLaws", fn := fun _ => fun
  | [d1, d2] => { results := [.lit (.bool false)], args := [d1, d2] }
  | _ => none }
def MonoidLawsWrongFalsely : Prop := monoidLawsRow.holds Try.pinned (OpenSpec.ofChange monoidLawsWrong)

/-- 'palmettelaw20.MonoidTimes': WHATEVER THE INPUT: true; the input reads as it did. -/
def monoidTimesSpec : ChangeSpec := { name := "monoidTimes", fn := fun _ => fun
  | [d1, d2, d3] => { results := [.lit (.bool true)], args := [d1, d2, d3] }
  | _ => none }
def monoidTimesRow : OpenClaim := { program := "ytfpmimfglikklaa", sum := "214067511531b3f7038b891f9ad503c43fca9d5f64ecd620383dbaee81fa5d0c", func := "palmette/palmettelaw20.MonoidTimes", spec := "monoidTimes", unfollowed := true, recurses := true, apart := false }
def MonoidTimesSaid : Prop := monoidTimesRow.holds Try.pinned (OpenSpec.ofChange monoidTimesSpec)

/-- ITS FALSE NEIGHBOUR: 'it returns false'. Refute it at one input. -/
def monoidTimesWrong : ChangeSpec := { name := "monoidTimes", fn := fun _ => fun
  | [d1, d2, d3] => { results := [.lit (.bool false)], args := [d1, d2, d3] }
  | _ => none }
def MonoidTimesWrongFalsely : Prop := monoidTimesRow.holds Try.pinned (OpenSpec.ofChange monoidTimesWrong)

/-- 'palmettelaw20.MonoidLargeTimes': WHATEVER THE INPUT: true; the input reads as it did. -/
def monoidLargeTimesSpec : ChangeSpec := { name := "monoidLargeTimes", fn := fun _ => fun
  | [d1, d2, d3] => { results := [.lit (.bool true)], args := [d1, d2, d3] }
  | _ => none }
def monoidLargeTimesRow : OpenClaim := { program := "ytfpmimfglikklaa", sum := "214067511531b3f7038b891f9ad503c43fca9d5f64ecd620383dbaee81fa5d0c", func := "palmette/palmettelaw20.MonoidLargeTimes", spec := "monoidLargeTimes", unfollowed := true, recurses := true, apart := false }
def MonoidLargeTimesSaid : Prop := monoidLargeTimesRow.holds Try.pinned (OpenSpec.ofChange monoidLargeTimesSpec)

/-- ITS FALSE NEIGHBOUR: 'it returns false'. Refute it at one input. -/
def monoidLargeTimesWrong : ChangeSpec := { name := "monoidLargeTimes", fn := fun _ => fun
  | [d1, d2, d3] => { results := [.lit (.bool false)], args := [d1, d2, d3] }
  | _ => none }
def MonoidLargeTimesWrongFalsely : Prop := monoidLargeTimesRow.holds Try.pinned (OpenSpec.ofChange monoidLargeTimesWrong)

/-- 'palmettelaw20.MonoidFates': WHATEVER THE INPUT: true; the input reads as it did. -/
def monoidFatesSpec : ChangeSpec := { name := "monoidFates", fn := fun _ => fun
  | [d1, d2] => { results := [.lit (.bool true)], args := [d1, d2] }
  | _ => none }
def monoidFatesRow : OpenClaim := { program := "ytfpmimfglikklaa", sum := "214067511531b3f7038b891f9ad503c43fca9d5f64ecd620383dbaee81fa5d0c", func := "palmette/palmettelaw20.MonoidFates", spec := "monoidFates", unfollowed := true, recurses := true, apart := false }
def MonoidFatesSaid : Prop := monoidFatesRow.holds Try.pinned (OpenSpec.ofChange monoidFatesSpec)

/-- ITS FALSE NEIGHBOUR: 'it returns false'. Refute it at one input. -/
def monoidFatesWrong : ChangeSpec := { name := "monoidFates", fn := fun _ => fun
  | [d1, d2] => { results := [.lit (.bool false)], args := [d1, d2] }
  | _ => none }
def MonoidFatesWrongFalsely : Prop := monoidFatesRow.holds Try.pinned (OpenSpec.ofChange monoidFatesWrong)

/-- 'palmettelaw20.MonoidAbsorbing': WHATEVER THE INPUT: true; the input reads as it did. -/
def monoidAbsorbingSpec : ChangeSpec := { name := "monoidAbsorbing", fn := fun _ => fun
  | [d1, d2, d3] => { results := [.lit (.bool true)], args := [d1, d2, d3] }
  | _ => none }
def monoidAbsorbingRow : OpenClaim := { program := "ytfpmimfglikklaa", sum := "214067511531b3f7038b891f9ad503c43fca9d5f64ecd620383dbaee81fa5d0c", func := "palmette/palmettelaw20.MonoidAbsorbing", spec := "monoidAbsorbing", unfollowed := true, recurses := true, apart := false }
def MonoidAbsorbingSaid : Prop := monoidAbsorbingRow.holds Try.pinned (OpenSpec.ofChange monoidAbsorbingSpec)

/-- ITS FALSE NEIGHBOUR: 'it returns false'. Refute it at one input. -/
def monoidAbsorbingWrong : ChangeSpec := { name := "monoidAbsorbing", fn := fun _ => fun
  | [d1, d2, d3] => { results := [.lit (.bool false)], args := [d1, d2, d3] }
  | _ => none }
def MonoidAbsorbingWrongFalsely : Prop := monoidAbsorbingRow.holds Try.pinned (OpenSpec.ofChange monoidAbsorbingWrong)

/- THE SECOND FORM. 'bulk': how many values and letters a reading holds, each counted each time it is reached (what is shared counts as often as it is met; a slice's spare places count too). A statement '..UptoSaid' is the law's where the arguments, and the package variables that the reading takes, are together of bulk at most 1048576: NARROWER than '..Said'. Prove '..Said' where nothing that the law and all that it calls make is longer than what came in: it says more and counts as full. Else prove '..UptoSaid'. A law counts once. -/
mutual
def uptoBulk {H : Type} : DataW H → Nat
  | .lit (.string bytes) => bytes.length + 1
  | .lit _ => 1
  | .nil => 1
  | .ptr d => uptoBulk d + 1
  | .slice elems spare => uptoBulkAll elems + uptoBulkAll spare + 1
  | .agg parts => uptoBulkAll parts + 1
  | .iface _ d => uptoBulk d + 1
  | .map entries => uptoBulkEntries entries + 1
  | .held _ => 1
def uptoBulkAll {H : Type} : List (DataW H) → Nat
  | [] => 0
  | d :: r => uptoBulk d + uptoBulkAll r
def uptoBulkEntries {H : Type} : List (Lit × DataW H) → Nat
  | [] => 0
  | x :: r => uptoBulkEntry x + uptoBulkEntries r
def uptoBulkEntry {H : Type} : Lit × DataW H → Nat
  | (.string bytes, d) => bytes.length + uptoBulk d + 1
  | (_, d) => uptoBulk d + 1
 end
def uptoSmall : (H : Type) → List (DataW H) → Bool := fun _ ds => decide (uptoBulkAll ds ≤ 1048576)
def OpenSpec.upto (s : _root_.Go.ChangeSpec) : _root_.Go.OpenSpec := { _root_.Go.OpenSpec.ofChange s with cond := some uptoSmall }

/-- 'palmettelaw20.MonoidValues', WHERE WHAT IT READS IS OF BULK AT MOST 1048576: true; the input reads as it did. -/
def monoidValuesUptoRow : OpenClaim := { program := "ytfpmimfglikklaa", sum := "214067511531b3f7038b891f9ad503c43fca9d5f64ecd620383dbaee81fa5d0c", func := "palmette/palmettelaw20.MonoidValues", spec := "monoidValues", unfollowed := true, recurses := true, apart := false, narrowed := true }
def MonoidValuesUptoSaid : Prop := monoidValuesUptoRow.holds Try.pinned (OpenSpec.upto monoidValuesSpec)

/-- 'palmettelaw20.MonoidCounts', WHERE WHAT IT READS IS OF BULK AT MOST 1048576: true; the input reads as it did. -/
def monoidCountsUptoRow : OpenClaim := { program := "ytfpmimfglikklaa", sum := "214067511531b3f7038b891f9ad503c43fca9d5f64ecd620383dbaee81fa5d0c", func := "palmette/palmettelaw20.MonoidCounts", spec := "monoidCounts", unfollowed := true, recurses := true, apart := false, narrowed := true }
def MonoidCountsUptoSaid : Prop := monoidCountsUptoRow.holds Try.pinned (OpenSpec.upto monoidCountsSpec)

/-- 'palmettelaw20.MonoidLaws', WHERE WHAT IT READS IS OF BULK AT MOST 1048576: true; the input reads as it did. -/
def monoidLawsUptoRow : OpenClaim := { program := "ytfpmimfglikklaa", sum := "214067511531b3f7038b891f9ad503c43fca9d5f64ecd620383dbaee81fa5d0c", func := "palmette/palmettelaw20.MonoidLaws", spec := "monoidLaws", unfollowed := true, recurses := true, apart := false, narrowed := true }
def MonoidLawsUptoSaid : Prop := monoidLawsUptoRow.holds Try.pinned (OpenSpec.upto monoidLawsSpec)

/-- 'palmettelaw20.MonoidTimes', WHERE WHAT IT READS IS OF BULK AT MOST 1048576: true; the input reads as it did. -/
def monoidTimesUptoRow : OpenClaim := { program := "ytfpmimfglikklaa", sum := "214067511531b3f7038b891f9ad503c43fca9d5f64ecd620383dbaee81fa5d0c", func := "palmette/palmettelaw20.MonoidTimes", spec := "monoidTimes", unfollowed := true, recurses := true, apart := false, narrowed := true }
def MonoidTimesUptoSaid : Prop := monoidTimesUptoRow.holds Try.pinned (OpenSpec.upto monoidTimesSpec)

/-- 'palmettelaw20.MonoidLargeTimes', WHERE WHAT IT READS IS OF BULK AT MOST 1048576: true; the input reads as it did. -/
def monoidLargeTimesUptoRow : OpenClaim := { program := "ytfpmimfglikklaa", sum := "214067511531b3f7038b891f9ad503c43fca9d5f64ecd620383dbaee81fa5d0c", func := "palmette/palmettelaw20.MonoidLargeTimes", spec := "monoidLargeTimes", unfollowed := true, recurses := true, apart := false, narrowed := true }
def MonoidLargeTimesUptoSaid : Prop := monoidLargeTimesUptoRow.holds Try.pinned (OpenSpec.upto monoidLargeTimesSpec)

/-- 'palmettelaw20.MonoidFates', WHERE WHAT IT READS IS OF BULK AT MOST 1048576: true; the input reads as it did. -/
def monoidFatesUptoRow : OpenClaim := { program := "ytfpmimfglikklaa", sum := "214067511531b3f7038b891f9ad503c43fca9d5f64ecd620383dbaee81fa5d0c", func := "palmette/palmettelaw20.MonoidFates", spec := "monoidFates", unfollowed := true, recurses := true, apart := false, narrowed := true }
def MonoidFatesUptoSaid : Prop := monoidFatesUptoRow.holds Try.pinned (OpenSpec.upto monoidFatesSpec)

/-- 'palmettelaw20.MonoidAbsorbing', WHERE WHAT IT READS IS OF BULK AT MOST 1048576: true; the input reads as it did. -/
def monoidAbsorbingUptoRow : OpenClaim := { program := "ytfpmimfglikklaa", sum := "214067511531b3f7038b891f9ad503c43fca9d5f64ecd620383dbaee81fa5d0c", func := "palmette/palmettelaw20.MonoidAbsorbing", spec := "monoidAbsorbing", unfollowed := true, recurses := true, apart := false, narrowed := true }
def MonoidAbsorbingUptoSaid : Prop := monoidAbsorbingUptoRow.holds Try.pinned (OpenSpec.upto monoidAbsorbingSpec)

end Rows
end Go.Proofs.Ytfpmimfglikklaa
