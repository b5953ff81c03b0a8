/-
  NARROWER THAN 'FOR EVERY INPUT', by the rows' own cells (each row's printed sentence says how): SemiringBoolean: laid · SemiringNatural: laid · SemiringTropical: laid · SemiringLawful: laid · SemiringPair: laid · SemiringFolds: laid · SemiringHomomorphisms: laid · SemiringNil: laid.
  DERIVED. THE GIVEN ROWS OF THIS SEAT. 8 by the template 'for every input the law returns true; each argument reads behind the call as it read before'; 0 by the template 'total and deterministic' (their statements: YtkpdkkeblipfdaaDoorTotals.lean).
  GIVEN WITH THE SEED: the statements are not yours to turn. If you find one false, say at which input.
  Laid BY PROGRAM, IN A SANDBOX (cutbox-rows.mjs): the forced cells as the released guide's own fill.sh prints them over the translation 569029fa698c52cc… (all of the seat's roots in one cut). By AI agents, Wed Nov 11 2026. No macro, syntax, notation, axiom, sorry.
-/
import Derived.Test.YtkpdkkeblipfdaaDoorChecked
import GoSem.Claim
import GoSem.ClaimJoined
import GoSem.ClaimMapViews
import Derived.JoinedTies
import Derived.KernelRfl
namespace Go.Proofs.YtkpdkkeblipfdaaDoor
/- THE CELL 'sum', in the pinned program and in every row, IS THE sha256 OF THE DUMP (.gsa) THAT YtkpdkkeblipfdaaDoorProg.lean LOADS. Nothing in Lean hashes anything: it is a label: what it is worth is what the hold of that sum in a sandbox is worth. -/
noncomputable def Tryd.pinned : Pinned := { name := "ytkpdkkeblipfdaadoor", sum := "569029fa698c52cc6e4f6f6c955ad2cca2e0bccead3814758a270cdbcaedb7ae", checked := Tryd.checked }
namespace Rows
def none {H : Type} : Left H := { results := [], args := [] }

/- WHAT THE LISTED PACKAGE-LEVEL VARIABLES READ AS WHEN THE CALL BEGINS. Each datum BY PROGRAM (the guide's laid-datum.mjs) off the statement by which the dump's own 'gosem.cut.vars' lays the variable. In a bare row this is a premise. The card (YtkpdkkeblipfdaaDoorCards.lean) ties it to the program's text. -/
def laid_math_bits_deBruijn32tab {H : Type} : DataW H := .agg [.lit (.int .u8 0), .lit (.int .u8 1), .lit (.int .u8 28), .lit (.int .u8 2), .lit (.int .u8 29), .lit (.int .u8 14), .lit (.int .u8 24), .lit (.int .u8 3), .lit (.int .u8 30), .lit (.int .u8 22), .lit (.int .u8 20), .lit (.int .u8 15), .lit (.int .u8 25), .lit (.int .u8 17), .lit (.int .u8 4), .lit (.int .u8 8), .lit (.int .u8 31), .lit (.int .u8 27), .lit (.int .u8 13), .lit (.int .u8 23), .lit (.int .u8 21), .lit (.int .u8 19), .lit (.int .u8 16), .lit (.int .u8 7), .lit (.int .u8 26), .lit (.int .u8 12), .lit (.int .u8 18), .lit (.int .u8 6), .lit (.int .u8 11), .lit (.int .u8 5), .lit (.int .u8 10), .lit (.int .u8 9)]
def laid_math_bits_deBruijn64tab {H : Type} : DataW H := .agg [.lit (.int .u8 0), .lit (.int .u8 1), .lit (.int .u8 56), .lit (.int .u8 2), .lit (.int .u8 57), .lit (.int .u8 49), .lit (.int .u8 28), .lit (.int .u8 3), .lit (.int .u8 61), .lit (.int .u8 58), .lit (.int .u8 42), .lit (.int .u8 50), .lit (.int .u8 38), .lit (.int .u8 29), .lit (.int .u8 17), .lit (.int .u8 4), .lit (.int .u8 62), .lit (.int .u8 47), .lit (.int .u8 59), .lit (.int .u8 36), .lit (.int .u8 45), .lit (.int .u8 43), .lit (.int .u8 51), .lit (.int .u8 22), .lit (.int .u8 53), .lit (.int .u8 39), .lit (.int .u8 33), .lit (.int .u8 30), .lit (.int .u8 24), .lit (.int .u8 18), .lit (.int .u8 12), .lit (.int .u8 5), .lit (.int .u8 63), .lit (.int .u8 55), .lit (.int .u8 48), .lit (.int .u8 27), .lit (.int .u8 60), .lit (.int .u8 41), .lit (.int .u8 37), .lit (.int .u8 16), .lit (.int .u8 46), .lit (.int .u8 35), .lit (.int .u8 44), .lit (.int .u8 21), .lit (.int .u8 52), .lit (.int .u8 32), .lit (.int .u8 23), .lit (.int .u8 11), .lit (.int .u8 54), .lit (.int .u8 26), .lit (.int .u8 40), .lit (.int .u8 15), .lit (.int .u8 34), .lit (.int .u8 20), .lit (.int .u8 31), .lit (.int .u8 10), .lit (.int .u8 25), .lit (.int .u8 14), .lit (.int .u8 19), .lit (.int .u8 9), .lit (.int .u8 13), .lit (.int .u8 8), .lit (.int .u8 7), .lit (.int .u8 6)]
def laid_internal_strconv_uint64pow10 {H : Type} : DataW H := .agg [.lit (.int .u64 1), .lit (.int .u64 10), .lit (.int .u64 100), .lit (.int .u64 1000), .lit (.int .u64 10000), .lit (.int .u64 100000), .lit (.int .u64 1000000), .lit (.int .u64 10000000), .lit (.int .u64 100000000), .lit (.int .u64 1000000000), .lit (.int .u64 10000000000), .lit (.int .u64 100000000000), .lit (.int .u64 1000000000000), .lit (.int .u64 10000000000000), .lit (.int .u64 100000000000000), .lit (.int .u64 1000000000000000), .lit (.int .u64 10000000000000000), .lit (.int .u64 100000000000000000), .lit (.int .u64 1000000000000000000), .lit (.int .u64 10000000000000000000)]

/-- 'palmettelaw39.SemiringBoolean': WHATEVER THE INPUT: true; the input reads as it did. -/
def semiringBooleanSpec : ChangeSpec := { name := "semiringBoolean", fn := fun _ => fun
  | [d1, d2] => { results := [.lit (.bool true)], args := [d1, d2] }
  | _ => none }
def semiringBooleanRow : OpenClaim := { program := "ytkpdkkeblipfdaadoor", sum := "569029fa698c52cc6e4f6f6c955ad2cca2e0bccead3814758a270cdbcaedb7ae", func := "palmette/palmettelaw39.SemiringBoolean", spec := "semiringBoolean", unfollowed := true, recurses := true, named := ["math/bits.overflowError", "internal/strconv.uint64pow10", "math/bits.deBruijn32tab", "math/bits.deBruijn64tab"], apart := false, laid := [("math/bits.deBruijn32tab", laid_math_bits_deBruijn32tab), ("math/bits.deBruijn64tab", laid_math_bits_deBruijn64tab), ("internal/strconv.uint64pow10", laid_internal_strconv_uint64pow10)] }
def SemiringBooleanSaid : Prop := semiringBooleanRow.holds Tryd.pinned (OpenSpec.ofChange semiringBooleanSpec)

/-- ITS FALSE NEIGHBOUR: 'it returns false'. Refute it at one input. -/
def semiringBooleanWrong : ChangeSpec := { name := "semiringBoolean", fn := fun _ => fun
  | [d1, d2] => { results := [.lit (.bool false)], args := [d1, d2] }
  | _ => none }
def SemiringBooleanWrongFalsely : Prop := semiringBooleanRow.holds Tryd.pinned (OpenSpec.ofChange semiringBooleanWrong)

/-- 'palmettelaw39.SemiringNatural': WHATEVER THE INPUT: true; the input reads as it did. -/
def semiringNaturalSpec : ChangeSpec := { name := "semiringNatural", fn := fun _ => fun
  | [d1, d2] => { results := [.lit (.bool true)], args := [d1, d2] }
  | _ => none }
def semiringNaturalRow : OpenClaim := { program := "ytkpdkkeblipfdaadoor", sum := "569029fa698c52cc6e4f6f6c955ad2cca2e0bccead3814758a270cdbcaedb7ae", func := "palmette/palmettelaw39.SemiringNatural", spec := "semiringNatural", unfollowed := true, recurses := true, named := ["math/bits.overflowError", "internal/strconv.uint64pow10", "math/bits.deBruijn32tab", "math/bits.deBruijn64tab"], apart := false, laid := [("math/bits.deBruijn32tab", laid_math_bits_deBruijn32tab), ("math/bits.deBruijn64tab", laid_math_bits_deBruijn64tab), ("internal/strconv.uint64pow10", laid_internal_strconv_uint64pow10)] }
def SemiringNaturalSaid : Prop := semiringNaturalRow.holds Tryd.pinned (OpenSpec.ofChange semiringNaturalSpec)

/-- ITS FALSE NEIGHBOUR: 'it returns false'. Refute it at one input. -/
def semiringNaturalWrong : ChangeSpec := { name := "semiringNatural", fn := fun _ => fun
  | [d1, d2] => { results := [.lit (.bool false)], args := [d1, d2] }
  | _ => none }
def SemiringNaturalWrongFalsely : Prop := semiringNaturalRow.holds Tryd.pinned (OpenSpec.ofChange semiringNaturalWrong)

/-- 'palmettelaw39.SemiringTropical': WHATEVER THE INPUT: true; the input reads as it did. -/
def semiringTropicalSpec : ChangeSpec := { name := "semiringTropical", fn := fun _ => fun
  | [d1, d2] => { results := [.lit (.bool true)], args := [d1, d2] }
  | _ => none }
def semiringTropicalRow : OpenClaim := { program := "ytkpdkkeblipfdaadoor", sum := "569029fa698c52cc6e4f6f6c955ad2cca2e0bccead3814758a270cdbcaedb7ae", func := "palmette/palmettelaw39.SemiringTropical", spec := "semiringTropical", unfollowed := true, recurses := true, named := ["math/bits.overflowError", "internal/strconv.uint64pow10", "math/bits.deBruijn32tab", "math/bits.deBruijn64tab"], apart := false, laid := [("math/bits.deBruijn32tab", laid_math_bits_deBruijn32tab), ("math/bits.deBruijn64tab", laid_math_bits_deBruijn64tab), ("internal/strconv.uint64pow10", laid_internal_strconv_uint64pow10)] }
def SemiringTropicalSaid : Prop := semiringTropicalRow.holds Tryd.pinned (OpenSpec.ofChange semiringTropicalSpec)

/-- ITS FALSE NEIGHBOUR: 'it returns false'. Refute it at one input. -/
def semiringTropicalWrong : ChangeSpec := { name := "semiringTropical", fn := fun _ => fun
  | [d1, d2] => { results := [.lit (.bool false)], args := [d1, d2] }
  | _ => none }
def SemiringTropicalWrongFalsely : Prop := semiringTropicalRow.holds Tryd.pinned (OpenSpec.ofChange semiringTropicalWrong)

/-- 'palmettelaw39.SemiringLawful': WHATEVER THE INPUT: true; the input reads as it did. -/
def semiringLawfulSpec : ChangeSpec := { name := "semiringLawful", fn := fun _ => fun
  | [d] => { results := [.lit (.bool true)], args := [d] }
  | _ => none }
def semiringLawfulRow : OpenClaim := { program := "ytkpdkkeblipfdaadoor", sum := "569029fa698c52cc6e4f6f6c955ad2cca2e0bccead3814758a270cdbcaedb7ae", func := "palmette/palmettelaw39.SemiringLawful", spec := "semiringLawful", unfollowed := true, recurses := true, named := ["math/bits.overflowError", "internal/strconv.uint64pow10", "math/bits.deBruijn32tab", "math/bits.deBruijn64tab"], apart := false, laid := [("math/bits.deBruijn32tab", laid_math_bits_deBruijn32tab), ("math/bits.deBruijn64tab", laid_math_bits_deBruijn64tab), ("internal/strconv.uint64pow10", laid_internal_strconv_uint64pow10)] }
def SemiringLawfulSaid : Prop := semiringLawfulRow.holds Tryd.pinned (OpenSpec.ofChange semiringLawfulSpec)

/-- ITS FALSE NEIGHBOUR: 'it returns false'. Refute it at one input. -/
def semiringLawfulWrong : ChangeSpec := { name := "semiringLawful", fn := fun _ => fun
  | [d] => { results := [.lit (.bool false)], args := [d] }
  | _ => none }
def SemiringLawfulWrongFalsely : Prop := semiringLawfulRow.holds Tryd.pinned (OpenSpec.ofChange semiringLawfulWrong)

/-- 'palmettelaw39.SemiringPair': WHATEVER THE INPUT: true; the input reads as it did. -/
def semiringPairSpec : ChangeSpec := { name := "semiringPair", fn := fun _ => fun
  | [d] => { results := [.lit (.bool true)], args := [d] }
  | _ => none }
def semiringPairRow : OpenClaim := { program := "ytkpdkkeblipfdaadoor", sum := "569029fa698c52cc6e4f6f6c955ad2cca2e0bccead3814758a270cdbcaedb7ae", func := "palmette/palmettelaw39.SemiringPair", spec := "semiringPair", unfollowed := true, recurses := true, named := ["math/bits.overflowError", "internal/strconv.uint64pow10", "math/bits.deBruijn32tab", "math/bits.deBruijn64tab"], apart := false, laid := [("math/bits.deBruijn32tab", laid_math_bits_deBruijn32tab), ("math/bits.deBruijn64tab", laid_math_bits_deBruijn64tab), ("internal/strconv.uint64pow10", laid_internal_strconv_uint64pow10)] }
def SemiringPairSaid : Prop := semiringPairRow.holds Tryd.pinned (OpenSpec.ofChange semiringPairSpec)

/-- ITS FALSE NEIGHBOUR: 'it returns false'. Refute it at one input. -/
def semiringPairWrong : ChangeSpec := { name := "semiringPair", fn := fun _ => fun
  | [d] => { results := [.lit (.bool false)], args := [d] }
  | _ => none }
def SemiringPairWrongFalsely : Prop := semiringPairRow.holds Tryd.pinned (OpenSpec.ofChange semiringPairWrong)

/-- 'palmettelaw39.SemiringFolds': WHATEVER THE INPUT: true; the input reads as it did. -/
def semiringFoldsSpec : ChangeSpec := { name := "semiringFolds", fn := fun _ => fun
  | [d1, d2, d3] => { results := [.lit (.bool true)], args := [d1, d2, d3] }
  | _ => none }
def semiringFoldsRow : OpenClaim := { program := "ytkpdkkeblipfdaadoor", sum := "569029fa698c52cc6e4f6f6c955ad2cca2e0bccead3814758a270cdbcaedb7ae", func := "palmette/palmettelaw39.SemiringFolds", spec := "semiringFolds", unfollowed := true, recurses := true, named := ["math/bits.overflowError", "internal/strconv.uint64pow10", "math/bits.deBruijn32tab", "math/bits.deBruijn64tab"], apart := false, laid := [("math/bits.deBruijn32tab", laid_math_bits_deBruijn32tab), ("math/bits.deBruijn64tab", laid_math_bits_deBruijn64tab), ("internal/strconv.uint64pow10", laid_internal_strconv_uint64pow10)] }
def SemiringFoldsSaid : Prop := semiringFoldsRow.holds Tryd.pinned (OpenSpec.ofChange semiringFoldsSpec)

/-- ITS FALSE NEIGHBOUR: 'it returns false'. Refute it at one input. -/
def semiringFoldsWrong : ChangeSpec := { name := "semiringFolds", fn := fun _ => fun
  | [d1, d2, d3] => { results := [.lit (.bool false)], args := [d1, d2, d3] }
  | _ => none }
def SemiringFoldsWrongFalsely : Prop := semiringFoldsRow.holds Tryd.pinned (OpenSpec.ofChange semiringFoldsWrong)

/-- 'palmettelaw39.SemiringHomomorphisms': WHATEVER THE INPUT: true; the input reads as it did. -/
def semiringHomomorphismsSpec : ChangeSpec := { name := "semiringHomomorphisms", fn := fun _ => fun
  | [d1, d2, d3, d4] => { results := [.lit (.bool true)], args := [d1, d2, d3, d4] }
  | _ => none }
def semiringHomomorphismsRow : OpenClaim := { program := "ytkpdkkeblipfdaadoor", sum := "569029fa698c52cc6e4f6f6c955ad2cca2e0bccead3814758a270cdbcaedb7ae", func := "palmette/palmettelaw39.SemiringHomomorphisms", spec := "semiringHomomorphisms", unfollowed := true, recurses := true, named := ["math/bits.overflowError", "internal/strconv.uint64pow10", "math/bits.deBruijn32tab", "math/bits.deBruijn64tab"], apart := false, laid := [("math/bits.deBruijn32tab", laid_math_bits_deBruijn32tab), ("math/bits.deBruijn64tab", laid_math_bits_deBruijn64tab), ("internal/strconv.uint64pow10", laid_internal_strconv_uint64pow10)] }
def SemiringHomomorphismsSaid : Prop := semiringHomomorphismsRow.holds Tryd.pinned (OpenSpec.ofChange semiringHomomorphismsSpec)

/-- ITS FALSE NEIGHBOUR: 'it returns false'. Refute it at one input. -/
def semiringHomomorphismsWrong : ChangeSpec := { name := "semiringHomomorphisms", fn := fun _ => fun
  | [d1, d2, d3, d4] => { results := [.lit (.bool false)], args := [d1, d2, d3, d4] }
  | _ => none }
def SemiringHomomorphismsWrongFalsely : Prop := semiringHomomorphismsRow.holds Tryd.pinned (OpenSpec.ofChange semiringHomomorphismsWrong)

/-- 'palmettelaw39.SemiringNil': WHATEVER THE INPUT: true; the input reads as it did. -/
def semiringNilSpec : ChangeSpec := { name := "semiringNil", fn := fun _ => fun
  | [d1, d2, d3] => { results := [.lit (.bool true)], args := [d1, d2, d3] }
  | _ => none }
def semiringNilRow : OpenClaim := { program := "ytkpdkkeblipfdaadoor", sum := "569029fa698c52cc6e4f6f6c955ad2cca2e0bccead3814758a270cdbcaedb7ae", func := "palmette/palmettelaw39.SemiringNil", spec := "semiringNil", unfollowed := true, recurses := true, named := ["math/bits.overflowError", "internal/strconv.uint64pow10", "math/bits.deBruijn32tab", "math/bits.deBruijn64tab"], apart := false, laid := [("math/bits.deBruijn32tab", laid_math_bits_deBruijn32tab), ("math/bits.deBruijn64tab", laid_math_bits_deBruijn64tab), ("internal/strconv.uint64pow10", laid_internal_strconv_uint64pow10)] }
def SemiringNilSaid : Prop := semiringNilRow.holds Tryd.pinned (OpenSpec.ofChange semiringNilSpec)

/-- ITS FALSE NEIGHBOUR: 'it returns false'. Refute it at one input. -/
def semiringNilWrong : ChangeSpec := { name := "semiringNil", fn := fun _ => fun
  | [d1, d2, d3] => { results := [.lit (.bool false)], args := [d1, d2, d3] }
  | _ => none }
def SemiringNilWrongFalsely : Prop := semiringNilRow.holds Tryd.pinned (OpenSpec.ofChange semiringNilWrong)

/- THE SECOND FORM. 'bulk': how many values and letters a reading holds, each counted each time it is reached (what is shared counts as often as it is met; a slice's spare places count too). A statement '..UptoSaid' is the law's where the arguments, and the package variables that the reading takes, are together of bulk at most 1048576: NARROWER than '..Said'. Prove '..Said' where nothing that the law and all that it calls make is longer than what came in: it says more and counts as full. Else prove '..UptoSaid'. A law counts once. -/
mutual
def uptoBulk {H : Type} : DataW H → Nat
  | .lit (.string bytes) => bytes.length + 1
  | .lit _ => 1
  | .nil => 1
  | .ptr d => uptoBulk d + 1
  | .slice elems spare => uptoBulkAll elems + uptoBulkAll spare + 1
  | .agg parts => uptoBulkAll parts + 1
  | .iface _ d => uptoBulk d + 1
  | .map entries => uptoBulkEntries entries + 1
  | .held _ => 1
def uptoBulkAll {H : Type} : List (DataW H) → Nat
  | [] => 0
  | d :: r => uptoBulk d + uptoBulkAll r
def uptoBulkEntries {H : Type} : List (Lit × DataW H) → Nat
  | [] => 0
  | x :: r => uptoBulkEntry x + uptoBulkEntries r
def uptoBulkEntry {H : Type} : Lit × DataW H → Nat
  | (.string bytes, d) => bytes.length + uptoBulk d + 1
  | (_, d) => uptoBulk d + 1
 end
def uptoSmall : (H : Type) → List (DataW H) → Bool := fun _ ds => decide (uptoBulkAll ds ≤ 1048576)
def OpenSpec.upto (s : _root_.Go.ChangeSpec) : _root_.Go.OpenSpec := { _root_.Go.OpenSpec.ofChange s with cond := some uptoSmall }

/-- 'palmettelaw39.SemiringBoolean', WHERE WHAT IT READS IS OF BULK AT MOST 1048576: true; the input reads as it did. -/
def semiringBooleanUptoRow : OpenClaim := { program := "ytkpdkkeblipfdaadoor", sum := "569029fa698c52cc6e4f6f6c955ad2cca2e0bccead3814758a270cdbcaedb7ae", func := "palmette/palmettelaw39.SemiringBoolean", spec := "semiringBoolean", unfollowed := true, recurses := true, named := ["math/bits.overflowError", "internal/strconv.uint64pow10", "math/bits.deBruijn32tab", "math/bits.deBruijn64tab"], apart := false, laid := [("math/bits.deBruijn32tab", laid_math_bits_deBruijn32tab), ("math/bits.deBruijn64tab", laid_math_bits_deBruijn64tab), ("internal/strconv.uint64pow10", laid_internal_strconv_uint64pow10)], narrowed := true }
def SemiringBooleanUptoSaid : Prop := semiringBooleanUptoRow.holds Tryd.pinned (OpenSpec.upto semiringBooleanSpec)

/-- 'palmettelaw39.SemiringNatural', WHERE WHAT IT READS IS OF BULK AT MOST 1048576: true; the input reads as it did. -/
def semiringNaturalUptoRow : OpenClaim := { program := "ytkpdkkeblipfdaadoor", sum := "569029fa698c52cc6e4f6f6c955ad2cca2e0bccead3814758a270cdbcaedb7ae", func := "palmette/palmettelaw39.SemiringNatural", spec := "semiringNatural", unfollowed := true, recurses := true, named := ["math/bits.overflowError", "internal/strconv.uint64pow10", "math/bits.deBruijn32tab", "math/bits.deBruijn64tab"], apart := false, laid := [("math/bits.deBruijn32tab", laid_math_bits_deBruijn32tab), ("math/bits.deBruijn64tab", laid_math_bits_deBruijn64tab), ("internal/strconv.uint64pow10", laid_internal_strconv_uint64pow10)], narrowed := true }
def SemiringNaturalUptoSaid : Prop := semiringNaturalUptoRow.holds Tryd.pinned (OpenSpec.upto semiringNaturalSpec)

/-- 'palmettelaw39.SemiringTropical', WHERE WHAT IT READS IS OF BULK AT MOST 1048576: true; the input reads as it did. -/
def semiringTropicalUptoRow : OpenClaim := { program := "ytkpdkkeblipfdaadoor", sum := "569029fa698c52cc6e4f6f6c955ad2cca2e0bccead3814758a270cdbcaedb7ae", func := "palmette/palmettelaw39.SemiringTropical", spec := "semiringTropical", unfollowed := true, recurses := true, named := ["math/bits.overflowError", "internal/strconv.uint64pow10", "math/bits.deBruijn32tab", "math/bits.deBruijn64tab"], apart := false, laid := [("math/bits.deBruijn32tab", laid_math_bits_deBruijn32tab), ("math/bits.deBruijn64tab", laid_math_bits_deBruijn64tab), ("internal/strconv.uint64pow10", laid_internal_strconv_uint64pow10)], narrowed := true }
def SemiringTropicalUptoSaid : Prop := semiringTropicalUptoRow.holds Tryd.pinned (OpenSpec.upto semiringTropicalSpec)

/-- 'palmettelaw39.SemiringLawful', WHERE WHAT IT READS IS OF BULK AT MOST 1048576: true; the input reads as it did. -/
def semiringLawfulUptoRow : OpenClaim := { program := "ytkpdkkeblipfdaadoor", sum := "569029fa698c52cc6e4f6f6c955ad2cca2e0bccead3814758a270cdbcaedb7ae", func := "palmette/palmettelaw39.SemiringLawful", spec := "semiringLawful", unfollowed := true, recurses := true, named := ["math/bits.overflowError", "internal/strconv.uint64pow10", "math/bits.deBruijn32tab", "math/bits.deBruijn64tab"], apart := false, laid := [("math/bits.deBruijn32tab", laid_math_bits_deBruijn32tab), ("math/bits.deBruijn64tab", laid_math_bits_deBruijn64tab), ("internal/strconv.uint64pow10", laid_internal_strconv_uint64pow10)], narrowed := true }
def SemiringLawfulUptoSaid : Prop := semiringLawfulUptoRow.holds Tryd.pinned (OpenSpec.upto semiringLawfulSpec)

/-- 'palmettelaw39.SemiringPair', WHERE WHAT IT READS IS OF BULK AT MOST 1048576: true; the input reads as it did. -/
def semiringPairUptoRow : OpenClaim := { program := "ytkpdkkeblipfdaadoor", sum := "569029fa698c52cc6e4f6f6c955ad2cca2e0bccead3814758a270cdbcaedb7ae", func := "palmette/palmettelaw39.SemiringPair", spec := "semiringPair", unfollowed := true, recurses := true, named := ["math/bits.overflowError", "internal/strconv.uint64pow10", "math/bits.deBruijn32tab", "math/bits.deBruijn64tab"], apart := false, laid := [("math/bits.deBruijn32tab", laid_math_bits_deBruijn32tab), ("math/bits.deBruijn64tab", laid_math_bits_deBruijn64tab), ("internal/strconv.uint64pow10", laid_internal_strconv_uint64pow10)], narrowed := true }
def SemiringPairUptoSaid : Prop := semiringPairUptoRow.holds Tryd.pinned (OpenSpec.upto semiringPairSpec)

/-- 'palmettelaw39.SemiringFolds', WHERE WHAT IT READS IS OF BULK AT MOST 1048576: true; the input reads as it did. -/
def semiringFoldsUptoRow : OpenClaim := { program := "ytkpdkkeblipfdaadoor", sum := "569029fa698c52cc6e4f6f6c955ad2cca2e0bccead3814758a270cdbcaedb7ae", func := "palmette/palmettelaw39.SemiringFolds", spec := "semiringFolds", unfollowed := true, recurses := true, named := ["math/bits.overflowError", "internal/strconv.uint64pow10", "math/bits.deBruijn32tab", "math/bits.deBruijn64tab"], apart := false, laid := [("math/bits.deBruijn32tab", laid_math_bits_deBruijn32tab), ("math/bits.deBruijn64tab", laid_math_bits_deBruijn64tab), ("internal/strconv.uint64pow10", laid_internal_strconv_uint64pow10)], narrowed := true }
def SemiringFoldsUptoSaid : Prop := semiringFoldsUptoRow.holds Tryd.pinned (OpenSpec.upto semiringFoldsSpec)

/-- 'palmettelaw39.SemiringHomomorphisms', WHERE WHAT IT READS IS OF BULK AT MOST 1048576: true; the input reads as it did. -/
def semiringHomomorphismsUptoRow : OpenClaim := { program := "ytkpdkkeblipfdaadoor", sum := "569029fa698c52cc6e4f6f6c955ad2cca2e0bccead3814758a270cdbcaedb7ae", func := "palmette/palmettelaw39.SemiringHomomorphisms", spec := "semiringHomomorphisms", unfollowed := true, recurses := true, named := ["math/bits.overflowError", "internal/strconv.uint64pow10", "math/bits.deBruijn32tab", "math/bits.deBruijn64tab"], apart := false, laid := [("math/bits.deBruijn32tab", laid_math_bits_deBruijn32tab), ("math/bits.deBruijn64tab", laid_math_bits_deBruijn64tab), ("internal/strconv.uint64pow10", laid_internal_strconv_uint64pow10)], narrowed := true }
def SemiringHomomorphismsUptoSaid : Prop := semiringHomomorphismsUptoRow.holds Tryd.pinned (OpenSpec.upto semiringHomomorphismsSpec)

/-- 'palmettelaw39.SemiringNil', WHERE WHAT IT READS IS OF BULK AT MOST 1048576: true; the input reads as it did. -/
def semiringNilUptoRow : OpenClaim := { program := "ytkpdkkeblipfdaadoor", sum := "569029fa698c52cc6e4f6f6c955ad2cca2e0bccead3814758a270cdbcaedb7ae", func := "palmette/palmettelaw39.SemiringNil", spec := "semiringNil", unfollowed := true, recurses := true, named := ["math/bits.overflowError", "internal/strconv.uint64pow10", "math/bits.deBruijn32tab", "math/bits.deBruijn64tab"], apart := false, laid := [("math/bits.deBruijn32tab", laid_math_bits_deBruijn32tab), ("math/bits.deBruijn64tab", laid_math_bits_deBruijn64tab), ("internal/strconv.uint64pow10", laid_internal_strconv_uint64pow10)], narrowed := true }
def SemiringNilUptoSaid : Prop := semiringNilUptoRow.holds Tryd.pinned (OpenSpec.upto semiringNilSpec)

end Rows
end Go.Proofs.YtkpdkkeblipfdaaDoor
