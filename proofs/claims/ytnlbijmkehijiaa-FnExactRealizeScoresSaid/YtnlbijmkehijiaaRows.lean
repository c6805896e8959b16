/-
  No cell of these rows narrows 'for every input' (looked for: loops, veiled, ifaces, maps, wideKeys, modest, calm, conditions, laid).
  DERIVED. THE GIVEN ROWS OF THIS SEAT. 9 by the template 'for every input the law returns true; each argument reads behind the call as it read before'; 0 by the template 'total and deterministic' (their statements: YtnlbijmkehijiaaTotals.lean).
  GIVEN WITH THE SEED: the statements are not yours to turn. If you find one false, say at which input.
  Laid BY PROGRAM, IN A SANDBOX (cutbox-rows.mjs): the forced cells as the released guide's own fill.sh prints them over the translation 678a2fc0e7935647… (all of the seat's roots in one cut). By AI agents, Wed Nov 11 2026. No macro, syntax, notation, axiom, sorry.
-/
import Derived.Test.YtnlbijmkehijiaaChecked
import GoSem.Claim
import GoSem.ClaimJoined
import GoSem.ClaimMapViews
import Derived.JoinedTies
import Derived.KernelRfl
namespace Go.Proofs.Ytnlbijmkehijiaa
/- THE CELL 'sum', in the pinned program and in every row, IS THE sha256 OF THE DUMP (.gsa) THAT YtnlbijmkehijiaaProg.lean LOADS. Nothing in Lean hashes anything: it is a label: what it is worth is what the hold of that sum in a sandbox is worth. -/
noncomputable def Try.pinned : Pinned := { name := "ytnlbijmkehijiaa", sum := "678a2fc0e793564760613ef5fe38fa4e25bf713bf1db94c61a28712aae935bbd", checked := Try.checked }
namespace Rows
def none {H : Type} : Left H := { results := [], args := [] }

/-- 'laws.FnExactSequenceOf': WHATEVER THE INPUT: true; the input reads as it did. -/
def fnExactSequenceOfSpec : ChangeSpec := { name := "fnExactSequenceOf", fn := fun _ => fun
  | [d] => { results := [.lit (.bool true)], args := [d] }
  | _ => none }
def fnExactSequenceOfRow : OpenClaim := { program := "ytnlbijmkehijiaa", sum := "678a2fc0e793564760613ef5fe38fa4e25bf713bf1db94c61a28712aae935bbd", func := "loop.example/g03205/laws.FnExactSequenceOf", spec := "fnExactSequenceOf", recurses := true, apart := false }
def FnExactSequenceOfSaid : Prop := fnExactSequenceOfRow.holds Try.pinned (OpenSpec.ofChange fnExactSequenceOfSpec)

/-- ITS FALSE NEIGHBOUR: 'it returns false'. Refute it at one input. -/
def fnExactSequenceOfWrong : ChangeSpec := { name := "fnExactSequenceOf", fn := fun _ => fun
  | [d] => { results := [.lit (.bool false)], args := [d] }
  | _ => none }
def FnExactSequenceOfWrongFalsely : Prop := fnExactSequenceOfRow.holds Try.pinned (OpenSpec.ofChange fnExactSequenceOfWrong)

/-- 'laws.FnExactIsLandau': WHATEVER THE INPUT: true; the input reads as it did. -/
def fnExactIsLandauSpec : ChangeSpec := { name := "fnExactIsLandau", fn := fun _ => fun
  | [d] => { results := [.lit (.bool true)], args := [d] }
  | _ => none }
def fnExactIsLandauRow : OpenClaim := { program := "ytnlbijmkehijiaa", sum := "678a2fc0e793564760613ef5fe38fa4e25bf713bf1db94c61a28712aae935bbd", func := "loop.example/g03205/laws.FnExactIsLandau", spec := "fnExactIsLandau", apart := false }
def FnExactIsLandauSaid : Prop := fnExactIsLandauRow.holds Try.pinned (OpenSpec.ofChange fnExactIsLandauSpec)

/-- ITS FALSE NEIGHBOUR: 'it returns false'. Refute it at one input. -/
def fnExactIsLandauWrong : ChangeSpec := { name := "fnExactIsLandau", fn := fun _ => fun
  | [d] => { results := [.lit (.bool false)], args := [d] }
  | _ => none }
def FnExactIsLandauWrongFalsely : Prop := fnExactIsLandauRow.holds Try.pinned (OpenSpec.ofChange fnExactIsLandauWrong)

/-- 'laws.FnExactRealizeScores': WHATEVER THE INPUT: true; the input reads as it did. -/
def fnExactRealizeScoresSpec : ChangeSpec := { name := "fnExactRealizeScores", fn := fun _ => fun
  | [d] => { results := [.lit (.bool true)], args := [d] }
  | _ => none }
def fnExactRealizeScoresRow : OpenClaim := { program := "ytnlbijmkehijiaa", sum := "678a2fc0e793564760613ef5fe38fa4e25bf713bf1db94c61a28712aae935bbd", func := "loop.example/g03205/laws.FnExactRealizeScores", spec := "fnExactRealizeScores", unfollowed := true, recurses := true, apart := false }
def FnExactRealizeScoresSaid : Prop := fnExactRealizeScoresRow.holds Try.pinned (OpenSpec.ofChange fnExactRealizeScoresSpec)

/-- ITS FALSE NEIGHBOUR: 'it returns false'. Refute it at one input. -/
def fnExactRealizeScoresWrong : ChangeSpec := { name := "fnExactRealizeScores", fn := fun _ => fun
  | [d] => { results := [.lit (.bool false)], args := [d] }
  | _ => none }
def FnExactRealizeScoresWrongFalsely : Prop := fnExactRealizeScoresRow.holds Try.pinned (OpenSpec.ofChange fnExactRealizeScoresWrong)

/-- 'laws.FnExactSlackOf': WHATEVER THE INPUT: true; the input reads as it did. -/
def fnExactSlackOfSpec : ChangeSpec := { name := "fnExactSlackOf", fn := fun _ => fun
  | [d] => { results := [.lit (.bool true)], args := [d] }
  | _ => none }
def fnExactSlackOfRow : OpenClaim := { program := "ytnlbijmkehijiaa", sum := "678a2fc0e793564760613ef5fe38fa4e25bf713bf1db94c61a28712aae935bbd", func := "loop.example/g03205/laws.FnExactSlackOf", spec := "fnExactSlackOf", apart := false }
def FnExactSlackOfSaid : Prop := fnExactSlackOfRow.holds Try.pinned (OpenSpec.ofChange fnExactSlackOfSpec)

/-- ITS FALSE NEIGHBOUR: 'it returns false'. Refute it at one input. -/
def fnExactSlackOfWrong : ChangeSpec := { name := "fnExactSlackOf", fn := fun _ => fun
  | [d] => { results := [.lit (.bool false)], args := [d] }
  | _ => none }
def FnExactSlackOfWrongFalsely : Prop := fnExactSlackOfRow.holds Try.pinned (OpenSpec.ofChange fnExactSlackOfWrong)

/-- 'laws.FnExactCountTriangles': WHATEVER THE INPUT: true; the input reads as it did. -/
def fnExactCountTrianglesSpec : ChangeSpec := { name := "fnExactCountTriangles", fn := fun _ => fun
  | [d] => { results := [.lit (.bool true)], args := [d] }
  | _ => none }
def fnExactCountTrianglesRow : OpenClaim := { program := "ytnlbijmkehijiaa", sum := "678a2fc0e793564760613ef5fe38fa4e25bf713bf1db94c61a28712aae935bbd", func := "loop.example/g03205/laws.FnExactCountTriangles", spec := "fnExactCountTriangles", apart := false }
def FnExactCountTrianglesSaid : Prop := fnExactCountTrianglesRow.holds Try.pinned (OpenSpec.ofChange fnExactCountTrianglesSpec)

/-- ITS FALSE NEIGHBOUR: 'it returns false'. Refute it at one input. -/
def fnExactCountTrianglesWrong : ChangeSpec := { name := "fnExactCountTriangles", fn := fun _ => fun
  | [d] => { results := [.lit (.bool false)], args := [d] }
  | _ => none }
def FnExactCountTrianglesWrongFalsely : Prop := fnExactCountTrianglesRow.holds Try.pinned (OpenSpec.ofChange fnExactCountTrianglesWrong)

/-- 'laws.FnExactMostTriangles': WHATEVER THE INPUT: true; the input reads as it did. -/
def fnExactMostTrianglesSpec : ChangeSpec := { name := "fnExactMostTriangles", fn := fun _ => fun
  | [d] => { results := [.lit (.bool true)], args := [d] }
  | _ => none }
def fnExactMostTrianglesRow : OpenClaim := { program := "ytnlbijmkehijiaa", sum := "678a2fc0e793564760613ef5fe38fa4e25bf713bf1db94c61a28712aae935bbd", func := "loop.example/g03205/laws.FnExactMostTriangles", spec := "fnExactMostTriangles", apart := false }
def FnExactMostTrianglesSaid : Prop := fnExactMostTrianglesRow.holds Try.pinned (OpenSpec.ofChange fnExactMostTrianglesSpec)

/-- ITS FALSE NEIGHBOUR: 'it returns false'. Refute it at one input. -/
def fnExactMostTrianglesWrong : ChangeSpec := { name := "fnExactMostTriangles", fn := fun _ => fun
  | [d] => { results := [.lit (.bool false)], args := [d] }
  | _ => none }
def FnExactMostTrianglesWrongFalsely : Prop := fnExactMostTrianglesRow.holds Try.pinned (OpenSpec.ofChange fnExactMostTrianglesWrong)

/-- 'laws.FnExactIsRegular': WHATEVER THE INPUT: true; the input reads as it did. -/
def fnExactIsRegularSpec : ChangeSpec := { name := "fnExactIsRegular", fn := fun _ => fun
  | [d] => { results := [.lit (.bool true)], args := [d] }
  | _ => none }
def fnExactIsRegularRow : OpenClaim := { program := "ytnlbijmkehijiaa", sum := "678a2fc0e793564760613ef5fe38fa4e25bf713bf1db94c61a28712aae935bbd", func := "loop.example/g03205/laws.FnExactIsRegular", spec := "fnExactIsRegular", apart := false }
def FnExactIsRegularSaid : Prop := fnExactIsRegularRow.holds Try.pinned (OpenSpec.ofChange fnExactIsRegularSpec)

/-- ITS FALSE NEIGHBOUR: 'it returns false'. Refute it at one input. -/
def fnExactIsRegularWrong : ChangeSpec := { name := "fnExactIsRegular", fn := fun _ => fun
  | [d] => { results := [.lit (.bool false)], args := [d] }
  | _ => none }
def FnExactIsRegularWrongFalsely : Prop := fnExactIsRegularRow.holds Try.pinned (OpenSpec.ofChange fnExactIsRegularWrong)

/-- 'laws.FnExactCountSequences': WHATEVER THE INPUT: true; the input reads as it did. -/
def fnExactCountSequencesSpec : ChangeSpec := { name := "fnExactCountSequences", fn := fun _ => fun
  | [d] => { results := [.lit (.bool true)], args := [d] }
  | _ => none }
def fnExactCountSequencesRow : OpenClaim := { program := "ytnlbijmkehijiaa", sum := "678a2fc0e793564760613ef5fe38fa4e25bf713bf1db94c61a28712aae935bbd", func := "loop.example/g03205/laws.FnExactCountSequences", spec := "fnExactCountSequences", recurses := true, apart := false }
def FnExactCountSequencesSaid : Prop := fnExactCountSequencesRow.holds Try.pinned (OpenSpec.ofChange fnExactCountSequencesSpec)

/-- ITS FALSE NEIGHBOUR: 'it returns false'. Refute it at one input. -/
def fnExactCountSequencesWrong : ChangeSpec := { name := "fnExactCountSequences", fn := fun _ => fun
  | [d] => { results := [.lit (.bool false)], args := [d] }
  | _ => none }
def FnExactCountSequencesWrongFalsely : Prop := fnExactCountSequencesRow.holds Try.pinned (OpenSpec.ofChange fnExactCountSequencesWrong)

/-- 'laws.FnExactSumOfSquares': WHATEVER THE INPUT: true; the input reads as it did. -/
def fnExactSumOfSquaresSpec : ChangeSpec := { name := "fnExactSumOfSquares", fn := fun _ => fun
  | [d] => { results := [.lit (.bool true)], args := [d] }
  | _ => none }
def fnExactSumOfSquaresRow : OpenClaim := { program := "ytnlbijmkehijiaa", sum := "678a2fc0e793564760613ef5fe38fa4e25bf713bf1db94c61a28712aae935bbd", func := "loop.example/g03205/laws.FnExactSumOfSquares", spec := "fnExactSumOfSquares", apart := false }
def FnExactSumOfSquaresSaid : Prop := fnExactSumOfSquaresRow.holds Try.pinned (OpenSpec.ofChange fnExactSumOfSquaresSpec)

/-- ITS FALSE NEIGHBOUR: 'it returns false'. Refute it at one input. -/
def fnExactSumOfSquaresWrong : ChangeSpec := { name := "fnExactSumOfSquares", fn := fun _ => fun
  | [d] => { results := [.lit (.bool false)], args := [d] }
  | _ => none }
def FnExactSumOfSquaresWrongFalsely : Prop := fnExactSumOfSquaresRow.holds Try.pinned (OpenSpec.ofChange fnExactSumOfSquaresWrong)

/- THE SECOND FORM. 'bulk': how many values and letters a reading holds, each counted each time it is reached (what is shared counts as often as it is met; a slice's spare places count too). A statement '..UptoSaid' is the law's where the arguments, and the package variables that the reading takes, are together of bulk at most 1048576: NARROWER than '..Said'. Prove '..Said' where nothing that the law and all that it calls make is longer than what came in: it says more and counts as full. Else prove '..UptoSaid'. A law counts once. -/
mutual
def uptoBulk {H : Type} : DataW H → Nat
  | .lit (.string bytes) => bytes.length + 1
  | .lit _ => 1
  | .nil => 1
  | .ptr d => uptoBulk d + 1
  | .slice elems spare => uptoBulkAll elems + uptoBulkAll spare + 1
  | .agg parts => uptoBulkAll parts + 1
  | .iface _ d => uptoBulk d + 1
  | .map entries => uptoBulkEntries entries + 1
  | .held _ => 1
def uptoBulkAll {H : Type} : List (DataW H) → Nat
  | [] => 0
  | d :: r => uptoBulk d + uptoBulkAll r
def uptoBulkEntries {H : Type} : List (Lit × DataW H) → Nat
  | [] => 0
  | x :: r => uptoBulkEntry x + uptoBulkEntries r
def uptoBulkEntry {H : Type} : Lit × DataW H → Nat
  | (.string bytes, d) => bytes.length + uptoBulk d + 1
  | (_, d) => uptoBulk d + 1
 end
def uptoSmall : (H : Type) → List (DataW H) → Bool := fun _ ds => decide (uptoBulkAll ds ≤ 1048576)
def OpenSpec.upto (s : _root_.Go.ChangeSpec) : _root_.Go.OpenSpec := { _root_.Go.OpenSpec.ofChange s with cond := some uptoSmall }

/-- 'laws.FnExactSequenceOf', WHERE WHAT IT READS IS OF BULK AT MOST 1048576: true; the input reads as it did. -/
def fnExactSequenceOfUptoRow : OpenClaim := { program := "ytnlbijmkehijiaa", sum := "678a2fc0e793564760613ef5fe38fa4e25bf713bf1db94c61a28712aae935bbd", func := "loop.example/g03205/laws.FnExactSequenceOf", spec := "fnExactSequenceOf", recurses := true, apart := false, narrowed := true }
def FnExactSequenceOfUptoSaid : Prop := fnExactSequenceOfUptoRow.holds Try.pinned (OpenSpec.upto fnExactSequenceOfSpec)

/-- 'laws.FnExactIsLandau', WHERE WHAT IT READS IS OF BULK AT MOST 1048576: true; the input reads as it did. -/
def fnExactIsLandauUptoRow : OpenClaim := { program := "ytnlbijmkehijiaa", sum := "678a2fc0e793564760613ef5fe38fa4e25bf713bf1db94c61a28712aae935bbd", func := "loop.example/g03205/laws.FnExactIsLandau", spec := "fnExactIsLandau", apart := false, narrowed := true }
def FnExactIsLandauUptoSaid : Prop := fnExactIsLandauUptoRow.holds Try.pinned (OpenSpec.upto fnExactIsLandauSpec)

/-- 'laws.FnExactRealizeScores', WHERE WHAT IT READS IS OF BULK AT MOST 1048576: true; the input reads as it did. -/
def fnExactRealizeScoresUptoRow : OpenClaim := { program := "ytnlbijmkehijiaa", sum := "678a2fc0e793564760613ef5fe38fa4e25bf713bf1db94c61a28712aae935bbd", func := "loop.example/g03205/laws.FnExactRealizeScores", spec := "fnExactRealizeScores", unfollowed := true, recurses := true, apart := false, narrowed := true }
def FnExactRealizeScoresUptoSaid : Prop := fnExactRealizeScoresUptoRow.holds Try.pinned (OpenSpec.upto fnExactRealizeScoresSpec)

/-- 'laws.FnExactSlackOf', WHERE WHAT IT READS IS OF BULK AT MOST 1048576: true; the input reads as it did. -/
def fnExactSlackOfUptoRow : OpenClaim := { program := "ytnlbijmkehijiaa", sum := "678a2fc0e793564760613ef5fe38fa4e25bf713bf1db94c61a28712aae935bbd", func := "loop.example/g03205/laws.FnExactSlackOf", spec := "fnExactSlackOf", apart := false, narrowed := true }
def FnExactSlackOfUptoSaid : Prop := fnExactSlackOfUptoRow.holds Try.pinned (OpenSpec.upto fnExactSlackOfSpec)

/-- 'laws.FnExactCountTriangles', WHERE WHAT IT READS IS OF BULK AT MOST 1048576: true; the input reads as it did. -/
def fnExactCountTrianglesUptoRow : OpenClaim := { program := "ytnlbijmkehijiaa", sum := "678a2fc0e793564760613ef5fe38fa4e25bf713bf1db94c61a28712aae935bbd", func := "loop.example/g03205/laws.FnExactCountTriangles", spec := "fnExactCountTriangles", apart := false, narrowed := true }
def FnExactCountTrianglesUptoSaid : Prop := fnExactCountTrianglesUptoRow.holds Try.pinned (OpenSpec.upto fnExactCountTrianglesSpec)

/-- 'laws.FnExactMostTriangles', WHERE WHAT IT READS IS OF BULK AT MOST 1048576: true; the input reads as it did. -/
def fnExactMostTrianglesUptoRow : OpenClaim := { program := "ytnlbijmkehijiaa", sum := "678a2fc0e793564760613ef5fe38fa4e25bf713bf1db94c61a28712aae935bbd", func := "loop.example/g03205/laws.FnExactMostTriangles", spec := "fnExactMostTriangles", apart := false, narrowed := true }
def FnExactMostTrianglesUptoSaid : Prop := fnExactMostTrianglesUptoRow.holds Try.pinned (OpenSpec.upto fnExactMostTrianglesSpec)

/-- 'laws.FnExactIsRegular', WHERE WHAT IT READS IS OF BULK AT MOST 1048576: true; the input reads as it did. -/
def fnExactIsRegularUptoRow : OpenClaim := { program := "ytnlbijmkehijiaa", sum := "678a2fc0e793564760613ef5fe38fa4e25bf713bf1db94c61a28712aae935bbd", func := "loop.example/g03205/laws.FnExactIsRegular", spec := "fnExactIsRegular", apart := false, narrowed := true }
def FnExactIsRegularUptoSaid : Prop := fnExactIsRegularUptoRow.holds Try.pinned (OpenSpec.upto fnExactIsRegularSpec)

/-- 'laws.FnExactCountSequences', WHERE WHAT IT READS IS OF BULK AT MOST 1048576: true; the input reads as it did. -/
def fnExactCountSequencesUptoRow : OpenClaim := { program := "ytnlbijmkehijiaa", sum := "678a2fc0e793564760613ef5fe38fa4e25bf713bf1db94c61a28712aae935bbd", func := "loop.example/g03205/laws.FnExactCountSequences", spec := "fnExactCountSequences", recurses := true, apart := false, narrowed := true }
def FnExactCountSequencesUptoSaid : Prop := fnExactCountSequencesUptoRow.holds Try.pinned (OpenSpec.upto fnExactCountSequencesSpec)

/-- 'laws.FnExactSumOfSquares', WHERE WHAT IT READS IS OF BULK AT MOST 1048576: true; the input reads as it did. -/
def fnExactSumOfSquaresUptoRow : OpenClaim := { program := "ytnlbijmkehijiaa", sum := "678a2fc0e793564760613ef5fe38fa4e25bf713bf1db94c61a28712aae935bbd", func := "loop.example/g03205/laws.FnExactSumOfSquares", spec := "fnExactSumOfSquares", apart := false, narrowed := true }
def FnExactSumOfSquaresUptoSaid : Prop := fnExactSumOfSquaresUptoRow.holds Try.pinned (OpenSpec.upto fnExactSumOfSquaresSpec)

end Rows
end Go.Proofs.Ytnlbijmkehijiaa
