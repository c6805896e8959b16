/-
  No cell of these rows narrows 'for every input' (looked for: loops, veiled, ifaces, maps, wideKeys, modest, calm, conditions, laid).
  DERIVED. THE GIVEN ROWS OF THIS SEAT. 10 by the template 'for every input the law returns true; each argument reads behind the call as it read before'; 0 by the template 'total and deterministic' (their statements: YtkomhfkkgffmoaaTotals.lean).
  GIVEN WITH THE SEED: the statements are not yours to turn. If you find one false, say at which input.
  Laid BY PROGRAM, IN A SANDBOX (cutbox-rows.mjs): the forced cells as the released guide's own fill.sh prints them over the translation 7f914e4d85f68bc3… (all of the seat's roots in one cut). By AI agents, Wed Nov 11 2026. No macro, syntax, notation, axiom, sorry.
-/
import Derived.Test.YtkomhfkkgffmoaaChecked
import GoSem.Claim
import GoSem.ClaimJoined
import GoSem.ClaimMapViews
import Derived.JoinedTies
import Derived.KernelRfl
namespace Go.Proofs.Ytkomhfkkgffmoaa
/- THE CELL 'sum', in the pinned program and in every row, IS THE sha256 OF THE DUMP (.gsa) THAT YtkomhfkkgffmoaaProg.lean LOADS. Nothing in Lean hashes anything: it is a label: what it is worth is what the hold of that sum in a sandbox is worth. -/
noncomputable def Try.pinned : Pinned := { name := "ytkomhfkkgffmoaa", sum := "7f914e4d85f68bc38b1b22cbcd1a1e73e880cd049be7281b3ea723c2613f3389", checked := Try.checked }
namespace Rows
def none {H : Type} : Left H := { results := [], args := [] }

/-- 'laws.FnExactTourOk': WHATEVER THE INPUT: true; the input reads as it did. -/
def fnExactTourOkSpec : ChangeSpec := { name := "fnExactTourOk", fn := fun _ => fun
  | [d] => { results := [.lit (.bool true)], args := [d] }
  | _ => none }
def fnExactTourOkRow : OpenClaim := { program := "ytkomhfkkgffmoaa", sum := "7f914e4d85f68bc38b1b22cbcd1a1e73e880cd049be7281b3ea723c2613f3389", func := "loop.example/g03205/laws.FnExactTourOk", spec := "fnExactTourOk", apart := false }
def FnExactTourOkSaid : Prop := fnExactTourOkRow.holds Try.pinned (OpenSpec.ofChange fnExactTourOkSpec)

/-- ITS FALSE NEIGHBOUR: 'it returns false'. Refute it at one input. -/
def fnExactTourOkWrong : ChangeSpec := { name := "fnExactTourOk", fn := fun _ => fun
  | [d] => { results := [.lit (.bool false)], args := [d] }
  | _ => none }
def FnExactTourOkWrongFalsely : Prop := fnExactTourOkRow.holds Try.pinned (OpenSpec.ofChange fnExactTourOkWrong)

/-- 'laws.FnExactDoesBeat': WHATEVER THE INPUT: true; the input reads as it did. -/
def fnExactDoesBeatSpec : ChangeSpec := { name := "fnExactDoesBeat", fn := fun _ => fun
  | [d1, d2, d3] => { results := [.lit (.bool true)], args := [d1, d2, d3] }
  | _ => none }
def fnExactDoesBeatRow : OpenClaim := { program := "ytkomhfkkgffmoaa", sum := "7f914e4d85f68bc38b1b22cbcd1a1e73e880cd049be7281b3ea723c2613f3389", func := "loop.example/g03205/laws.FnExactDoesBeat", spec := "fnExactDoesBeat", apart := false }
def FnExactDoesBeatSaid : Prop := fnExactDoesBeatRow.holds Try.pinned (OpenSpec.ofChange fnExactDoesBeatSpec)

/-- ITS FALSE NEIGHBOUR: 'it returns false'. Refute it at one input. -/
def fnExactDoesBeatWrong : ChangeSpec := { name := "fnExactDoesBeat", fn := fun _ => fun
  | [d1, d2, d3] => { results := [.lit (.bool false)], args := [d1, d2, d3] }
  | _ => none }
def FnExactDoesBeatWrongFalsely : Prop := fnExactDoesBeatRow.holds Try.pinned (OpenSpec.ofChange fnExactDoesBeatWrong)

/-- 'laws.FnExactScoreOf': WHATEVER THE INPUT: true; the input reads as it did. -/
def fnExactScoreOfSpec : ChangeSpec := { name := "fnExactScoreOf", fn := fun _ => fun
  | [d1, d2] => { results := [.lit (.bool true)], args := [d1, d2] }
  | _ => none }
def fnExactScoreOfRow : OpenClaim := { program := "ytkomhfkkgffmoaa", sum := "7f914e4d85f68bc38b1b22cbcd1a1e73e880cd049be7281b3ea723c2613f3389", func := "loop.example/g03205/laws.FnExactScoreOf", spec := "fnExactScoreOf", apart := false }
def FnExactScoreOfSaid : Prop := fnExactScoreOfRow.holds Try.pinned (OpenSpec.ofChange fnExactScoreOfSpec)

/-- ITS FALSE NEIGHBOUR: 'it returns false'. Refute it at one input. -/
def fnExactScoreOfWrong : ChangeSpec := { name := "fnExactScoreOf", fn := fun _ => fun
  | [d1, d2] => { results := [.lit (.bool false)], args := [d1, d2] }
  | _ => none }
def FnExactScoreOfWrongFalsely : Prop := fnExactScoreOfRow.holds Try.pinned (OpenSpec.ofChange fnExactScoreOfWrong)

/-- 'laws.FnExactScoresOf': WHATEVER THE INPUT: true; the input reads as it did. -/
def fnExactScoresOfSpec : ChangeSpec := { name := "fnExactScoresOf", fn := fun _ => fun
  | [d] => { results := [.lit (.bool true)], args := [d] }
  | _ => none }
def fnExactScoresOfRow : OpenClaim := { program := "ytkomhfkkgffmoaa", sum := "7f914e4d85f68bc38b1b22cbcd1a1e73e880cd049be7281b3ea723c2613f3389", func := "loop.example/g03205/laws.FnExactScoresOf", spec := "fnExactScoresOf", apart := false }
def FnExactScoresOfSaid : Prop := fnExactScoresOfRow.holds Try.pinned (OpenSpec.ofChange fnExactScoresOfSpec)

/-- ITS FALSE NEIGHBOUR: 'it returns false'. Refute it at one input. -/
def fnExactScoresOfWrong : ChangeSpec := { name := "fnExactScoresOf", fn := fun _ => fun
  | [d] => { results := [.lit (.bool false)], args := [d] }
  | _ => none }
def FnExactScoresOfWrongFalsely : Prop := fnExactScoresOfRow.holds Try.pinned (OpenSpec.ofChange fnExactScoresOfWrong)

/-- 'laws.FnExactTurnTour': WHATEVER THE INPUT: true; the input reads as it did. -/
def fnExactTurnTourSpec : ChangeSpec := { name := "fnExactTurnTour", fn := fun _ => fun
  | [d] => { results := [.lit (.bool true)], args := [d] }
  | _ => none }
def fnExactTurnTourRow : OpenClaim := { program := "ytkomhfkkgffmoaa", sum := "7f914e4d85f68bc38b1b22cbcd1a1e73e880cd049be7281b3ea723c2613f3389", func := "loop.example/g03205/laws.FnExactTurnTour", spec := "fnExactTurnTour", unfollowed := true, recurses := true, apart := false }
def FnExactTurnTourSaid : Prop := fnExactTurnTourRow.holds Try.pinned (OpenSpec.ofChange fnExactTurnTourSpec)

/-- ITS FALSE NEIGHBOUR: 'it returns false'. Refute it at one input. -/
def fnExactTurnTourWrong : ChangeSpec := { name := "fnExactTurnTour", fn := fun _ => fun
  | [d] => { results := [.lit (.bool false)], args := [d] }
  | _ => none }
def FnExactTurnTourWrongFalsely : Prop := fnExactTurnTourRow.holds Try.pinned (OpenSpec.ofChange fnExactTurnTourWrong)

/-- 'laws.FnExactRenameTour': WHATEVER THE INPUT: true; the input reads as it did. -/
def fnExactRenameTourSpec : ChangeSpec := { name := "fnExactRenameTour", fn := fun _ => fun
  | [d1, d2] => { results := [.lit (.bool true)], args := [d1, d2] }
  | _ => none }
def fnExactRenameTourRow : OpenClaim := { program := "ytkomhfkkgffmoaa", sum := "7f914e4d85f68bc38b1b22cbcd1a1e73e880cd049be7281b3ea723c2613f3389", func := "loop.example/g03205/laws.FnExactRenameTour", spec := "fnExactRenameTour", unfollowed := true, recurses := true, apart := false }
def FnExactRenameTourSaid : Prop := fnExactRenameTourRow.holds Try.pinned (OpenSpec.ofChange fnExactRenameTourSpec)

/-- ITS FALSE NEIGHBOUR: 'it returns false'. Refute it at one input. -/
def fnExactRenameTourWrong : ChangeSpec := { name := "fnExactRenameTour", fn := fun _ => fun
  | [d1, d2] => { results := [.lit (.bool false)], args := [d1, d2] }
  | _ => none }
def FnExactRenameTourWrongFalsely : Prop := fnExactRenameTourRow.holds Try.pinned (OpenSpec.ofChange fnExactRenameTourWrong)

/-- 'laws.FnExactFlipGame': WHATEVER THE INPUT: true; the input reads as it did. -/
def fnExactFlipGameSpec : ChangeSpec := { name := "fnExactFlipGame", fn := fun _ => fun
  | [d1, d2, d3] => { results := [.lit (.bool true)], args := [d1, d2, d3] }
  | _ => none }
def fnExactFlipGameRow : OpenClaim := { program := "ytkomhfkkgffmoaa", sum := "7f914e4d85f68bc38b1b22cbcd1a1e73e880cd049be7281b3ea723c2613f3389", func := "loop.example/g03205/laws.FnExactFlipGame", spec := "fnExactFlipGame", apart := false }
def FnExactFlipGameSaid : Prop := fnExactFlipGameRow.holds Try.pinned (OpenSpec.ofChange fnExactFlipGameSpec)

/-- ITS FALSE NEIGHBOUR: 'it returns false'. Refute it at one input. -/
def fnExactFlipGameWrong : ChangeSpec := { name := "fnExactFlipGame", fn := fun _ => fun
  | [d1, d2, d3] => { results := [.lit (.bool false)], args := [d1, d2, d3] }
  | _ => none }
def FnExactFlipGameWrongFalsely : Prop := fnExactFlipGameRow.holds Try.pinned (OpenSpec.ofChange fnExactFlipGameWrong)

/-- 'laws.FnExactPartTour': WHATEVER THE INPUT: true; the input reads as it did. -/
def fnExactPartTourSpec : ChangeSpec := { name := "fnExactPartTour", fn := fun _ => fun
  | [d1, d2] => { results := [.lit (.bool true)], args := [d1, d2] }
  | _ => none }
def fnExactPartTourRow : OpenClaim := { program := "ytkomhfkkgffmoaa", sum := "7f914e4d85f68bc38b1b22cbcd1a1e73e880cd049be7281b3ea723c2613f3389", func := "loop.example/g03205/laws.FnExactPartTour", spec := "fnExactPartTour", apart := false }
def FnExactPartTourSaid : Prop := fnExactPartTourRow.holds Try.pinned (OpenSpec.ofChange fnExactPartTourSpec)

/-- ITS FALSE NEIGHBOUR: 'it returns false'. Refute it at one input. -/
def fnExactPartTourWrong : ChangeSpec := { name := "fnExactPartTour", fn := fun _ => fun
  | [d1, d2] => { results := [.lit (.bool false)], args := [d1, d2] }
  | _ => none }
def FnExactPartTourWrongFalsely : Prop := fnExactPartTourRow.holds Try.pinned (OpenSpec.ofChange fnExactPartTourWrong)

/-- 'laws.FnExactCountDifferent': WHATEVER THE INPUT: true; the input reads as it did. -/
def fnExactCountDifferentSpec : ChangeSpec := { name := "fnExactCountDifferent", fn := fun _ => fun
  | [d1, d2] => { results := [.lit (.bool true)], args := [d1, d2] }
  | _ => none }
def fnExactCountDifferentRow : OpenClaim := { program := "ytkomhfkkgffmoaa", sum := "7f914e4d85f68bc38b1b22cbcd1a1e73e880cd049be7281b3ea723c2613f3389", func := "loop.example/g03205/laws.FnExactCountDifferent", spec := "fnExactCountDifferent", unfollowed := true, recurses := true, apart := false }
def FnExactCountDifferentSaid : Prop := fnExactCountDifferentRow.holds Try.pinned (OpenSpec.ofChange fnExactCountDifferentSpec)

/-- ITS FALSE NEIGHBOUR: 'it returns false'. Refute it at one input. -/
def fnExactCountDifferentWrong : ChangeSpec := { name := "fnExactCountDifferent", fn := fun _ => fun
  | [d1, d2] => { results := [.lit (.bool false)], args := [d1, d2] }
  | _ => none }
def FnExactCountDifferentWrongFalsely : Prop := fnExactCountDifferentRow.holds Try.pinned (OpenSpec.ofChange fnExactCountDifferentWrong)

/-- 'laws.FnExactSameTour': WHATEVER THE INPUT: true; the input reads as it did. -/
def fnExactSameTourSpec : ChangeSpec := { name := "fnExactSameTour", fn := fun _ => fun
  | [d1, d2] => { results := [.lit (.bool true)], args := [d1, d2] }
  | _ => none }
def fnExactSameTourRow : OpenClaim := { program := "ytkomhfkkgffmoaa", sum := "7f914e4d85f68bc38b1b22cbcd1a1e73e880cd049be7281b3ea723c2613f3389", func := "loop.example/g03205/laws.FnExactSameTour", spec := "fnExactSameTour", unfollowed := true, recurses := true, apart := false }
def FnExactSameTourSaid : Prop := fnExactSameTourRow.holds Try.pinned (OpenSpec.ofChange fnExactSameTourSpec)

/-- ITS FALSE NEIGHBOUR: 'it returns false'. Refute it at one input. -/
def fnExactSameTourWrong : ChangeSpec := { name := "fnExactSameTour", fn := fun _ => fun
  | [d1, d2] => { results := [.lit (.bool false)], args := [d1, d2] }
  | _ => none }
def FnExactSameTourWrongFalsely : Prop := fnExactSameTourRow.holds Try.pinned (OpenSpec.ofChange fnExactSameTourWrong)

/- THE SECOND FORM. 'bulk': how many values and letters a reading holds, each counted each time it is reached (what is shared counts as often as it is met; a slice's spare places count too). A statement '..UptoSaid' is the law's where the arguments, and the package variables that the reading takes, are together of bulk at most 1048576: NARROWER than '..Said'. Prove '..Said' where nothing that the law and all that it calls make is longer than what came in: it says more and counts as full. Else prove '..UptoSaid'. A law counts once. -/
mutual
def uptoBulk {H : Type} : DataW H → Nat
  | .lit (.string bytes) => bytes.length + 1
  | .lit _ => 1
  | .nil => 1
  | .ptr d => uptoBulk d + 1
  | .slice elems spare => uptoBulkAll elems + uptoBulkAll spare + 1
  | .agg parts => uptoBulkAll parts + 1
  | .iface _ d => uptoBulk d + 1
  | .map entries => uptoBulkEntries entries + 1
  | .held _ => 1
def uptoBulkAll {H : Type} : List (DataW H) → Nat
  | [] => 0
  | d :: r => uptoBulk d + uptoBulkAll r
def uptoBulkEntries {H : Type} : List (Lit × DataW H) → Nat
  | [] => 0
  | x :: r => uptoBulkEntry x + uptoBulkEntries r
def uptoBulkEntry {H : Type} : Lit × DataW H → Nat
  | (.string bytes, d) => bytes.length + uptoBulk d + 1
  | (_, d) => uptoBulk d + 1
 end
def uptoSmall : (H : Type) → List (DataW H) → Bool := fun _ ds => decide (uptoBulkAll ds ≤ 1048576)
def OpenSpec.upto (s : _root_.Go.ChangeSpec) : _root_.Go.OpenSpec := { _root_.Go.OpenSpec.ofChange s with cond := some uptoSmall }

/-- 'laws.FnExactTourOk', WHERE WHAT IT READS IS OF BULK AT MOST 1048576: true; the input reads as it did. -/
def fnExactTourOkUptoRow : OpenClaim := { program := "ytkomhfkkgffmoaa", sum := "7f914e4d85f68bc38b1b22cbcd1a1e73e880cd049be7281b3ea723c2613f3389", func := "loop.example/g03205/laws.FnExactTourOk", spec := "fnExactTourOk", apart := false, narrowed := true }
def FnExactTourOkUptoSaid : Prop := fnExactTourOkUptoRow.holds Try.pinned (OpenSpec.upto fnExactTourOkSpec)

/-- 'laws.FnExactDoesBeat', WHERE WHAT IT READS IS OF BULK AT MOST 1048576: true; the input reads as it did. -/
def fnExactDoesBeatUptoRow : OpenClaim := { program := "ytkomhfkkgffmoaa", sum := "7f914e4d85f68bc38b1b22cbcd1a1e73e880cd049be7281b3ea723c2613f3389", func := "loop.example/g03205/laws.FnExactDoesBeat", spec := "fnExactDoesBeat", apart := false, narrowed := true }
def FnExactDoesBeatUptoSaid : Prop := fnExactDoesBeatUptoRow.holds Try.pinned (OpenSpec.upto fnExactDoesBeatSpec)

/-- 'laws.FnExactScoreOf', WHERE WHAT IT READS IS OF BULK AT MOST 1048576: true; the input reads as it did. -/
def fnExactScoreOfUptoRow : OpenClaim := { program := "ytkomhfkkgffmoaa", sum := "7f914e4d85f68bc38b1b22cbcd1a1e73e880cd049be7281b3ea723c2613f3389", func := "loop.example/g03205/laws.FnExactScoreOf", spec := "fnExactScoreOf", apart := false, narrowed := true }
def FnExactScoreOfUptoSaid : Prop := fnExactScoreOfUptoRow.holds Try.pinned (OpenSpec.upto fnExactScoreOfSpec)

/-- 'laws.FnExactScoresOf', WHERE WHAT IT READS IS OF BULK AT MOST 1048576: true; the input reads as it did. -/
def fnExactScoresOfUptoRow : OpenClaim := { program := "ytkomhfkkgffmoaa", sum := "7f914e4d85f68bc38b1b22cbcd1a1e73e880cd049be7281b3ea723c2613f3389", func := "loop.example/g03205/laws.FnExactScoresOf", spec := "fnExactScoresOf", apart := false, narrowed := true }
def FnExactScoresOfUptoSaid : Prop := fnExactScoresOfUptoRow.holds Try.pinned (OpenSpec.upto fnExactScoresOfSpec)

/-- 'laws.FnExactTurnTour', WHERE WHAT IT READS IS OF BULK AT MOST 1048576: true; the input reads as it did. -/
def fnExactTurnTourUptoRow : OpenClaim := { program := "ytkomhfkkgffmoaa", sum := "7f914e4d85f68bc38b1b22cbcd1a1e73e880cd049be7281b3ea723c2613f3389", func := "loop.example/g03205/laws.FnExactTurnTour", spec := "fnExactTurnTour", unfollowed := true, recurses := true, apart := false, narrowed := true }
def FnExactTurnTourUptoSaid : Prop := fnExactTurnTourUptoRow.holds Try.pinned (OpenSpec.upto fnExactTurnTourSpec)

/-- 'laws.FnExactRenameTour', WHERE WHAT IT READS IS OF BULK AT MOST 1048576: true; the input reads as it did. -/
def fnExactRenameTourUptoRow : OpenClaim := { program := "ytkomhfkkgffmoaa", sum := "7f914e4d85f68bc38b1b22cbcd1a1e73e880cd049be7281b3ea723c2613f3389", func := "loop.example/g03205/laws.FnExactRenameTour", spec := "fnExactRenameTour", unfollowed := true, recurses := true, apart := false, narrowed := true }
def FnExactRenameTourUptoSaid : Prop := fnExactRenameTourUptoRow.holds Try.pinned (OpenSpec.upto fnExactRenameTourSpec)

/-- 'laws.FnExactFlipGame', WHERE WHAT IT READS IS OF BULK AT MOST 1048576: true; the input reads as it did. -/
def fnExactFlipGameUptoRow : OpenClaim := { program := "ytkomhfkkgffmoaa", sum := "7f914e4d85f68bc38b1b22cbcd1a1e73e880cd049be7281b3ea723c2613f3389", func := "loop.example/g03205/laws.FnExactFlipGame", spec := "fnExactFlipGame", apart := false, narrowed := true }
def FnExactFlipGameUptoSaid : Prop := fnExactFlipGameUptoRow.holds Try.pinned (OpenSpec.upto fnExactFlipGameSpec)

/-- 'laws.FnExactPartTour', WHERE WHAT IT READS IS OF BULK AT MOST 1048576: true; the input reads as it did. -/
def fnExactPartTourUptoRow : OpenClaim := { program := "ytkomhfkkgffmoaa", sum := "7f914e4d85f68bc38b1b22cbcd1a1e73e880cd049be7281b3ea723c2613f3389", func := "loop.example/g03205/laws.FnExactPartTour", spec := "fnExactPartTour", apart := false, narrowed := true }
def FnExactPartTourUptoSaid : Prop := fnExactPartTourUptoRow.holds Try.pinned (OpenSpec.upto fnExactPartTourSpec)

/-- 'laws.FnExactCountDifferent', WHERE WHAT IT READS IS OF BULK AT MOST 1048576: true; the input reads as it did. -/
def fnExactCountDifferentUptoRow : OpenClaim := { program := "ytkomhfkkgffmoaa", sum := "7f914e4d85f68bc38b1b22cbcd1a1e73e880cd049be7281b3ea723c2613f3389", func := "loop.example/g03205/laws.FnExactCountDifferent", spec := "fnExactCountDifferent", unfollowed := true, recurses := true, apart := false, narrowed := true }
def FnExactCountDifferentUptoSaid : Prop := fnExactCountDifferentUptoRow.holds Try.pinned (OpenSpec.upto fnExactCountDifferentSpec)

/-- 'laws.FnExactSameTour', WHERE WHAT IT READS IS OF BULK AT MOST 1048576: true; the input reads as it did. -/
def fnExactSameTourUptoRow : OpenClaim := { program := "ytkomhfkkgffmoaa", sum := "7f914e4d85f68bc38b1b22cbcd1a1e73e880cd049be7281b3ea723c2613f3389", func := "loop.example/g03205/laws.FnExactSameTour", spec := "fnExactSameTour", unfollowed := true, recurses := true, apart := false, narrowed := true }
def FnExactSameTourUptoSaid : Prop := fnExactSameTourUptoRow.holds Try.pinned (OpenSpec.upto fnExactSameTourSpec)

end Rows
end Go.Proofs.Ytkomhfkkgffmoaa
