/-
  No cell of these rows narrows 'for every input' (looked for: loops, veiled, ifaces, maps, wideKeys, modest, calm, conditions, laid).
  DERIVED. THE GIVEN ROWS OF THIS SEAT. 12 by the template 'for every input the law returns true; each argument reads behind the call as it read before'; 0 by the template 'total and deterministic' (their statements: YtgjogbihadiojaaTotals.lean).
  GIVEN WITH THE SEED: the statements are not yours to turn. If you find one false, say at which input.
  Laid BY PROGRAM, IN A SANDBOX (cutbox-rows.mjs): the forced cells as the released guide's own fill.sh prints them over the translation a3c92172b622c0e7… (all of the seat's roots in one cut). By AI agents, Wed Nov 11 2026. No macro, syntax, notation, axiom, sorry.
-/
import Derived.Test.YtgjogbihadiojaaChecked
import GoSem.Claim
import GoSem.ClaimJoined
import GoSem.ClaimMapViews
import Derived.JoinedTies
import Derived.KernelRfl
namespace Go.Proofs.Ytgjogbihadiojaa
/- THE CELL 'sum', in the pinned program and in every row, IS THE sha256 OF THE DUMP (.gsa) THAT YtgjogbihadiojaaProg.lean LOADS. Nothing in Lean hashes anything: it is a label: what it is worth is what the hold of that sum in a sandbox is worth. -/
noncomputable def Try.pinned : Pinned := { name := "ytgjogbihadiojaa", sum := "a3c92172b622c0e762fb0c1a92a20151a6c229cf1993997b1d133d3f0de097b4", checked := Try.checked }
namespace Rows
def none {H : Type} : Left H := { results := [], args := [] }

/-- 'laws.FnWays': WHATEVER THE INPUT: true; the input reads as it did. -/
def fnWaysSpec : ChangeSpec := { name := "fnWays", fn := fun _ => fun
  | [d] => { results := [.lit (.bool true)], args := [d] }
  | _ => none }
def fnWaysRow : OpenClaim := { program := "ytgjogbihadiojaa", sum := "a3c92172b622c0e762fb0c1a92a20151a6c229cf1993997b1d133d3f0de097b4", func := "loop.example/g03205/laws.FnWays", spec := "fnWays", unfollowed := true, recurses := true, apart := false }
def FnWaysSaid : Prop := fnWaysRow.holds Try.pinned (OpenSpec.ofChange fnWaysSpec)

/-- ITS FALSE NEIGHBOUR: 'it returns false'. Refute it at one input. -/
def fnWaysWrong : ChangeSpec := { name := "fnWays", fn := fun _ => fun
  | [d] => { results := [.lit (.bool false)], args := [d] }
  | _ => none }
def FnWaysWrongFalsely : Prop := fnWaysRow.holds Try.pinned (OpenSpec.ofChange fnWaysWrong)

/-- 'laws.FnKings': WHATEVER THE INPUT: true; the input reads as it did. -/
def fnKingsSpec : ChangeSpec := { name := "fnKings", fn := fun _ => fun
  | [d] => { results := [.lit (.bool true)], args := [d] }
  | _ => none }
def fnKingsRow : OpenClaim := { program := "ytgjogbihadiojaa", sum := "a3c92172b622c0e762fb0c1a92a20151a6c229cf1993997b1d133d3f0de097b4", func := "loop.example/g03205/laws.FnKings", spec := "fnKings", unfollowed := true, recurses := true, apart := false }
def FnKingsSaid : Prop := fnKingsRow.holds Try.pinned (OpenSpec.ofChange fnKingsSpec)

/-- ITS FALSE NEIGHBOUR: 'it returns false'. Refute it at one input. -/
def fnKingsWrong : ChangeSpec := { name := "fnKings", fn := fun _ => fun
  | [d] => { results := [.lit (.bool false)], args := [d] }
  | _ => none }
def FnKingsWrongFalsely : Prop := fnKingsRow.holds Try.pinned (OpenSpec.ofChange fnKingsWrong)

/-- 'laws.FnExactIsKing': WHATEVER THE INPUT: true; the input reads as it did. -/
def fnExactIsKingSpec : ChangeSpec := { name := "fnExactIsKing", fn := fun _ => fun
  | [d1, d2] => { results := [.lit (.bool true)], args := [d1, d2] }
  | _ => none }
def fnExactIsKingRow : OpenClaim := { program := "ytgjogbihadiojaa", sum := "a3c92172b622c0e762fb0c1a92a20151a6c229cf1993997b1d133d3f0de097b4", func := "loop.example/g03205/laws.FnExactIsKing", spec := "fnExactIsKing", apart := false }
def FnExactIsKingSaid : Prop := fnExactIsKingRow.holds Try.pinned (OpenSpec.ofChange fnExactIsKingSpec)

/-- ITS FALSE NEIGHBOUR: 'it returns false'. Refute it at one input. -/
def fnExactIsKingWrong : ChangeSpec := { name := "fnExactIsKing", fn := fun _ => fun
  | [d1, d2] => { results := [.lit (.bool false)], args := [d1, d2] }
  | _ => none }
def FnExactIsKingWrongFalsely : Prop := fnExactIsKingRow.holds Try.pinned (OpenSpec.ofChange fnExactIsKingWrong)

/-- 'laws.FnExactKingsOf': WHATEVER THE INPUT: true; the input reads as it did. -/
def fnExactKingsOfSpec : ChangeSpec := { name := "fnExactKingsOf", fn := fun _ => fun
  | [d] => { results := [.lit (.bool true)], args := [d] }
  | _ => none }
def fnExactKingsOfRow : OpenClaim := { program := "ytgjogbihadiojaa", sum := "a3c92172b622c0e762fb0c1a92a20151a6c229cf1993997b1d133d3f0de097b4", func := "loop.example/g03205/laws.FnExactKingsOf", spec := "fnExactKingsOf", apart := false }
def FnExactKingsOfSaid : Prop := fnExactKingsOfRow.holds Try.pinned (OpenSpec.ofChange fnExactKingsOfSpec)

/-- ITS FALSE NEIGHBOUR: 'it returns false'. Refute it at one input. -/
def fnExactKingsOfWrong : ChangeSpec := { name := "fnExactKingsOf", fn := fun _ => fun
  | [d] => { results := [.lit (.bool false)], args := [d] }
  | _ => none }
def FnExactKingsOfWrongFalsely : Prop := fnExactKingsOfRow.holds Try.pinned (OpenSpec.ofChange fnExactKingsOfWrong)

/-- 'laws.FnExactDoesCover': WHATEVER THE INPUT: true; the input reads as it did. -/
def fnExactDoesCoverSpec : ChangeSpec := { name := "fnExactDoesCover", fn := fun _ => fun
  | [d1, d2, d3] => { results := [.lit (.bool true)], args := [d1, d2, d3] }
  | _ => none }
def fnExactDoesCoverRow : OpenClaim := { program := "ytgjogbihadiojaa", sum := "a3c92172b622c0e762fb0c1a92a20151a6c229cf1993997b1d133d3f0de097b4", func := "loop.example/g03205/laws.FnExactDoesCover", spec := "fnExactDoesCover", apart := false }
def FnExactDoesCoverSaid : Prop := fnExactDoesCoverRow.holds Try.pinned (OpenSpec.ofChange fnExactDoesCoverSpec)

/-- ITS FALSE NEIGHBOUR: 'it returns false'. Refute it at one input. -/
def fnExactDoesCoverWrong : ChangeSpec := { name := "fnExactDoesCover", fn := fun _ => fun
  | [d1, d2, d3] => { results := [.lit (.bool false)], args := [d1, d2, d3] }
  | _ => none }
def FnExactDoesCoverWrongFalsely : Prop := fnExactDoesCoverRow.holds Try.pinned (OpenSpec.ofChange fnExactDoesCoverWrong)

/-- 'laws.FnExactIsDominating': WHATEVER THE INPUT: true; the input reads as it did. -/
def fnExactIsDominatingSpec : ChangeSpec := { name := "fnExactIsDominating", fn := fun _ => fun
  | [d1, d2] => { results := [.lit (.bool true)], args := [d1, d2] }
  | _ => none }
def fnExactIsDominatingRow : OpenClaim := { program := "ytgjogbihadiojaa", sum := "a3c92172b622c0e762fb0c1a92a20151a6c229cf1993997b1d133d3f0de097b4", func := "loop.example/g03205/laws.FnExactIsDominating", spec := "fnExactIsDominating", apart := false }
def FnExactIsDominatingSaid : Prop := fnExactIsDominatingRow.holds Try.pinned (OpenSpec.ofChange fnExactIsDominatingSpec)

/-- ITS FALSE NEIGHBOUR: 'it returns false'. Refute it at one input. -/
def fnExactIsDominatingWrong : ChangeSpec := { name := "fnExactIsDominating", fn := fun _ => fun
  | [d1, d2] => { results := [.lit (.bool false)], args := [d1, d2] }
  | _ => none }
def FnExactIsDominatingWrongFalsely : Prop := fnExactIsDominatingRow.holds Try.pinned (OpenSpec.ofChange fnExactIsDominatingWrong)

/-- 'laws.FnExactLeastDominating': WHATEVER THE INPUT: true; the input reads as it did. -/
def fnExactLeastDominatingSpec : ChangeSpec := { name := "fnExactLeastDominating", fn := fun _ => fun
  | [d] => { results := [.lit (.bool true)], args := [d] }
  | _ => none }
def fnExactLeastDominatingRow : OpenClaim := { program := "ytgjogbihadiojaa", sum := "a3c92172b622c0e762fb0c1a92a20151a6c229cf1993997b1d133d3f0de097b4", func := "loop.example/g03205/laws.FnExactLeastDominating", spec := "fnExactLeastDominating", apart := false }
def FnExactLeastDominatingSaid : Prop := fnExactLeastDominatingRow.holds Try.pinned (OpenSpec.ofChange fnExactLeastDominatingSpec)

/-- ITS FALSE NEIGHBOUR: 'it returns false'. Refute it at one input. -/
def fnExactLeastDominatingWrong : ChangeSpec := { name := "fnExactLeastDominating", fn := fun _ => fun
  | [d] => { results := [.lit (.bool false)], args := [d] }
  | _ => none }
def FnExactLeastDominatingWrongFalsely : Prop := fnExactLeastDominatingRow.holds Try.pinned (OpenSpec.ofChange fnExactLeastDominatingWrong)

/-- 'laws.FnExactBanksSet': WHATEVER THE INPUT: true; the input reads as it did. -/
def fnExactBanksSetSpec : ChangeSpec := { name := "fnExactBanksSet", fn := fun _ => fun
  | [d] => { results := [.lit (.bool true)], args := [d] }
  | _ => none }
def fnExactBanksSetRow : OpenClaim := { program := "ytgjogbihadiojaa", sum := "a3c92172b622c0e762fb0c1a92a20151a6c229cf1993997b1d133d3f0de097b4", func := "loop.example/g03205/laws.FnExactBanksSet", spec := "fnExactBanksSet", unfollowed := true, recurses := true, apart := false }
def FnExactBanksSetSaid : Prop := fnExactBanksSetRow.holds Try.pinned (OpenSpec.ofChange fnExactBanksSetSpec)

/-- ITS FALSE NEIGHBOUR: 'it returns false'. Refute it at one input. -/
def fnExactBanksSetWrong : ChangeSpec := { name := "fnExactBanksSet", fn := fun _ => fun
  | [d] => { results := [.lit (.bool false)], args := [d] }
  | _ => none }
def FnExactBanksSetWrongFalsely : Prop := fnExactBanksSetRow.holds Try.pinned (OpenSpec.ofChange fnExactBanksSetWrong)

/-- 'laws.FnExactSovereignOf': WHATEVER THE INPUT: true; the input reads as it did. -/
def fnExactSovereignOfSpec : ChangeSpec := { name := "fnExactSovereignOf", fn := fun _ => fun
  | [d] => { results := [.lit (.bool true)], args := [d] }
  | _ => none }
def fnExactSovereignOfRow : OpenClaim := { program := "ytgjogbihadiojaa", sum := "a3c92172b622c0e762fb0c1a92a20151a6c229cf1993997b1d133d3f0de097b4", func := "loop.example/g03205/laws.FnExactSovereignOf", spec := "fnExactSovereignOf", apart := false }
def FnExactSovereignOfSaid : Prop := fnExactSovereignOfRow.holds Try.pinned (OpenSpec.ofChange fnExactSovereignOfSpec)

/-- ITS FALSE NEIGHBOUR: 'it returns false'. Refute it at one input. -/
def fnExactSovereignOfWrong : ChangeSpec := { name := "fnExactSovereignOf", fn := fun _ => fun
  | [d] => { results := [.lit (.bool false)], args := [d] }
  | _ => none }
def FnExactSovereignOfWrongFalsely : Prop := fnExactSovereignOfRow.holds Try.pinned (OpenSpec.ofChange fnExactSovereignOfWrong)

/-- 'laws.FnExactKingStep': WHATEVER THE INPUT: true; the input reads as it did. -/
def fnExactKingStepSpec : ChangeSpec := { name := "fnExactKingStep", fn := fun _ => fun
  | [d1, d2] => { results := [.lit (.bool true)], args := [d1, d2] }
  | _ => none }
def fnExactKingStepRow : OpenClaim := { program := "ytgjogbihadiojaa", sum := "a3c92172b622c0e762fb0c1a92a20151a6c229cf1993997b1d133d3f0de097b4", func := "loop.example/g03205/laws.FnExactKingStep", spec := "fnExactKingStep", apart := false }
def FnExactKingStepSaid : Prop := fnExactKingStepRow.holds Try.pinned (OpenSpec.ofChange fnExactKingStepSpec)

/-- ITS FALSE NEIGHBOUR: 'it returns false'. Refute it at one input. -/
def fnExactKingStepWrong : ChangeSpec := { name := "fnExactKingStep", fn := fun _ => fun
  | [d1, d2] => { results := [.lit (.bool false)], args := [d1, d2] }
  | _ => none }
def FnExactKingStepWrongFalsely : Prop := fnExactKingStepRow.holds Try.pinned (OpenSpec.ofChange fnExactKingStepWrong)

/-- 'laws.FnExactClimbToKing': WHATEVER THE INPUT: true; the input reads as it did. -/
def fnExactClimbToKingSpec : ChangeSpec := { name := "fnExactClimbToKing", fn := fun _ => fun
  | [d1, d2] => { results := [.lit (.bool true)], args := [d1, d2] }
  | _ => none }
def fnExactClimbToKingRow : OpenClaim := { program := "ytgjogbihadiojaa", sum := "a3c92172b622c0e762fb0c1a92a20151a6c229cf1993997b1d133d3f0de097b4", func := "loop.example/g03205/laws.FnExactClimbToKing", spec := "fnExactClimbToKing", apart := false }
def FnExactClimbToKingSaid : Prop := fnExactClimbToKingRow.holds Try.pinned (OpenSpec.ofChange fnExactClimbToKingSpec)

/-- ITS FALSE NEIGHBOUR: 'it returns false'. Refute it at one input. -/
def fnExactClimbToKingWrong : ChangeSpec := { name := "fnExactClimbToKing", fn := fun _ => fun
  | [d1, d2] => { results := [.lit (.bool false)], args := [d1, d2] }
  | _ => none }
def FnExactClimbToKingWrongFalsely : Prop := fnExactClimbToKingRow.holds Try.pinned (OpenSpec.ofChange fnExactClimbToKingWrong)

/-- 'laws.FnExactCountKings': WHATEVER THE INPUT: true; the input reads as it did. -/
def fnExactCountKingsSpec : ChangeSpec := { name := "fnExactCountKings", fn := fun _ => fun
  | [d1, d2] => { results := [.lit (.bool true)], args := [d1, d2] }
  | _ => none }
def fnExactCountKingsRow : OpenClaim := { program := "ytgjogbihadiojaa", sum := "a3c92172b622c0e762fb0c1a92a20151a6c229cf1993997b1d133d3f0de097b4", func := "loop.example/g03205/laws.FnExactCountKings", spec := "fnExactCountKings", unfollowed := true, recurses := true, apart := false }
def FnExactCountKingsSaid : Prop := fnExactCountKingsRow.holds Try.pinned (OpenSpec.ofChange fnExactCountKingsSpec)

/-- ITS FALSE NEIGHBOUR: 'it returns false'. Refute it at one input. -/
def fnExactCountKingsWrong : ChangeSpec := { name := "fnExactCountKings", fn := fun _ => fun
  | [d1, d2] => { results := [.lit (.bool false)], args := [d1, d2] }
  | _ => none }
def FnExactCountKingsWrongFalsely : Prop := fnExactCountKingsRow.holds Try.pinned (OpenSpec.ofChange fnExactCountKingsWrong)

/- THE SECOND FORM. 'bulk': how many values and letters a reading holds, each counted each time it is reached (what is shared counts as often as it is met; a slice's spare places count too). A statement '..UptoSaid' is the law's where the arguments, and the package variables that the reading takes, are together of bulk at most 1048576: NARROWER than '..Said'. Prove '..Said' where nothing that the law and all that it calls make is longer than what came in: it says more and counts as full. Else prove '..UptoSaid'. A law counts once. -/
mutual
def uptoBulk {H : Type} : DataW H → Nat
  | .lit (.string bytes) => bytes.length + 1
  | .lit _ => 1
  | .nil => 1
  | .ptr d => uptoBulk d + 1
  | .slice elems spare => uptoBulkAll elems + uptoBulkAll spare + 1
  | .agg parts => uptoBulkAll parts + 1
  | .iface _ d => uptoBulk d + 1
  | .map entries => uptoBulkEntries entries + 1
  | .held _ => 1
def uptoBulkAll {H : Type} : List (DataW H) → Nat
  | [] => 0
  | d :: r => uptoBulk d + uptoBulkAll r
def uptoBulkEntries {H : Type} : List (Lit × DataW H) → Nat
  | [] => 0
  | x :: r => uptoBulkEntry x + uptoBulkEntries r
def uptoBulkEntry {H : Type} : Lit × DataW H → Nat
  | (.string bytes, d) => bytes.length + uptoBulk d + 1
  | (_, d) => uptoBulk d + 1
 end
def uptoSmall : (H : Type) → List (DataW H) → Bool := fun _ ds => decide (uptoBulkAll ds ≤ 1048576)
def OpenSpec.upto (s : _root_.Go.ChangeSpec) : _root_.Go.OpenSpec := { _root_.Go.OpenSpec.ofChange s with cond := some uptoSmall }

/-- 'laws.FnWays', WHERE WHAT IT READS IS OF BULK AT MOST 1048576: true; the input reads as it did. -/
def fnWaysUptoRow : OpenClaim := { program := "ytgjogbihadiojaa", sum := "a3c92172b622c0e762fb0c1a92a20151a6c229cf1993997b1d133d3f0de097b4", func := "loop.example/g03205/laws.FnWays", spec := "fnWays", unfollowed := true, recurses := true, apart := false, narrowed := true }
def FnWaysUptoSaid : Prop := fnWaysUptoRow.holds Try.pinned (OpenSpec.upto fnWaysSpec)

/-- 'laws.FnKings', WHERE WHAT IT READS IS OF BULK AT MOST 1048576: true; the input reads as it did. -/
def fnKingsUptoRow : OpenClaim := { program := "ytgjogbihadiojaa", sum := "a3c92172b622c0e762fb0c1a92a20151a6c229cf1993997b1d133d3f0de097b4", func := "loop.example/g03205/laws.FnKings", spec := "fnKings", unfollowed := true, recurses := true, apart := false, narrowed := true }
def FnKingsUptoSaid : Prop := fnKingsUptoRow.holds Try.pinned (OpenSpec.upto fnKingsSpec)

/-- 'laws.FnExactIsKing', WHERE WHAT IT READS IS OF BULK AT MOST 1048576: true; the input reads as it did. -/
def fnExactIsKingUptoRow : OpenClaim := { program := "ytgjogbihadiojaa", sum := "a3c92172b622c0e762fb0c1a92a20151a6c229cf1993997b1d133d3f0de097b4", func := "loop.example/g03205/laws.FnExactIsKing", spec := "fnExactIsKing", apart := false, narrowed := true }
def FnExactIsKingUptoSaid : Prop := fnExactIsKingUptoRow.holds Try.pinned (OpenSpec.upto fnExactIsKingSpec)

/-- 'laws.FnExactKingsOf', WHERE WHAT IT READS IS OF BULK AT MOST 1048576: true; the input reads as it did. -/
def fnExactKingsOfUptoRow : OpenClaim := { program := "ytgjogbihadiojaa", sum := "a3c92172b622c0e762fb0c1a92a20151a6c229cf1993997b1d133d3f0de097b4", func := "loop.example/g03205/laws.FnExactKingsOf", spec := "fnExactKingsOf", apart := false, narrowed := true }
def FnExactKingsOfUptoSaid : Prop := fnExactKingsOfUptoRow.holds Try.pinned (OpenSpec.upto fnExactKingsOfSpec)

/-- 'laws.FnExactDoesCover', WHERE WHAT IT READS IS OF BULK AT MOST 1048576: true; the input reads as it did. -/
def fnExactDoesCoverUptoRow : OpenClaim := { program := "ytgjogbihadiojaa", sum := "a3c92172b622c0e762fb0c1a92a20151a6c229cf1993997b1d133d3f0de097b4", func := "loop.example/g03205/laws.FnExactDoesCover", spec := "fnExactDoesCover", apart := false, narrowed := true }
def FnExactDoesCoverUptoSaid : Prop := fnExactDoesCoverUptoRow.holds Try.pinned (OpenSpec.upto fnExactDoesCoverSpec)

/-- 'laws.FnExactIsDominating', WHERE WHAT IT READS IS OF BULK AT MOST 1048576: true; the input reads as it did. -/
def fnExactIsDominatingUptoRow : OpenClaim := { program := "ytgjogbihadiojaa", sum := "a3c92172b622c0e762fb0c1a92a20151a6c229cf1993997b1d133d3f0de097b4", func := "loop.example/g03205/laws.FnExactIsDominating", spec := "fnExactIsDominating", apart := false, narrowed := true }
def FnExactIsDominatingUptoSaid : Prop := fnExactIsDominatingUptoRow.holds Try.pinned (OpenSpec.upto fnExactIsDominatingSpec)

/-- 'laws.FnExactLeastDominating', WHERE WHAT IT READS IS OF BULK AT MOST 1048576: true; the input reads as it did. -/
def fnExactLeastDominatingUptoRow : OpenClaim := { program := "ytgjogbihadiojaa", sum := "a3c92172b622c0e762fb0c1a92a20151a6c229cf1993997b1d133d3f0de097b4", func := "loop.example/g03205/laws.FnExactLeastDominating", spec := "fnExactLeastDominating", apart := false, narrowed := true }
def FnExactLeastDominatingUptoSaid : Prop := fnExactLeastDominatingUptoRow.holds Try.pinned (OpenSpec.upto fnExactLeastDominatingSpec)

/-- 'laws.FnExactBanksSet', WHERE WHAT IT READS IS OF BULK AT MOST 1048576: true; the input reads as it did. -/
def fnExactBanksSetUptoRow : OpenClaim := { program := "ytgjogbihadiojaa", sum := "a3c92172b622c0e762fb0c1a92a20151a6c229cf1993997b1d133d3f0de097b4", func := "loop.example/g03205/laws.FnExactBanksSet", spec := "fnExactBanksSet", unfollowed := true, recurses := true, apart := false, narrowed := true }
def FnExactBanksSetUptoSaid : Prop := fnExactBanksSetUptoRow.holds Try.pinned (OpenSpec.upto fnExactBanksSetSpec)

/-- 'laws.FnExactSovereignOf', WHERE WHAT IT READS IS OF BULK AT MOST 1048576: true; the input reads as it did. -/
def fnExactSovereignOfUptoRow : OpenClaim := { program := "ytgjogbihadiojaa", sum := "a3c92172b622c0e762fb0c1a92a20151a6c229cf1993997b1d133d3f0de097b4", func := "loop.example/g03205/laws.FnExactSovereignOf", spec := "fnExactSovereignOf", apart := false, narrowed := true }
def FnExactSovereignOfUptoSaid : Prop := fnExactSovereignOfUptoRow.holds Try.pinned (OpenSpec.upto fnExactSovereignOfSpec)

/-- 'laws.FnExactKingStep', WHERE WHAT IT READS IS OF BULK AT MOST 1048576: true; the input reads as it did. -/
def fnExactKingStepUptoRow : OpenClaim := { program := "ytgjogbihadiojaa", sum := "a3c92172b622c0e762fb0c1a92a20151a6c229cf1993997b1d133d3f0de097b4", func := "loop.example/g03205/laws.FnExactKingStep", spec := "fnExactKingStep", apart := false, narrowed := true }
def FnExactKingStepUptoSaid : Prop := fnExactKingStepUptoRow.holds Try.pinned (OpenSpec.upto fnExactKingStepSpec)

/-- 'laws.FnExactClimbToKing', WHERE WHAT IT READS IS OF BULK AT MOST 1048576: true; the input reads as it did. -/
def fnExactClimbToKingUptoRow : OpenClaim := { program := "ytgjogbihadiojaa", sum := "a3c92172b622c0e762fb0c1a92a20151a6c229cf1993997b1d133d3f0de097b4", func := "loop.example/g03205/laws.FnExactClimbToKing", spec := "fnExactClimbToKing", apart := false, narrowed := true }
def FnExactClimbToKingUptoSaid : Prop := fnExactClimbToKingUptoRow.holds Try.pinned (OpenSpec.upto fnExactClimbToKingSpec)

/-- 'laws.FnExactCountKings', WHERE WHAT IT READS IS OF BULK AT MOST 1048576: true; the input reads as it did. -/
def fnExactCountKingsUptoRow : OpenClaim := { program := "ytgjogbihadiojaa", sum := "a3c92172b622c0e762fb0c1a92a20151a6c229cf1993997b1d133d3f0de097b4", func := "loop.example/g03205/laws.FnExactCountKings", spec := "fnExactCountKings", unfollowed := true, recurses := true, apart := false, narrowed := true }
def FnExactCountKingsUptoSaid : Prop := fnExactCountKingsUptoRow.holds Try.pinned (OpenSpec.upto fnExactCountKingsSpec)

end Rows
end Go.Proofs.Ytgjogbihadiojaa
