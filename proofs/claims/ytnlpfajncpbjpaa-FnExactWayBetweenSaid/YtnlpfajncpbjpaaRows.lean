/-
  No cell of these rows narrows 'for every input' (looked for: loops, veiled, ifaces, maps, wideKeys, modest, calm, conditions, laid).
  DERIVED. THE GIVEN ROWS OF THIS SEAT. 11 by the template 'for every input the law returns true; each argument reads behind the call as it read before'; 0 by the template 'total and deterministic' (their statements: YtnlpfajncpbjpaaTotals.lean).
  GIVEN WITH THE SEED: the statements are not yours to turn. If you find one false, say at which input.
  Laid BY PROGRAM, IN A SANDBOX (cutbox-rows.mjs): the forced cells as the released guide's own fill.sh prints them over the translation 6da38749f05f43d8… (all of the seat's roots in one cut). By AI agents, Wed Nov 11 2026. No macro, syntax, notation, axiom, sorry.
-/
import Derived.Test.YtnlpfajncpbjpaaChecked
import GoSem.Claim
import GoSem.ClaimJoined
import GoSem.ClaimMapViews
import Derived.JoinedTies
import Derived.KernelRfl
namespace Go.Proofs.Ytnlpfajncpbjpaa
/- THE CELL 'sum', in the pinned program and in every row, IS THE sha256 OF THE DUMP (.gsa) THAT YtnlpfajncpbjpaaProg.lean LOADS. Nothing in Lean hashes anything: it is a label: what it is worth is what the hold of that sum in a sandbox is worth. -/
noncomputable def Try.pinned : Pinned := { name := "ytnlpfajncpbjpaa", sum := "6da38749f05f43d82ec44d310e322d37acb4a8b4bde0b0be7d451a4ca5a8fe3e", checked := Try.checked }
namespace Rows
def none {H : Type} : Left H := { results := [], args := [] }

/-- 'laws.FnStrong': WHATEVER THE INPUT: true; the input reads as it did. -/
def fnStrongSpec : ChangeSpec := { name := "fnStrong", fn := fun _ => fun
  | [d] => { results := [.lit (.bool true)], args := [d] }
  | _ => none }
def fnStrongRow : OpenClaim := { program := "ytnlpfajncpbjpaa", sum := "6da38749f05f43d82ec44d310e322d37acb4a8b4bde0b0be7d451a4ca5a8fe3e", func := "loop.example/g03205/laws.FnStrong", spec := "fnStrong", unfollowed := true, recurses := true, apart := false }
def FnStrongSaid : Prop := fnStrongRow.holds Try.pinned (OpenSpec.ofChange fnStrongSpec)

/-- ITS FALSE NEIGHBOUR: 'it returns false'. Refute it at one input. -/
def fnStrongWrong : ChangeSpec := { name := "fnStrong", fn := fun _ => fun
  | [d] => { results := [.lit (.bool false)], args := [d] }
  | _ => none }
def FnStrongWrongFalsely : Prop := fnStrongRow.holds Try.pinned (OpenSpec.ofChange fnStrongWrong)

/-- 'laws.FnWays': WHATEVER THE INPUT: true; the input reads as it did. -/
def fnWaysSpec : ChangeSpec := { name := "fnWays", fn := fun _ => fun
  | [d] => { results := [.lit (.bool true)], args := [d] }
  | _ => none }
def fnWaysRow : OpenClaim := { program := "ytnlpfajncpbjpaa", sum := "6da38749f05f43d82ec44d310e322d37acb4a8b4bde0b0be7d451a4ca5a8fe3e", func := "loop.example/g03205/laws.FnWays", spec := "fnWays", unfollowed := true, recurses := true, apart := false }
def FnWaysSaid : Prop := fnWaysRow.holds Try.pinned (OpenSpec.ofChange fnWaysSpec)

/-- ITS FALSE NEIGHBOUR: 'it returns false'. Refute it at one input. -/
def fnWaysWrong : ChangeSpec := { name := "fnWays", fn := fun _ => fun
  | [d] => { results := [.lit (.bool false)], args := [d] }
  | _ => none }
def FnWaysWrongFalsely : Prop := fnWaysRow.holds Try.pinned (OpenSpec.ofChange fnWaysWrong)

/-- 'laws.FnExactIsWay': WHATEVER THE INPUT: true; the input reads as it did. -/
def fnExactIsWaySpec : ChangeSpec := { name := "fnExactIsWay", fn := fun _ => fun
  | [d1, d2] => { results := [.lit (.bool true)], args := [d1, d2] }
  | _ => none }
def fnExactIsWayRow : OpenClaim := { program := "ytnlpfajncpbjpaa", sum := "6da38749f05f43d82ec44d310e322d37acb4a8b4bde0b0be7d451a4ca5a8fe3e", func := "loop.example/g03205/laws.FnExactIsWay", spec := "fnExactIsWay", apart := false }
def FnExactIsWaySaid : Prop := fnExactIsWayRow.holds Try.pinned (OpenSpec.ofChange fnExactIsWaySpec)

/-- ITS FALSE NEIGHBOUR: 'it returns false'. Refute it at one input. -/
def fnExactIsWayWrong : ChangeSpec := { name := "fnExactIsWay", fn := fun _ => fun
  | [d1, d2] => { results := [.lit (.bool false)], args := [d1, d2] }
  | _ => none }
def FnExactIsWayWrongFalsely : Prop := fnExactIsWayRow.holds Try.pinned (OpenSpec.ofChange fnExactIsWayWrong)

/-- 'laws.FnExactIsCycle': WHATEVER THE INPUT: true; the input reads as it did. -/
def fnExactIsCycleSpec : ChangeSpec := { name := "fnExactIsCycle", fn := fun _ => fun
  | [d1, d2] => { results := [.lit (.bool true)], args := [d1, d2] }
  | _ => none }
def fnExactIsCycleRow : OpenClaim := { program := "ytnlpfajncpbjpaa", sum := "6da38749f05f43d82ec44d310e322d37acb4a8b4bde0b0be7d451a4ca5a8fe3e", func := "loop.example/g03205/laws.FnExactIsCycle", spec := "fnExactIsCycle", apart := false }
def FnExactIsCycleSaid : Prop := fnExactIsCycleRow.holds Try.pinned (OpenSpec.ofChange fnExactIsCycleSpec)

/-- ITS FALSE NEIGHBOUR: 'it returns false'. Refute it at one input. -/
def fnExactIsCycleWrong : ChangeSpec := { name := "fnExactIsCycle", fn := fun _ => fun
  | [d1, d2] => { results := [.lit (.bool false)], args := [d1, d2] }
  | _ => none }
def FnExactIsCycleWrongFalsely : Prop := fnExactIsCycleRow.holds Try.pinned (OpenSpec.ofChange fnExactIsCycleWrong)

/-- 'laws.FnExactFullWay': WHATEVER THE INPUT: true; the input reads as it did. -/
def fnExactFullWaySpec : ChangeSpec := { name := "fnExactFullWay", fn := fun _ => fun
  | [d] => { results := [.lit (.bool true)], args := [d] }
  | _ => none }
def fnExactFullWayRow : OpenClaim := { program := "ytnlpfajncpbjpaa", sum := "6da38749f05f43d82ec44d310e322d37acb4a8b4bde0b0be7d451a4ca5a8fe3e", func := "loop.example/g03205/laws.FnExactFullWay", spec := "fnExactFullWay", apart := false }
def FnExactFullWaySaid : Prop := fnExactFullWayRow.holds Try.pinned (OpenSpec.ofChange fnExactFullWaySpec)

/-- ITS FALSE NEIGHBOUR: 'it returns false'. Refute it at one input. -/
def fnExactFullWayWrong : ChangeSpec := { name := "fnExactFullWay", fn := fun _ => fun
  | [d] => { results := [.lit (.bool false)], args := [d] }
  | _ => none }
def FnExactFullWayWrongFalsely : Prop := fnExactFullWayRow.holds Try.pinned (OpenSpec.ofChange fnExactFullWayWrong)

/-- 'laws.FnExactCountFullWays': WHATEVER THE INPUT: true; the input reads as it did. -/
def fnExactCountFullWaysSpec : ChangeSpec := { name := "fnExactCountFullWays", fn := fun _ => fun
  | [d] => { results := [.lit (.bool true)], args := [d] }
  | _ => none }
def fnExactCountFullWaysRow : OpenClaim := { program := "ytnlpfajncpbjpaa", sum := "6da38749f05f43d82ec44d310e322d37acb4a8b4bde0b0be7d451a4ca5a8fe3e", func := "loop.example/g03205/laws.FnExactCountFullWays", spec := "fnExactCountFullWays", unfollowed := true, recurses := true, apart := false }
def FnExactCountFullWaysSaid : Prop := fnExactCountFullWaysRow.holds Try.pinned (OpenSpec.ofChange fnExactCountFullWaysSpec)

/-- ITS FALSE NEIGHBOUR: 'it returns false'. Refute it at one input. -/
def fnExactCountFullWaysWrong : ChangeSpec := { name := "fnExactCountFullWays", fn := fun _ => fun
  | [d] => { results := [.lit (.bool false)], args := [d] }
  | _ => none }
def FnExactCountFullWaysWrongFalsely : Prop := fnExactCountFullWaysRow.holds Try.pinned (OpenSpec.ofChange fnExactCountFullWaysWrong)

/-- 'laws.FnExactCountWaysFrom': WHATEVER THE INPUT: true; the input reads as it did. -/
def fnExactCountWaysFromSpec : ChangeSpec := { name := "fnExactCountWaysFrom", fn := fun _ => fun
  | [d1, d2] => { results := [.lit (.bool true)], args := [d1, d2] }
  | _ => none }
def fnExactCountWaysFromRow : OpenClaim := { program := "ytnlpfajncpbjpaa", sum := "6da38749f05f43d82ec44d310e322d37acb4a8b4bde0b0be7d451a4ca5a8fe3e", func := "loop.example/g03205/laws.FnExactCountWaysFrom", spec := "fnExactCountWaysFrom", unfollowed := true, recurses := true, apart := false }
def FnExactCountWaysFromSaid : Prop := fnExactCountWaysFromRow.holds Try.pinned (OpenSpec.ofChange fnExactCountWaysFromSpec)

/-- ITS FALSE NEIGHBOUR: 'it returns false'. Refute it at one input. -/
def fnExactCountWaysFromWrong : ChangeSpec := { name := "fnExactCountWaysFrom", fn := fun _ => fun
  | [d1, d2] => { results := [.lit (.bool false)], args := [d1, d2] }
  | _ => none }
def FnExactCountWaysFromWrongFalsely : Prop := fnExactCountWaysFromRow.holds Try.pinned (OpenSpec.ofChange fnExactCountWaysFromWrong)

/-- 'laws.FnExactFirstFullWay': WHATEVER THE INPUT: true; the input reads as it did. -/
def fnExactFirstFullWaySpec : ChangeSpec := { name := "fnExactFirstFullWay", fn := fun _ => fun
  | [d] => { results := [.lit (.bool true)], args := [d] }
  | _ => none }
def fnExactFirstFullWayRow : OpenClaim := { program := "ytnlpfajncpbjpaa", sum := "6da38749f05f43d82ec44d310e322d37acb4a8b4bde0b0be7d451a4ca5a8fe3e", func := "loop.example/g03205/laws.FnExactFirstFullWay", spec := "fnExactFirstFullWay", unfollowed := true, recurses := true, apart := false }
def FnExactFirstFullWaySaid : Prop := fnExactFirstFullWayRow.holds Try.pinned (OpenSpec.ofChange fnExactFirstFullWaySpec)

/-- ITS FALSE NEIGHBOUR: 'it returns false'. Refute it at one input. -/
def fnExactFirstFullWayWrong : ChangeSpec := { name := "fnExactFirstFullWay", fn := fun _ => fun
  | [d] => { results := [.lit (.bool false)], args := [d] }
  | _ => none }
def FnExactFirstFullWayWrongFalsely : Prop := fnExactFirstFullWayRow.holds Try.pinned (OpenSpec.ofChange fnExactFirstFullWayWrong)

/-- 'laws.FnExactCountFullCycles': WHATEVER THE INPUT: true; the input reads as it did. -/
def fnExactCountFullCyclesSpec : ChangeSpec := { name := "fnExactCountFullCycles", fn := fun _ => fun
  | [d] => { results := [.lit (.bool true)], args := [d] }
  | _ => none }
def fnExactCountFullCyclesRow : OpenClaim := { program := "ytnlpfajncpbjpaa", sum := "6da38749f05f43d82ec44d310e322d37acb4a8b4bde0b0be7d451a4ca5a8fe3e", func := "loop.example/g03205/laws.FnExactCountFullCycles", spec := "fnExactCountFullCycles", unfollowed := true, recurses := true, apart := false }
def FnExactCountFullCyclesSaid : Prop := fnExactCountFullCyclesRow.holds Try.pinned (OpenSpec.ofChange fnExactCountFullCyclesSpec)

/-- ITS FALSE NEIGHBOUR: 'it returns false'. Refute it at one input. -/
def fnExactCountFullCyclesWrong : ChangeSpec := { name := "fnExactCountFullCycles", fn := fun _ => fun
  | [d] => { results := [.lit (.bool false)], args := [d] }
  | _ => none }
def FnExactCountFullCyclesWrongFalsely : Prop := fnExactCountFullCyclesRow.holds Try.pinned (OpenSpec.ofChange fnExactCountFullCyclesWrong)

/-- 'laws.FnExactCycleThrough': WHATEVER THE INPUT: true; the input reads as it did. -/
def fnExactCycleThroughSpec : ChangeSpec := { name := "fnExactCycleThrough", fn := fun _ => fun
  | [d1, d2, d3] => { results := [.lit (.bool true)], args := [d1, d2, d3] }
  | _ => none }
def fnExactCycleThroughRow : OpenClaim := { program := "ytnlpfajncpbjpaa", sum := "6da38749f05f43d82ec44d310e322d37acb4a8b4bde0b0be7d451a4ca5a8fe3e", func := "loop.example/g03205/laws.FnExactCycleThrough", spec := "fnExactCycleThrough", unfollowed := true, recurses := true, apart := false }
def FnExactCycleThroughSaid : Prop := fnExactCycleThroughRow.holds Try.pinned (OpenSpec.ofChange fnExactCycleThroughSpec)

/-- ITS FALSE NEIGHBOUR: 'it returns false'. Refute it at one input. -/
def fnExactCycleThroughWrong : ChangeSpec := { name := "fnExactCycleThrough", fn := fun _ => fun
  | [d1, d2, d3] => { results := [.lit (.bool false)], args := [d1, d2, d3] }
  | _ => none }
def FnExactCycleThroughWrongFalsely : Prop := fnExactCycleThroughRow.holds Try.pinned (OpenSpec.ofChange fnExactCycleThroughWrong)

/-- 'laws.FnExactWayBetween': WHATEVER THE INPUT: true; the input reads as it did. -/
def fnExactWayBetweenSpec : ChangeSpec := { name := "fnExactWayBetween", fn := fun _ => fun
  | [d1, d2, d3] => { results := [.lit (.bool true)], args := [d1, d2, d3] }
  | _ => none }
def fnExactWayBetweenRow : OpenClaim := { program := "ytnlpfajncpbjpaa", sum := "6da38749f05f43d82ec44d310e322d37acb4a8b4bde0b0be7d451a4ca5a8fe3e", func := "loop.example/g03205/laws.FnExactWayBetween", spec := "fnExactWayBetween", unfollowed := true, recurses := true, apart := false }
def FnExactWayBetweenSaid : Prop := fnExactWayBetweenRow.holds Try.pinned (OpenSpec.ofChange fnExactWayBetweenSpec)

/-- ITS FALSE NEIGHBOUR: 'it returns false'. Refute it at one input. -/
def fnExactWayBetweenWrong : ChangeSpec := { name := "fnExactWayBetween", fn := fun _ => fun
  | [d1, d2, d3] => { results := [.lit (.bool false)], args := [d1, d2, d3] }
  | _ => none }
def FnExactWayBetweenWrongFalsely : Prop := fnExactWayBetweenRow.holds Try.pinned (OpenSpec.ofChange fnExactWayBetweenWrong)

/- THE SECOND FORM. 'bulk': how many values and letters a reading holds, each counted each time it is reached (what is shared counts as often as it is met; a slice's spare places count too). A statement '..UptoSaid' is the law's where the arguments, and the package variables that the reading takes, are together of bulk at most 1048576: NARROWER than '..Said'. Prove '..Said' where nothing that the law and all that it calls make is longer than what came in: it says more and counts as full. Else prove '..UptoSaid'. A law counts once. -/
mutual
def uptoBulk {H : Type} : DataW H → Nat
  | .lit (.string bytes) => bytes.length + 1
  | .lit _ => 1
  | .nil => 1
  | .ptr d => uptoBulk d + 1
  | .slice elems spare => uptoBulkAll elems + uptoBulkAll spare + 1
  | .agg parts => uptoBulkAll parts + 1
  | .iface _ d => uptoBulk d + 1
  | .map entries => uptoBulkEntries entries + 1
  | .held _ => 1
def uptoBulkAll {H : Type} : List (DataW H) → Nat
  | [] => 0
  | d :: r => uptoBulk d + uptoBulkAll r
def uptoBulkEntries {H : Type} : List (Lit × DataW H) → Nat
  | [] => 0
  | x :: r => uptoBulkEntry x + uptoBulkEntries r
def uptoBulkEntry {H : Type} : Lit × DataW H → Nat
  | (.string bytes, d) => bytes.length + uptoBulk d + 1
  | (_, d) => uptoBulk d + 1
 end
def uptoSmall : (H : Type) → List (DataW H) → Bool := fun _ ds => decide (uptoBulkAll ds ≤ 1048576)
def OpenSpec.upto (s : _root_.Go.ChangeSpec) : _root_.Go.OpenSpec := { _root_.Go.OpenSpec.ofChange s with cond := some uptoSmall }

/-- 'laws.FnStrong', WHERE WHAT IT READS IS OF BULK AT MOST 1048576: true; the input reads as it did. -/
def fnStrongUptoRow : OpenClaim := { program := "ytnlpfajncpbjpaa", sum := "6da38749f05f43d82ec44d310e322d37acb4a8b4bde0b0be7d451a4ca5a8fe3e", func := "loop.example/g03205/laws.FnStrong", spec := "fnStrong", unfollowed := true, recurses := true, apart := false, narrowed := true }
def FnStrongUptoSaid : Prop := fnStrongUptoRow.holds Try.pinned (OpenSpec.upto fnStrongSpec)

/-- 'laws.FnWays', WHERE WHAT IT READS IS OF BULK AT MOST 1048576: true; the input reads as it did. -/
def fnWaysUptoRow : OpenClaim := { program := "ytnlpfajncpbjpaa", sum := "6da38749f05f43d82ec44d310e322d37acb4a8b4bde0b0be7d451a4ca5a8fe3e", func := "loop.example/g03205/laws.FnWays", spec := "fnWays", unfollowed := true, recurses := true, apart := false, narrowed := true }
def FnWaysUptoSaid : Prop := fnWaysUptoRow.holds Try.pinned (OpenSpec.upto fnWaysSpec)

/-- 'laws.FnExactIsWay', WHERE WHAT IT READS IS OF BULK AT MOST 1048576: true; the input reads as it did. -/
def fnExactIsWayUptoRow : OpenClaim := { program := "ytnlpfajncpbjpaa", sum := "6da38749f05f43d82ec44d310e322d37acb4a8b4bde0b0be7d451a4ca5a8fe3e", func := "loop.example/g03205/laws.FnExactIsWay", spec := "fnExactIsWay", apart := false, narrowed := true }
def FnExactIsWayUptoSaid : Prop := fnExactIsWayUptoRow.holds Try.pinned (OpenSpec.upto fnExactIsWaySpec)

/-- 'laws.FnExactIsCycle', WHERE WHAT IT READS IS OF BULK AT MOST 1048576: true; the input reads as it did. -/
def fnExactIsCycleUptoRow : OpenClaim := { program := "ytnlpfajncpbjpaa", sum := "6da38749f05f43d82ec44d310e322d37acb4a8b4bde0b0be7d451a4ca5a8fe3e", func := "loop.example/g03205/laws.FnExactIsCycle", spec := "fnExactIsCycle", apart := false, narrowed := true }
def FnExactIsCycleUptoSaid : Prop := fnExactIsCycleUptoRow.holds Try.pinned (OpenSpec.upto fnExactIsCycleSpec)

/-- 'laws.FnExactFullWay', WHERE WHAT IT READS IS OF BULK AT MOST 1048576: true; the input reads as it did. -/
def fnExactFullWayUptoRow : OpenClaim := { program := "ytnlpfajncpbjpaa", sum := "6da38749f05f43d82ec44d310e322d37acb4a8b4bde0b0be7d451a4ca5a8fe3e", func := "loop.example/g03205/laws.FnExactFullWay", spec := "fnExactFullWay", apart := false, narrowed := true }
def FnExactFullWayUptoSaid : Prop := fnExactFullWayUptoRow.holds Try.pinned (OpenSpec.upto fnExactFullWaySpec)

/-- 'laws.FnExactCountFullWays', WHERE WHAT IT READS IS OF BULK AT MOST 1048576: true; the input reads as it did. -/
def fnExactCountFullWaysUptoRow : OpenClaim := { program := "ytnlpfajncpbjpaa", sum := "6da38749f05f43d82ec44d310e322d37acb4a8b4bde0b0be7d451a4ca5a8fe3e", func := "loop.example/g03205/laws.FnExactCountFullWays", spec := "fnExactCountFullWays", unfollowed := true, recurses := true, apart := false, narrowed := true }
def FnExactCountFullWaysUptoSaid : Prop := fnExactCountFullWaysUptoRow.holds Try.pinned (OpenSpec.upto fnExactCountFullWaysSpec)

/-- 'laws.FnExactCountWaysFrom', WHERE WHAT IT READS IS OF BULK AT MOST 1048576: true; the input reads as it did. -/
def fnExactCountWaysFromUptoRow : OpenClaim := { program := "ytnlpfajncpbjpaa", sum := "6da38749f05f43d82ec44d310e322d37acb4a8b4bde0b0be7d451a4ca5a8fe3e", func := "loop.example/g03205/laws.FnExactCountWaysFrom", spec := "fnExactCountWaysFrom", unfollowed := true, recurses := true, apart := false, narrowed := true }
def FnExactCountWaysFromUptoSaid : Prop := fnExactCountWaysFromUptoRow.holds Try.pinned (OpenSpec.upto fnExactCountWaysFromSpec)

/-- 'laws.FnExactFirstFullWay', WHERE WHAT IT READS IS OF BULK AT MOST 1048576: true; the input reads as it did. -/
def fnExactFirstFullWayUptoRow : OpenClaim := { program := "ytnlpfajncpbjpaa", sum := "6da38749f05f43d82ec44d310e322d37acb4a8b4bde0b0be7d451a4ca5a8fe3e", func := "loop.example/g03205/laws.FnExactFirstFullWay", spec := "fnExactFirstFullWay", unfollowed := true, recurses := true, apart := false, narrowed := true }
def FnExactFirstFullWayUptoSaid : Prop := fnExactFirstFullWayUptoRow.holds Try.pinned (OpenSpec.upto fnExactFirstFullWaySpec)

/-- 'laws.FnExactCountFullCycles', WHERE WHAT IT READS IS OF BULK AT MOST 1048576: true; the input reads as it did. -/
def fnExactCountFullCyclesUptoRow : OpenClaim := { program := "ytnlpfajncpbjpaa", sum := "6da38749f05f43d82ec44d310e322d37acb4a8b4bde0b0be7d451a4ca5a8fe3e", func := "loop.example/g03205/laws.FnExactCountFullCycles", spec := "fnExactCountFullCycles", unfollowed := true, recurses := true, apart := false, narrowed := true }
def FnExactCountFullCyclesUptoSaid : Prop := fnExactCountFullCyclesUptoRow.holds Try.pinned (OpenSpec.upto fnExactCountFullCyclesSpec)

/-- 'laws.FnExactCycleThrough', WHERE WHAT IT READS IS OF BULK AT MOST 1048576: true; the input reads as it did. -/
def fnExactCycleThroughUptoRow : OpenClaim := { program := "ytnlpfajncpbjpaa", sum := "6da38749f05f43d82ec44d310e322d37acb4a8b4bde0b0be7d451a4ca5a8fe3e", func := "loop.example/g03205/laws.FnExactCycleThrough", spec := "fnExactCycleThrough", unfollowed := true, recurses := true, apart := false, narrowed := true }
def FnExactCycleThroughUptoSaid : Prop := fnExactCycleThroughUptoRow.holds Try.pinned (OpenSpec.upto fnExactCycleThroughSpec)

/-- 'laws.FnExactWayBetween', WHERE WHAT IT READS IS OF BULK AT MOST 1048576: true; the input reads as it did. -/
def fnExactWayBetweenUptoRow : OpenClaim := { program := "ytnlpfajncpbjpaa", sum := "6da38749f05f43d82ec44d310e322d37acb4a8b4bde0b0be7d451a4ca5a8fe3e", func := "loop.example/g03205/laws.FnExactWayBetween", spec := "fnExactWayBetween", unfollowed := true, recurses := true, apart := false, narrowed := true }
def FnExactWayBetweenUptoSaid : Prop := fnExactWayBetweenUptoRow.holds Try.pinned (OpenSpec.upto fnExactWayBetweenSpec)

end Rows
end Go.Proofs.Ytnlpfajncpbjpaa
