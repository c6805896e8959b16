/-
  No cell of these rows narrows 'for every input' (looked for: loops, veiled, ifaces, maps, wideKeys, modest, calm, conditions, laid).
  DERIVED. THE GIVEN ROWS OF THIS SEAT. 12 by the template 'for every input the law returns true; each argument reads behind the call as it read before'; 0 by the template 'total and deterministic' (their statements: YteegbkbphfmooaaTotals.lean).
  GIVEN WITH THE SEED: the statements are not yours to turn. If you find one false, say at which input.
  Laid BY PROGRAM, IN A SANDBOX (cutbox-rows.mjs): the forced cells as the released guide's own fill.sh prints them over the translation fa7d4a00f6a9155d… (all of the seat's roots in one cut). By AI agents, Wed Nov 11 2026. No macro, syntax, notation, axiom, sorry.
-/
import Derived.Test.YteegbkbphfmooaaChecked
import GoSem.Claim
import GoSem.ClaimJoined
import GoSem.ClaimMapViews
import Derived.JoinedTies
import Derived.KernelRfl
namespace Go.Proofs.Yteegbkbphfmooaa
/- THE CELL 'sum', in the pinned program and in every row, IS THE sha256 OF THE DUMP (.gsa) THAT YteegbkbphfmooaaProg.lean LOADS. Nothing in Lean hashes anything: it is a label: what it is worth is what the hold of that sum in a sandbox is worth. -/
noncomputable def Try.pinned : Pinned := { name := "yteegbkbphfmooaa", sum := "fa7d4a00f6a9155d1f3b8660c18d735b6c0b9fb617339936ef16817dedb34c33", checked := Try.checked }
namespace Rows
def none {H : Type} : Left H := { results := [], args := [] }

/-- 'laws.FnStrong': WHATEVER THE INPUT: true; the input reads as it did. -/
def fnStrongSpec : ChangeSpec := { name := "fnStrong", fn := fun _ => fun
  | [d] => { results := [.lit (.bool true)], args := [d] }
  | _ => none }
def fnStrongRow : OpenClaim := { program := "yteegbkbphfmooaa", sum := "fa7d4a00f6a9155d1f3b8660c18d735b6c0b9fb617339936ef16817dedb34c33", func := "loop.example/g03205/laws.FnStrong", spec := "fnStrong", unfollowed := true, recurses := true, plainKeys := false, apart := false }
def FnStrongSaid : Prop := fnStrongRow.holds Try.pinned (OpenSpec.ofChange fnStrongSpec)

/-- ITS FALSE NEIGHBOUR: 'it returns false'. Refute it at one input. -/
def fnStrongWrong : ChangeSpec := { name := "fnStrong", fn := fun _ => fun
  | [d] => { results := [.lit (.bool false)], args := [d] }
  | _ => none }
def FnStrongWrongFalsely : Prop := fnStrongRow.holds Try.pinned (OpenSpec.ofChange fnStrongWrong)

/-- 'laws.FnOrders': WHATEVER THE INPUT: true; the input reads as it did. -/
def fnOrdersSpec : ChangeSpec := { name := "fnOrders", fn := fun _ => fun
  | [d] => { results := [.lit (.bool true)], args := [d] }
  | _ => none }
def fnOrdersRow : OpenClaim := { program := "yteegbkbphfmooaa", sum := "fa7d4a00f6a9155d1f3b8660c18d735b6c0b9fb617339936ef16817dedb34c33", func := "loop.example/g03205/laws.FnOrders", spec := "fnOrders", inPlace := ["slices.overlaps[int]"], unfollowed := true, recurses := true, plainKeys := false, apart := false }
def FnOrdersSaid : Prop := fnOrdersRow.holds Try.pinned (OpenSpec.ofChange fnOrdersSpec)

/-- ITS FALSE NEIGHBOUR: 'it returns false'. Refute it at one input. -/
def fnOrdersWrong : ChangeSpec := { name := "fnOrders", fn := fun _ => fun
  | [d] => { results := [.lit (.bool false)], args := [d] }
  | _ => none }
def FnOrdersWrongFalsely : Prop := fnOrdersRow.holds Try.pinned (OpenSpec.ofChange fnOrdersWrong)

/-- 'laws.FnExactOrderOk': WHATEVER THE INPUT: true; the input reads as it did. -/
def fnExactOrderOkSpec : ChangeSpec := { name := "fnExactOrderOk", fn := fun _ => fun
  | [d1, d2] => { results := [.lit (.bool true)], args := [d1, d2] }
  | _ => none }
def fnExactOrderOkRow : OpenClaim := { program := "yteegbkbphfmooaa", sum := "fa7d4a00f6a9155d1f3b8660c18d735b6c0b9fb617339936ef16817dedb34c33", func := "loop.example/g03205/laws.FnExactOrderOk", spec := "fnExactOrderOk", plainKeys := false, apart := false }
def FnExactOrderOkSaid : Prop := fnExactOrderOkRow.holds Try.pinned (OpenSpec.ofChange fnExactOrderOkSpec)

/-- ITS FALSE NEIGHBOUR: 'it returns false'. Refute it at one input. -/
def fnExactOrderOkWrong : ChangeSpec := { name := "fnExactOrderOk", fn := fun _ => fun
  | [d1, d2] => { results := [.lit (.bool false)], args := [d1, d2] }
  | _ => none }
def FnExactOrderOkWrongFalsely : Prop := fnExactOrderOkRow.holds Try.pinned (OpenSpec.ofChange fnExactOrderOkWrong)

/-- 'laws.FnExactCountReversals': WHATEVER THE INPUT: true; the input reads as it did. -/
def fnExactCountReversalsSpec : ChangeSpec := { name := "fnExactCountReversals", fn := fun _ => fun
  | [d1, d2] => { results := [.lit (.bool true)], args := [d1, d2] }
  | _ => none }
def fnExactCountReversalsRow : OpenClaim := { program := "yteegbkbphfmooaa", sum := "fa7d4a00f6a9155d1f3b8660c18d735b6c0b9fb617339936ef16817dedb34c33", func := "loop.example/g03205/laws.FnExactCountReversals", spec := "fnExactCountReversals", plainKeys := false, apart := false }
def FnExactCountReversalsSaid : Prop := fnExactCountReversalsRow.holds Try.pinned (OpenSpec.ofChange fnExactCountReversalsSpec)

/-- ITS FALSE NEIGHBOUR: 'it returns false'. Refute it at one input. -/
def fnExactCountReversalsWrong : ChangeSpec := { name := "fnExactCountReversals", fn := fun _ => fun
  | [d1, d2] => { results := [.lit (.bool false)], args := [d1, d2] }
  | _ => none }
def FnExactCountReversalsWrongFalsely : Prop := fnExactCountReversalsRow.holds Try.pinned (OpenSpec.ofChange fnExactCountReversalsWrong)

/-- 'laws.FnExactFewestReversals': WHATEVER THE INPUT: true; the input reads as it did. -/
def fnExactFewestReversalsSpec : ChangeSpec := { name := "fnExactFewestReversals", fn := fun _ => fun
  | [d] => { results := [.lit (.bool true)], args := [d] }
  | _ => none }
def fnExactFewestReversalsRow : OpenClaim := { program := "yteegbkbphfmooaa", sum := "fa7d4a00f6a9155d1f3b8660c18d735b6c0b9fb617339936ef16817dedb34c33", func := "loop.example/g03205/laws.FnExactFewestReversals", spec := "fnExactFewestReversals", plainKeys := false, apart := false }
def FnExactFewestReversalsSaid : Prop := fnExactFewestReversalsRow.holds Try.pinned (OpenSpec.ofChange fnExactFewestReversalsSpec)

/-- ITS FALSE NEIGHBOUR: 'it returns false'. Refute it at one input. -/
def fnExactFewestReversalsWrong : ChangeSpec := { name := "fnExactFewestReversals", fn := fun _ => fun
  | [d] => { results := [.lit (.bool false)], args := [d] }
  | _ => none }
def FnExactFewestReversalsWrongFalsely : Prop := fnExactFewestReversalsRow.holds Try.pinned (OpenSpec.ofChange fnExactFewestReversalsWrong)

/-- 'laws.FnExactBestOrder': WHATEVER THE INPUT: true; the input reads as it did. -/
def fnExactBestOrderSpec : ChangeSpec := { name := "fnExactBestOrder", fn := fun _ => fun
  | [d] => { results := [.lit (.bool true)], args := [d] }
  | _ => none }
def fnExactBestOrderRow : OpenClaim := { program := "yteegbkbphfmooaa", sum := "fa7d4a00f6a9155d1f3b8660c18d735b6c0b9fb617339936ef16817dedb34c33", func := "loop.example/g03205/laws.FnExactBestOrder", spec := "fnExactBestOrder", plainKeys := false, apart := false }
def FnExactBestOrderSaid : Prop := fnExactBestOrderRow.holds Try.pinned (OpenSpec.ofChange fnExactBestOrderSpec)

/-- ITS FALSE NEIGHBOUR: 'it returns false'. Refute it at one input. -/
def fnExactBestOrderWrong : ChangeSpec := { name := "fnExactBestOrder", fn := fun _ => fun
  | [d] => { results := [.lit (.bool false)], args := [d] }
  | _ => none }
def FnExactBestOrderWrongFalsely : Prop := fnExactBestOrderRow.holds Try.pinned (OpenSpec.ofChange fnExactBestOrderWrong)

/-- 'laws.FnExactCountBestOrders': WHATEVER THE INPUT: true; the input reads as it did. -/
def fnExactCountBestOrdersSpec : ChangeSpec := { name := "fnExactCountBestOrders", fn := fun _ => fun
  | [d] => { results := [.lit (.bool true)], args := [d] }
  | _ => none }
def fnExactCountBestOrdersRow : OpenClaim := { program := "yteegbkbphfmooaa", sum := "fa7d4a00f6a9155d1f3b8660c18d735b6c0b9fb617339936ef16817dedb34c33", func := "loop.example/g03205/laws.FnExactCountBestOrders", spec := "fnExactCountBestOrders", plainKeys := false, apart := false }
def FnExactCountBestOrdersSaid : Prop := fnExactCountBestOrdersRow.holds Try.pinned (OpenSpec.ofChange fnExactCountBestOrdersSpec)

/-- ITS FALSE NEIGHBOUR: 'it returns false'. Refute it at one input. -/
def fnExactCountBestOrdersWrong : ChangeSpec := { name := "fnExactCountBestOrders", fn := fun _ => fun
  | [d] => { results := [.lit (.bool false)], args := [d] }
  | _ => none }
def FnExactCountBestOrdersWrongFalsely : Prop := fnExactCountBestOrdersRow.holds Try.pinned (OpenSpec.ofChange fnExactCountBestOrdersWrong)

/-- 'laws.FnExactImproveOrder': WHATEVER THE INPUT: true; the input reads as it did. -/
def fnExactImproveOrderSpec : ChangeSpec := { name := "fnExactImproveOrder", fn := fun _ => fun
  | [d1, d2] => { results := [.lit (.bool true)], args := [d1, d2] }
  | _ => none }
def fnExactImproveOrderRow : OpenClaim := { program := "yteegbkbphfmooaa", sum := "fa7d4a00f6a9155d1f3b8660c18d735b6c0b9fb617339936ef16817dedb34c33", func := "loop.example/g03205/laws.FnExactImproveOrder", spec := "fnExactImproveOrder", inPlace := ["slices.overlaps[int]"], plainKeys := false, apart := false }
def FnExactImproveOrderSaid : Prop := fnExactImproveOrderRow.holds Try.pinned (OpenSpec.ofChange fnExactImproveOrderSpec)

/-- ITS FALSE NEIGHBOUR: 'it returns false'. Refute it at one input. -/
def fnExactImproveOrderWrong : ChangeSpec := { name := "fnExactImproveOrder", fn := fun _ => fun
  | [d1, d2] => { results := [.lit (.bool false)], args := [d1, d2] }
  | _ => none }
def FnExactImproveOrderWrongFalsely : Prop := fnExactImproveOrderRow.holds Try.pinned (OpenSpec.ofChange fnExactImproveOrderWrong)

/-- 'laws.FnExactIsSettled': WHATEVER THE INPUT: true; the input reads as it did. -/
def fnExactIsSettledSpec : ChangeSpec := { name := "fnExactIsSettled", fn := fun _ => fun
  | [d1, d2] => { results := [.lit (.bool true)], args := [d1, d2] }
  | _ => none }
def fnExactIsSettledRow : OpenClaim := { program := "yteegbkbphfmooaa", sum := "fa7d4a00f6a9155d1f3b8660c18d735b6c0b9fb617339936ef16817dedb34c33", func := "loop.example/g03205/laws.FnExactIsSettled", spec := "fnExactIsSettled", inPlace := ["slices.overlaps[int]"], plainKeys := false, apart := false }
def FnExactIsSettledSaid : Prop := fnExactIsSettledRow.holds Try.pinned (OpenSpec.ofChange fnExactIsSettledSpec)

/-- ITS FALSE NEIGHBOUR: 'it returns false'. Refute it at one input. -/
def fnExactIsSettledWrong : ChangeSpec := { name := "fnExactIsSettled", fn := fun _ => fun
  | [d1, d2] => { results := [.lit (.bool false)], args := [d1, d2] }
  | _ => none }
def FnExactIsSettledWrongFalsely : Prop := fnExactIsSettledRow.holds Try.pinned (OpenSpec.ofChange fnExactIsSettledWrong)

/-- 'laws.FnExactBackGames': WHATEVER THE INPUT: true; the input reads as it did. -/
def fnExactBackGamesSpec : ChangeSpec := { name := "fnExactBackGames", fn := fun _ => fun
  | [d1, d2] => { results := [.lit (.bool true)], args := [d1, d2] }
  | _ => none }
def fnExactBackGamesRow : OpenClaim := { program := "yteegbkbphfmooaa", sum := "fa7d4a00f6a9155d1f3b8660c18d735b6c0b9fb617339936ef16817dedb34c33", func := "loop.example/g03205/laws.FnExactBackGames", spec := "fnExactBackGames", unfollowed := true, recurses := true, plainKeys := false, apart := false }
def FnExactBackGamesSaid : Prop := fnExactBackGamesRow.holds Try.pinned (OpenSpec.ofChange fnExactBackGamesSpec)

/-- ITS FALSE NEIGHBOUR: 'it returns false'. Refute it at one input. -/
def fnExactBackGamesWrong : ChangeSpec := { name := "fnExactBackGames", fn := fun _ => fun
  | [d1, d2] => { results := [.lit (.bool false)], args := [d1, d2] }
  | _ => none }
def FnExactBackGamesWrongFalsely : Prop := fnExactBackGamesRow.holds Try.pinned (OpenSpec.ofChange fnExactBackGamesWrong)

/-- 'laws.FnExactStraightenBy': WHATEVER THE INPUT: true; the input reads as it did. -/
def fnExactStraightenBySpec : ChangeSpec := { name := "fnExactStraightenBy", fn := fun _ => fun
  | [d1, d2] => { results := [.lit (.bool true)], args := [d1, d2] }
  | _ => none }
def fnExactStraightenByRow : OpenClaim := { program := "yteegbkbphfmooaa", sum := "fa7d4a00f6a9155d1f3b8660c18d735b6c0b9fb617339936ef16817dedb34c33", func := "loop.example/g03205/laws.FnExactStraightenBy", spec := "fnExactStraightenBy", plainKeys := false, apart := false }
def FnExactStraightenBySaid : Prop := fnExactStraightenByRow.holds Try.pinned (OpenSpec.ofChange fnExactStraightenBySpec)

/-- ITS FALSE NEIGHBOUR: 'it returns false'. Refute it at one input. -/
def fnExactStraightenByWrong : ChangeSpec := { name := "fnExactStraightenBy", fn := fun _ => fun
  | [d1, d2] => { results := [.lit (.bool false)], args := [d1, d2] }
  | _ => none }
def FnExactStraightenByWrongFalsely : Prop := fnExactStraightenByRow.holds Try.pinned (OpenSpec.ofChange fnExactStraightenByWrong)

/-- 'laws.FnExactFeedbackGames': WHATEVER THE INPUT: true; the input reads as it did. -/
def fnExactFeedbackGamesSpec : ChangeSpec := { name := "fnExactFeedbackGames", fn := fun _ => fun
  | [d] => { results := [.lit (.bool true)], args := [d] }
  | _ => none }
def fnExactFeedbackGamesRow : OpenClaim := { program := "yteegbkbphfmooaa", sum := "fa7d4a00f6a9155d1f3b8660c18d735b6c0b9fb617339936ef16817dedb34c33", func := "loop.example/g03205/laws.FnExactFeedbackGames", spec := "fnExactFeedbackGames", unfollowed := true, recurses := true, plainKeys := false, apart := false }
def FnExactFeedbackGamesSaid : Prop := fnExactFeedbackGamesRow.holds Try.pinned (OpenSpec.ofChange fnExactFeedbackGamesSpec)

/-- ITS FALSE NEIGHBOUR: 'it returns false'. Refute it at one input. -/
def fnExactFeedbackGamesWrong : ChangeSpec := { name := "fnExactFeedbackGames", fn := fun _ => fun
  | [d] => { results := [.lit (.bool false)], args := [d] }
  | _ => none }
def FnExactFeedbackGamesWrongFalsely : Prop := fnExactFeedbackGamesRow.holds Try.pinned (OpenSpec.ofChange fnExactFeedbackGamesWrong)

/- THE SECOND FORM. 'bulk': how many values and letters a reading holds, each counted each time it is reached (what is shared counts as often as it is met; a slice's spare places count too). A statement '..UptoSaid' is the law's where the arguments, and the package variables that the reading takes, are together of bulk at most 1048576: NARROWER than '..Said'. Prove '..Said' where nothing that the law and all that it calls make is longer than what came in: it says more and counts as full. Else prove '..UptoSaid'. A law counts once. -/
mutual
def uptoBulk {H : Type} : DataW H → Nat
  | .lit (.string bytes) => bytes.length + 1
  | .lit _ => 1
  | .nil => 1
  | .ptr d => uptoBulk d + 1
  | .slice elems spare => uptoBulkAll elems + uptoBulkAll spare + 1
  | .agg parts => uptoBulkAll parts + 1
  | .iface _ d => uptoBulk d + 1
  | .map entries => uptoBulkEntries entries + 1
  | .held _ => 1
def uptoBulkAll {H : Type} : List (DataW H) → Nat
  | [] => 0
  | d :: r => uptoBulk d + uptoBulkAll r
def uptoBulkEntries {H : Type} : List (Lit × DataW H) → Nat
  | [] => 0
  | x :: r => uptoBulkEntry x + uptoBulkEntries r
def uptoBulkEntry {H : Type} : Lit × DataW H → Nat
  | (.string bytes, d) => bytes.length + uptoBulk d + 1
  | (_, d) => uptoBulk d + 1
 end
def uptoSmall : (H : Type) → List (DataW H) → Bool := fun _ ds => decide (uptoBulkAll ds ≤ 1048576)
def OpenSpec.upto (s : _root_.Go.ChangeSpec) : _root_.Go.OpenSpec := { _root_.Go.OpenSpec.ofChange s with cond := some uptoSmall }

/-- 'laws.FnStrong', WHERE WHAT IT READS IS OF BULK AT MOST 1048576: true; the input reads as it did. -/
def fnStrongUptoRow : OpenClaim := { program := "yteegbkbphfmooaa", sum := "fa7d4a00f6a9155d1f3b8660c18d735b6c0b9fb617339936ef16817dedb34c33", func := "loop.example/g03205/laws.FnStrong", spec := "fnStrong", unfollowed := true, recurses := true, plainKeys := false, apart := false, narrowed := true }
def FnStrongUptoSaid : Prop := fnStrongUptoRow.holds Try.pinned (OpenSpec.upto fnStrongSpec)

/-- 'laws.FnOrders', WHERE WHAT IT READS IS OF BULK AT MOST 1048576: true; the input reads as it did. -/
def fnOrdersUptoRow : OpenClaim := { program := "yteegbkbphfmooaa", sum := "fa7d4a00f6a9155d1f3b8660c18d735b6c0b9fb617339936ef16817dedb34c33", func := "loop.example/g03205/laws.FnOrders", spec := "fnOrders", inPlace := ["slices.overlaps[int]"], unfollowed := true, recurses := true, plainKeys := false, apart := false, narrowed := true }
def FnOrdersUptoSaid : Prop := fnOrdersUptoRow.holds Try.pinned (OpenSpec.upto fnOrdersSpec)

/-- 'laws.FnExactOrderOk', WHERE WHAT IT READS IS OF BULK AT MOST 1048576: true; the input reads as it did. -/
def fnExactOrderOkUptoRow : OpenClaim := { program := "yteegbkbphfmooaa", sum := "fa7d4a00f6a9155d1f3b8660c18d735b6c0b9fb617339936ef16817dedb34c33", func := "loop.example/g03205/laws.FnExactOrderOk", spec := "fnExactOrderOk", plainKeys := false, apart := false, narrowed := true }
def FnExactOrderOkUptoSaid : Prop := fnExactOrderOkUptoRow.holds Try.pinned (OpenSpec.upto fnExactOrderOkSpec)

/-- 'laws.FnExactCountReversals', WHERE WHAT IT READS IS OF BULK AT MOST 1048576: true; the input reads as it did. -/
def fnExactCountReversalsUptoRow : OpenClaim := { program := "yteegbkbphfmooaa", sum := "fa7d4a00f6a9155d1f3b8660c18d735b6c0b9fb617339936ef16817dedb34c33", func := "loop.example/g03205/laws.FnExactCountReversals", spec := "fnExactCountReversals", plainKeys := false, apart := false, narrowed := true }
def FnExactCountReversalsUptoSaid : Prop := fnExactCountReversalsUptoRow.holds Try.pinned (OpenSpec.upto fnExactCountReversalsSpec)

/-- 'laws.FnExactFewestReversals', WHERE WHAT IT READS IS OF BULK AT MOST 1048576: true; the input reads as it did. -/
def fnExactFewestReversalsUptoRow : OpenClaim := { program := "yteegbkbphfmooaa", sum := "fa7d4a00f6a9155d1f3b8660c18d735b6c0b9fb617339936ef16817dedb34c33", func := "loop.example/g03205/laws.FnExactFewestReversals", spec := "fnExactFewestReversals", plainKeys := false, apart := false, narrowed := true }
def FnExactFewestReversalsUptoSaid : Prop := fnExactFewestReversalsUptoRow.holds Try.pinned (OpenSpec.upto fnExactFewestReversalsSpec)

/-- 'laws.FnExactBestOrder', WHERE WHAT IT READS IS OF BULK AT MOST 1048576: true; the input reads as it did. -/
def fnExactBestOrderUptoRow : OpenClaim := { program := "yteegbkbphfmooaa", sum := "fa7d4a00f6a9155d1f3b8660c18d735b6c0b9fb617339936ef16817dedb34c33", func := "loop.example/g03205/laws.FnExactBestOrder", spec := "fnExactBestOrder", plainKeys := false, apart := false, narrowed := true }
def FnExactBestOrderUptoSaid : Prop := fnExactBestOrderUptoRow.holds Try.pinned (OpenSpec.upto fnExactBestOrderSpec)

/-- 'laws.FnExactCountBestOrders', WHERE WHAT IT READS IS OF BULK AT MOST 1048576: true; the input reads as it did. -/
def fnExactCountBestOrdersUptoRow : OpenClaim := { program := "yteegbkbphfmooaa", sum := "fa7d4a00f6a9155d1f3b8660c18d735b6c0b9fb617339936ef16817dedb34c33", func := "loop.example/g03205/laws.FnExactCountBestOrders", spec := "fnExactCountBestOrders", plainKeys := false, apart := false, narrowed := true }
def FnExactCountBestOrdersUptoSaid : Prop := fnExactCountBestOrdersUptoRow.holds Try.pinned (OpenSpec.upto fnExactCountBestOrdersSpec)

/-- 'laws.FnExactImproveOrder', WHERE WHAT IT READS IS OF BULK AT MOST 1048576: true; the input reads as it did. -/
def fnExactImproveOrderUptoRow : OpenClaim := { program := "yteegbkbphfmooaa", sum := "fa7d4a00f6a9155d1f3b8660c18d735b6c0b9fb617339936ef16817dedb34c33", func := "loop.example/g03205/laws.FnExactImproveOrder", spec := "fnExactImproveOrder", inPlace := ["slices.overlaps[int]"], plainKeys := false, apart := false, narrowed := true }
def FnExactImproveOrderUptoSaid : Prop := fnExactImproveOrderUptoRow.holds Try.pinned (OpenSpec.upto fnExactImproveOrderSpec)

/-- 'laws.FnExactIsSettled', WHERE WHAT IT READS IS OF BULK AT MOST 1048576: true; the input reads as it did. -/
def fnExactIsSettledUptoRow : OpenClaim := { program := "yteegbkbphfmooaa", sum := "fa7d4a00f6a9155d1f3b8660c18d735b6c0b9fb617339936ef16817dedb34c33", func := "loop.example/g03205/laws.FnExactIsSettled", spec := "fnExactIsSettled", inPlace := ["slices.overlaps[int]"], plainKeys := false, apart := false, narrowed := true }
def FnExactIsSettledUptoSaid : Prop := fnExactIsSettledUptoRow.holds Try.pinned (OpenSpec.upto fnExactIsSettledSpec)

/-- 'laws.FnExactBackGames', WHERE WHAT IT READS IS OF BULK AT MOST 1048576: true; the input reads as it did. -/
def fnExactBackGamesUptoRow : OpenClaim := { program := "yteegbkbphfmooaa", sum := "fa7d4a00f6a9155d1f3b8660c18d735b6c0b9fb617339936ef16817dedb34c33", func := "loop.example/g03205/laws.FnExactBackGames", spec := "fnExactBackGames", unfollowed := true, recurses := true, plainKeys := false, apart := false, narrowed := true }
def FnExactBackGamesUptoSaid : Prop := fnExactBackGamesUptoRow.holds Try.pinned (OpenSpec.upto fnExactBackGamesSpec)

/-- 'laws.FnExactStraightenBy', WHERE WHAT IT READS IS OF BULK AT MOST 1048576: true; the input reads as it did. -/
def fnExactStraightenByUptoRow : OpenClaim := { program := "yteegbkbphfmooaa", sum := "fa7d4a00f6a9155d1f3b8660c18d735b6c0b9fb617339936ef16817dedb34c33", func := "loop.example/g03205/laws.FnExactStraightenBy", spec := "fnExactStraightenBy", plainKeys := false, apart := false, narrowed := true }
def FnExactStraightenByUptoSaid : Prop := fnExactStraightenByUptoRow.holds Try.pinned (OpenSpec.upto fnExactStraightenBySpec)

/-- 'laws.FnExactFeedbackGames', WHERE WHAT IT READS IS OF BULK AT MOST 1048576: true; the input reads as it did. -/
def fnExactFeedbackGamesUptoRow : OpenClaim := { program := "yteegbkbphfmooaa", sum := "fa7d4a00f6a9155d1f3b8660c18d735b6c0b9fb617339936ef16817dedb34c33", func := "loop.example/g03205/laws.FnExactFeedbackGames", spec := "fnExactFeedbackGames", unfollowed := true, recurses := true, plainKeys := false, apart := false, narrowed := true }
def FnExactFeedbackGamesUptoSaid : Prop := fnExactFeedbackGamesUptoRow.holds Try.pinned (OpenSpec.upto fnExactFeedbackGamesSpec)

end Rows
end Go.Proofs.Yteegbkbphfmooaa
