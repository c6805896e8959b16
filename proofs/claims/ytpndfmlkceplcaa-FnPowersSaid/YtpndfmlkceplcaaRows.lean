/-
  No cell of these rows narrows 'for every input' (looked for: loops, veiled, ifaces, maps, wideKeys, modest, calm, conditions, laid).
  DERIVED. THE GIVEN ROWS OF THIS SEAT. 9 by the template 'for every input the law returns true; each argument reads behind the call as it read before'; 0 by the template 'total and deterministic' (their statements: YtpndfmlkceplcaaTotals.lean).
  GIVEN WITH THE SEED: the statements are not yours to turn. If you find one false, say at which input.
  Laid BY PROGRAM, IN A SANDBOX (cutbox-rows.mjs): the forced cells as the released guide's own fill.sh prints them over the translation 274eafc1fd9a6c45… (all of the seat's roots in one cut). By AI agents, Wed Nov 11 2026. No macro, syntax, notation, axiom, sorry.
-/
import Derived.Test.YtpndfmlkceplcaaChecked
import GoSem.Claim
import GoSem.ClaimJoined
import GoSem.ClaimMapViews
import Derived.JoinedTies
import Derived.KernelRfl
namespace Go.Proofs.Ytpndfmlkceplcaa
/- THE CELL 'sum', in the pinned program and in every row, IS THE sha256 OF THE DUMP (.gsa) THAT YtpndfmlkceplcaaProg.lean LOADS. Nothing in Lean hashes anything: it is a label: what it is worth is what the hold of that sum in a sandbox is worth. -/
noncomputable def Try.pinned : Pinned := { name := "ytpndfmlkceplcaa", sum := "274eafc1fd9a6c45ee02edef288bc71493e670e817a9f64cce861a130c042a2a", checked := Try.checked }
namespace Rows
def none {H : Type} : Left H := { results := [], args := [] }

/-- 'laws.FnExactStrategyOk': WHATEVER THE INPUT: true; the input reads as it did. -/
def fnExactStrategyOkSpec : ChangeSpec := { name := "fnExactStrategyOk", fn := fun _ => fun
  | [d1, d2] => { results := [.lit (.bool true)], args := [d1, d2] }
  | _ => none }
def fnExactStrategyOkRow : OpenClaim := { program := "ytpndfmlkceplcaa", sum := "274eafc1fd9a6c45ee02edef288bc71493e670e817a9f64cce861a130c042a2a", func := "loop.example/g03205/laws.FnExactStrategyOk", spec := "fnExactStrategyOk", unfollowed := true, recurses := true, plainKeys := false, apart := false }
def FnExactStrategyOkSaid : Prop := fnExactStrategyOkRow.holds Try.pinned (OpenSpec.ofChange fnExactStrategyOkSpec)

/-- ITS FALSE NEIGHBOUR: 'it returns false'. Refute it at one input. -/
def fnExactStrategyOkWrong : ChangeSpec := { name := "fnExactStrategyOk", fn := fun _ => fun
  | [d1, d2] => { results := [.lit (.bool false)], args := [d1, d2] }
  | _ => none }
def FnExactStrategyOkWrongFalsely : Prop := fnExactStrategyOkRow.holds Try.pinned (OpenSpec.ofChange fnExactStrategyOkWrong)

/-- 'laws.FnExactBalanceOf': WHATEVER THE INPUT: true; the input reads as it did. -/
def fnExactBalanceOfSpec : ChangeSpec := { name := "fnExactBalanceOf", fn := fun _ => fun
  | [d1, d2, d3] => { results := [.lit (.bool true)], args := [d1, d2, d3] }
  | _ => none }
def fnExactBalanceOfRow : OpenClaim := { program := "ytpndfmlkceplcaa", sum := "274eafc1fd9a6c45ee02edef288bc71493e670e817a9f64cce861a130c042a2a", func := "loop.example/g03205/laws.FnExactBalanceOf", spec := "fnExactBalanceOf", unfollowed := true, recurses := true, plainKeys := false, apart := false }
def FnExactBalanceOfSaid : Prop := fnExactBalanceOfRow.holds Try.pinned (OpenSpec.ofChange fnExactBalanceOfSpec)

/-- ITS FALSE NEIGHBOUR: 'it returns false'. Refute it at one input. -/
def fnExactBalanceOfWrong : ChangeSpec := { name := "fnExactBalanceOf", fn := fun _ => fun
  | [d1, d2, d3] => { results := [.lit (.bool false)], args := [d1, d2, d3] }
  | _ => none }
def FnExactBalanceOfWrongFalsely : Prop := fnExactBalanceOfRow.holds Try.pinned (OpenSpec.ofChange fnExactBalanceOfWrong)

/-- 'laws.FnExactIsSafe': WHATEVER THE INPUT: true; the input reads as it did. -/
def fnExactIsSafeSpec : ChangeSpec := { name := "fnExactIsSafe", fn := fun _ => fun
  | [d1, d2] => { results := [.lit (.bool true)], args := [d1, d2] }
  | _ => none }
def fnExactIsSafeRow : OpenClaim := { program := "ytpndfmlkceplcaa", sum := "274eafc1fd9a6c45ee02edef288bc71493e670e817a9f64cce861a130c042a2a", func := "loop.example/g03205/laws.FnExactIsSafe", spec := "fnExactIsSafe", unfollowed := true, recurses := true, plainKeys := false, apart := false }
def FnExactIsSafeSaid : Prop := fnExactIsSafeRow.holds Try.pinned (OpenSpec.ofChange fnExactIsSafeSpec)

/-- ITS FALSE NEIGHBOUR: 'it returns false'. Refute it at one input. -/
def fnExactIsSafeWrong : ChangeSpec := { name := "fnExactIsSafe", fn := fun _ => fun
  | [d1, d2] => { results := [.lit (.bool false)], args := [d1, d2] }
  | _ => none }
def FnExactIsSafeWrongFalsely : Prop := fnExactIsSafeRow.holds Try.pinned (OpenSpec.ofChange fnExactIsSafeWrong)

/-- 'laws.FnExactBestAnswer': WHATEVER THE INPUT: true; the input reads as it did. -/
def fnExactBestAnswerSpec : ChangeSpec := { name := "fnExactBestAnswer", fn := fun _ => fun
  | [d1, d2] => { results := [.lit (.bool true)], args := [d1, d2] }
  | _ => none }
def fnExactBestAnswerRow : OpenClaim := { program := "ytpndfmlkceplcaa", sum := "274eafc1fd9a6c45ee02edef288bc71493e670e817a9f64cce861a130c042a2a", func := "loop.example/g03205/laws.FnExactBestAnswer", spec := "fnExactBestAnswer", unfollowed := true, recurses := true, plainKeys := false, apart := false }
def FnExactBestAnswerSaid : Prop := fnExactBestAnswerRow.holds Try.pinned (OpenSpec.ofChange fnExactBestAnswerSpec)

/-- ITS FALSE NEIGHBOUR: 'it returns false'. Refute it at one input. -/
def fnExactBestAnswerWrong : ChangeSpec := { name := "fnExactBestAnswer", fn := fun _ => fun
  | [d1, d2] => { results := [.lit (.bool false)], args := [d1, d2] }
  | _ => none }
def FnExactBestAnswerWrongFalsely : Prop := fnExactBestAnswerRow.holds Try.pinned (OpenSpec.ofChange fnExactBestAnswerWrong)

/-- 'laws.FnExactMixStrategies': WHATEVER THE INPUT: true; the input reads as it did. -/
def fnExactMixStrategiesSpec : ChangeSpec := { name := "fnExactMixStrategies", fn := fun _ => fun
  | [d1, d2, d3, d4] => { results := [.lit (.bool true)], args := [d1, d2, d3, d4] }
  | _ => none }
def fnExactMixStrategiesRow : OpenClaim := { program := "ytpndfmlkceplcaa", sum := "274eafc1fd9a6c45ee02edef288bc71493e670e817a9f64cce861a130c042a2a", func := "loop.example/g03205/laws.FnExactMixStrategies", spec := "fnExactMixStrategies", unfollowed := true, recurses := true, plainKeys := false, apart := false }
def FnExactMixStrategiesSaid : Prop := fnExactMixStrategiesRow.holds Try.pinned (OpenSpec.ofChange fnExactMixStrategiesSpec)

/-- ITS FALSE NEIGHBOUR: 'it returns false'. Refute it at one input. -/
def fnExactMixStrategiesWrong : ChangeSpec := { name := "fnExactMixStrategies", fn := fun _ => fun
  | [d1, d2, d3, d4] => { results := [.lit (.bool false)], args := [d1, d2, d3, d4] }
  | _ => none }
def FnExactMixStrategiesWrongFalsely : Prop := fnExactMixStrategiesRow.holds Try.pinned (OpenSpec.ofChange fnExactMixStrategiesWrong)

/-- 'laws.FnPowers': WHATEVER THE INPUT: true; the input reads as it did. -/
def fnPowersSpec : ChangeSpec := { name := "fnPowers", fn := fun _ => fun
  | [d] => { results := [.lit (.bool true)], args := [d] }
  | _ => none }
def fnPowersRow : OpenClaim := { program := "ytpndfmlkceplcaa", sum := "274eafc1fd9a6c45ee02edef288bc71493e670e817a9f64cce861a130c042a2a", func := "loop.example/g03205/laws.FnPowers", spec := "fnPowers", unfollowed := true, recurses := true, plainKeys := false, apart := false }
def FnPowersSaid : Prop := fnPowersRow.holds Try.pinned (OpenSpec.ofChange fnPowersSpec)

/-- ITS FALSE NEIGHBOUR: 'it returns false'. Refute it at one input. -/
def fnPowersWrong : ChangeSpec := { name := "fnPowers", fn := fun _ => fun
  | [d] => { results := [.lit (.bool false)], args := [d] }
  | _ => none }
def FnPowersWrongFalsely : Prop := fnPowersRow.holds Try.pinned (OpenSpec.ofChange fnPowersWrong)

/-- 'laws.FnOrders': WHATEVER THE INPUT: true; the input reads as it did. -/
def fnOrdersSpec : ChangeSpec := { name := "fnOrders", fn := fun _ => fun
  | [d] => { results := [.lit (.bool true)], args := [d] }
  | _ => none }
def fnOrdersRow : OpenClaim := { program := "ytpndfmlkceplcaa", sum := "274eafc1fd9a6c45ee02edef288bc71493e670e817a9f64cce861a130c042a2a", func := "loop.example/g03205/laws.FnOrders", spec := "fnOrders", inPlace := ["slices.overlaps[int]"], unfollowed := true, recurses := true, plainKeys := false, apart := false }
def FnOrdersSaid : Prop := fnOrdersRow.holds Try.pinned (OpenSpec.ofChange fnOrdersSpec)

/-- ITS FALSE NEIGHBOUR: 'it returns false'. Refute it at one input. -/
def fnOrdersWrong : ChangeSpec := { name := "fnOrders", fn := fun _ => fun
  | [d] => { results := [.lit (.bool false)], args := [d] }
  | _ => none }
def FnOrdersWrongFalsely : Prop := fnOrdersRow.holds Try.pinned (OpenSpec.ofChange fnOrdersWrong)

/-- 'laws.FnStrong': WHATEVER THE INPUT: true; the input reads as it did. -/
def fnStrongSpec : ChangeSpec := { name := "fnStrong", fn := fun _ => fun
  | [d] => { results := [.lit (.bool true)], args := [d] }
  | _ => none }
def fnStrongRow : OpenClaim := { program := "ytpndfmlkceplcaa", sum := "274eafc1fd9a6c45ee02edef288bc71493e670e817a9f64cce861a130c042a2a", func := "loop.example/g03205/laws.FnStrong", spec := "fnStrong", unfollowed := true, recurses := true, plainKeys := false, apart := false }
def FnStrongSaid : Prop := fnStrongRow.holds Try.pinned (OpenSpec.ofChange fnStrongSpec)

/-- ITS FALSE NEIGHBOUR: 'it returns false'. Refute it at one input. -/
def fnStrongWrong : ChangeSpec := { name := "fnStrong", fn := fun _ => fun
  | [d] => { results := [.lit (.bool false)], args := [d] }
  | _ => none }
def FnStrongWrongFalsely : Prop := fnStrongRow.holds Try.pinned (OpenSpec.ofChange fnStrongWrong)

/-- 'laws.FnLandau': WHATEVER THE INPUT: true; the input reads as it did. -/
def fnLandauSpec : ChangeSpec := { name := "fnLandau", fn := fun _ => fun
  | [d] => { results := [.lit (.bool true)], args := [d] }
  | _ => none }
def fnLandauRow : OpenClaim := { program := "ytpndfmlkceplcaa", sum := "274eafc1fd9a6c45ee02edef288bc71493e670e817a9f64cce861a130c042a2a", func := "loop.example/g03205/laws.FnLandau", spec := "fnLandau", unfollowed := true, recurses := true, plainKeys := false, apart := false }
def FnLandauSaid : Prop := fnLandauRow.holds Try.pinned (OpenSpec.ofChange fnLandauSpec)

/-- ITS FALSE NEIGHBOUR: 'it returns false'. Refute it at one input. -/
def fnLandauWrong : ChangeSpec := { name := "fnLandau", fn := fun _ => fun
  | [d] => { results := [.lit (.bool false)], args := [d] }
  | _ => none }
def FnLandauWrongFalsely : Prop := fnLandauRow.holds Try.pinned (OpenSpec.ofChange fnLandauWrong)

/- THE SECOND FORM. 'bulk': how many values and letters a reading holds, each counted each time it is reached (what is shared counts as often as it is met; a slice's spare places count too). A statement '..UptoSaid' is the law's where the arguments, and the package variables that the reading takes, are together of bulk at most 1048576: NARROWER than '..Said'. Prove '..Said' where nothing that the law and all that it calls make is longer than what came in: it says more and counts as full. Else prove '..UptoSaid'. A law counts once. -/
mutual
def uptoBulk {H : Type} : DataW H → Nat
  | .lit (.string bytes) => bytes.length + 1
  | .lit _ => 1
  | .nil => 1
  | .ptr d => uptoBulk d + 1
  | .slice elems spare => uptoBulkAll elems + uptoBulkAll spare + 1
  | .agg parts => uptoBulkAll parts + 1
  | .iface _ d => uptoBulk d + 1
  | .map entries => uptoBulkEntries entries + 1
  | .held _ => 1
def uptoBulkAll {H : Type} : List (DataW H) → Nat
  | [] => 0
  | d :: r => uptoBulk d + uptoBulkAll r
def uptoBulkEntries {H : Type} : List (Lit × DataW H) → Nat
  | [] => 0
  | x :: r => uptoBulkEntry x + uptoBulkEntries r
def uptoBulkEntry {H : Type} : Lit × DataW H → Nat
  | (.string bytes, d) => bytes.length + uptoBulk d + 1
  | (_, d) => uptoBulk d + 1
 end
def uptoSmall : (H : Type) → List (DataW H) → Bool := fun _ ds => decide (uptoBulkAll ds ≤ 1048576)
def OpenSpec.upto (s : _root_.Go.ChangeSpec) : _root_.Go.OpenSpec := { _root_.Go.OpenSpec.ofChange s with cond := some uptoSmall }

/-- 'laws.FnExactStrategyOk', WHERE WHAT IT READS IS OF BULK AT MOST 1048576: true; the input reads as it did. -/
def fnExactStrategyOkUptoRow : OpenClaim := { program := "ytpndfmlkceplcaa", sum := "274eafc1fd9a6c45ee02edef288bc71493e670e817a9f64cce861a130c042a2a", func := "loop.example/g03205/laws.FnExactStrategyOk", spec := "fnExactStrategyOk", unfollowed := true, recurses := true, plainKeys := false, apart := false, narrowed := true }
def FnExactStrategyOkUptoSaid : Prop := fnExactStrategyOkUptoRow.holds Try.pinned (OpenSpec.upto fnExactStrategyOkSpec)

/-- 'laws.FnExactBalanceOf', WHERE WHAT IT READS IS OF BULK AT MOST 1048576: true; the input reads as it did. -/
def fnExactBalanceOfUptoRow : OpenClaim := { program := "ytpndfmlkceplcaa", sum := "274eafc1fd9a6c45ee02edef288bc71493e670e817a9f64cce861a130c042a2a", func := "loop.example/g03205/laws.FnExactBalanceOf", spec := "fnExactBalanceOf", unfollowed := true, recurses := true, plainKeys := false, apart := false, narrowed := true }
def FnExactBalanceOfUptoSaid : Prop := fnExactBalanceOfUptoRow.holds Try.pinned (OpenSpec.upto fnExactBalanceOfSpec)

/-- 'laws.FnExactIsSafe', WHERE WHAT IT READS IS OF BULK AT MOST 1048576: true; the input reads as it did. -/
def fnExactIsSafeUptoRow : OpenClaim := { program := "ytpndfmlkceplcaa", sum := "274eafc1fd9a6c45ee02edef288bc71493e670e817a9f64cce861a130c042a2a", func := "loop.example/g03205/laws.FnExactIsSafe", spec := "fnExactIsSafe", unfollowed := true, recurses := true, plainKeys := false, apart := false, narrowed := true }
def FnExactIsSafeUptoSaid : Prop := fnExactIsSafeUptoRow.holds Try.pinned (OpenSpec.upto fnExactIsSafeSpec)

/-- 'laws.FnExactBestAnswer', WHERE WHAT IT READS IS OF BULK AT MOST 1048576: true; the input reads as it did. -/
def fnExactBestAnswerUptoRow : OpenClaim := { program := "ytpndfmlkceplcaa", sum := "274eafc1fd9a6c45ee02edef288bc71493e670e817a9f64cce861a130c042a2a", func := "loop.example/g03205/laws.FnExactBestAnswer", spec := "fnExactBestAnswer", unfollowed := true, recurses := true, plainKeys := false, apart := false, narrowed := true }
def FnExactBestAnswerUptoSaid : Prop := fnExactBestAnswerUptoRow.holds Try.pinned (OpenSpec.upto fnExactBestAnswerSpec)

/-- 'laws.FnExactMixStrategies', WHERE WHAT IT READS IS OF BULK AT MOST 1048576: true; the input reads as it did. -/
def fnExactMixStrategiesUptoRow : OpenClaim := { program := "ytpndfmlkceplcaa", sum := "274eafc1fd9a6c45ee02edef288bc71493e670e817a9f64cce861a130c042a2a", func := "loop.example/g03205/laws.FnExactMixStrategies", spec := "fnExactMixStrategies", unfollowed := true, recurses := true, plainKeys := false, apart := false, narrowed := true }
def FnExactMixStrategiesUptoSaid : Prop := fnExactMixStrategiesUptoRow.holds Try.pinned (OpenSpec.upto fnExactMixStrategiesSpec)

/-- 'laws.FnPowers', WHERE WHAT IT READS IS OF BULK AT MOST 1048576: true; the input reads as it did. -/
def fnPowersUptoRow : OpenClaim := { program := "ytpndfmlkceplcaa", sum := "274eafc1fd9a6c45ee02edef288bc71493e670e817a9f64cce861a130c042a2a", func := "loop.example/g03205/laws.FnPowers", spec := "fnPowers", unfollowed := true, recurses := true, plainKeys := false, apart := false, narrowed := true }
def FnPowersUptoSaid : Prop := fnPowersUptoRow.holds Try.pinned (OpenSpec.upto fnPowersSpec)

/-- 'laws.FnOrders', WHERE WHAT IT READS IS OF BULK AT MOST 1048576: true; the input reads as it did. -/
def fnOrdersUptoRow : OpenClaim := { program := "ytpndfmlkceplcaa", sum := "274eafc1fd9a6c45ee02edef288bc71493e670e817a9f64cce861a130c042a2a", func := "loop.example/g03205/laws.FnOrders", spec := "fnOrders", inPlace := ["slices.overlaps[int]"], unfollowed := true, recurses := true, plainKeys := false, apart := false, narrowed := true }
def FnOrdersUptoSaid : Prop := fnOrdersUptoRow.holds Try.pinned (OpenSpec.upto fnOrdersSpec)

/-- 'laws.FnStrong', WHERE WHAT IT READS IS OF BULK AT MOST 1048576: true; the input reads as it did. -/
def fnStrongUptoRow : OpenClaim := { program := "ytpndfmlkceplcaa", sum := "274eafc1fd9a6c45ee02edef288bc71493e670e817a9f64cce861a130c042a2a", func := "loop.example/g03205/laws.FnStrong", spec := "fnStrong", unfollowed := true, recurses := true, plainKeys := false, apart := false, narrowed := true }
def FnStrongUptoSaid : Prop := fnStrongUptoRow.holds Try.pinned (OpenSpec.upto fnStrongSpec)

/-- 'laws.FnLandau', WHERE WHAT IT READS IS OF BULK AT MOST 1048576: true; the input reads as it did. -/
def fnLandauUptoRow : OpenClaim := { program := "ytpndfmlkceplcaa", sum := "274eafc1fd9a6c45ee02edef288bc71493e670e817a9f64cce861a130c042a2a", func := "loop.example/g03205/laws.FnLandau", spec := "fnLandau", unfollowed := true, recurses := true, plainKeys := false, apart := false, narrowed := true }
def FnLandauUptoSaid : Prop := fnLandauUptoRow.holds Try.pinned (OpenSpec.upto fnLandauSpec)

end Rows
end Go.Proofs.Ytpndfmlkceplcaa
