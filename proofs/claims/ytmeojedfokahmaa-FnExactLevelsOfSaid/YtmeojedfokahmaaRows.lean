/-
  No cell of these rows narrows 'for every input' (looked for: loops, veiled, ifaces, maps, wideKeys, modest, calm, conditions, laid).
  DERIVED. THE GIVEN ROWS OF THIS SEAT. 10 by the template 'for every input the law returns true; each argument reads behind the call as it read before'; 0 by the template 'total and deterministic' (their statements: YtmeojedfokahmaaTotals.lean).
  GIVEN WITH THE SEED: the statements are not yours to turn. If you find one false, say at which input.
  Laid BY PROGRAM, IN A SANDBOX (cutbox-rows.mjs): the forced cells as the released guide's own fill.sh prints them over the translation a8e39cdb74c73220… (all of the seat's roots in one cut). By AI agents, Wed Nov 11 2026. No macro, syntax, notation, axiom, sorry.
-/
import Derived.Test.YtmeojedfokahmaaChecked
import GoSem.Claim
import GoSem.ClaimJoined
import GoSem.ClaimMapViews
import Derived.JoinedTies
import Derived.KernelRfl
namespace Go.Proofs.Ytmeojedfokahmaa
/- THE CELL 'sum', in the pinned program and in every row, IS THE sha256 OF THE DUMP (.gsa) THAT YtmeojedfokahmaaProg.lean LOADS. Nothing in Lean hashes anything: it is a label: what it is worth is what the hold of that sum in a sandbox is worth. -/
noncomputable def Try.pinned : Pinned := { name := "ytmeojedfokahmaa", sum := "a8e39cdb74c7322043e8d75964d9f7c02e31d0b7705ad3a9b07a727ce0076ad0", checked := Try.checked }
namespace Rows
def none {H : Type} : Left H := { results := [], args := [] }

/-- 'laws.FnOrders': WHATEVER THE INPUT: true; the input reads as it did. -/
def fnOrdersSpec : ChangeSpec := { name := "fnOrders", fn := fun _ => fun
  | [d] => { results := [.lit (.bool true)], args := [d] }
  | _ => none }
def fnOrdersRow : OpenClaim := { program := "ytmeojedfokahmaa", sum := "a8e39cdb74c7322043e8d75964d9f7c02e31d0b7705ad3a9b07a727ce0076ad0", func := "loop.example/g03205/laws.FnOrders", spec := "fnOrders", inPlace := ["slices.overlaps[int]"], unfollowed := true, recurses := true, plainKeys := false, apart := false }
def FnOrdersSaid : Prop := fnOrdersRow.holds Try.pinned (OpenSpec.ofChange fnOrdersSpec)

/-- ITS FALSE NEIGHBOUR: 'it returns false'. Refute it at one input. -/
def fnOrdersWrong : ChangeSpec := { name := "fnOrders", fn := fun _ => fun
  | [d] => { results := [.lit (.bool false)], args := [d] }
  | _ => none }
def FnOrdersWrongFalsely : Prop := fnOrdersRow.holds Try.pinned (OpenSpec.ofChange fnOrdersWrong)

/-- 'laws.FnPowers': WHATEVER THE INPUT: true; the input reads as it did. -/
def fnPowersSpec : ChangeSpec := { name := "fnPowers", fn := fun _ => fun
  | [d] => { results := [.lit (.bool true)], args := [d] }
  | _ => none }
def fnPowersRow : OpenClaim := { program := "ytmeojedfokahmaa", sum := "a8e39cdb74c7322043e8d75964d9f7c02e31d0b7705ad3a9b07a727ce0076ad0", func := "loop.example/g03205/laws.FnPowers", spec := "fnPowers", unfollowed := true, recurses := true, plainKeys := false, apart := false }
def FnPowersSaid : Prop := fnPowersRow.holds Try.pinned (OpenSpec.ofChange fnPowersSpec)

/-- ITS FALSE NEIGHBOUR: 'it returns false'. Refute it at one input. -/
def fnPowersWrong : ChangeSpec := { name := "fnPowers", fn := fun _ => fun
  | [d] => { results := [.lit (.bool false)], args := [d] }
  | _ => none }
def FnPowersWrongFalsely : Prop := fnPowersRow.holds Try.pinned (OpenSpec.ofChange fnPowersWrong)

/-- 'laws.FnExactSecondScores': WHATEVER THE INPUT: true; the input reads as it did. -/
def fnExactSecondScoresSpec : ChangeSpec := { name := "fnExactSecondScores", fn := fun _ => fun
  | [d] => { results := [.lit (.bool true)], args := [d] }
  | _ => none }
def fnExactSecondScoresRow : OpenClaim := { program := "ytmeojedfokahmaa", sum := "a8e39cdb74c7322043e8d75964d9f7c02e31d0b7705ad3a9b07a727ce0076ad0", func := "loop.example/g03205/laws.FnExactSecondScores", spec := "fnExactSecondScores", unfollowed := true, recurses := true, plainKeys := false, apart := false }
def FnExactSecondScoresSaid : Prop := fnExactSecondScoresRow.holds Try.pinned (OpenSpec.ofChange fnExactSecondScoresSpec)

/-- ITS FALSE NEIGHBOUR: 'it returns false'. Refute it at one input. -/
def fnExactSecondScoresWrong : ChangeSpec := { name := "fnExactSecondScores", fn := fun _ => fun
  | [d] => { results := [.lit (.bool false)], args := [d] }
  | _ => none }
def FnExactSecondScoresWrongFalsely : Prop := fnExactSecondScoresRow.holds Try.pinned (OpenSpec.ofChange fnExactSecondScoresWrong)

/-- 'laws.FnExactPowerScores': WHATEVER THE INPUT: true; the input reads as it did. -/
def fnExactPowerScoresSpec : ChangeSpec := { name := "fnExactPowerScores", fn := fun _ => fun
  | [d1, d2] => { results := [.lit (.bool true)], args := [d1, d2] }
  | _ => none }
def fnExactPowerScoresRow : OpenClaim := { program := "ytmeojedfokahmaa", sum := "a8e39cdb74c7322043e8d75964d9f7c02e31d0b7705ad3a9b07a727ce0076ad0", func := "loop.example/g03205/laws.FnExactPowerScores", spec := "fnExactPowerScores", unfollowed := true, recurses := true, plainKeys := false, apart := false }
def FnExactPowerScoresSaid : Prop := fnExactPowerScoresRow.holds Try.pinned (OpenSpec.ofChange fnExactPowerScoresSpec)

/-- ITS FALSE NEIGHBOUR: 'it returns false'. Refute it at one input. -/
def fnExactPowerScoresWrong : ChangeSpec := { name := "fnExactPowerScores", fn := fun _ => fun
  | [d1, d2] => { results := [.lit (.bool false)], args := [d1, d2] }
  | _ => none }
def FnExactPowerScoresWrongFalsely : Prop := fnExactPowerScoresRow.holds Try.pinned (OpenSpec.ofChange fnExactPowerScoresWrong)

/-- 'laws.FnExactRankBy': WHATEVER THE INPUT: true; the input reads as it did. -/
def fnExactRankBySpec : ChangeSpec := { name := "fnExactRankBy", fn := fun _ => fun
  | [d] => { results := [.lit (.bool true)], args := [d] }
  | _ => none }
def fnExactRankByRow : OpenClaim := { program := "ytmeojedfokahmaa", sum := "a8e39cdb74c7322043e8d75964d9f7c02e31d0b7705ad3a9b07a727ce0076ad0", func := "loop.example/g03205/laws.FnExactRankBy", spec := "fnExactRankBy", unfollowed := true, recurses := true, plainKeys := false, apart := false }
def FnExactRankBySaid : Prop := fnExactRankByRow.holds Try.pinned (OpenSpec.ofChange fnExactRankBySpec)

/-- ITS FALSE NEIGHBOUR: 'it returns false'. Refute it at one input. -/
def fnExactRankByWrong : ChangeSpec := { name := "fnExactRankBy", fn := fun _ => fun
  | [d] => { results := [.lit (.bool false)], args := [d] }
  | _ => none }
def FnExactRankByWrongFalsely : Prop := fnExactRankByRow.holds Try.pinned (OpenSpec.ofChange fnExactRankByWrong)

/-- 'laws.FnExactOrderBy': WHATEVER THE INPUT: true; the input reads as it did. -/
def fnExactOrderBySpec : ChangeSpec := { name := "fnExactOrderBy", fn := fun _ => fun
  | [d] => { results := [.lit (.bool true)], args := [d] }
  | _ => none }
def fnExactOrderByRow : OpenClaim := { program := "ytmeojedfokahmaa", sum := "a8e39cdb74c7322043e8d75964d9f7c02e31d0b7705ad3a9b07a727ce0076ad0", func := "loop.example/g03205/laws.FnExactOrderBy", spec := "fnExactOrderBy", unfollowed := true, recurses := true, plainKeys := false, apart := false }
def FnExactOrderBySaid : Prop := fnExactOrderByRow.holds Try.pinned (OpenSpec.ofChange fnExactOrderBySpec)

/-- ITS FALSE NEIGHBOUR: 'it returns false'. Refute it at one input. -/
def fnExactOrderByWrong : ChangeSpec := { name := "fnExactOrderBy", fn := fun _ => fun
  | [d] => { results := [.lit (.bool false)], args := [d] }
  | _ => none }
def FnExactOrderByWrongFalsely : Prop := fnExactOrderByRow.holds Try.pinned (OpenSpec.ofChange fnExactOrderByWrong)

/-- 'laws.FnExactPowerOrder': WHATEVER THE INPUT: true; the input reads as it did. -/
def fnExactPowerOrderSpec : ChangeSpec := { name := "fnExactPowerOrder", fn := fun _ => fun
  | [d1, d2] => { results := [.lit (.bool true)], args := [d1, d2] }
  | _ => none }
def fnExactPowerOrderRow : OpenClaim := { program := "ytmeojedfokahmaa", sum := "a8e39cdb74c7322043e8d75964d9f7c02e31d0b7705ad3a9b07a727ce0076ad0", func := "loop.example/g03205/laws.FnExactPowerOrder", spec := "fnExactPowerOrder", unfollowed := true, recurses := true, plainKeys := false, apart := false }
def FnExactPowerOrderSaid : Prop := fnExactPowerOrderRow.holds Try.pinned (OpenSpec.ofChange fnExactPowerOrderSpec)

/-- ITS FALSE NEIGHBOUR: 'it returns false'. Refute it at one input. -/
def fnExactPowerOrderWrong : ChangeSpec := { name := "fnExactPowerOrder", fn := fun _ => fun
  | [d1, d2] => { results := [.lit (.bool false)], args := [d1, d2] }
  | _ => none }
def FnExactPowerOrderWrongFalsely : Prop := fnExactPowerOrderRow.holds Try.pinned (OpenSpec.ofChange fnExactPowerOrderWrong)

/-- 'laws.FnExactDefeatScores': WHATEVER THE INPUT: true; the input reads as it did. -/
def fnExactDefeatScoresSpec : ChangeSpec := { name := "fnExactDefeatScores", fn := fun _ => fun
  | [d] => { results := [.lit (.bool true)], args := [d] }
  | _ => none }
def fnExactDefeatScoresRow : OpenClaim := { program := "ytmeojedfokahmaa", sum := "a8e39cdb74c7322043e8d75964d9f7c02e31d0b7705ad3a9b07a727ce0076ad0", func := "loop.example/g03205/laws.FnExactDefeatScores", spec := "fnExactDefeatScores", unfollowed := true, recurses := true, plainKeys := false, apart := false }
def FnExactDefeatScoresSaid : Prop := fnExactDefeatScoresRow.holds Try.pinned (OpenSpec.ofChange fnExactDefeatScoresSpec)

/-- ITS FALSE NEIGHBOUR: 'it returns false'. Refute it at one input. -/
def fnExactDefeatScoresWrong : ChangeSpec := { name := "fnExactDefeatScores", fn := fun _ => fun
  | [d] => { results := [.lit (.bool false)], args := [d] }
  | _ => none }
def FnExactDefeatScoresWrongFalsely : Prop := fnExactDefeatScoresRow.holds Try.pinned (OpenSpec.ofChange fnExactDefeatScoresWrong)

/-- 'laws.FnExactLevelsOf': WHATEVER THE INPUT: true; the input reads as it did. -/
def fnExactLevelsOfSpec : ChangeSpec := { name := "fnExactLevelsOf", fn := fun _ => fun
  | [d] => { results := [.lit (.bool true)], args := [d] }
  | _ => none }
def fnExactLevelsOfRow : OpenClaim := { program := "ytmeojedfokahmaa", sum := "a8e39cdb74c7322043e8d75964d9f7c02e31d0b7705ad3a9b07a727ce0076ad0", func := "loop.example/g03205/laws.FnExactLevelsOf", spec := "fnExactLevelsOf", unfollowed := true, recurses := true, plainKeys := false, apart := false }
def FnExactLevelsOfSaid : Prop := fnExactLevelsOfRow.holds Try.pinned (OpenSpec.ofChange fnExactLevelsOfSpec)

/-- ITS FALSE NEIGHBOUR: 'it returns false'. Refute it at one input. -/
def fnExactLevelsOfWrong : ChangeSpec := { name := "fnExactLevelsOf", fn := fun _ => fun
  | [d] => { results := [.lit (.bool false)], args := [d] }
  | _ => none }
def FnExactLevelsOfWrongFalsely : Prop := fnExactLevelsOfRow.holds Try.pinned (OpenSpec.ofChange fnExactLevelsOfWrong)

/-- 'laws.FnExactDoAgree': WHATEVER THE INPUT: true; the input reads as it did. -/
def fnExactDoAgreeSpec : ChangeSpec := { name := "fnExactDoAgree", fn := fun _ => fun
  | [d1, d2] => { results := [.lit (.bool true)], args := [d1, d2] }
  | _ => none }
def fnExactDoAgreeRow : OpenClaim := { program := "ytmeojedfokahmaa", sum := "a8e39cdb74c7322043e8d75964d9f7c02e31d0b7705ad3a9b07a727ce0076ad0", func := "loop.example/g03205/laws.FnExactDoAgree", spec := "fnExactDoAgree", plainKeys := false, apart := false }
def FnExactDoAgreeSaid : Prop := fnExactDoAgreeRow.holds Try.pinned (OpenSpec.ofChange fnExactDoAgreeSpec)

/-- ITS FALSE NEIGHBOUR: 'it returns false'. Refute it at one input. -/
def fnExactDoAgreeWrong : ChangeSpec := { name := "fnExactDoAgree", fn := fun _ => fun
  | [d1, d2] => { results := [.lit (.bool false)], args := [d1, d2] }
  | _ => none }
def FnExactDoAgreeWrongFalsely : Prop := fnExactDoAgreeRow.holds Try.pinned (OpenSpec.ofChange fnExactDoAgreeWrong)

/- THE SECOND FORM. 'bulk': how many values and letters a reading holds, each counted each time it is reached (what is shared counts as often as it is met; a slice's spare places count too). A statement '..UptoSaid' is the law's where the arguments, and the package variables that the reading takes, are together of bulk at most 1048576: NARROWER than '..Said'. Prove '..Said' where nothing that the law and all that it calls make is longer than what came in: it says more and counts as full. Else prove '..UptoSaid'. A law counts once. -/
mutual
def uptoBulk {H : Type} : DataW H → Nat
  | .lit (.string bytes) => bytes.length + 1
  | .lit _ => 1
  | .nil => 1
  | .ptr d => uptoBulk d + 1
  | .slice elems spare => uptoBulkAll elems + uptoBulkAll spare + 1
  | .agg parts => uptoBulkAll parts + 1
  | .iface _ d => uptoBulk d + 1
  | .map entries => uptoBulkEntries entries + 1
  | .held _ => 1
def uptoBulkAll {H : Type} : List (DataW H) → Nat
  | [] => 0
  | d :: r => uptoBulk d + uptoBulkAll r
def uptoBulkEntries {H : Type} : List (Lit × DataW H) → Nat
  | [] => 0
  | x :: r => uptoBulkEntry x + uptoBulkEntries r
def uptoBulkEntry {H : Type} : Lit × DataW H → Nat
  | (.string bytes, d) => bytes.length + uptoBulk d + 1
  | (_, d) => uptoBulk d + 1
 end
def uptoSmall : (H : Type) → List (DataW H) → Bool := fun _ ds => decide (uptoBulkAll ds ≤ 1048576)
def OpenSpec.upto (s : _root_.Go.ChangeSpec) : _root_.Go.OpenSpec := { _root_.Go.OpenSpec.ofChange s with cond := some uptoSmall }

/-- 'laws.FnOrders', WHERE WHAT IT READS IS OF BULK AT MOST 1048576: true; the input reads as it did. -/
def fnOrdersUptoRow : OpenClaim := { program := "ytmeojedfokahmaa", sum := "a8e39cdb74c7322043e8d75964d9f7c02e31d0b7705ad3a9b07a727ce0076ad0", func := "loop.example/g03205/laws.FnOrders", spec := "fnOrders", inPlace := ["slices.overlaps[int]"], unfollowed := true, recurses := true, plainKeys := false, apart := false, narrowed := true }
def FnOrdersUptoSaid : Prop := fnOrdersUptoRow.holds Try.pinned (OpenSpec.upto fnOrdersSpec)

/-- 'laws.FnPowers', WHERE WHAT IT READS IS OF BULK AT MOST 1048576: true; the input reads as it did. -/
def fnPowersUptoRow : OpenClaim := { program := "ytmeojedfokahmaa", sum := "a8e39cdb74c7322043e8d75964d9f7c02e31d0b7705ad3a9b07a727ce0076ad0", func := "loop.example/g03205/laws.FnPowers", spec := "fnPowers", unfollowed := true, recurses := true, plainKeys := false, apart := false, narrowed := true }
def FnPowersUptoSaid : Prop := fnPowersUptoRow.holds Try.pinned (OpenSpec.upto fnPowersSpec)

/-- 'laws.FnExactSecondScores', WHERE WHAT IT READS IS OF BULK AT MOST 1048576: true; the input reads as it did. -/
def fnExactSecondScoresUptoRow : OpenClaim := { program := "ytmeojedfokahmaa", sum := "a8e39cdb74c7322043e8d75964d9f7c02e31d0b7705ad3a9b07a727ce0076ad0", func := "loop.example/g03205/laws.FnExactSecondScores", spec := "fnExactSecondScores", unfollowed := true, recurses := true, plainKeys := false, apart := false, narrowed := true }
def FnExactSecondScoresUptoSaid : Prop := fnExactSecondScoresUptoRow.holds Try.pinned (OpenSpec.upto fnExactSecondScoresSpec)

/-- 'laws.FnExactPowerScores', WHERE WHAT IT READS IS OF BULK AT MOST 1048576: true; the input reads as it did. -/
def fnExactPowerScoresUptoRow : OpenClaim := { program := "ytmeojedfokahmaa", sum := "a8e39cdb74c7322043e8d75964d9f7c02e31d0b7705ad3a9b07a727ce0076ad0", func := "loop.example/g03205/laws.FnExactPowerScores", spec := "fnExactPowerScores", unfollowed := true, recurses := true, plainKeys := false, apart := false, narrowed := true }
def FnExactPowerScoresUptoSaid : Prop := fnExactPowerScoresUptoRow.holds Try.pinned (OpenSpec.upto fnExactPowerScoresSpec)

/-- 'laws.FnExactRankBy', WHERE WHAT IT READS IS OF BULK AT MOST 1048576: true; the input reads as it did. -/
def fnExactRankByUptoRow : OpenClaim := { program := "ytmeojedfokahmaa", sum := "a8e39cdb74c7322043e8d75964d9f7c02e31d0b7705ad3a9b07a727ce0076ad0", func := "loop.example/g03205/laws.FnExactRankBy", spec := "fnExactRankBy", unfollowed := true, recurses := true, plainKeys := false, apart := false, narrowed := true }
def FnExactRankByUptoSaid : Prop := fnExactRankByUptoRow.holds Try.pinned (OpenSpec.upto fnExactRankBySpec)

/-- 'laws.FnExactOrderBy', WHERE WHAT IT READS IS OF BULK AT MOST 1048576: true; the input reads as it did. -/
def fnExactOrderByUptoRow : OpenClaim := { program := "ytmeojedfokahmaa", sum := "a8e39cdb74c7322043e8d75964d9f7c02e31d0b7705ad3a9b07a727ce0076ad0", func := "loop.example/g03205/laws.FnExactOrderBy", spec := "fnExactOrderBy", unfollowed := true, recurses := true, plainKeys := false, apart := false, narrowed := true }
def FnExactOrderByUptoSaid : Prop := fnExactOrderByUptoRow.holds Try.pinned (OpenSpec.upto fnExactOrderBySpec)

/-- 'laws.FnExactPowerOrder', WHERE WHAT IT READS IS OF BULK AT MOST 1048576: true; the input reads as it did. -/
def fnExactPowerOrderUptoRow : OpenClaim := { program := "ytmeojedfokahmaa", sum := "a8e39cdb74c7322043e8d75964d9f7c02e31d0b7705ad3a9b07a727ce0076ad0", func := "loop.example/g03205/laws.FnExactPowerOrder", spec := "fnExactPowerOrder", unfollowed := true, recurses := true, plainKeys := false, apart := false, narrowed := true }
def FnExactPowerOrderUptoSaid : Prop := fnExactPowerOrderUptoRow.holds Try.pinned (OpenSpec.upto fnExactPowerOrderSpec)

/-- 'laws.FnExactDefeatScores', WHERE WHAT IT READS IS OF BULK AT MOST 1048576: true; the input reads as it did. -/
def fnExactDefeatScoresUptoRow : OpenClaim := { program := "ytmeojedfokahmaa", sum := "a8e39cdb74c7322043e8d75964d9f7c02e31d0b7705ad3a9b07a727ce0076ad0", func := "loop.example/g03205/laws.FnExactDefeatScores", spec := "fnExactDefeatScores", unfollowed := true, recurses := true, plainKeys := false, apart := false, narrowed := true }
def FnExactDefeatScoresUptoSaid : Prop := fnExactDefeatScoresUptoRow.holds Try.pinned (OpenSpec.upto fnExactDefeatScoresSpec)

/-- 'laws.FnExactLevelsOf', WHERE WHAT IT READS IS OF BULK AT MOST 1048576: true; the input reads as it did. -/
def fnExactLevelsOfUptoRow : OpenClaim := { program := "ytmeojedfokahmaa", sum := "a8e39cdb74c7322043e8d75964d9f7c02e31d0b7705ad3a9b07a727ce0076ad0", func := "loop.example/g03205/laws.FnExactLevelsOf", spec := "fnExactLevelsOf", unfollowed := true, recurses := true, plainKeys := false, apart := false, narrowed := true }
def FnExactLevelsOfUptoSaid : Prop := fnExactLevelsOfUptoRow.holds Try.pinned (OpenSpec.upto fnExactLevelsOfSpec)

/-- 'laws.FnExactDoAgree', WHERE WHAT IT READS IS OF BULK AT MOST 1048576: true; the input reads as it did. -/
def fnExactDoAgreeUptoRow : OpenClaim := { program := "ytmeojedfokahmaa", sum := "a8e39cdb74c7322043e8d75964d9f7c02e31d0b7705ad3a9b07a727ce0076ad0", func := "loop.example/g03205/laws.FnExactDoAgree", spec := "fnExactDoAgree", plainKeys := false, apart := false, narrowed := true }
def FnExactDoAgreeUptoSaid : Prop := fnExactDoAgreeUptoRow.holds Try.pinned (OpenSpec.upto fnExactDoAgreeSpec)

end Rows
end Go.Proofs.Ytmeojedfokahmaa
