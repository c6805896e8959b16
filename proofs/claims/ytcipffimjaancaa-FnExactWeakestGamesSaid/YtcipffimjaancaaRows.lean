/-
  No cell of these rows narrows 'for every input' (looked for: loops, veiled, ifaces, maps, wideKeys, modest, calm, conditions, laid).
  DERIVED. THE GIVEN ROWS OF THIS SEAT. 9 by the template 'for every input the law returns true; each argument reads behind the call as it read before'; 0 by the template 'total and deterministic' (their statements: YtcipffimjaancaaTotals.lean).
  GIVEN WITH THE SEED: the statements are not yours to turn. If you find one false, say at which input.
  Laid BY PROGRAM, IN A SANDBOX (cutbox-rows.mjs): the forced cells as the released guide's own fill.sh prints them over the translation e94ee60278092682… (all of the seat's roots in one cut). By AI agents, Wed Nov 11 2026. No macro, syntax, notation, axiom, sorry.
-/
import Derived.Test.YtcipffimjaancaaChecked
import GoSem.Claim
import GoSem.ClaimJoined
import GoSem.ClaimMapViews
import Derived.JoinedTies
import Derived.KernelRfl
namespace Go.Proofs.Ytcipffimjaancaa
/- THE CELL 'sum', in the pinned program and in every row, IS THE sha256 OF THE DUMP (.gsa) THAT YtcipffimjaancaaProg.lean LOADS. Nothing in Lean hashes anything: it is a label: what it is worth is what the hold of that sum in a sandbox is worth. -/
noncomputable def Try.pinned : Pinned := { name := "ytcipffimjaancaa", sum := "e94ee602780926828e235892b7235f95ae8aa0257970a728602986fd61cfe6bb", checked := Try.checked }
namespace Rows
def none {H : Type} : Left H := { results := [], args := [] }

/-- 'laws.FnLandau': WHATEVER THE INPUT: true; the input reads as it did. -/
def fnLandauSpec : ChangeSpec := { name := "fnLandau", fn := fun _ => fun
  | [d] => { results := [.lit (.bool true)], args := [d] }
  | _ => none }
def fnLandauRow : OpenClaim := { program := "ytcipffimjaancaa", sum := "e94ee602780926828e235892b7235f95ae8aa0257970a728602986fd61cfe6bb", func := "loop.example/g03205/laws.FnLandau", spec := "fnLandau", unfollowed := true, recurses := true, apart := false }
def FnLandauSaid : Prop := fnLandauRow.holds Try.pinned (OpenSpec.ofChange fnLandauSpec)

/-- ITS FALSE NEIGHBOUR: 'it returns false'. Refute it at one input. -/
def fnLandauWrong : ChangeSpec := { name := "fnLandau", fn := fun _ => fun
  | [d] => { results := [.lit (.bool false)], args := [d] }
  | _ => none }
def FnLandauWrongFalsely : Prop := fnLandauRow.holds Try.pinned (OpenSpec.ofChange fnLandauWrong)

/-- 'laws.FnExactReachOf': WHATEVER THE INPUT: true; the input reads as it did. -/
def fnExactReachOfSpec : ChangeSpec := { name := "fnExactReachOf", fn := fun _ => fun
  | [d1, d2] => { results := [.lit (.bool true)], args := [d1, d2] }
  | _ => none }
def fnExactReachOfRow : OpenClaim := { program := "ytcipffimjaancaa", sum := "e94ee602780926828e235892b7235f95ae8aa0257970a728602986fd61cfe6bb", func := "loop.example/g03205/laws.FnExactReachOf", spec := "fnExactReachOf", unfollowed := true, recurses := true, apart := false }
def FnExactReachOfSaid : Prop := fnExactReachOfRow.holds Try.pinned (OpenSpec.ofChange fnExactReachOfSpec)

/-- ITS FALSE NEIGHBOUR: 'it returns false'. Refute it at one input. -/
def fnExactReachOfWrong : ChangeSpec := { name := "fnExactReachOf", fn := fun _ => fun
  | [d1, d2] => { results := [.lit (.bool false)], args := [d1, d2] }
  | _ => none }
def FnExactReachOfWrongFalsely : Prop := fnExactReachOfRow.holds Try.pinned (OpenSpec.ofChange fnExactReachOfWrong)

/-- 'laws.FnExactIsStrong': WHATEVER THE INPUT: true; the input reads as it did. -/
def fnExactIsStrongSpec : ChangeSpec := { name := "fnExactIsStrong", fn := fun _ => fun
  | [d] => { results := [.lit (.bool true)], args := [d] }
  | _ => none }
def fnExactIsStrongRow : OpenClaim := { program := "ytcipffimjaancaa", sum := "e94ee602780926828e235892b7235f95ae8aa0257970a728602986fd61cfe6bb", func := "loop.example/g03205/laws.FnExactIsStrong", spec := "fnExactIsStrong", unfollowed := true, recurses := true, apart := false }
def FnExactIsStrongSaid : Prop := fnExactIsStrongRow.holds Try.pinned (OpenSpec.ofChange fnExactIsStrongSpec)

/-- ITS FALSE NEIGHBOUR: 'it returns false'. Refute it at one input. -/
def fnExactIsStrongWrong : ChangeSpec := { name := "fnExactIsStrong", fn := fun _ => fun
  | [d] => { results := [.lit (.bool false)], args := [d] }
  | _ => none }
def FnExactIsStrongWrongFalsely : Prop := fnExactIsStrongRow.holds Try.pinned (OpenSpec.ofChange fnExactIsStrongWrong)

/-- 'laws.FnExactStrongParts': WHATEVER THE INPUT: true; the input reads as it did. -/
def fnExactStrongPartsSpec : ChangeSpec := { name := "fnExactStrongParts", fn := fun _ => fun
  | [d] => { results := [.lit (.bool true)], args := [d] }
  | _ => none }
def fnExactStrongPartsRow : OpenClaim := { program := "ytcipffimjaancaa", sum := "e94ee602780926828e235892b7235f95ae8aa0257970a728602986fd61cfe6bb", func := "loop.example/g03205/laws.FnExactStrongParts", spec := "fnExactStrongParts", unfollowed := true, recurses := true, apart := false }
def FnExactStrongPartsSaid : Prop := fnExactStrongPartsRow.holds Try.pinned (OpenSpec.ofChange fnExactStrongPartsSpec)

/-- ITS FALSE NEIGHBOUR: 'it returns false'. Refute it at one input. -/
def fnExactStrongPartsWrong : ChangeSpec := { name := "fnExactStrongParts", fn := fun _ => fun
  | [d] => { results := [.lit (.bool false)], args := [d] }
  | _ => none }
def FnExactStrongPartsWrongFalsely : Prop := fnExactStrongPartsRow.holds Try.pinned (OpenSpec.ofChange fnExactStrongPartsWrong)

/-- 'laws.FnExactPartOf': WHATEVER THE INPUT: true; the input reads as it did. -/
def fnExactPartOfSpec : ChangeSpec := { name := "fnExactPartOf", fn := fun _ => fun
  | [d1, d2] => { results := [.lit (.bool true)], args := [d1, d2] }
  | _ => none }
def fnExactPartOfRow : OpenClaim := { program := "ytcipffimjaancaa", sum := "e94ee602780926828e235892b7235f95ae8aa0257970a728602986fd61cfe6bb", func := "loop.example/g03205/laws.FnExactPartOf", spec := "fnExactPartOf", unfollowed := true, recurses := true, apart := false }
def FnExactPartOfSaid : Prop := fnExactPartOfRow.holds Try.pinned (OpenSpec.ofChange fnExactPartOfSpec)

/-- ITS FALSE NEIGHBOUR: 'it returns false'. Refute it at one input. -/
def fnExactPartOfWrong : ChangeSpec := { name := "fnExactPartOf", fn := fun _ => fun
  | [d1, d2] => { results := [.lit (.bool false)], args := [d1, d2] }
  | _ => none }
def FnExactPartOfWrongFalsely : Prop := fnExactPartOfRow.holds Try.pinned (OpenSpec.ofChange fnExactPartOfWrong)

/-- 'laws.FnExactIsTransitive': WHATEVER THE INPUT: true; the input reads as it did. -/
def fnExactIsTransitiveSpec : ChangeSpec := { name := "fnExactIsTransitive", fn := fun _ => fun
  | [d] => { results := [.lit (.bool true)], args := [d] }
  | _ => none }
def fnExactIsTransitiveRow : OpenClaim := { program := "ytcipffimjaancaa", sum := "e94ee602780926828e235892b7235f95ae8aa0257970a728602986fd61cfe6bb", func := "loop.example/g03205/laws.FnExactIsTransitive", spec := "fnExactIsTransitive", apart := false }
def FnExactIsTransitiveSaid : Prop := fnExactIsTransitiveRow.holds Try.pinned (OpenSpec.ofChange fnExactIsTransitiveSpec)

/-- ITS FALSE NEIGHBOUR: 'it returns false'. Refute it at one input. -/
def fnExactIsTransitiveWrong : ChangeSpec := { name := "fnExactIsTransitive", fn := fun _ => fun
  | [d] => { results := [.lit (.bool false)], args := [d] }
  | _ => none }
def FnExactIsTransitiveWrongFalsely : Prop := fnExactIsTransitiveRow.holds Try.pinned (OpenSpec.ofChange fnExactIsTransitiveWrong)

/-- 'laws.FnExactTransitiveOrder': WHATEVER THE INPUT: true; the input reads as it did. -/
def fnExactTransitiveOrderSpec : ChangeSpec := { name := "fnExactTransitiveOrder", fn := fun _ => fun
  | [d] => { results := [.lit (.bool true)], args := [d] }
  | _ => none }
def fnExactTransitiveOrderRow : OpenClaim := { program := "ytcipffimjaancaa", sum := "e94ee602780926828e235892b7235f95ae8aa0257970a728602986fd61cfe6bb", func := "loop.example/g03205/laws.FnExactTransitiveOrder", spec := "fnExactTransitiveOrder", apart := false }
def FnExactTransitiveOrderSaid : Prop := fnExactTransitiveOrderRow.holds Try.pinned (OpenSpec.ofChange fnExactTransitiveOrderSpec)

/-- ITS FALSE NEIGHBOUR: 'it returns false'. Refute it at one input. -/
def fnExactTransitiveOrderWrong : ChangeSpec := { name := "fnExactTransitiveOrder", fn := fun _ => fun
  | [d] => { results := [.lit (.bool false)], args := [d] }
  | _ => none }
def FnExactTransitiveOrderWrongFalsely : Prop := fnExactTransitiveOrderRow.holds Try.pinned (OpenSpec.ofChange fnExactTransitiveOrderWrong)

/-- 'laws.FnExactLargestTransitive': WHATEVER THE INPUT: true; the input reads as it did. -/
def fnExactLargestTransitiveSpec : ChangeSpec := { name := "fnExactLargestTransitive", fn := fun _ => fun
  | [d] => { results := [.lit (.bool true)], args := [d] }
  | _ => none }
def fnExactLargestTransitiveRow : OpenClaim := { program := "ytcipffimjaancaa", sum := "e94ee602780926828e235892b7235f95ae8aa0257970a728602986fd61cfe6bb", func := "loop.example/g03205/laws.FnExactLargestTransitive", spec := "fnExactLargestTransitive", apart := false }
def FnExactLargestTransitiveSaid : Prop := fnExactLargestTransitiveRow.holds Try.pinned (OpenSpec.ofChange fnExactLargestTransitiveSpec)

/-- ITS FALSE NEIGHBOUR: 'it returns false'. Refute it at one input. -/
def fnExactLargestTransitiveWrong : ChangeSpec := { name := "fnExactLargestTransitive", fn := fun _ => fun
  | [d] => { results := [.lit (.bool false)], args := [d] }
  | _ => none }
def FnExactLargestTransitiveWrongFalsely : Prop := fnExactLargestTransitiveRow.holds Try.pinned (OpenSpec.ofChange fnExactLargestTransitiveWrong)

/-- 'laws.FnExactWeakestGames': WHATEVER THE INPUT: true; the input reads as it did. -/
def fnExactWeakestGamesSpec : ChangeSpec := { name := "fnExactWeakestGames", fn := fun _ => fun
  | [d] => { results := [.lit (.bool true)], args := [d] }
  | _ => none }
def fnExactWeakestGamesRow : OpenClaim := { program := "ytcipffimjaancaa", sum := "e94ee602780926828e235892b7235f95ae8aa0257970a728602986fd61cfe6bb", func := "loop.example/g03205/laws.FnExactWeakestGames", spec := "fnExactWeakestGames", unfollowed := true, recurses := true, apart := false }
def FnExactWeakestGamesSaid : Prop := fnExactWeakestGamesRow.holds Try.pinned (OpenSpec.ofChange fnExactWeakestGamesSpec)

/-- ITS FALSE NEIGHBOUR: 'it returns false'. Refute it at one input. -/
def fnExactWeakestGamesWrong : ChangeSpec := { name := "fnExactWeakestGames", fn := fun _ => fun
  | [d] => { results := [.lit (.bool false)], args := [d] }
  | _ => none }
def FnExactWeakestGamesWrongFalsely : Prop := fnExactWeakestGamesRow.holds Try.pinned (OpenSpec.ofChange fnExactWeakestGamesWrong)

/- THE SECOND FORM. 'bulk': how many values and letters a reading holds, each counted each time it is reached (what is shared counts as often as it is met; a slice's spare places count too). A statement '..UptoSaid' is the law's where the arguments, and the package variables that the reading takes, are together of bulk at most 1048576: NARROWER than '..Said'. Prove '..Said' where nothing that the law and all that it calls make is longer than what came in: it says more and counts as full. Else prove '..UptoSaid'. A law counts once. -/
mutual
def uptoBulk {H : Type} : DataW H → Nat
  | .lit (.string bytes) => bytes.length + 1
  | .lit _ => 1
  | .nil => 1
  | .ptr d => uptoBulk d + 1
  | .slice elems spare => uptoBulkAll elems + uptoBulkAll spare + 1
  | .agg parts => uptoBulkAll parts + 1
  | .iface _ d => uptoBulk d + 1
  | .map entries => uptoBulkEntries entries + 1
  | .held _ => 1
def uptoBulkAll {H : Type} : List (DataW H) → Nat
  | [] => 0
  | d :: r => uptoBulk d + uptoBulkAll r
def uptoBulkEntries {H : Type} : List (Lit × DataW H) → Nat
  | [] => 0
  | x :: r => uptoBulkEntry x + uptoBulkEntries r
def uptoBulkEntry {H : Type} : Lit × DataW H → Nat
  | (.string bytes, d) => bytes.length + uptoBulk d + 1
  | (_, d) => uptoBulk d + 1
 end
def uptoSmall : (H : Type) → List (DataW H) → Bool := fun _ ds => decide (uptoBulkAll ds ≤ 1048576)
def OpenSpec.upto (s : _root_.Go.ChangeSpec) : _root_.Go.OpenSpec := { _root_.Go.OpenSpec.ofChange s with cond := some uptoSmall }

/-- 'laws.FnLandau', WHERE WHAT IT READS IS OF BULK AT MOST 1048576: true; the input reads as it did. -/
def fnLandauUptoRow : OpenClaim := { program := "ytcipffimjaancaa", sum := "e94ee602780926828e235892b7235f95ae8aa0257970a728602986fd61cfe6bb", func := "loop.example/g03205/laws.FnLandau", spec := "fnLandau", unfollowed := true, recurses := true, apart := false, narrowed := true }
def FnLandauUptoSaid : Prop := fnLandauUptoRow.holds Try.pinned (OpenSpec.upto fnLandauSpec)

/-- 'laws.FnExactReachOf', WHERE WHAT IT READS IS OF BULK AT MOST 1048576: true; the input reads as it did. -/
def fnExactReachOfUptoRow : OpenClaim := { program := "ytcipffimjaancaa", sum := "e94ee602780926828e235892b7235f95ae8aa0257970a728602986fd61cfe6bb", func := "loop.example/g03205/laws.FnExactReachOf", spec := "fnExactReachOf", unfollowed := true, recurses := true, apart := false, narrowed := true }
def FnExactReachOfUptoSaid : Prop := fnExactReachOfUptoRow.holds Try.pinned (OpenSpec.upto fnExactReachOfSpec)

/-- 'laws.FnExactIsStrong', WHERE WHAT IT READS IS OF BULK AT MOST 1048576: true; the input reads as it did. -/
def fnExactIsStrongUptoRow : OpenClaim := { program := "ytcipffimjaancaa", sum := "e94ee602780926828e235892b7235f95ae8aa0257970a728602986fd61cfe6bb", func := "loop.example/g03205/laws.FnExactIsStrong", spec := "fnExactIsStrong", unfollowed := true, recurses := true, apart := false, narrowed := true }
def FnExactIsStrongUptoSaid : Prop := fnExactIsStrongUptoRow.holds Try.pinned (OpenSpec.upto fnExactIsStrongSpec)

/-- 'laws.FnExactStrongParts', WHERE WHAT IT READS IS OF BULK AT MOST 1048576: true; the input reads as it did. -/
def fnExactStrongPartsUptoRow : OpenClaim := { program := "ytcipffimjaancaa", sum := "e94ee602780926828e235892b7235f95ae8aa0257970a728602986fd61cfe6bb", func := "loop.example/g03205/laws.FnExactStrongParts", spec := "fnExactStrongParts", unfollowed := true, recurses := true, apart := false, narrowed := true }
def FnExactStrongPartsUptoSaid : Prop := fnExactStrongPartsUptoRow.holds Try.pinned (OpenSpec.upto fnExactStrongPartsSpec)

/-- 'laws.FnExactPartOf', WHERE WHAT IT READS IS OF BULK AT MOST 1048576: true; the input reads as it did. -/
def fnExactPartOfUptoRow : OpenClaim := { program := "ytcipffimjaancaa", sum := "e94ee602780926828e235892b7235f95ae8aa0257970a728602986fd61cfe6bb", func := "loop.example/g03205/laws.FnExactPartOf", spec := "fnExactPartOf", unfollowed := true, recurses := true, apart := false, narrowed := true }
def FnExactPartOfUptoSaid : Prop := fnExactPartOfUptoRow.holds Try.pinned (OpenSpec.upto fnExactPartOfSpec)

/-- 'laws.FnExactIsTransitive', WHERE WHAT IT READS IS OF BULK AT MOST 1048576: true; the input reads as it did. -/
def fnExactIsTransitiveUptoRow : OpenClaim := { program := "ytcipffimjaancaa", sum := "e94ee602780926828e235892b7235f95ae8aa0257970a728602986fd61cfe6bb", func := "loop.example/g03205/laws.FnExactIsTransitive", spec := "fnExactIsTransitive", apart := false, narrowed := true }
def FnExactIsTransitiveUptoSaid : Prop := fnExactIsTransitiveUptoRow.holds Try.pinned (OpenSpec.upto fnExactIsTransitiveSpec)

/-- 'laws.FnExactTransitiveOrder', WHERE WHAT IT READS IS OF BULK AT MOST 1048576: true; the input reads as it did. -/
def fnExactTransitiveOrderUptoRow : OpenClaim := { program := "ytcipffimjaancaa", sum := "e94ee602780926828e235892b7235f95ae8aa0257970a728602986fd61cfe6bb", func := "loop.example/g03205/laws.FnExactTransitiveOrder", spec := "fnExactTransitiveOrder", apart := false, narrowed := true }
def FnExactTransitiveOrderUptoSaid : Prop := fnExactTransitiveOrderUptoRow.holds Try.pinned (OpenSpec.upto fnExactTransitiveOrderSpec)

/-- 'laws.FnExactLargestTransitive', WHERE WHAT IT READS IS OF BULK AT MOST 1048576: true; the input reads as it did. -/
def fnExactLargestTransitiveUptoRow : OpenClaim := { program := "ytcipffimjaancaa", sum := "e94ee602780926828e235892b7235f95ae8aa0257970a728602986fd61cfe6bb", func := "loop.example/g03205/laws.FnExactLargestTransitive", spec := "fnExactLargestTransitive", apart := false, narrowed := true }
def FnExactLargestTransitiveUptoSaid : Prop := fnExactLargestTransitiveUptoRow.holds Try.pinned (OpenSpec.upto fnExactLargestTransitiveSpec)

/-- 'laws.FnExactWeakestGames', WHERE WHAT IT READS IS OF BULK AT MOST 1048576: true; the input reads as it did. -/
def fnExactWeakestGamesUptoRow : OpenClaim := { program := "ytcipffimjaancaa", sum := "e94ee602780926828e235892b7235f95ae8aa0257970a728602986fd61cfe6bb", func := "loop.example/g03205/laws.FnExactWeakestGames", spec := "fnExactWeakestGames", unfollowed := true, recurses := true, apart := false, narrowed := true }
def FnExactWeakestGamesUptoSaid : Prop := fnExactWeakestGamesUptoRow.holds Try.pinned (OpenSpec.upto fnExactWeakestGamesSpec)

end Rows
end Go.Proofs.Ytcipffimjaancaa
