/-
  No cell of these rows narrows 'for every input' (looked for: loops, veiled, ifaces, maps, wideKeys, modest, calm, conditions, laid).
  DERIVED. THE GIVEN ROWS OF THIS SEAT. 11 by the template 'for every input the law returns true; each argument reads behind the call as it read before'; 0 by the template 'total and deterministic' (their statements: YteiadhfjpohmdaaTotals.lean).
  GIVEN WITH THE SEED: the statements are not yours to turn. If you find one false, say at which input.
  Laid BY PROGRAM, IN A SANDBOX (cutbox-rows.mjs): the forced cells as the released guide's own fill.sh prints them over the translation f3f62089fff3294c… (all of the seat's roots in one cut). By AI agents, Wed Nov 11 2026. No macro, syntax, notation, axiom, sorry.
-/
import Derived.Test.YteiadhfjpohmdaaChecked
import GoSem.Claim
import GoSem.ClaimJoined
import GoSem.ClaimMapViews
import Derived.JoinedTies
import Derived.KernelRfl
namespace Go.Proofs.Yteiadhfjpohmdaa
/- THE CELL 'sum', in the pinned program and in every row, IS THE sha256 OF THE DUMP (.gsa) THAT YteiadhfjpohmdaaProg.lean LOADS. Nothing in Lean hashes anything: it is a label: what it is worth is what the hold of that sum in a sandbox is worth. -/
noncomputable def Try.pinned : Pinned := { name := "yteiadhfjpohmdaa", sum := "f3f62089fff3294cfae62fc675140861adbcd6bc4261086e72eb7533c04b7d64", checked := Try.checked }
namespace Rows
def none {H : Type} : Left H := { results := [], args := [] }

/-- 'laws.FnExactIsConnection': WHATEVER THE INPUT: true; the input reads as it did. -/
def fnExactIsConnectionSpec : ChangeSpec := { name := "fnExactIsConnection", fn := fun _ => fun
  | [d1, d2] => { results := [.lit (.bool true)], args := [d1, d2] }
  | _ => none }
def fnExactIsConnectionRow : OpenClaim := { program := "yteiadhfjpohmdaa", sum := "f3f62089fff3294cfae62fc675140861adbcd6bc4261086e72eb7533c04b7d64", func := "loop.example/g03205/laws.FnExactIsConnection", spec := "fnExactIsConnection", plainKeys := false, apart := false }
def FnExactIsConnectionSaid : Prop := fnExactIsConnectionRow.holds Try.pinned (OpenSpec.ofChange fnExactIsConnectionSpec)

/-- ITS FALSE NEIGHBOUR: 'it returns false'. Refute it at one input. -/
def fnExactIsConnectionWrong : ChangeSpec := { name := "fnExactIsConnection", fn := fun _ => fun
  | [d1, d2] => { results := [.lit (.bool false)], args := [d1, d2] }
  | _ => none }
def FnExactIsConnectionWrongFalsely : Prop := fnExactIsConnectionRow.holds Try.pinned (OpenSpec.ofChange fnExactIsConnectionWrong)

/-- 'laws.FnExactRotationalTour': WHATEVER THE INPUT: true; the input reads as it did. -/
def fnExactRotationalTourSpec : ChangeSpec := { name := "fnExactRotationalTour", fn := fun _ => fun
  | [d1, d2] => { results := [.lit (.bool true)], args := [d1, d2] }
  | _ => none }
def fnExactRotationalTourRow : OpenClaim := { program := "yteiadhfjpohmdaa", sum := "f3f62089fff3294cfae62fc675140861adbcd6bc4261086e72eb7533c04b7d64", func := "loop.example/g03205/laws.FnExactRotationalTour", spec := "fnExactRotationalTour", plainKeys := false, apart := false }
def FnExactRotationalTourSaid : Prop := fnExactRotationalTourRow.holds Try.pinned (OpenSpec.ofChange fnExactRotationalTourSpec)

/-- ITS FALSE NEIGHBOUR: 'it returns false'. Refute it at one input. -/
def fnExactRotationalTourWrong : ChangeSpec := { name := "fnExactRotationalTour", fn := fun _ => fun
  | [d1, d2] => { results := [.lit (.bool false)], args := [d1, d2] }
  | _ => none }
def FnExactRotationalTourWrongFalsely : Prop := fnExactRotationalTourRow.holds Try.pinned (OpenSpec.ofChange fnExactRotationalTourWrong)

/-- 'laws.FnExactSquareTour': WHATEVER THE INPUT: true; the input reads as it did. -/
def fnExactSquareTourSpec : ChangeSpec := { name := "fnExactSquareTour", fn := fun _ => fun
  | [d] => { results := [.lit (.bool true)], args := [d] }
  | _ => none }
def fnExactSquareTourRow : OpenClaim := { program := "yteiadhfjpohmdaa", sum := "f3f62089fff3294cfae62fc675140861adbcd6bc4261086e72eb7533c04b7d64", func := "loop.example/g03205/laws.FnExactSquareTour", spec := "fnExactSquareTour", plainKeys := false, apart := false }
def FnExactSquareTourSaid : Prop := fnExactSquareTourRow.holds Try.pinned (OpenSpec.ofChange fnExactSquareTourSpec)

/-- ITS FALSE NEIGHBOUR: 'it returns false'. Refute it at one input. -/
def fnExactSquareTourWrong : ChangeSpec := { name := "fnExactSquareTour", fn := fun _ => fun
  | [d] => { results := [.lit (.bool false)], args := [d] }
  | _ => none }
def FnExactSquareTourWrongFalsely : Prop := fnExactSquareTourRow.holds Try.pinned (OpenSpec.ofChange fnExactSquareTourWrong)

/-- 'laws.FnExactIsRotational': WHATEVER THE INPUT: true; the input reads as it did. -/
def fnExactIsRotationalSpec : ChangeSpec := { name := "fnExactIsRotational", fn := fun _ => fun
  | [d] => { results := [.lit (.bool true)], args := [d] }
  | _ => none }
def fnExactIsRotationalRow : OpenClaim := { program := "yteiadhfjpohmdaa", sum := "f3f62089fff3294cfae62fc675140861adbcd6bc4261086e72eb7533c04b7d64", func := "loop.example/g03205/laws.FnExactIsRotational", spec := "fnExactIsRotational", unfollowed := true, recurses := true, plainKeys := false, apart := false }
def FnExactIsRotationalSaid : Prop := fnExactIsRotationalRow.holds Try.pinned (OpenSpec.ofChange fnExactIsRotationalSpec)

/-- ITS FALSE NEIGHBOUR: 'it returns false'. Refute it at one input. -/
def fnExactIsRotationalWrong : ChangeSpec := { name := "fnExactIsRotational", fn := fun _ => fun
  | [d] => { results := [.lit (.bool false)], args := [d] }
  | _ => none }
def FnExactIsRotationalWrongFalsely : Prop := fnExactIsRotationalRow.holds Try.pinned (OpenSpec.ofChange fnExactIsRotationalWrong)

/-- 'laws.FnExactCountSymmetries': WHATEVER THE INPUT: true; the input reads as it did. -/
def fnExactCountSymmetriesSpec : ChangeSpec := { name := "fnExactCountSymmetries", fn := fun _ => fun
  | [d] => { results := [.lit (.bool true)], args := [d] }
  | _ => none }
def fnExactCountSymmetriesRow : OpenClaim := { program := "yteiadhfjpohmdaa", sum := "f3f62089fff3294cfae62fc675140861adbcd6bc4261086e72eb7533c04b7d64", func := "loop.example/g03205/laws.FnExactCountSymmetries", spec := "fnExactCountSymmetries", unfollowed := true, recurses := true, plainKeys := false, apart := false }
def FnExactCountSymmetriesSaid : Prop := fnExactCountSymmetriesRow.holds Try.pinned (OpenSpec.ofChange fnExactCountSymmetriesSpec)

/-- ITS FALSE NEIGHBOUR: 'it returns false'. Refute it at one input. -/
def fnExactCountSymmetriesWrong : ChangeSpec := { name := "fnExactCountSymmetries", fn := fun _ => fun
  | [d] => { results := [.lit (.bool false)], args := [d] }
  | _ => none }
def FnExactCountSymmetriesWrongFalsely : Prop := fnExactCountSymmetriesRow.holds Try.pinned (OpenSpec.ofChange fnExactCountSymmetriesWrong)

/-- 'laws.FnExactIsSymmetry': WHATEVER THE INPUT: true; the input reads as it did. -/
def fnExactIsSymmetrySpec : ChangeSpec := { name := "fnExactIsSymmetry", fn := fun _ => fun
  | [d1, d2] => { results := [.lit (.bool true)], args := [d1, d2] }
  | _ => none }
def fnExactIsSymmetryRow : OpenClaim := { program := "yteiadhfjpohmdaa", sum := "f3f62089fff3294cfae62fc675140861adbcd6bc4261086e72eb7533c04b7d64", func := "loop.example/g03205/laws.FnExactIsSymmetry", spec := "fnExactIsSymmetry", unfollowed := true, recurses := true, plainKeys := false, apart := false }
def FnExactIsSymmetrySaid : Prop := fnExactIsSymmetryRow.holds Try.pinned (OpenSpec.ofChange fnExactIsSymmetrySpec)

/-- ITS FALSE NEIGHBOUR: 'it returns false'. Refute it at one input. -/
def fnExactIsSymmetryWrong : ChangeSpec := { name := "fnExactIsSymmetry", fn := fun _ => fun
  | [d1, d2] => { results := [.lit (.bool false)], args := [d1, d2] }
  | _ => none }
def FnExactIsSymmetryWrongFalsely : Prop := fnExactIsSymmetryRow.holds Try.pinned (OpenSpec.ofChange fnExactIsSymmetryWrong)

/-- 'laws.FnExactAreLike': WHATEVER THE INPUT: true; the input reads as it did. -/
def fnExactAreLikeSpec : ChangeSpec := { name := "fnExactAreLike", fn := fun _ => fun
  | [d1, d2] => { results := [.lit (.bool true)], args := [d1, d2] }
  | _ => none }
def fnExactAreLikeRow : OpenClaim := { program := "yteiadhfjpohmdaa", sum := "f3f62089fff3294cfae62fc675140861adbcd6bc4261086e72eb7533c04b7d64", func := "loop.example/g03205/laws.FnExactAreLike", spec := "fnExactAreLike", unfollowed := true, recurses := true, plainKeys := false, apart := false }
def FnExactAreLikeSaid : Prop := fnExactAreLikeRow.holds Try.pinned (OpenSpec.ofChange fnExactAreLikeSpec)

/-- ITS FALSE NEIGHBOUR: 'it returns false'. Refute it at one input. -/
def fnExactAreLikeWrong : ChangeSpec := { name := "fnExactAreLike", fn := fun _ => fun
  | [d1, d2] => { results := [.lit (.bool false)], args := [d1, d2] }
  | _ => none }
def FnExactAreLikeWrongFalsely : Prop := fnExactAreLikeRow.holds Try.pinned (OpenSpec.ofChange fnExactAreLikeWrong)

/-- 'laws.FnExactCountKinds': WHATEVER THE INPUT: true; the input reads as it did. -/
def fnExactCountKindsSpec : ChangeSpec := { name := "fnExactCountKinds", fn := fun _ => fun
  | [d] => { results := [.lit (.bool true)], args := [d] }
  | _ => none }
def fnExactCountKindsRow : OpenClaim := { program := "yteiadhfjpohmdaa", sum := "f3f62089fff3294cfae62fc675140861adbcd6bc4261086e72eb7533c04b7d64", func := "loop.example/g03205/laws.FnExactCountKinds", spec := "fnExactCountKinds", unfollowed := true, recurses := true, plainKeys := false, apart := false }
def FnExactCountKindsSaid : Prop := fnExactCountKindsRow.holds Try.pinned (OpenSpec.ofChange fnExactCountKindsSpec)

/-- ITS FALSE NEIGHBOUR: 'it returns false'. Refute it at one input. -/
def fnExactCountKindsWrong : ChangeSpec := { name := "fnExactCountKinds", fn := fun _ => fun
  | [d] => { results := [.lit (.bool false)], args := [d] }
  | _ => none }
def FnExactCountKindsWrongFalsely : Prop := fnExactCountKindsRow.holds Try.pinned (OpenSpec.ofChange fnExactCountKindsWrong)

/-- 'laws.FnOrders': WHATEVER THE INPUT: true; the input reads as it did. -/
def fnOrdersSpec : ChangeSpec := { name := "fnOrders", fn := fun _ => fun
  | [d] => { results := [.lit (.bool true)], args := [d] }
  | _ => none }
def fnOrdersRow : OpenClaim := { program := "yteiadhfjpohmdaa", sum := "f3f62089fff3294cfae62fc675140861adbcd6bc4261086e72eb7533c04b7d64", func := "loop.example/g03205/laws.FnOrders", spec := "fnOrders", inPlace := ["slices.overlaps[int]"], unfollowed := true, recurses := true, plainKeys := false, apart := false }
def FnOrdersSaid : Prop := fnOrdersRow.holds Try.pinned (OpenSpec.ofChange fnOrdersSpec)

/-- ITS FALSE NEIGHBOUR: 'it returns false'. Refute it at one input. -/
def fnOrdersWrong : ChangeSpec := { name := "fnOrders", fn := fun _ => fun
  | [d] => { results := [.lit (.bool false)], args := [d] }
  | _ => none }
def FnOrdersWrongFalsely : Prop := fnOrdersRow.holds Try.pinned (OpenSpec.ofChange fnOrdersWrong)

/-- 'laws.FnStrong': WHATEVER THE INPUT: true; the input reads as it did. -/
def fnStrongSpec : ChangeSpec := { name := "fnStrong", fn := fun _ => fun
  | [d] => { results := [.lit (.bool true)], args := [d] }
  | _ => none }
def fnStrongRow : OpenClaim := { program := "yteiadhfjpohmdaa", sum := "f3f62089fff3294cfae62fc675140861adbcd6bc4261086e72eb7533c04b7d64", func := "loop.example/g03205/laws.FnStrong", spec := "fnStrong", unfollowed := true, recurses := true, plainKeys := false, apart := false }
def FnStrongSaid : Prop := fnStrongRow.holds Try.pinned (OpenSpec.ofChange fnStrongSpec)

/-- ITS FALSE NEIGHBOUR: 'it returns false'. Refute it at one input. -/
def fnStrongWrong : ChangeSpec := { name := "fnStrong", fn := fun _ => fun
  | [d] => { results := [.lit (.bool false)], args := [d] }
  | _ => none }
def FnStrongWrongFalsely : Prop := fnStrongRow.holds Try.pinned (OpenSpec.ofChange fnStrongWrong)

/-- 'laws.FnLandau': WHATEVER THE INPUT: true; the input reads as it did. -/
def fnLandauSpec : ChangeSpec := { name := "fnLandau", fn := fun _ => fun
  | [d] => { results := [.lit (.bool true)], args := [d] }
  | _ => none }
def fnLandauRow : OpenClaim := { program := "yteiadhfjpohmdaa", sum := "f3f62089fff3294cfae62fc675140861adbcd6bc4261086e72eb7533c04b7d64", func := "loop.example/g03205/laws.FnLandau", spec := "fnLandau", unfollowed := true, recurses := true, plainKeys := false, apart := false }
def FnLandauSaid : Prop := fnLandauRow.holds Try.pinned (OpenSpec.ofChange fnLandauSpec)

/-- ITS FALSE NEIGHBOUR: 'it returns false'. Refute it at one input. -/
def fnLandauWrong : ChangeSpec := { name := "fnLandau", fn := fun _ => fun
  | [d] => { results := [.lit (.bool false)], args := [d] }
  | _ => none }
def FnLandauWrongFalsely : Prop := fnLandauRow.holds Try.pinned (OpenSpec.ofChange fnLandauWrong)

/- THE SECOND FORM. 'bulk': how many values and letters a reading holds, each counted each time it is reached (what is shared counts as often as it is met; a slice's spare places count too). A statement '..UptoSaid' is the law's where the arguments, and the package variables that the reading takes, are together of bulk at most 1048576: NARROWER than '..Said'. Prove '..Said' where nothing that the law and all that it calls make is longer than what came in: it says more and counts as full. Else prove '..UptoSaid'. A law counts once. -/
mutual
def uptoBulk {H : Type} : DataW H → Nat
  | .lit (.string bytes) => bytes.length + 1
  | .lit _ => 1
  | .nil => 1
  | .ptr d => uptoBulk d + 1
  | .slice elems spare => uptoBulkAll elems + uptoBulkAll spare + 1
  | .agg parts => uptoBulkAll parts + 1
  | .iface _ d => uptoBulk d + 1
  | .map entries => uptoBulkEntries entries + 1
  | .held _ => 1
def uptoBulkAll {H : Type} : List (DataW H) → Nat
  | [] => 0
  | d :: r => uptoBulk d + uptoBulkAll r
def uptoBulkEntries {H : Type} : List (Lit × DataW H) → Nat
  | [] => 0
  | x :: r => uptoBulkEntry x + uptoBulkEntries r
def uptoBulkEntry {H : Type} : Lit × DataW H → Nat
  | (.string bytes, d) => bytes.length + uptoBulk d + 1
  | (_, d) => uptoBulk d + 1
 end
def uptoSmall : (H : Type) → List (DataW H) → Bool := fun _ ds => decide (uptoBulkAll ds ≤ 1048576)
def OpenSpec.upto (s : _root_.Go.ChangeSpec) : _root_.Go.OpenSpec := { _root_.Go.OpenSpec.ofChange s with cond := some uptoSmall }

/-- 'laws.FnExactIsConnection', WHERE WHAT IT READS IS OF BULK AT MOST 1048576: true; the input reads as it did. -/
def fnExactIsConnectionUptoRow : OpenClaim := { program := "yteiadhfjpohmdaa", sum := "f3f62089fff3294cfae62fc675140861adbcd6bc4261086e72eb7533c04b7d64", func := "loop.example/g03205/laws.FnExactIsConnection", spec := "fnExactIsConnection", plainKeys := false, apart := false, narrowed := true }
def FnExactIsConnectionUptoSaid : Prop := fnExactIsConnectionUptoRow.holds Try.pinned (OpenSpec.upto fnExactIsConnectionSpec)

/-- 'laws.FnExactRotationalTour', WHERE WHAT IT READS IS OF BULK AT MOST 1048576: true; the input reads as it did. -/
def fnExactRotationalTourUptoRow : OpenClaim := { program := "yteiadhfjpohmdaa", sum := "f3f62089fff3294cfae62fc675140861adbcd6bc4261086e72eb7533c04b7d64", func := "loop.example/g03205/laws.FnExactRotationalTour", spec := "fnExactRotationalTour", plainKeys := false, apart := false, narrowed := true }
def FnExactRotationalTourUptoSaid : Prop := fnExactRotationalTourUptoRow.holds Try.pinned (OpenSpec.upto fnExactRotationalTourSpec)

/-- 'laws.FnExactSquareTour', WHERE WHAT IT READS IS OF BULK AT MOST 1048576: true; the input reads as it did. -/
def fnExactSquareTourUptoRow : OpenClaim := { program := "yteiadhfjpohmdaa", sum := "f3f62089fff3294cfae62fc675140861adbcd6bc4261086e72eb7533c04b7d64", func := "loop.example/g03205/laws.FnExactSquareTour", spec := "fnExactSquareTour", plainKeys := false, apart := false, narrowed := true }
def FnExactSquareTourUptoSaid : Prop := fnExactSquareTourUptoRow.holds Try.pinned (OpenSpec.upto fnExactSquareTourSpec)

/-- 'laws.FnExactIsRotational', WHERE WHAT IT READS IS OF BULK AT MOST 1048576: true; the input reads as it did. -/
def fnExactIsRotationalUptoRow : OpenClaim := { program := "yteiadhfjpohmdaa", sum := "f3f62089fff3294cfae62fc675140861adbcd6bc4261086e72eb7533c04b7d64", func := "loop.example/g03205/laws.FnExactIsRotational", spec := "fnExactIsRotational", unfollowed := true, recurses := true, plainKeys := false, apart := false, narrowed := true }
def FnExactIsRotationalUptoSaid : Prop := fnExactIsRotationalUptoRow.holds Try.pinned (OpenSpec.upto fnExactIsRotationalSpec)

/-- 'laws.FnExactCountSymmetries', WHERE WHAT IT READS IS OF BULK AT MOST 1048576: true; the input reads as it did. -/
def fnExactCountSymmetriesUptoRow : OpenClaim := { program := "yteiadhfjpohmdaa", sum := "f3f62089fff3294cfae62fc675140861adbcd6bc4261086e72eb7533c04b7d64", func := "loop.example/g03205/laws.FnExactCountSymmetries", spec := "fnExactCountSymmetries", unfollowed := true, recurses := true, plainKeys := false, apart := false, narrowed := true }
def FnExactCountSymmetriesUptoSaid : Prop := fnExactCountSymmetriesUptoRow.holds Try.pinned (OpenSpec.upto fnExactCountSymmetriesSpec)

/-- 'laws.FnExactIsSymmetry', WHERE WHAT IT READS IS OF BULK AT MOST 1048576: true; the input reads as it did. -/
def fnExactIsSymmetryUptoRow : OpenClaim := { program := "yteiadhfjpohmdaa", sum := "f3f62089fff3294cfae62fc675140861adbcd6bc4261086e72eb7533c04b7d64", func := "loop.example/g03205/laws.FnExactIsSymmetry", spec := "fnExactIsSymmetry", unfollowed := true, recurses := true, plainKeys := false, apart := false, narrowed := true }
def FnExactIsSymmetryUptoSaid : Prop := fnExactIsSymmetryUptoRow.holds Try.pinned (OpenSpec.upto fnExactIsSymmetrySpec)

/-- 'laws.FnExactAreLike', WHERE WHAT IT READS IS OF BULK AT MOST 1048576: true; the input reads as it did. -/
def fnExactAreLikeUptoRow : OpenClaim := { program := "yteiadhfjpohmdaa", sum := "f3f62089fff3294cfae62fc675140861adbcd6bc4261086e72eb7533c04b7d64", func := "loop.example/g03205/laws.FnExactAreLike", spec := "fnExactAreLike", unfollowed := true, recurses := true, plainKeys := false, apart := false, narrowed := true }
def FnExactAreLikeUptoSaid : Prop := fnExactAreLikeUptoRow.holds Try.pinned (OpenSpec.upto fnExactAreLikeSpec)

/-- 'laws.FnExactCountKinds', WHERE WHAT IT READS IS OF BULK AT MOST 1048576: true; the input reads as it did. -/
def fnExactCountKindsUptoRow : OpenClaim := { program := "yteiadhfjpohmdaa", sum := "f3f62089fff3294cfae62fc675140861adbcd6bc4261086e72eb7533c04b7d64", func := "loop.example/g03205/laws.FnExactCountKinds", spec := "fnExactCountKinds", unfollowed := true, recurses := true, plainKeys := false, apart := false, narrowed := true }
def FnExactCountKindsUptoSaid : Prop := fnExactCountKindsUptoRow.holds Try.pinned (OpenSpec.upto fnExactCountKindsSpec)

/-- 'laws.FnOrders', WHERE WHAT IT READS IS OF BULK AT MOST 1048576: true; the input reads as it did. -/
def fnOrdersUptoRow : OpenClaim := { program := "yteiadhfjpohmdaa", sum := "f3f62089fff3294cfae62fc675140861adbcd6bc4261086e72eb7533c04b7d64", func := "loop.example/g03205/laws.FnOrders", spec := "fnOrders", inPlace := ["slices.overlaps[int]"], unfollowed := true, recurses := true, plainKeys := false, apart := false, narrowed := true }
def FnOrdersUptoSaid : Prop := fnOrdersUptoRow.holds Try.pinned (OpenSpec.upto fnOrdersSpec)

/-- 'laws.FnStrong', WHERE WHAT IT READS IS OF BULK AT MOST 1048576: true; the input reads as it did. -/
def fnStrongUptoRow : OpenClaim := { program := "yteiadhfjpohmdaa", sum := "f3f62089fff3294cfae62fc675140861adbcd6bc4261086e72eb7533c04b7d64", func := "loop.example/g03205/laws.FnStrong", spec := "fnStrong", unfollowed := true, recurses := true, plainKeys := false, apart := false, narrowed := true }
def FnStrongUptoSaid : Prop := fnStrongUptoRow.holds Try.pinned (OpenSpec.upto fnStrongSpec)

/-- 'laws.FnLandau', WHERE WHAT IT READS IS OF BULK AT MOST 1048576: true; the input reads as it did. -/
def fnLandauUptoRow : OpenClaim := { program := "yteiadhfjpohmdaa", sum := "f3f62089fff3294cfae62fc675140861adbcd6bc4261086e72eb7533c04b7d64", func := "loop.example/g03205/laws.FnLandau", spec := "fnLandau", unfollowed := true, recurses := true, plainKeys := false, apart := false, narrowed := true }
def FnLandauUptoSaid : Prop := fnLandauUptoRow.holds Try.pinned (OpenSpec.upto fnLandauSpec)

end Rows
end Go.Proofs.Yteiadhfjpohmdaa
