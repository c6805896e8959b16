/-
  No cell of these rows narrows 'for every input' (looked for: loops, veiled, ifaces, maps, wideKeys, modest, calm, conditions, laid).
  DERIVED. THE GIVEN ROWS OF THIS SEAT. 5 by the template 'for every input the law returns true; each argument reads behind the call as it read before'; 0 by the template 'total and deterministic' (their statements: YtgdejippddcekaaTotals.lean).
  GIVEN WITH THE SEED: the statements are not yours to turn. If you find one false, say at which input.
  Laid BY PROGRAM, IN A SANDBOX (cutbox-rows.mjs): the forced cells as the released guide's own fill.sh prints them over the translation d98667db93f1b32c… (all of the seat's roots in one cut). By AI agents, Wed Nov 11 2026. No macro, syntax, notation, axiom, sorry.
-/
import Derived.Test.YtgdejippddcekaaChecked
import GoSem.Claim
import GoSem.ClaimJoined
import GoSem.ClaimMapViews
import Derived.JoinedTies
import Derived.KernelRfl
namespace Go.Proofs.Ytgdejippddcekaa
/- THE CELL 'sum', in the pinned program and in every row, IS THE sha256 OF THE DUMP (.gsa) THAT YtgdejippddcekaaProg.lean LOADS. Nothing in Lean hashes anything: it is a label: what it is worth is what the hold of that sum in a sandbox is worth. -/
noncomputable def Try.pinned : Pinned := { name := "ytgdejippddcekaa", sum := "d98667db93f1b32ca8f3c7cc77c0121846944c2403e7129ba1ba1256620a6055", checked := Try.checked }
namespace Rows
def none {H : Type} : Left H := { results := [], args := [] }

/-- 'laws.FnExactTrianglesOf': WHATEVER THE INPUT: true; the input reads as it did. -/
def fnExactTrianglesOfSpec : ChangeSpec := { name := "fnExactTrianglesOf", fn := fun _ => fun
  | [d] => { results := [.lit (.bool true)], args := [d] }
  | _ => none }
def fnExactTrianglesOfRow : OpenClaim := { program := "ytgdejippddcekaa", sum := "d98667db93f1b32ca8f3c7cc77c0121846944c2403e7129ba1ba1256620a6055", func := "loop.example/g03205/laws.FnExactTrianglesOf", spec := "fnExactTrianglesOf", unfollowed := true, recurses := true, apart := false }
def FnExactTrianglesOfSaid : Prop := fnExactTrianglesOfRow.holds Try.pinned (OpenSpec.ofChange fnExactTrianglesOfSpec)

/-- ITS FALSE NEIGHBOUR: 'it returns false'. Refute it at one input. -/
def fnExactTrianglesOfWrong : ChangeSpec := { name := "fnExactTrianglesOf", fn := fun _ => fun
  | [d] => { results := [.lit (.bool false)], args := [d] }
  | _ => none }
def FnExactTrianglesOfWrongFalsely : Prop := fnExactTrianglesOfRow.holds Try.pinned (OpenSpec.ofChange fnExactTrianglesOfWrong)

/-- 'laws.FnExactIsTriangle': WHATEVER THE INPUT: true; the input reads as it did. -/
def fnExactIsTriangleSpec : ChangeSpec := { name := "fnExactIsTriangle", fn := fun _ => fun
  | [d1, d2] => { results := [.lit (.bool true)], args := [d1, d2] }
  | _ => none }
def fnExactIsTriangleRow : OpenClaim := { program := "ytgdejippddcekaa", sum := "d98667db93f1b32ca8f3c7cc77c0121846944c2403e7129ba1ba1256620a6055", func := "loop.example/g03205/laws.FnExactIsTriangle", spec := "fnExactIsTriangle", unfollowed := true, recurses := true, apart := false }
def FnExactIsTriangleSaid : Prop := fnExactIsTriangleRow.holds Try.pinned (OpenSpec.ofChange fnExactIsTriangleSpec)

/-- ITS FALSE NEIGHBOUR: 'it returns false'. Refute it at one input. -/
def fnExactIsTriangleWrong : ChangeSpec := { name := "fnExactIsTriangle", fn := fun _ => fun
  | [d1, d2] => { results := [.lit (.bool false)], args := [d1, d2] }
  | _ => none }
def FnExactIsTriangleWrongFalsely : Prop := fnExactIsTriangleRow.holds Try.pinned (OpenSpec.ofChange fnExactIsTriangleWrong)

/-- 'laws.FnExactReverseTriangle': WHATEVER THE INPUT: true; the input reads as it did. -/
def fnExactReverseTriangleSpec : ChangeSpec := { name := "fnExactReverseTriangle", fn := fun _ => fun
  | [d1, d2] => { results := [.lit (.bool true)], args := [d1, d2] }
  | _ => none }
def fnExactReverseTriangleRow : OpenClaim := { program := "ytgdejippddcekaa", sum := "d98667db93f1b32ca8f3c7cc77c0121846944c2403e7129ba1ba1256620a6055", func := "loop.example/g03205/laws.FnExactReverseTriangle", spec := "fnExactReverseTriangle", unfollowed := true, recurses := true, apart := false }
def FnExactReverseTriangleSaid : Prop := fnExactReverseTriangleRow.holds Try.pinned (OpenSpec.ofChange fnExactReverseTriangleSpec)

/-- ITS FALSE NEIGHBOUR: 'it returns false'. Refute it at one input. -/
def fnExactReverseTriangleWrong : ChangeSpec := { name := "fnExactReverseTriangle", fn := fun _ => fun
  | [d1, d2] => { results := [.lit (.bool false)], args := [d1, d2] }
  | _ => none }
def FnExactReverseTriangleWrongFalsely : Prop := fnExactReverseTriangleRow.holds Try.pinned (OpenSpec.ofChange fnExactReverseTriangleWrong)

/-- 'laws.FnExactPackTriangles': WHATEVER THE INPUT: true; the input reads as it did. -/
def fnExactPackTrianglesSpec : ChangeSpec := { name := "fnExactPackTriangles", fn := fun _ => fun
  | [d] => { results := [.lit (.bool true)], args := [d] }
  | _ => none }
def fnExactPackTrianglesRow : OpenClaim := { program := "ytgdejippddcekaa", sum := "d98667db93f1b32ca8f3c7cc77c0121846944c2403e7129ba1ba1256620a6055", func := "loop.example/g03205/laws.FnExactPackTriangles", spec := "fnExactPackTriangles", unfollowed := true, recurses := true, apart := false }
def FnExactPackTrianglesSaid : Prop := fnExactPackTrianglesRow.holds Try.pinned (OpenSpec.ofChange fnExactPackTrianglesSpec)

/-- ITS FALSE NEIGHBOUR: 'it returns false'. Refute it at one input. -/
def fnExactPackTrianglesWrong : ChangeSpec := { name := "fnExactPackTriangles", fn := fun _ => fun
  | [d] => { results := [.lit (.bool false)], args := [d] }
  | _ => none }
def FnExactPackTrianglesWrongFalsely : Prop := fnExactPackTrianglesRow.holds Try.pinned (OpenSpec.ofChange fnExactPackTrianglesWrong)

/-- 'laws.FnExactTrianglesAt': WHATEVER THE INPUT: true; the input reads as it did. -/
def fnExactTrianglesAtSpec : ChangeSpec := { name := "fnExactTrianglesAt", fn := fun _ => fun
  | [d1, d2] => { results := [.lit (.bool true)], args := [d1, d2] }
  | _ => none }
def fnExactTrianglesAtRow : OpenClaim := { program := "ytgdejippddcekaa", sum := "d98667db93f1b32ca8f3c7cc77c0121846944c2403e7129ba1ba1256620a6055", func := "loop.example/g03205/laws.FnExactTrianglesAt", spec := "fnExactTrianglesAt", unfollowed := true, recurses := true, apart := false }
def FnExactTrianglesAtSaid : Prop := fnExactTrianglesAtRow.holds Try.pinned (OpenSpec.ofChange fnExactTrianglesAtSpec)

/-- ITS FALSE NEIGHBOUR: 'it returns false'. Refute it at one input. -/
def fnExactTrianglesAtWrong : ChangeSpec := { name := "fnExactTrianglesAt", fn := fun _ => fun
  | [d1, d2] => { results := [.lit (.bool false)], args := [d1, d2] }
  | _ => none }
def FnExactTrianglesAtWrongFalsely : Prop := fnExactTrianglesAtRow.holds Try.pinned (OpenSpec.ofChange fnExactTrianglesAtWrong)

/- THE SECOND FORM. 'bulk': how many values and letters a reading holds, each counted each time it is reached (what is shared counts as often as it is met; a slice's spare places count too). A statement '..UptoSaid' is the law's where the arguments, and the package variables that the reading takes, are together of bulk at most 1048576: NARROWER than '..Said'. Prove '..Said' where nothing that the law and all that it calls make is longer than what came in: it says more and counts as full. Else prove '..UptoSaid'. A law counts once. -/
mutual
def uptoBulk {H : Type} : DataW H → Nat
  | .lit (.string bytes) => bytes.length + 1
  | .lit _ => 1
  | .nil => 1
  | .ptr d => uptoBulk d + 1
  | .slice elems spare => uptoBulkAll elems + uptoBulkAll spare + 1
  | .agg parts => uptoBulkAll parts + 1
  | .iface _ d => uptoBulk d + 1
  | .map entries => uptoBulkEntries entries + 1
  | .held _ => 1
def uptoBulkAll {H : Type} : List (DataW H) → Nat
  | [] => 0
  | d :: r => uptoBulk d + uptoBulkAll r
def uptoBulkEntries {H : Type} : List (Lit × DataW H) → Nat
  | [] => 0
  | x :: r => uptoBulkEntry x + uptoBulkEntries r
def uptoBulkEntry {H : Type} : Lit × DataW H → Nat
  | (.string bytes, d) => bytes.length + uptoBulk d + 1
  | (_, d) => uptoBulk d + 1
 end
def uptoSmall : (H : Type) → List (DataW H) → Bool := fun _ ds => decide (uptoBulkAll ds ≤ 1048576)
def OpenSpec.upto (s : _root_.Go.ChangeSpec) : _root_.Go.OpenSpec := { _root_.Go.OpenSpec.ofChange s with cond := some uptoSmall }

/-- 'laws.FnExactTrianglesOf', WHERE WHAT IT READS IS OF BULK AT MOST 1048576: true; the input reads as it did. -/
def fnExactTrianglesOfUptoRow : OpenClaim := { program := "ytgdejippddcekaa", sum := "d98667db93f1b32ca8f3c7cc77c0121846944c2403e7129ba1ba1256620a6055", func := "loop.example/g03205/laws.FnExactTrianglesOf", spec := "fnExactTrianglesOf", unfollowed := true, recurses := true, apart := false, narrowed := true }
def FnExactTrianglesOfUptoSaid : Prop := fnExactTrianglesOfUptoRow.holds Try.pinned (OpenSpec.upto fnExactTrianglesOfSpec)

/-- 'laws.FnExactIsTriangle', WHERE WHAT IT READS IS OF BULK AT MOST 1048576: true; the input reads as it did. -/
def fnExactIsTriangleUptoRow : OpenClaim := { program := "ytgdejippddcekaa", sum := "d98667db93f1b32ca8f3c7cc77c0121846944c2403e7129ba1ba1256620a6055", func := "loop.example/g03205/laws.FnExactIsTriangle", spec := "fnExactIsTriangle", unfollowed := true, recurses := true, apart := false, narrowed := true }
def FnExactIsTriangleUptoSaid : Prop := fnExactIsTriangleUptoRow.holds Try.pinned (OpenSpec.upto fnExactIsTriangleSpec)

/-- 'laws.FnExactReverseTriangle', WHERE WHAT IT READS IS OF BULK AT MOST 1048576: true; the input reads as it did. -/
def fnExactReverseTriangleUptoRow : OpenClaim := { program := "ytgdejippddcekaa", sum := "d98667db93f1b32ca8f3c7cc77c0121846944c2403e7129ba1ba1256620a6055", func := "loop.example/g03205/laws.FnExactReverseTriangle", spec := "fnExactReverseTriangle", unfollowed := true, recurses := true, apart := false, narrowed := true }
def FnExactReverseTriangleUptoSaid : Prop := fnExactReverseTriangleUptoRow.holds Try.pinned (OpenSpec.upto fnExactReverseTriangleSpec)

/-- 'laws.FnExactPackTriangles', WHERE WHAT IT READS IS OF BULK AT MOST 1048576: true; the input reads as it did. -/
def fnExactPackTrianglesUptoRow : OpenClaim := { program := "ytgdejippddcekaa", sum := "d98667db93f1b32ca8f3c7cc77c0121846944c2403e7129ba1ba1256620a6055", func := "loop.example/g03205/laws.FnExactPackTriangles", spec := "fnExactPackTriangles", unfollowed := true, recurses := true, apart := false, narrowed := true }
def FnExactPackTrianglesUptoSaid : Prop := fnExactPackTrianglesUptoRow.holds Try.pinned (OpenSpec.upto fnExactPackTrianglesSpec)

/-- 'laws.FnExactTrianglesAt', WHERE WHAT IT READS IS OF BULK AT MOST 1048576: true; the input reads as it did. -/
def fnExactTrianglesAtUptoRow : OpenClaim := { program := "ytgdejippddcekaa", sum := "d98667db93f1b32ca8f3c7cc77c0121846944c2403e7129ba1ba1256620a6055", func := "loop.example/g03205/laws.FnExactTrianglesAt", spec := "fnExactTrianglesAt", unfollowed := true, recurses := true, apart := false, narrowed := true }
def FnExactTrianglesAtUptoSaid : Prop := fnExactTrianglesAtUptoRow.holds Try.pinned (OpenSpec.upto fnExactTrianglesAtSpec)

end Rows
end Go.Proofs.Ytgdejippddcekaa
