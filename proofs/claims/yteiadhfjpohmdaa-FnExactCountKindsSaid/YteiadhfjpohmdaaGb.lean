/-
  Numbers counted by a function that reads ('countBelow'); 'RankBy' of the program. No conditions but the bounds that Go gives a slice.
-/
import Derived.Test.YteiadhfjpohmdaaGa
import Derived.Test.YteiadhfjpohmdaaF
import Derived.Shelf.Abstract
namespace Go.Proofs.Yteiadhfjpohmdaa
open Go.ChangeShapes Go.WideShapes Go.ChangeAt Go.RowKit
set_option linter.unusedVariables false

/-- How many numbers below one are as a test says. -/
def cntG (p : Nat → Bool) : Nat → Nat
  | 0 => 0
  | k + 1 => if p k then cntG p k + 1 else cntG p k
theorem cntG_le (p : Nat → Bool) : ∀ k, cntG p k ≤ k
  | 0 => Nat.le_refl _
  | k + 1 => by
    have := cntG_le p k
    simp only [cntG]
    split <;> omega

end Go.Proofs.Yteiadhfjpohmdaa
