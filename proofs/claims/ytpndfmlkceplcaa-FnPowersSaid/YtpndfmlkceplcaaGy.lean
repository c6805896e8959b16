/-
  'l09Order' and 'OrderBy' of the model. No conditions but the bounds that Go gives a slice.
-/
import Derived.Test.YtpndfmlkceplcaaGx
import Derived.Test.YtpndfmlkceplcaaGh
namespace Go.Proofs.Ytpndfmlkceplcaa
open Go.ChangeShapes Go.WideShapes Go.ChangeAt Go.RowKit Go.Sort
set_option linter.unusedVariables false

def niG (o : List Nat) : List Int := o.map Int.ofNat
theorem niG_at (o : List Nat) {j : Nat} (h : j < o.length) : (niG o).getD j 0 = ((o.getD j 0 : Nat) : Int) := by
  unfold niG
  rw [List.getD_eq_getElem?_getD, List.getD_eq_getElem?_getD, List.getElem?_map, List.getElem?_eq_getElem h]; rfl

end Go.Proofs.Ytpndfmlkceplcaa
