/-
  The model's 'FormatTour'. No conditions but the bounds that Go gives a slice.
-/
import Derived.Test.YtgjogbihadiojaaV4A
namespace Go.Proofs.Ytgjogbihadiojaa
open Go.ChangeShapes Go.WideShapes Go.ChangeAt Go.RowKit
set_option linter.unusedVariables false

end Go.Proofs.Ytgjogbihadiojaa
