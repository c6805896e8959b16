/-
  'IsTriangle' of the program. No conditions but the bounds that Go gives a slice.
-/
import Derived.Test.YtgdejippddcekaaDoor6I
namespace Go.Proofs.YtgdejippddcekaaDoor
open Go.ChangeShapes Go.WideShapes Go.ChangeAt Go.RowKit Go.Shelf
attribute [local go_sem] Oper.semAt_some
set_option linter.unusedVariables false

theorem Boxed.resB {w : World} {g : Nat} {v : Value} {fn : Func} {p : Tmp} (hf : fn.results = #[.cell p 4]) (tmps : Array Value) (hp : tmps.getD p undef = .pointer (some ⟨g, 0, none⟩)) (h : Boxed w g 4 v) :
    (results fn tmps).run Tryd.prog w = .ok v w := by
  have hc := h.cell
  have hp2 : tmps[p]?.getD undef = .pointer (some ⟨g, 0, none⟩) := by rw [← hp]; simp
  simp [results, hf, hp2, asAddr, hc, go_sem]

end Go.Proofs.YtgdejippddcekaaDoor
