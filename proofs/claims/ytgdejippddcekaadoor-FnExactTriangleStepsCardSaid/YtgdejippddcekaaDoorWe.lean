/-
  'IsTriangle' of the model. No conditions but the bounds that Go gives a slice.
-/
import Derived.Test.YtgdejippddcekaaDoorWd
namespace Go.Proofs.YtgdejippddcekaaDoor
open Go.ChangeShapes Go.WideShapes Go.ChangeAt Go.RowKit
set_option linter.unusedVariables false

/-- Whether a list is a triangle of a valid tour. -/
def triOk (l r : List Int) : Bool := r.length == 3 && ((pl l.length (r.getD 0 0) && (pl l.length (r.getD 1 0) && pl l.length (r.getD 2 0))) && (decide (r.getD 0 0 < r.getD 1 0) && (decide (r.getD 0 0 < r.getD 2 0) && (bt l (r.getD 0 0).toNat (r.getD 1 0).toNat && (bt l (r.getD 1 0).toNat (r.getD 2 0).toNat && bt l (r.getD 2 0).toNat (r.getD 0 0).toNat)))))
noncomputable def isB (n : Int) (l r : List Int) : Bool := okB n l && triOk l r
theorem len3 {r : List Int} (h : r.length = 3) : r = [r.getD 0 0, r.getD 1 0, r.getD 2 0] := by
  match r, h with
  | [x, y, z], _ => rfl
theorem pl_nat {m : Nat} {x : Int} (h : pl m x = true) : ∃ k : Nat, x = k ∧ k < m := by
  simp only [pl, Bool.and_eq_true, decide_eq_true_eq] at h
  exact ⟨x.toNat, by omega, by omega⟩
theorem pl_in (m : Nat) (x : Int) (hm : 1 ≤ m) : (decide (0 ≤ x) && decide (x ≤ (m : Int) - 1)) = pl m x := by
  unfold pl
  have : (x ≤ (m : Int) - 1) = (x < (m : Int)) := propext (by omega)
  simp only [this]

end Go.Proofs.YtgdejippddcekaaDoor
