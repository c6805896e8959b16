/-
  Both 'DoAgree', on two lists that can be read. No conditions but the bounds that Go gives a slice.
-/
import Derived.Test.YteiadhfjpohmdaaC
namespace Go.Proofs.Yteiadhfjpohmdaa
open Go.ChangeShapes Go.WideShapes Go.ChangeAt Go.RowKit
set_option linter.unusedVariables false

theorem row_at {w : World} {a : Option Addr} {l : List Int} (h : IntRow w a l) {j : Nat} (hj : j < l.length) : ∃ b off, a = some ⟨b, off, none⟩ ∧ b < w.heap.size ∧ ∀ j, j < l.length → w.cell? ⟨b, off + j, none⟩ = some (.int .i64 (l.getD j 0)) := by
  rcases h with h | ⟨b, off, h1, h2, h3⟩
  · subst h; simp at hj
  · exact ⟨b, off, h1, h2, h3⟩
/-- Whether two places of two lists agree. -/
def agP (l m : List Int) (i k : Nat) : Bool := !(decide (l.getD k 0 < l.getD i 0) && decide (m.getD i 0 < m.getD k 0))
def AgP (l m : List Int) : Prop := l.length = m.length ∧ l.length ≤ 40 ∧ ∀ i k, i < l.length → k < l.length → agP l m i k = true
open Classical in
noncomputable def agB (l m : List Int) : Bool := decide (AgP l m)
open Classical in
theorem agB_yes {l m : List Int} (h : AgP l m) : agB l m = true := by unfold agB; exact decide_eq_true h
open Classical in
theorem agB_no {l m : List Int} (h : ¬ AgP l m) : agB l m = false := by unfold agB; exact decide_eq_false h

end Go.Proofs.Yteiadhfjpohmdaa
