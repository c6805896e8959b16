/-
  'RankBy' of the program. No conditions but the bounds that Go gives a slice.
-/
import Derived.Test.YteiadhfjpohmdaaGb
namespace Go.Proofs.Yteiadhfjpohmdaa
open Go.ChangeShapes Go.WideShapes Go.ChangeAt Go.RowKit
set_option linter.unusedVariables false

/-- A row that is being filled. -/
def fillR (f : Nat → Int) (n k : Nat) : List Int := (List.range n).map fun i => if i < k then f i else 0
theorem fillR_len (f : Nat → Int) (n k : Nat) : (fillR f n k).length = n := by simp [fillR]
theorem fillR_zero (f : Nat → Int) (n : Nat) : fillR f n 0 = List.replicate n 0 := by
  apply List.ext_getElem (by simp [fillR])
  intro i h1 h2
  simp [fillR]
theorem fillR_all (f : Nat → Int) (n : Nat) : fillR f n n = (List.range n).map f := by
  apply List.ext_getElem (by simp [fillR])
  intro i h1 h2
  simp only [fillR, List.getElem_map, List.getElem_range]
  rw [if_pos (by simpa using h2)]
theorem fillR_set (f : Nat → Int) (n k : Nat) (h : k < n) : (fillR f n k).set k (f k) = fillR f n (k + 1) := by
  apply List.ext_getElem (by simp [fillR])
  intro i h1 h2
  rw [List.getElem_set]
  simp only [fillR, List.getElem_map, List.getElem_range]
  by_cases e : k = i
  · subst e; rw [if_pos rfl, if_pos (Nat.lt_succ_self k)]
  · rw [if_neg e]
    by_cases c : i < k
    · rw [if_pos c, if_pos (by omega)]
    · rw [if_neg c, if_neg (by omega)]
theorem zerosI (k : Nat) : (madeCells #[Value.int .i64 0] k).toList = (List.replicate k (0 : Int)).map iv := by
  rw [toList_madeCells_one]; simp [iv]

/-- A place's rank. -/
def rankF (l : List Int) (i : Nat) : Int := 1 + ((cntG (fun k => decide (l.getD i 0 < l.getD k 0)) l.length : Nat) : Int)
def rankL (l : List Int) : List Int := (List.range l.length).map (rankF l)
/-- What both 'RankBy' answer. -/
def rankR (l : List Int) : List Int := if l.length ≤ 40 then rankL l else []
theorem rankR_len (l : List Int) : (rankR l).length ≤ 40 := by
  unfold rankR rankL
  split
  · simpa using (by assumption : l.length ≤ 40)
  · simp
theorem own_nil (W : World) (B : Nat) : W.ownsRow B 3 1 (.slice none 0 0) 0 (([] : List Int).map iv) := by
  first | exact World.ownsRow_nil _ _ _ | (refine ⟨rfl, .inl ⟨rfl, ?_⟩⟩; first | rfl | trivial | simp)

theorem own_cell0 {w : World} {B g n c : Nat} {L : List Int} (h : w.ownsRow B 3 1 (.slice (some ⟨g, 0, none⟩) n c) n (L.map iv)) {j : Nat} (hj : j < n) : ∃ x : Int, w.cell? ⟨g, j, none⟩ = some (.int .i64 x) := by
  have hl : L.length = n := by have := h.1; simpa using this
  rw [h.cellAt j (by omega), List.getElem?_map, List.getElem?_eq_getElem (show j < L.length by omega)]
  exact ⟨_, rfl⟩
end Go.Proofs.Yteiadhfjpohmdaa
