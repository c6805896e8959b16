/-
  'TrianglesOf' and 'TrianglesAt' of the model. No conditions but the bounds that Go gives a slice.
-/
import Derived.Test.YtgdejippddcekaaDoorWc
namespace Go.Proofs.YtgdejippddcekaaDoor
open Go.ChangeShapes Go.WideShapes Go.ChangeAt Go.RowKit
set_option linter.unusedVariables false

theorem OwnSS.at {W : World} {B : Nat} {a : Option Addr} {c : Nat} {gs : List (Nat × Nat)} {Ls : List (List Int)} (h : OwnSS W B a c gs Ls) (i j : Nat) (hi : i < Ls.length) (hj : j < (Ls.getD i []).length) : W.cell? ⟨(gs.getD i (0, 0)).1, j, none⟩ = some (.int .i64 ((Ls.getD i []).getD j 0)) := by
  have hr := h.inn i hi
  unfold sv at hr
  rw [hr.cellAt j (by omega), List.getElem?_map, List.getElem?_eq_getElem hj, List.getD_eq_getElem?_getD (l := Ls.getD i []), List.getElem?_eq_getElem hj]
  rfl

noncomputable def trR (n : Int) (l : List Int) : List (List Int) := if okB n l then triL l else []
theorem trR_le (n : Int) (l : List Int) : (trR n l).length ≤ 512 := by
  unfold trR
  cases h : okB n l
  · simp
  · have hk := okB_iff.1 h
    simp only [if_true]
    exact triL_len l (by have := hk.2.1; have := hk.2.2.1; omega)
theorem trR_row (n : Int) (l : List Int) (i : Nat) (hi : i < (trR n l).length) : ((trR n l).getD i []).length = 3 := by
  have hm : (trR n l).getD i [] ∈ trR n l := by rw [List.getD_eq_getElem?_getD, List.getElem?_eq_getElem hi]; exact List.getElem_mem hi
  cases h : okB n l
  · have e : trR n l = [] := by unfold trR; rw [h]; rfl
    rw [e] at hm; cases hm
  · have e : trR n l = triL l := by unfold trR; rw [h]; rfl
    rw [e] at hm ⊢; exact triL_row hm

/-- Whether a triangle has the player. -/
def atT (k : Int) (r : List Int) : Bool := r.getD 0 0 == k || (r.getD 1 0 == k || r.getD 2 0 == k)
noncomputable def taR (n : Int) (l : List Int) (k : Int) : Int := if okB n l && pl n k then ((triL l).countP (atT k) : Nat) else -1
theorem count_succ (k : Int) (Ls : List (List Int)) (i : Nat) (h : i < Ls.length) : (Ls.take (i + 1)).countP (atT k) = (Ls.take i).countP (atT k) + (if atT k (Ls.getD i []) then 1 else 0) := by
  rw [List.take_succ_eq_append_getElem h, List.countP_append, List.getD_eq_getElem?_getD, List.getElem?_eq_getElem h]
  simp [List.countP_cons]

end Go.Proofs.YtgdejippddcekaaDoor
