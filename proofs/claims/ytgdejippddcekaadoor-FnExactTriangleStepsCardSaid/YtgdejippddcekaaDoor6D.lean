/-
  'slices.Contains' over numbers; 'TrianglesAt' of the program. No conditions but the bounds that Go gives a slice.
-/
import Derived.Test.YtgdejippddcekaaDoor6C
import Derived.Test.YtgdejippddcekaaDoorWd
namespace Go.Proofs.YtgdejippddcekaaDoor
open Go.ChangeShapes Go.WideShapes Go.ChangeAt Go.RowKit Go.Shelf
attribute [local go_sem] Oper.semAt_some
set_option linter.unusedVariables false

theorem Boxed.turn {A C : World} {row : Option Nat} {b : Nat} {t : TypeId} {v : Value} (h : Boxed A b t v) (hg : A.grownBy C row) (hr : ∀ r, row = some r → ∃ o : Obj, A.heap[r]? = some o ∧ o.isCells = false) : Boxed C b t v :=
  boxed_own (β := Unit) b t (fun _ => v) () A C row h hg hr
def hasI (l : List Int) (x : Int) : Bool := decide (x ∈ l)
def IdxI (l : List Int) (x : Int) (w : World) (e : Ending) (w2 : World) : Prop := (∃ k : Int, e = .returned (.int .i64 k) ∧ decide (0 ≤ k) = hasI l x) ∧ w = w2
theorem IdxI.no {l : List Int} {x : Int} {w : World} (h : ∀ j, j < l.length → l.getD j 0 ≠ x) : IdxI l x w (.returned (.int .i64 (-1))) w := by
  refine ⟨⟨-1, rfl, ?_⟩, rfl⟩
  unfold hasI
  have : x ∉ l := by
    intro hm
    obtain ⟨j, hj, e⟩ := List.mem_iff_getElem.1 hm
    exact h j hj (by rw [List.getD_eq_getElem?_getD, List.getElem?_eq_getElem hj]; exact e)
  simp [this]
theorem IdxI.yes {l : List Int} {x : Int} {w : World} {k : Nat} (hk : k < l.length) (h : l.getD k 0 = x) : IdxI l x w (.returned (.int .i64 (k : Int))) w := by
  refine ⟨⟨k, rfl, ?_⟩, rfl⟩
  unfold hasI
  have : x ∈ l := by
    rw [← h, List.getD_eq_getElem?_getD, List.getElem?_eq_getElem hk]
    exact List.getElem_mem hk
  simp [this]
theorem hasI_at (k : Int) {r : List Int} (h : r.length = 3) : hasI r k = atT k r := by
  match r, h with
  | [x, y, z], _ =>
    unfold hasI atT
    simp only [List.mem_cons, List.not_mem_nil, or_false, List.getD_cons_zero, List.getD_cons_succ]
    by_cases h1 : k = x
    · simp [h1]
    · by_cases h2 : k = y
      · simp [h2]
      · by_cases h3 : k = z
        · simp [h3]
        · have e1 : (x == k) = false := by simpa using fun e => h1 e.symm
          have e2 : (y == k) = false := by simpa using fun e => h2 e.symm
          have e3 : (z == k) = false := by simpa using fun e => h3 e.symm
          simp [h1, h2, h3, e1, e2, e3]
theorem YT.len {l : List Int} {B : Nat} {pre : List Tr} {x : Tr} {W : World} (h : YT l B pre x W) : x.1.length = 3 := by
  obtain ⟨rest, hr⟩ := h.next
  exact triL_row (l := l) (by rw [hr]; simp)
theorem YT.pos {l : List Int} {B : Nat} {pre : List Tr} {x : Tr} {W : World} (h : YT l B pre x W) (hl : l.length ≤ 8) : pre.length < 512 := by
  obtain ⟨rest, hr⟩ := h.next
  have := triL_len l hl
  rw [hr] at this
  simp at this
  omega
theorem YT.int {l : List Int} {B : Nat} {pre : List Tr} {x : Tr} {W : World} (h : YT l B pre x W) : IntRow W (some ⟨x.2, 0, none⟩) x.1 := by
  have hr := h.row
  refine .inr ⟨x.2, 0, rfl, (Array.getElem?_eq_some_iff.1 hr).1, fun j hj => ?_⟩
  unfold World.cell?
  simp only
  rw [hr]
  simp [List.getElem?_eq_getElem hj, iv]

end Go.Proofs.YtgdejippddcekaaDoor
