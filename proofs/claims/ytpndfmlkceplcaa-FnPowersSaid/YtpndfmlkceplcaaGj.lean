/-
  'PowerScores' and 'SecondScores' of the model. No conditions but the bounds that Go gives a slice.
-/
import Derived.Test.YtpndfmlkceplcaaGi
import Derived.Test.YtpndfmlkceplcaaJ0
namespace Go.Proofs.Ytpndfmlkceplcaa
open Go.ChangeShapes Go.WideShapes Go.ChangeAt Go.RowKit Go.Sort
set_option linter.unusedVariables false

/-- The list as numbers that Go holds. -/
def nI (L : List Nat) : List Int := L.map Int.ofNat
theorem nI_len (L : List Nat) : (nI L).length = L.length := List.length_map _
theorem nI_at (L : List Nat) (j : Nat) : (nI L).getD j 0 = ((L.getD j 0 : Nat) : Int) := by
  unfold nI
  rw [List.getD_eq_getElem?_getD, List.getD_eq_getElem?_getD, List.getElem?_map]
  cases L[j]? <;> rfl
theorem one_cell (wr : World) (x : Int) : ∀ j, j < 1 → (wr.alloc (.cells #[.int .i64 x] 3)).cell? ((⟨wr.heap.size, 0, none⟩ : Addr).add j) = some (iv ([x].getD j 0)) := fun j hj => by
  obtain rfl : j = 0 := by omega
  rw [Addr.add_lit]
  simp [iv]
theorem own_one {wr : World} {B g n c : Nat} {L : List Value} (x : Int) (h : wr.ownsRow B 3 1 (.slice (some ⟨g, 0, none⟩) n c) n L) : (wr.alloc (.cells #[.int .i64 x] 3)).ownsRow B 3 1 (.slice (some ⟨g, 0, none⟩) n c) n L := by
  have hgn : wr.grownBy (wr.alloc (.cells #[.int .i64 x] 3)) none := World.grownBy_alloc _ _ _
  exact own_grown h hgn (fun k _ e => by cases e)
theorem sum_snoc (L : List Nat) (y : Nat) (h : y < L.length) : (L.take (y + 1)).sum = (L.take y).sum + L.getD y 0 := by
  rw [List.take_add_one, List.sum_append, List.getD_eq_getElem?_getD, List.getElem?_eq_getElem h]
  simp
theorem sum_take_le (L : List Nat) (M y : Nat) (h : ∀ x ∈ L, x ≤ M) (hl : L.length ≤ 8) : (L.take y).sum ≤ 8 * M := by
  have h1 := sum_le_of (L.take y) M (fun x hx => h x (List.mem_of_mem_take hx))
  have h2 : (L.take y).length ≤ 8 := by rw [List.length_take]; omega
  exact Nat.le_trans h1 (Nat.mul_le_mul_right _ h2)

end Go.Proofs.Ytpndfmlkceplcaa
