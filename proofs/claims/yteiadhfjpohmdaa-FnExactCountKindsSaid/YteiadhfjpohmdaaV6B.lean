/-
  What a round keeps, named by the caller (6B without its iterator, so that it stands beside L). No conditions but those named.
-/
import Derived.Test.YteiadhfjpohmdaaK
import Derived.Test.Yteiadhfjpohmdaa6A
import Derived.Test.YteiadhfjpohmdaaG
import Derived.RangeFuncNested
import Derived.RangeFuncBound
import Derived.RangeFuncCalls
import Derived.RangeFuncLeaves
import Derived.Shelf.Abstract
import Derived.Shelf.RegionOpen
import Derived.OwnWalkIn
import Derived.TacticsInMore
import Derived.LoopNIn
import Derived.LoopIn
namespace Go.Proofs.Yteiadhfjpohmdaa
open Go.ChangeShapes Go.WideShapes Go.ChangeAt Go.RowKit Go.Shelf
attribute [local go_sem] Oper.semAt_some
set_option linter.unusedVariables false

/-- What a round leaves of the memory: of the rows, those that R names lie as they lay. -/
structure KeepR (R : Nat → Obj → Prop) (W W2 : World) : Prop where
  size : W.heap.size ≤ W2.heap.size
  same : ∀ (k : Nat) (o : Obj), W.heap[k]? = some o → o.isCells = true → R k o → W2.heap[k]? = some o
section
variable {R : Nat → Obj → Prop} {W W2 : World}
theorem KeepR.refl (R : Nat → Obj → Prop) (W : World) : KeepR R W W := ⟨Nat.le_refl _, fun _ _ h _ _ => h⟩
theorem KeepR.trans {A B C : World} (h : KeepR R A B) (k : KeepR R B C) : KeepR R A C :=
  ⟨Nat.le_trans h.size k.size, fun i o hi hc hg => k.same i o (h.same i o hi hc hg) hc hg⟩
theorem KeepR.below (h : Below W.heap.size W W2) : KeepR R W W2 :=
  ⟨h.size, fun k o hk _ _ => (h.block k (Array.getElem?_eq_some_iff.1 hk).1).trans hk⟩
/-- A step that turns one block that R does not name. -/
theorem KeepR.grown {row : Option Nat} (h : W.grownBy W2 row) (hr : ∀ g o, row = some g → W.heap[g]? = some o → ¬ R g o) : KeepR R W W2 :=
  ⟨h.size, fun k o hk _ hR => (h.block k (Array.getElem?_eq_some_iff.1 hk).1 (fun e => hr k o e.symm hk hR)).trans hk⟩
theorem KeepR.put (W : World) (l : Nat) (o o2 : Obj) (h : W.heap[l]? = some o) (hc : o.isCells = false) : KeepR R W (W.putObj l o2) := by
  refine ⟨by simp, fun k ob hk hcb _ => ?_⟩
  have hne : k ≠ l := by intro e; subst e; rw [h] at hk; cases hk; rw [hc] at hcb; cases hcb
  exact (World.putObj_heap_other hne).trans hk
theorem Box.keepR {p : Nat} {t : TypeId} {v0 v1 : Value} (h : Box W p t v0 v1) (k : KeepR R W W2) (hp : R p (.cells #[v0, v1] t (0, 0))) : Box W2 p t v0 v1 := k.same p _ h rfl hp
theorem cell_keepR {p : Addr} {v : Value} (h : W.cell? p = some v) (k : KeepR R W W2) (hp : ∀ o, R p.block o) : W2.cell? p = some v := by
  obtain ⟨o, ho, hc⟩ := cells_of_cell h
  exact (World.cell?_of_block ((k.same p.block o ho hc (hp o)).trans ho.symm)).trans h
theorem IntRow.keepR {a : Option Addr} {l : List Int} (h : IntRow W a l) (k : KeepR R W W2) (hp : ∀ b o, blk a = some b → R b o) : IntRow W2 a l := by
  rcases h with h | ⟨b, off, rfl, hl, hc⟩
  · exact .inl h
  · exact .inr ⟨b, off, rfl, Nat.lt_of_lt_of_le hl k.size, fun j hj => cell_keepR (hc j hj) k (fun o => hp b o rfl)⟩
theorem own_keepR {B n : Nat} {e : TypeId} {v : Value} {xs : List Value} (h : W.ownsRow B e 1 v n xs) (k : KeepR R W W2) (hp : ∀ g cur, B ≤ g → R g (.cells cur e (0, 0))) : W2.ownsRow B e 1 v n xs := by
  rcases h.2 with ⟨hn, h0⟩ | ⟨g, cap, cur, he, hB, hg, q⟩
  · exact ⟨h.1, .inl ⟨hn, h0⟩⟩
  · exact ⟨h.1, .inr ⟨g, cap, cur, he, hB, k.same g _ hg rfl (hp g cur hB), q⟩⟩
end
/-- What R must name of the blocks that an iterator lays: rows of numbers, boxed tours, a boxed function. -/
structure FreshR (R : Nat → Obj → Prop) (B : Nat) : Prop where
  int : ∀ k cur, B ≤ k → R k (.cells cur 3 (0, 0))
  tour : ∀ k v0 v1, B ≤ k → R k (.cells #[v0, v1] 27 (0, 0))
  fn : ∀ k v, B ≤ k → R k (.cells #[v] 62 (0, 0))
theorem FreshR.mono {R : Nat → Obj → Prop} {B B2 : Nat} (h : FreshR R B) (hB : B ≤ B2) : FreshR R B2 :=
  ⟨fun k c hk => h.int k c (by omega), fun k v0 v1 hk => h.tour k v0 v1 (by omega), fun k v hk => h.fn k v (by omega)⟩
end Go.Proofs.Yteiadhfjpohmdaa
