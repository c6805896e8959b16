/-
  What a call leaves of the memory: all but one row (plain facts).
-/
import Derived.Test.YtcipffimjaancaaG
import Derived.RangeFuncNested
import Derived.RangeFuncBound
import Derived.RangeFuncCalls
import Derived.RangeFuncLeaves
import Derived.Shelf.Abstract
namespace Go.Proofs.Ytcipffimjaancaa
open Go.ChangeShapes Go.WideShapes Go.ChangeAt Go.RowKit
set_option linter.unusedVariables false

/-- What a round leaves of the memory: every row but one lies as it lay. -/
structure KeepsBut (g : Nat) (W W' : World) : Prop where
  size : W.heap.size ≤ W'.heap.size
  same : ∀ (k : Nat) (o : Obj), W.heap[k]? = some o → o.isCells = true → k ≠ g → W'.heap[k]? = some o
theorem KeepsBut.refl (g : Nat) (W : World) : KeepsBut g W W := ⟨Nat.le_refl _, fun _ _ h _ _ => h⟩
theorem KeepsBut.trans {g : Nat} {A B C : World} (h : KeepsBut g A B) (k : KeepsBut g B C) : KeepsBut g A C :=
  ⟨Nat.le_trans h.size k.size, fun i o hi hc hg => k.same i o (h.same i o hi hc hg) hc hg⟩
theorem KeepsBut.below {g : Nat} {W W' : World} (h : Below W.heap.size W W') : KeepsBut g W W' :=
  ⟨h.size, fun k o hk _ _ => (h.block k (Array.getElem?_eq_some_iff.1 hk).1).trans hk⟩
theorem KeepsBut.grown {g : Nat} {W W' : World} (h : W.grownBy W' (some g)) : KeepsBut g W W' :=
  ⟨h.size, fun k o hk _ hg => (h.block k (Array.getElem?_eq_some_iff.1 hk).1 (fun e => hg (by cases e; rfl))).trans hk⟩
theorem KeepsBut.put (g : Nat) (W : World) (l : Nat) (o o' : Obj) (h : W.heap[l]? = some o) (hc : o.isCells = false) : KeepsBut g W (W.putObj l o') := by
  refine ⟨by simp, fun k ob hk hcb _ => ?_⟩
  have hne : k ≠ l := by intro e; subst e; rw [h] at hk; cases hk; rw [hc] at hcb; cases hcb
  exact (World.putObj_heap_other hne).trans hk
theorem Box.but {g p : Nat} {W W' : World} {t : TypeId} {v0 v1 : Value} (h : Box W p t v0 v1) (k : KeepsBut g W W') (hp : p ≠ g) : Box W' p t v0 v1 := k.same p _ h rfl hp
theorem cell_but {g : Nat} {W W' : World} {p : Addr} {v : Value} (h : W.cell? p = some v) (k : KeepsBut g W W') (hp : p.block ≠ g) : W'.cell? p = some v := by
  obtain ⟨o, ho, hc⟩ := cells_of_cell h
  exact (World.cell?_of_block ((k.same p.block o ho hc hp).trans ho.symm)).trans h
theorem IntRow.but {g : Nat} {W W' : World} {a : Option Addr} {l : List Int} (h : IntRow W a l) (k : KeepsBut g W W') (hp : blk a ≠ some g) : IntRow W' a l := by
  rcases h with h | ⟨b, off, rfl, hl, hc⟩
  · exact .inl h
  · refine .inr ⟨b, off, rfl, Nat.lt_of_lt_of_le hl k.size, fun j hj => cell_but (hc j hj) k (fun e => hp (by simp [blk]; exact e))⟩
end Go.Proofs.Ytcipffimjaancaa
