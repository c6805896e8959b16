/-
  The model's 'FlipGame'. No conditions but the bounds that Go gives a slice.
-/
import Derived.Test.YtepladakcepgdaaDoorH
import Derived.Deep.AppendLies
import Derived.Deep.RegionHeld3
namespace Go.Proofs.YtepladakcepgdaaDoor
open Go.ChangeShapes Go.WideShapes Go.ChangeAt Go.RowKit
set_option linter.unusedVariables false

theorem Below.one (w : World) (o : Obj) : Below w.heap.size w (w.alloc o) := (Below.refl _ _).alloc (Nat.le_refl _) _
theorem Box.more {w : World} {p : Nat} {t : TypeId} {v0 v1 : Value} (h : Box w p t v0 v1) (o : Obj) : Box (w.alloc o) p t v0 v1 := h.below (Below.one w o) h.lt
theorem Box.drew {w : World} {p : Nat} {t : TypeId} {v0 v1 : Value} (h : Box w p t v0 v1) : Box w.drew p t v0 v1 := h
theorem own_empty (w : World) (B p : Nat) (hB : B ≤ w.heap.size) (hp : w.heap.size = p) : (w.alloc (.cells #[] 3)).ownsRow B 3 1 (.slice (some ⟨p, 0, none⟩) 0 0) 0 [] := by
  subst hp; exact World.ownsRow_lit (base := B) (e := 3) (size := 1) w #[] 0 hB (by simp) rfl
theorem IntRow.more {w : World} {a : Option Addr} {l : List Int} (h : IntRow w a l) (o : Obj) : IntRow (w.alloc o) a l := h.below (Below.one w o) (Nat.le_refl _)

theorem own_other {w : World} {B g n c : Nat} {xs : List Value} (h : w.ownsRow B 3 1 (.slice (some ⟨g, 0, none⟩) n c) n xs) (p : Addr) (u : Value) (hp : g ≠ p.block) : (w.setCell p u).ownsRow B 3 1 (.slice (some ⟨g, 0, none⟩) n c) n xs := by
  have hg : w.grownBy (w.setCell p u) (some p.block) := ⟨rfl, rfl, rfl, by simp [World.setCell], fun k hk hn => heap_setCell_other w p k u (fun e => hn (by rw [e]))⟩
  exact own_grown h hg (fun k hk e => hp (by simp [blk] at hk; simp at e; omega))

end Go.Proofs.YtepladakcepgdaaDoor
