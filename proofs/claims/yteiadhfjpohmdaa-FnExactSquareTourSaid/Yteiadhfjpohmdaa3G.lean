/-
  What a law over one slice of numbers whose result is a slice of numbers holds of the memory between its steps. No conditions.
-/
import Derived.Test.YteiadhfjpohmdaaG
namespace Go.Proofs.Yteiadhfjpohmdaa
open Go.ChangeShapes Go.WideShapes Go.ChangeAt Go.RowKit
set_option linter.unusedVariables false

structure Sl (w W : World) (a : Option Addr) (l : List Int) (ax : Option Addr) (cx : Nat) (X : List Int) (a0 : Option Addr) (c0 : Nat) (R : List Int) (ag : Option Addr) (cg : Nat) (G : List Int) : Prop where
  hb : Below w.heap.size w W
  hr : IntRow w a l
  rx : W.ownsRow w.heap.size 3 1 (.slice ax X.length cx) X.length (X.map iv)
  r0 : W.ownsRow w.heap.size 3 1 (.slice a0 R.length c0) R.length (R.map iv)
  rg : W.ownsRow w.heap.size 3 1 (.slice ag G.length cg) G.length (G.map iv)
  nx : ∀ k, blk ax = some k → blk a0 ≠ some k ∧ blk ag ≠ some k
  ng : ∀ k, blk ag = some k → blk a0 ≠ some k ∧ blk ax ≠ some k
section
variable {w W W' : World} {a : Option Addr} {l : List Int} {ax : Option Addr} {cx : Nat} {X X' : List Int} {a0 : Option Addr} {c0 : Nat} {R : List Int} {ag : Option Addr} {cg : Nat} {G G' : List Int}
theorem Sl.rA (h : Sl w W a l ax cx X a0 c0 R ag cg G) : IntRow W a l := h.hr.below h.hb (Nat.le_refl _)
theorem Sl.kept (h : Sl w W a l ax cx X a0 c0 R ag cg G) (hb : Below W.heap.size W W') : Sl w W' a l ax cx X a0 c0 R ag cg G :=
  ⟨h.hb.trans (hb.mono h.hb.size), h.hr, own_below h.rx hb, own_below h.r0 hb, own_below h.rg hb, h.nx, h.ng⟩
theorem Sl.markX (h : Sl w W a l ax cx X a0 c0 R ag cg G) (hl : X'.length = X.length) (hx : W'.ownsRow w.heap.size 3 1 (.slice ax X.length cx) X.length (X'.map iv)) (hb : Below w.heap.size W W') (hg : W.grownBy W' (blk ax)) :
    Sl w W' a l ax cx X' a0 c0 R ag cg G := by
  refine ⟨h.hb.trans hb, h.hr, ?_, own_grown h.r0 hg (fun k hk e => (h.nx _ e).1 hk), own_grown h.rg hg (fun k hk e => (h.nx _ e).2 hk), h.nx, h.ng⟩
  rw [hl]; exact hx
theorem Sl.markG (h : Sl w W a l ax cx X a0 c0 R ag cg G) (hl : G'.length = G.length) (hx : W'.ownsRow w.heap.size 3 1 (.slice ag G.length cg) G.length (G'.map iv)) (hb : Below w.heap.size W W') (hg : W.grownBy W' (blk ag)) :
    Sl w W' a l ax cx X a0 c0 R ag cg G' := by
  refine ⟨h.hb.trans hb, h.hr, own_grown h.rx hg (fun k hk e => (h.ng _ e).2 hk), own_grown h.r0 hg (fun k hk e => (h.ng _ e).1 hk), ?_, h.nx, h.ng⟩
  rw [hl]; exact hx
end
end Go.Proofs.Yteiadhfjpohmdaa
