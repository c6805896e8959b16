/-
  What a law over two slices of numbers whose result is a slice of numbers holds of the memory between its steps. No conditions.
-/
import Derived.Test.YtpndfmlkceplcaaG
namespace Go.Proofs.Ytpndfmlkceplcaa
open Go.ChangeShapes Go.WideShapes Go.ChangeAt Go.RowKit
set_option linter.unusedVariables false

theorem markI3 (B n p : Nat) (a : Option Addr) (cap : Nat) (l : List Value) (w : World) (hn : n ≤ 1048577) (hp : p ≤ 1048577) (hown : w.ownsRow B 3 1 (.slice a n cap) n l) :
    Calls Try.prog 27 #[.slice a n cap, .int .i64 (1 + p)] w fun e w' => (∃ k : Nat, e = .returned (.int .i64 k) ∧ k ≤ 4194304) ∧ (∃ Z : List Int, Z.length = n ∧ w'.ownsRow B 3 1 (.slice a n cap) n (Z.map iv)) ∧ Below B w w' ∧ w.grownBy w' (blk a) := by
  have := markInt B n (1 + p) _ l w hn (by omega) hown
  rw [blk_own] at this
  have e : ((1 + p : Nat) : Int) = 1 + (p : Int) := by omega
  rw [e] at this
  refine this.mono ?_
  rintro e' w' ⟨rfl, ho, hb, hg⟩
  exact ⟨⟨_, rfl, by omega⟩, ⟨_, marks_len _ _, ho⟩, hb, hg⟩

structure S2 (w W : World) (a : Option Addr) (la : List Int) (b : Option Addr) (lb : List Int) (ax : Option Addr) (cx : Nat) (X : List Int) (ay : Option Addr) (cy : Nat) (Y : List Int) (a0 : Option Addr) (c0 : Nat) (R : List Int) (ag : Option Addr) (cg : Nat) (G : List Int) : Prop where
  hb : Below w.heap.size w W
  ha : IntRow w a la
  hbr : IntRow w b lb
  rx : W.ownsRow w.heap.size 3 1 (.slice ax X.length cx) X.length (X.map iv)
  ry : W.ownsRow w.heap.size 3 1 (.slice ay Y.length cy) Y.length (Y.map iv)
  r0 : W.ownsRow w.heap.size 3 1 (.slice a0 R.length c0) R.length (R.map iv)
  rg : W.ownsRow w.heap.size 3 1 (.slice ag G.length cg) G.length (G.map iv)
  nx : ∀ k, blk ax = some k → blk ay ≠ some k ∧ blk a0 ≠ some k ∧ blk ag ≠ some k
  ny : ∀ k, blk ay = some k → blk ax ≠ some k ∧ blk a0 ≠ some k ∧ blk ag ≠ some k
  ng : ∀ k, blk ag = some k → blk ax ≠ some k ∧ blk ay ≠ some k ∧ blk a0 ≠ some k
section
variable {w W W' : World} {a b : Option Addr} {la lb : List Int} {ax : Option Addr} {cx : Nat} {X X' : List Int} {ay : Option Addr} {cy : Nat} {Y Y' : List Int} {a0 : Option Addr} {c0 : Nat} {R : List Int} {ag : Option Addr} {cg : Nat} {G G' : List Int}
theorem S2.rA (h : S2 w W a la b lb ax cx X ay cy Y a0 c0 R ag cg G) : IntRow W a la := h.ha.below h.hb (Nat.le_refl _)
theorem S2.rB (h : S2 w W a la b lb ax cx X ay cy Y a0 c0 R ag cg G) : IntRow W b lb := h.hbr.below h.hb (Nat.le_refl _)
theorem S2.kept (h : S2 w W a la b lb ax cx X ay cy Y a0 c0 R ag cg G) (hb : Below W.heap.size W W') : S2 w W' a la b lb ax cx X ay cy Y a0 c0 R ag cg G :=
  ⟨h.hb.trans (hb.mono h.hb.size), h.ha, h.hbr, own_below h.rx hb, own_below h.ry hb, own_below h.r0 hb, own_below h.rg hb, h.nx, h.ny, h.ng⟩
theorem S2.markX (h : S2 w W a la b lb ax cx X ay cy Y a0 c0 R ag cg G) (hl : X'.length = X.length) (hx : W'.ownsRow w.heap.size 3 1 (.slice ax X.length cx) X.length (X'.map iv)) (hb : Below w.heap.size W W') (hg : W.grownBy W' (blk ax)) :
    S2 w W' a la b lb ax cx X' ay cy Y a0 c0 R ag cg G := by
  refine ⟨h.hb.trans hb, h.ha, h.hbr, ?_, own_grown h.ry hg (fun k hk e => (h.nx _ e).1 hk), own_grown h.r0 hg (fun k hk e => (h.nx _ e).2.1 hk), own_grown h.rg hg (fun k hk e => (h.nx _ e).2.2 hk), h.nx, h.ny, h.ng⟩
  rw [hl]; exact hx
theorem S2.markY (h : S2 w W a la b lb ax cx X ay cy Y a0 c0 R ag cg G) (hl : Y'.length = Y.length) (hx : W'.ownsRow w.heap.size 3 1 (.slice ay Y.length cy) Y.length (Y'.map iv)) (hb : Below w.heap.size W W') (hg : W.grownBy W' (blk ay)) :
    S2 w W' a la b lb ax cx X ay cy Y' a0 c0 R ag cg G := by
  refine ⟨h.hb.trans hb, h.ha, h.hbr, own_grown h.rx hg (fun k hk e => (h.ny _ e).1 hk), ?_, own_grown h.r0 hg (fun k hk e => (h.ny _ e).2.1 hk), own_grown h.rg hg (fun k hk e => (h.ny _ e).2.2 hk), h.nx, h.ny, h.ng⟩
  rw [hl]; exact hx
theorem S2.markG (h : S2 w W a la b lb ax cx X ay cy Y a0 c0 R ag cg G) (hl : G'.length = G.length) (hx : W'.ownsRow w.heap.size 3 1 (.slice ag G.length cg) G.length (G'.map iv)) (hb : Below w.heap.size W W') (hg : W.grownBy W' (blk ag)) :
    S2 w W' a la b lb ax cx X ay cy Y a0 c0 R ag cg G' := by
  refine ⟨h.hb.trans hb, h.ha, h.hbr, own_grown h.rx hg (fun k hk e => (h.ng _ e).1 hk), own_grown h.ry hg (fun k hk e => (h.ng _ e).2.1 hk), own_grown h.r0 hg (fun k hk e => (h.ng _ e).2.2 hk), ?_, h.nx, h.ny, h.ng⟩
  rw [hl]; exact hx
end
end Go.Proofs.Ytpndfmlkceplcaa
