/-
  What a law over one tour holds whose functions return slices of slices of numbers. No conditions but the bounds on the lists.
-/
import Derived.Test.YtpndfmlkceplcaaWb
import Derived.Test.YtpndfmlkceplcaaC
namespace Go.Proofs.Ytpndfmlkceplcaa
open Go.ChangeShapes Go.WideShapes Go.ChangeAt Go.RowKit
set_option linter.unusedVariables false

/-- A list of lists that is not too long for a law's marks. -/
def SmallSS (R : List (List Int)) : Prop := R.length ≤ 4096 ∧ (∀ i, i < R.length → (R.getD i []).length ≤ 4096) ∧ sumLs R ≤ 900000
/-- A row below a bound stays where all that changes lies from it on. -/
theorem own_lowE {e : TypeId} {W W' : World} {B B' n c : Nat} {a : Option Addr} {xs : List Value} (h : W.ownsRow B e 1 (.slice a n c) n xs) (hb : Below B' W W') (ho : ∀ k, blk a = some k → k < B') : W'.ownsRow B e 1 (.slice a n c) n xs := by
  rcases h.2 with ⟨hn, h0⟩ | ⟨g, cap, cur, he, hB, hg, q⟩
  · exact ⟨h.1, .inl ⟨hn, h0⟩⟩
  · refine ⟨h.1, .inr ⟨g, cap, cur, he, hB, ?_, q⟩⟩
    simp only [Value.slice.injEq] at he
    exact (hb.block g (ho g (by rw [he.1]; rfl))).trans hg

structure StS (w W : World) (Bg : Nat) (pA : Nat) (n : Int) (a : Option Addr) (cap : Nat) (l : List Int) (px : Nat) (ax : Option Addr) (cx : Nat) (X : List Int) (a0 : Option Addr) (c0 : Nat) (gs0 : List (Nat × Nat)) (R : List (List Int)) (ag : Option Addr) (cg : Nat) (gsg : List (Nat × Nat)) (G : List (List Int)) : Prop where
  hb : Below w.heap.size w W
  hr : IntRow w a l
  bA : Box W pA 24 (.int .i64 n) (.slice a l.length cap)
  bx : Box W px 27 (.int .i64 n) (.slice ax X.length cx)
  rx : W.ownsRow w.heap.size 3 1 (.slice ax X.length cx) X.length (X.map iv)
  r0 : OwnSS W w.heap.size a0 c0 gs0 R
  rg : OwnSS W Bg ag cg gsg G
  lo : w.heap.size ≤ Bg ∧ Bg ≤ W.heap.size ∧ pA < Bg ∧ px < Bg
  nx : ∀ k, blk ax = some k → k < Bg ∧ k ≠ pA ∧ k ≠ px ∧ blk a0 ≠ some k ∧ ∀ i, i < R.length → (gs0.getD i (0, 0)).1 ≠ k
  n0 : (∀ k, blk a0 = some k → k < Bg) ∧ ∀ i, i < R.length → (gs0.getD i (0, 0)).1 < Bg

section
variable {w W W' : World} {Bg pA : Nat} {n : Int} {a : Option Addr} {cap : Nat} {l : List Int} {px : Nat} {ax : Option Addr} {cx : Nat} {X X' : List Int} {a0 : Option Addr} {c0 : Nat} {gs0 : List (Nat × Nat)} {R : List (List Int)} {ag : Option Addr} {cg : Nat} {gsg : List (Nat × Nat)} {G G' : List (List Int)}
theorem StS.rA (h : StS w W Bg pA n a cap l px ax cx X a0 c0 gs0 R ag cg gsg G) : IntRow W a l := h.hr.below h.hb (Nat.le_refl _)
theorem StS.kept (h : StS w W Bg pA n a cap l px ax cx X a0 c0 gs0 R ag cg gsg G) (hb : Below W.heap.size W W') : StS w W' Bg pA n a cap l px ax cx X a0 c0 gs0 R ag cg gsg G :=
  ⟨h.hb.trans (hb.mono h.hb.size), h.hr, h.bA.below hb h.bA.lt, h.bx.below hb h.bx.lt, own_below h.rx hb, h.r0.below hb, h.rg.below hb, ⟨h.lo.1, Nat.le_trans h.lo.2.1 hb.size, h.lo.2.2⟩, h.nx, h.n0⟩
theorem StS.markX (h : StS w W Bg pA n a cap l px ax cx X a0 c0 gs0 R ag cg gsg G) (hl : X'.length = X.length) (hx : W'.ownsRow w.heap.size 3 1 (.slice ax X.length cx) X.length (X'.map iv)) (hb : Below w.heap.size W W') (hg : W.grownBy W' (blk ax)) :
    StS w W' Bg pA n a cap l px ax cx X' a0 c0 gs0 R ag cg gsg G := by
  refine ⟨h.hb.trans hb, h.hr, h.bA.grown hg (fun e => (h.nx _ e).2.1 rfl), ?_, ?_, h.r0.aside hg (fun k hk => ⟨(h.nx k hk).2.2.2.1, (h.nx k hk).2.2.2.2⟩), h.rg.aside hg (fun k hk => ?_), ⟨h.lo.1, Nat.le_trans h.lo.2.1 hg.size, h.lo.2.2⟩, h.nx, h.n0⟩
  · rw [hl]; exact h.bx.grown hg (fun e => (h.nx _ e).2.2.1 rfl)
  · rw [hl]; exact hx
  · have hk2 := (h.nx k hk).1
    refine ⟨fun e => ?_, fun i hi e => ?_⟩
    · have := (h.rg.blkO e).1; omega
    · have := (h.rg.blkI i hi).1; omega
theorem StS.markG (h : StS w W Bg pA n a cap l px ax cx X a0 c0 gs0 R ag cg gsg G) (hx : OwnSS W' Bg ag cg gsg G') (hb : Below Bg W W') :
    StS w W' Bg pA n a cap l px ax cx X a0 c0 gs0 R ag cg gsg G' :=
  ⟨h.hb.trans (hb.mono h.lo.1), h.hr, h.bA.below hb h.lo.2.2.1, h.bx.below hb h.lo.2.2.2, own_lowE h.rx hb (fun k hk => (h.nx k hk).1), h.r0.kept hb h.n0.1 h.n0.2, hx, ⟨h.lo.1, Nat.le_trans h.lo.2.1 hb.size, h.lo.2.2⟩, h.nx, h.n0⟩
end
end Go.Proofs.Ytpndfmlkceplcaa
