/-
  What a law over one tour whose result is a row holds of the memory between its steps. No conditions.
-/
import Derived.Test.YteiadhfjpohmdaaF
namespace Go.Proofs.Yteiadhfjpohmdaa
open Go.ChangeShapes Go.WideShapes Go.ChangeAt Go.RowKit
set_option linter.unusedVariables false

theorem grown_of_below {w w' : World} (hb : Below w.heap.size w w') : w.grownBy w' none := ⟨hb.os, hb.tape, hb.output, hb.size, fun k hk _ => hb.block k hk⟩
def blk (a : Option Addr) : Option Nat := a.map Addr.block
theorem blk_own (a : Option Addr) (n c : Nat) : (Value.slice a n c).ownBlock = blk a := by cases a <;> rfl
theorem Box.grown {w w' : World} {p : Nat} {t : TypeId} {v0 v1 : Value} {row : Option Nat} (h : Box w p t v0 v1) (hg : w.grownBy w' row) (hne : row ≠ some p) : Box w' p t v0 v1 :=
  (hg.block p h.lt (fun e => hne e.symm)).trans h
theorem own_grown {w w' : World} {B : Nat} {a : Option Addr} {n c : Nat} {xs : List Value} {row : Option Nat} (h : w.ownsRow B 3 1 (.slice a n c) n xs) (hg : w.grownBy w' row) (hne : ∀ k, blk a = some k → row ≠ some k) : w'.ownsRow B 3 1 (.slice a n c) n xs := by
  refine h.kept hg ?_
  rw [blk_own]
  cases ha : blk a with
  | none => exact .inl rfl
  | some k => exact .inr (fun e => hne k ha e.symm)
theorem own_int {w : World} {B : Nat} {a : Option Addr} {c : Nat} {l : List Int} (h : w.ownsRow B 3 1 (.slice a l.length c) l.length (l.map iv)) : IntRow w a l := by
  obtain ⟨a', c', he, hr, _⟩ := own_read h
  simp only [Value.slice.injEq, true_and] at he
  rw [he.1]; exact hr
theorem own_blk {w : World} {B : Nat} {a : Option Addr} {n c : Nat} {xs : List Value} (h : w.ownsRow B 3 1 (.slice a n c) n xs) {k : Nat} (hk : blk a = some k) : B ≤ k ∧ k < w.heap.size := h.lt k (by rw [blk_own]; exact hk)

theorem markI1 (B n : Nat) (a : Option Addr) (cap : Nat) (l : List Value) (w : World) (hn : n ≤ 1048577) (hown : w.ownsRow B 3 1 (.slice a n cap) n l) :
    Calls Try.prog 21 #[.slice a n cap, .int .i64 1] w fun e w' => e = .returned (.int .i64 (1 + n)) ∧ w'.ownsRow B 3 1 (.slice a n cap) n ((marks 1 n).map iv) ∧ Below B w w' ∧ w.grownBy w' (blk a) := by
  have := markInt B n 1 _ l w hn (by omega) hown
  rw [blk_own] at this
  simpa using this
theorem heldI1 (B n : Nat) (a : Option Addr) (cap : Nat) (w : World) (hn : n ≤ 1048577) (hown : w.ownsRow B 3 1 (.slice a n cap) n ((marks 1 n).map iv)) :
    Calls Try.prog 83 #[.slice a n cap, .int .i64 1] w fun e w' => e = .returned (.int .i64 (1 + n)) ∧ Below w.heap.size w w' := by
  have := heldInt B n 1 _ w hn (by omega) hown
  simpa using this
theorem markT1 (n0 : Int) (B n : Nat) (a : Option Addr) (cap : Nat) (l : List Value) (w : World) (hn : n ≤ 1048577) (hB : B ≤ w.heap.size) (hown : w.ownsRow B 3 1 (.slice a n cap) n l) :
    Calls Try.prog 22 #[.agg #[.int .i64 n0, .slice a n cap], .int .i64 1] w fun e w' => e = .returned (.int .i64 (1 + n)) ∧ w'.ownsRow B 3 1 (.slice a n cap) n ((marks 1 n).map iv) ∧ Below B w w' ∧ w.grownBy w' (blk a) := by
  have := markT n0 B n 1 a cap l w hn (by omega) hB hown
  rw [blk_own] at this
  simpa using this
theorem heldT1 (n0 : Int) (B n : Nat) (a : Option Addr) (cap : Nat) (w : World) (hn : n ≤ 1048577) (hown : w.ownsRow B 3 1 (.slice a n cap) n ((marks 1 n).map iv)) :
    Calls Try.prog 23 #[.agg #[.int .i64 n0, .slice a n cap], .int .i64 1] w fun e w' => e = .returned (.int .i64 (1 + n)) ∧ Below w.heap.size w w' := by
  have := heldT n0 B n 1 a cap w hn (by omega) hown
  simpa using this

structure St (w W : World) (pA : Nat) (n : Int) (a : Option Addr) (cap : Nat) (l : List Int) (px : Nat) (ax : Option Addr) (cx : Nat) (X : List Int) (a0 : Option Addr) (c0 : Nat) (R : List Int) (ag : Option Addr) (cg : Nat) (G : List Int) : Prop where
  hb : Below w.heap.size w W
  hr : IntRow w a l
  bA : Box W pA 35 (.int .i64 n) (.slice a l.length cap)
  bx : Box W px 27 (.int .i64 n) (.slice ax X.length cx)
  rx : W.ownsRow w.heap.size 3 1 (.slice ax X.length cx) X.length (X.map iv)
  r0 : W.ownsRow w.heap.size 3 1 (.slice a0 R.length c0) R.length (R.map iv)
  rg : W.ownsRow w.heap.size 3 1 (.slice ag G.length cg) G.length (G.map iv)
  nx : ∀ k, blk ax = some k → k ≠ pA ∧ k ≠ px ∧ blk a0 ≠ some k ∧ blk ag ≠ some k
  ng : ∀ k, blk ag = some k → k ≠ pA ∧ k ≠ px ∧ blk a0 ≠ some k ∧ blk ax ≠ some k

section
variable {w W W' : World} {pA : Nat} {n : Int} {a : Option Addr} {cap : Nat} {l : List Int} {px : Nat} {ax : Option Addr} {cx : Nat} {X X' : List Int} {a0 : Option Addr} {c0 : Nat} {R : List Int} {ag : Option Addr} {cg : Nat} {G G' : List Int}
theorem St.rA (h : St w W pA n a cap l px ax cx X a0 c0 R ag cg G) : IntRow W a l := h.hr.below h.hb (Nat.le_refl _)
theorem St.kept (h : St w W pA n a cap l px ax cx X a0 c0 R ag cg G) (hb : Below W.heap.size W W') : St w W' pA n a cap l px ax cx X a0 c0 R ag cg G :=
  ⟨h.hb.trans (hb.mono h.hb.size), h.hr, h.bA.below hb h.bA.lt, h.bx.below hb h.bx.lt, own_below h.rx hb, own_below h.r0 hb, own_below h.rg hb, h.nx, h.ng⟩
theorem St.markX (h : St w W pA n a cap l px ax cx X a0 c0 R ag cg G) (hl : X'.length = X.length) (hx : W'.ownsRow w.heap.size 3 1 (.slice ax X.length cx) X.length (X'.map iv)) (hb : Below w.heap.size W W') (hg : W.grownBy W' (blk ax)) :
    St w W' pA n a cap l px ax cx X' a0 c0 R ag cg G := by
  refine ⟨h.hb.trans hb, h.hr, h.bA.grown hg (fun e => (h.nx _ e).1 rfl), ?_, ?_, own_grown h.r0 hg (fun k hk e => (h.nx _ e).2.2.1 hk), own_grown h.rg hg (fun k hk e => (h.nx _ e).2.2.2 hk), h.nx, h.ng⟩
  · rw [hl]; exact h.bx.grown hg (fun e => (h.nx _ e).2.1 rfl)
  · rw [hl]; exact hx
theorem St.markG (h : St w W pA n a cap l px ax cx X a0 c0 R ag cg G) (hl : G'.length = G.length) (hx : W'.ownsRow w.heap.size 3 1 (.slice ag G.length cg) G.length (G'.map iv)) (hb : Below w.heap.size W W') (hg : W.grownBy W' (blk ag)) :
    St w W' pA n a cap l px ax cx X a0 c0 R ag cg G' := by
  refine ⟨h.hb.trans hb, h.hr, h.bA.grown hg (fun e => (h.ng _ e).1 rfl), h.bx.grown hg (fun e => (h.ng _ e).2.1 rfl), own_grown h.rx hg (fun k hk e => (h.ng _ e).2.2.2 hk), own_grown h.r0 hg (fun k hk e => (h.ng _ e).2.2.1 hk), ?_, h.nx, h.ng⟩
  rw [hl]; exact hx
end

/-- The two boxes of the results, beside it. -/
structure Bs (W : World) (p0 pg : Nat) (rn : Int) (a0 : Option Addr) (c0 m0 : Nat) (ag : Option Addr) (cg mg : Nat) (ax : Option Addr) : Prop where
  b0 : Box W p0 27 (.int .i64 rn) (.slice a0 m0 c0)
  bg : Box W pg 27 (.int .i64 rn) (.slice ag mg cg)
  n0 : ∀ k, blk ax = some k ∨ blk ag = some k → k ≠ p0 ∧ k ≠ pg
section
variable {W W' : World} {p0 pg : Nat} {rn : Int} {a0 : Option Addr} {c0 m0 : Nat} {ag : Option Addr} {cg mg : Nat} {ax : Option Addr}
theorem Bs.kept (h : Bs W p0 pg rn a0 c0 m0 ag cg mg ax) (hb : Below W.heap.size W W') : Bs W' p0 pg rn a0 c0 m0 ag cg mg ax := ⟨h.b0.below hb h.b0.lt, h.bg.below hb h.bg.lt, h.n0⟩
theorem Bs.grown (h : Bs W p0 pg rn a0 c0 m0 ag cg mg ax) {row : Option Nat} (hg : W.grownBy W' row) (hr : row = blk ax ∨ row = blk ag) : Bs W' p0 pg rn a0 c0 m0 ag cg mg ax :=
  ⟨h.b0.grown hg (fun e => (h.n0 _ (hr.imp (fun x => x.symm.trans e) (fun x => x.symm.trans e))).1 rfl), h.bg.grown hg (fun e => (h.n0 _ (hr.imp (fun x => x.symm.trans e) (fun x => x.symm.trans e))).2 rfl), h.n0⟩
end
end Go.Proofs.Yteiadhfjpohmdaa
