/-
  What a splice of a row of the call's own (s[:k], x, s[k:]) holds between its appends. No conditions.
-/
import Derived.Test.YtgjogbihadiojaaB
import Derived.Maps.AppendAt
namespace Go.Proofs.Ytgjogbihadiojaa
open Go.ChangeShapes Go.WideShapes Go.ChangeAt Go.RowKit
set_option linter.unusedVariables false

theorem own_some {w : World} {B n : Nat} {v : Value} {xs : List Value} (h : w.ownsRow B 3 1 v n xs) (hne : v ≠ .slice none 0 0) : ∃ g cap, v = .slice (some ⟨g, 0, none⟩) n cap ∧ B ≤ g ∧ g < w.heap.size ∧ n ≤ cap := by
  have h0 := h
  rcases h.2 with ⟨hn, _⟩ | ⟨g, cap, cur, rfl, hb, hg, hnc, _⟩
  · exact absurd hn hne
  · exact ⟨g, cap, rfl, hb, (h0.lt g rfl).2, hnc⟩

theorem slice_ne {a : Addr} {n c : Nat} : Value.slice (some a) n c ≠ .slice none 0 0 := by
  intro h
  injection h with h
  cases h
/-- What the round holds of the row that it reads: its block lies below n0, and has not turned. -/
structure Xs (n0 g k : Nat) (O : List Int) (wr W : World) : Prop where
  sz : n0 ≤ W.heap.size
  lo : g < n0
  gr : wr.grownBy W none
  rd : ∀ j, j < k → wr.cell? ⟨g, j, none⟩ = some (.int .i64 (O.getD j 0))
  ol : O.length = k
  z0 : wr.heap.size = n0
theorem Xs.grown1 {n0 g k : Nat} {O : List Int} {wr W W' : World} (h : Xs n0 g k O wr W) {row : Option Nat} (hg : W.grownBy W' row) (hr : ∀ b, row = some b → n0 ≤ b) : Xs n0 g k O wr W' := by
  refine ⟨Nat.le_trans h.sz hg.size, h.lo, ⟨hg.os.trans h.gr.os, hg.tape.trans h.gr.tape, hg.output.trans h.gr.output, Nat.le_trans h.gr.size hg.size, fun b hb _ => ?_⟩, h.rd, h.ol, h.z0⟩
  have h1 := h.gr.block b hb (by simp)
  have h2 := hg.block b (Nat.lt_of_lt_of_le hb h.gr.size) (fun e => by have := hr b e.symm; have := h.z0; omega)
  exact h2.trans h1
theorem Xs.alloc1 {n0 g k : Nat} {O : List Int} {wr W : World} (h : Xs n0 g k O wr W) (o : Obj) : Xs n0 g k O wr (W.alloc o) := h.grown1 (World.grownBy_alloc W o none) (by simp)
theorem Xs.cell {n0 g k : Nat} {O : List Int} {wr W : World} (h : Xs n0 g k O wr W) (j : Nat) (hj : j < k) : W.cell? ⟨g, j, none⟩ = some (.int .i64 (O.getD j 0)) := by
  rw [← h.rd j hj]
  exact World.cell?_of_block (h.gr.block g (by rw [h.z0]; exact h.lo) (by simp))
theorem Xs.cells {n0 g k : Nat} {O : List Int} {wr W : World} (h : Xs n0 g k O wr W) (j : Nat) (hj : j ≤ k) {ad : Addr} (ha : j < k → ad = ⟨g, j, none⟩) : ∀ i u, ((O.drop j).map iv)[i]? = some u → W.cell? (ad.add i) = some u := by
  intro i u hu
  have hi : i < (O.drop j).length := by
    rcases Nat.lt_or_ge i (O.drop j).length with h' | h'
    · exact h'
    · rw [List.getElem?_eq_none (by rw [List.length_map]; exact h')] at hu; cases hu
  rw [List.length_drop, h.ol] at hi
  rw [ha (by omega)]
  have e : (⟨g, j, none⟩ : Addr).add i = ⟨g, j + i, none⟩ := by unfold Addr.add; split <;> simp_all
  rw [e, h.cell (j + i) (by omega)]
  rw [List.getElem?_map, List.getElem?_drop, List.getElem?_eq_getElem (by rw [h.ol]; omega)] at hu
  rw [List.getD_eq_getElem?_getD, List.getElem?_eq_getElem (by rw [h.ol]; omega)]
  simpa [iv] using hu
theorem Xs.below {n0 g k : Nat} {O : List Int} {wr W w : World} (h : Xs n0 g k O wr W) (hb : Below w.heap.size w wr) (hs : w.heap.size ≤ wr.heap.size) : Below w.heap.size w W :=
  hb.grown h.gr hs (fun k hk => by cases hk)
end Go.Proofs.Ytgjogbihadiojaa
