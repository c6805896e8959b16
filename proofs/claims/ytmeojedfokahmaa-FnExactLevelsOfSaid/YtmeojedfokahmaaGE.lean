/-
  'LevelsOf' of the program. No conditions but the bounds that Go gives a slice.
-/
import Derived.Test.YtmeojedfokahmaaGD
namespace Go.Proofs.Ytmeojedfokahmaa
open Go.ChangeShapes Go.WideShapes Go.ChangeAt Go.RowKit Go.Sort
set_option linter.unusedVariables false

theorem infoSS : (Try.prog.info? 23).map (fun i => (i.zero, i.size, i.bytes)) = some (some (.slice none 0 0), 1, 24) := by kernel_rfl

/-- What lies in memory while the order is cut: the levels, the order's row, the box of what is left. -/
structure Lv (w W : World) (B p0 q g : Nat) (a : Option Addr) (n cap : Nat) (l : List Int) (O : List Nat) (cO : Nat) (ao : Option Addr) (co : Nat) (gs : List (Nat × Nat)) (Ls : List (List Int)) (left : Value) : Prop where
  hb : Below w.heap.size w W
  ss : OwnSS W B ao co gs Ls
  og : W.ownsRow w.heap.size 3 1 (.slice (some ⟨g, 0, none⟩) n cO) n ((niG O).map iv)
  bp : Boxed W p0 23 (.slice a n cap)
  bq : Boxed W q 23 left
  ql : ∀ k, blk ao = some k → k < q
  qi : ∀ i, i < Ls.length → (gs.getD i (0, 0)).1 < q
  gi : ∀ i, i < Ls.length → g < (gs.getD i (0, 0)).1
  gq : g < q
  gB : ∀ k, blk ao = some k → k ≠ g
  pB : p0 < B
  pg : p0 < g
  wB : w.heap.size ≤ p0
  Bs : B ≤ W.heap.size
theorem Lv.step {w W W2 W4 : World} {B p0 q g : Nat} {a : Option Addr} {n cap : Nat} {l : List Int} {O : List Nat} {cO : Nat} {ao : Option Addr} {co : Nat} {gs : List (Nat × Nat)} {Ls : List (List Int)} {p r c gn e g4 c4 : Nat} {row : List Int}
    (h : Lv w W B p0 q g a n cap l O cO ao co gs Ls (.slice (some ⟨g, p, none⟩) r c)) (hn : 0 < n) (hO : O.length = n) (hb12 : Below W.heap.size W W2) (he : row.length = e) (hrow : W2.ownsRow W.heap.size 3 1 (.slice (some ⟨gn, 0, none⟩) row.length e) row.length (row.map iv)) (hgn : W.heap.size ≤ gn)
    (hg : (W2.alloc (.cells #[.slice (some ⟨gn, 0, none⟩) e e] 23)).grownBy W4 (blk ao)) (ho : W4.ownsRow B 23 1 (.slice (some ⟨g4, 0, none⟩) (Ls.length + 1) c4) (Ls.length + 1) (svs gs Ls ++ [.slice (some ⟨gn, 0, none⟩) e e])) (left : Value) :
    Lv w ((W4.setCell ⟨q, 0, none⟩ left).alloc (.cells #[left] 23)) B p0 W4.heap.size g a n cap l O cO (some ⟨g4, 0, none⟩) c4 (gs ++ [(gn, e)]) (Ls ++ [row]) left := by
  obtain ⟨W3, hW3⟩ : ∃ W3, W3 = W2.alloc (.cells #[.slice (some ⟨gn, 0, none⟩) e e] 23) := ⟨_, rfl⟩
  rw [← hW3] at hg
  have g13 : W.grownBy W3 none := by rw [hW3]; exact (grown_of_below hb12).trans (World.grownBy_alloc W2 _ none)
  have hsz3 : W.heap.size ≤ W3.heap.size := g13.size
  have hql := h.bq.lt
  have hblk : ∀ k, blk ao = some k → B ≤ k ∧ k < W.heap.size := fun k hk => h.ss.blkO hk
  have hsv : Value.slice (some ⟨gn, 0, none⟩) e e = sv (gn, e) row := by unfold sv; rw [he]
  rw [hsv] at ho
  have hrow3 : W3.ownsRow B 3 1 (.slice (some ⟨gn, 0, none⟩) row.length e) row.length (row.map iv) := by
    rw [hW3]; exact (hrow.mono h.Bs).alloc _
  have ss4 := h.ss.push g13 hrow3 hgn hg ho
  have hlen : (Ls ++ [row]).length = Ls.length + 1 := by simp
  have ga : ∀ i, i < Ls.length → (gs ++ [(gn, e)]).getD i (0, 0) = gs.getD i (0, 0) := fun i hi => by
    rw [List.getD_eq_getElem?_getD, List.getD_eq_getElem?_getD, List.getElem?_append_left (by rw [h.ss.len]; exact hi)]
  have gb : (gs ++ [(gn, e)]).getD Ls.length (0, 0) = (gn, e) := by
    rw [List.getD_eq_getElem?_getD, ← h.ss.len, List.getElem?_append_right (Nat.le_refl _)]; simp
  have gi4 : ∀ i, i < (Ls ++ [row]).length → g < ((gs ++ [(gn, e)]).getD i (0, 0)).1 ∧ ((gs ++ [(gn, e)]).getD i (0, 0)).1 ≠ q := fun i hi => by
    rw [hlen] at hi
    rcases Nat.lt_or_ge i Ls.length with hil | hil
    · rw [ga i hil]; have := h.gi i hil; have := h.qi i hil; omega
    · obtain rfl : i = Ls.length := by omega
      rw [gb]; have := h.gq; simp only; omega
  have hneq : ∀ k, blk ao = some k → k ≠ q := fun k hk => by have := h.ql k hk; omega
  have bq4 : Boxed W4 q 23 (.slice (some ⟨g, p, none⟩) r c) := (h.bq.kept g13 (by simp)).kept hg (fun e => hneq q e.symm rfl)
  have bp4 : Boxed W4 p0 23 (.slice a n cap) := (h.bp.kept g13 (by simp)).kept hg (fun e => by have := (hblk p0 e.symm).1; have := h.pB; omega)
  have og3 : W3.ownsRow w.heap.size 3 1 (.slice (some ⟨g, 0, none⟩) n cO) n ((niG O).map iv) := own_grown h.og g13 (fun k _ e => by cases e)
  have og4 : W4.ownsRow w.heap.size 3 1 (.slice (some ⟨g, 0, none⟩) n cO) n ((niG O).map iv) := own_grown og3 hg (fun k hk e => by
    have hkg : k = g := by simp [blk] at hk; omega
    exact h.gB k e hkg)
  have hg4q : g4 ≠ q := by
    rintro rfl
    have c1 := ss4.cell 0 (by rw [hlen]; omega)
    rw [bq4.cell] at c1
    have := (gi4 0 (by rw [hlen]; omega)).1
    simp only [Option.some.injEq, Value.slice.injEq, Addr.mk.injEq] at c1
    omega
  have hg4g : g4 ≠ g := by
    rintro rfl
    have c1 := ss4.cell 0 (by rw [hlen]; omega)
    rw [cell_own og4 hn] at c1
    simp [iv] at c1
  have hset : W4.grownBy (W4.setCell ⟨q, 0, none⟩ left) (some q) := grownBy_setCell' W4 q left
  have ss5 := ss4.aside hset (fun k e => by
    cases e
    exact ⟨fun e => hg4q (by simpa [blk] using e), fun i hi => (gi4 i hi).2⟩)
  have hpq : p0 ≠ q := by have := h.pg; have := h.gq; omega
  have bp5 : Boxed (W4.setCell ⟨q, 0, none⟩ left) p0 23 (.slice a n cap) := bp4.kept hset (by simp; exact hpq)
  have og5 : (W4.setCell ⟨q, 0, none⟩ left).ownsRow w.heap.size 3 1 (.slice (some ⟨g, 0, none⟩) n cO) n ((niG O).map iv) := own_grown og4 hset (fun k hk e => by
    have hkg : k = g := by simp [blk] at hk; omega
    cases e
    have := h.gq
    omega)
  have hs5 : (W4.setCell ⟨q, 0, none⟩ left).heap.size = W4.heap.size := by simp
  have hs4 : W3.heap.size ≤ W4.heap.size := hg.size
  have hwq : w.heap.size ≤ q := by have := h.wB; have := h.pg; have := h.gq; omega
  have hb3 : Below w.heap.size w W3 := by rw [hW3]; exact (h.hb.trans (hb12.mono h.hb.size)).alloc (h.hb.trans (hb12.mono h.hb.size)).size _
  have hb4 : Below w.heap.size w W4 := hb3.grown hg hb3.size (fun k e => by have := (hblk k e).1; have := h.pB; have := h.wB; omega)
  have hb5 : Below w.heap.size w (W4.setCell ⟨q, 0, none⟩ left) := hb4.setCell (p := ⟨q, 0, none⟩) hwq _
  have hgal : (W4.setCell ⟨q, 0, none⟩ left).grownBy ((W4.setCell ⟨q, 0, none⟩ left).alloc (.cells #[left] 23)) none := World.grownBy_alloc _ _ _
  have bnew := Boxed.new (W4.setCell ⟨q, 0, none⟩ left) 23 left
  rw [hs5] at bnew
  refine ⟨hb5.alloc hb5.size _, ss5.aside hgal (fun k e => by cases e), own_grown og5 hgal (fun k _ e => by cases e), bp5.alloc _, bnew, ?_, ?_, fun i hi => (gi4 i hi).1, ?_, ?_, h.pB, h.pg, h.wB, ?_⟩
  · intro k hk
    have := (ss4.blkO hk).2
    exact this
  · intro i hi
    exact (ss4.blkI i hi).2
  · have := (og4.lt g rfl).2
    exact this
  · intro k hk
    simp only [blk, Option.map_some, Option.some.injEq] at hk
    first | (rw [← hk]; exact hg4g) | (intro e; exact hg4g (by omega))
  · have := h.Bs
    simp
    omega
end Go.Proofs.Ytmeojedfokahmaa
