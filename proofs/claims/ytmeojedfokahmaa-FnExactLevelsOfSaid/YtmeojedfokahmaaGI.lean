/-
  What the model's 'LevelsOf' holds between its rounds. No conditions.
-/
import Derived.Test.YtmeojedfokahmaaGH
namespace Go.Proofs.Ytmeojedfokahmaa
open Go.ChangeShapes Go.WideShapes Go.ChangeAt Go.RowKit Go.Sort
set_option linter.unusedVariables false

theorem own_rebase {w : World} {B B2 g n c : Nat} {e : TypeId} {xs : List Value} (h : w.ownsRow B e 1 (.slice (some ⟨g, 0, none⟩) n c) n xs) (hB : B2 ≤ g) : w.ownsRow B2 e 1 (.slice (some ⟨g, 0, none⟩) n c) n xs := by
  rcases h.2 with ⟨hn, _⟩ | ⟨g2, c2, cur, he, _, h3, h4, h5, h6, h7⟩
  · cases hn
  · simp only [Value.slice.injEq, Option.some.injEq, Addr.mk.injEq, and_true, true_and] at he
    obtain ⟨rfl, rfl⟩ := he
    exact ⟨h.1, .inr ⟨g, c, cur, rfl, hB, h3, h4, h5, h6, h7⟩⟩

structure Mv (w W : World) (Q go n cO : Nat) (O : List Nat) (ao : Option Addr) (co : Nat) (gs : List (Nat × Nat)) (Gs : List (List Int)) : Prop where
  hb : Below w.heap.size w W
  ss : OwnSS W w.heap.size ao co gs Gs
  og : W.ownsRow w.heap.size 3 1 (.slice (some ⟨go, 0, none⟩) n cO) n ((niG O).map iv)
  gi : ∀ i, i < Gs.length → Q ≤ (gs.getD i (0, 0)).1
  gQ : go < Q
  QW : Q ≤ W.heap.size
  gB : ∀ k, blk ao = some k → k ≠ go
theorem Mv.below {w W W' : World} {Q go n cO : Nat} {O : List Nat} {ao : Option Addr} {co : Nat} {gs : List (Nat × Nat)} {Gs : List (List Int)} (h : Mv w W Q go n cO O ao co gs Gs) (hb : Below W.heap.size W W') : Mv w W' Q go n cO O ao co gs Gs :=
  ⟨h.hb.trans (hb.mono h.hb.size), h.ss.below hb, own_below h.og hb, h.gi, h.gQ, Nat.le_trans h.QW hb.size, h.gB⟩

theorem Mv.push {w W W4 : World} {Q go n cO : Nat} {O : List Nat} {ao : Option Addr} {co : Nat} {gs : List (Nat × Nat)} {Gs : List (List Int)} {g4 c4 : Nat} {x : Int} (h : Mv w W Q go n cO O ao co gs Gs) (hn : 0 < n)
    (hg : ((W.alloc (.cells #[.int .i64 x] 3)).alloc (.cells #[.slice (some ⟨W.heap.size, 0, none⟩) 1 1] 23)).grownBy W4 (blk ao))
    (ho : W4.ownsRow w.heap.size 23 1 (.slice (some ⟨g4, 0, none⟩) (Gs.length + 1) c4) (Gs.length + 1) (svs gs Gs ++ [.slice (some ⟨W.heap.size, 0, none⟩) 1 1])) :
    Mv w W4 Q go n cO O (some ⟨g4, 0, none⟩) c4 (gs ++ [(W.heap.size, 1)]) (Gs ++ [[x]]) := by
  have hs := h.hb.size
  have g1 : W.grownBy ((W.alloc (.cells #[.int .i64 x] 3)).alloc (.cells #[.slice (some ⟨W.heap.size, 0, none⟩) 1 1] 23)) none := (World.grownBy_alloc W _ none).trans (World.grownBy_alloc _ _ _)
  have hrow : ((W.alloc (.cells #[.int .i64 x] 3)).alloc (.cells #[.slice (some ⟨W.heap.size, 0, none⟩) 1 1] 23)).ownsRow w.heap.size 3 1 (.slice (some ⟨W.heap.size, 0, none⟩) [x].length 1) [x].length ([x].map iv) :=
    (World.ownsRow_lit (base := w.heap.size) (e := 3) (size := 1) W #[.int .i64 x] 1 hs (by unfold maxLen; omega) rfl).alloc _
  have hb1 : Below w.heap.size w ((W.alloc (.cells #[.int .i64 x] 3)).alloc (.cells #[.slice (some ⟨W.heap.size, 0, none⟩) 1 1] 23)) := by
    have hA := h.hb.alloc hs (.cells #[.int .i64 x] 3)
    exact hA.alloc hA.size _
  have hne : ∀ k, blk ao = some k → w.heap.size ≤ k := fun k hk => (h.ss.blkO hk).1
  have hb3 : Below w.heap.size w W4 := hb1.grown hg hb1.size (fun k e => hne k e)
  have og4 : W4.ownsRow w.heap.size 3 1 (.slice (some ⟨go, 0, none⟩) n cO) n ((niG O).map iv) := own_grown (own_grown h.og g1 (fun k _ e => by cases e)) hg (fun k hk e => by
    have hkg : k = go := by simp [blk] at hk; omega
    exact h.gB k e hkg)
  have ss4 := h.ss.push g1 hrow (Nat.le_refl _) hg ho
  refine ⟨hb3, ss4, og4, fun i hi => ?_, h.gQ, Nat.le_trans h.QW (Nat.le_trans g1.size hg.size), fun k hk => ?_⟩
  · have hlen : (Gs ++ [[x]]).length = Gs.length + 1 := by simp
    rw [hlen] at hi
    rcases Nat.lt_or_ge i Gs.length with hil | hil
    · rw [getD_snoc_l gs _ _ (by rw [h.ss.len]; exact hil)]; exact h.gi i hil
    · rw [getD_snoc_r gs _ _ (by rw [h.ss.len]; omega)]; exact h.QW
  · simp only [blk, Option.map_some, Option.some.injEq] at hk
    rw [← hk]
    rintro rfl
    have c1 := ss4.cell 0 (by simp)
    rw [cell_own og4 hn] at c1
    simp [iv] at c1

theorem Mv.more {w W W2 : World} {Q go n cO : Nat} {O : List Nat} {G co : Nat} {gs : List (Nat × Nat)} {Ls : List (List Int)} {T : List Int} {gl cl g2 c2 : Nat} {x : Int} (h : Mv w W Q go n cO O (some ⟨G, 0, none⟩) co (gs ++ [(gl, cl)]) (Ls ++ [T])) (hn : 0 < n)
    (hg2 : (W.alloc (.cells #[.int .i64 x] 3)).grownBy W2 (some gl))
    (ho : W2.ownsRow Q 3 1 (.slice (some ⟨g2, 0, none⟩) (T.length + 1) c2) (T.length + 1) ((T ++ [x]).map iv)) (hT : 0 < T.length)
    (hne : ∀ j, j < Ls.length → 0 < (Ls.getD j []).length ∧ (Ls.getD j []).getD 0 0 ≠ T.getD 0 0) :
    Mv w (W2.setCell ⟨G, Ls.length, none⟩ (.slice (some ⟨g2, 0, none⟩) (T.length + 1) c2)) Q go n cO O (some ⟨G, 0, none⟩) co (gs ++ [(g2, c2)]) (Ls ++ [T ++ [x]]) := by
  have hs := h.hb.size
  have hgl : gs.length = Ls.length := by have := h.ss.len; simp at this; exact this
  have hQs := h.QW
  have hwQ : w.heap.size ≤ Q := by have := (h.og.lt go rfl).1; have := h.gQ; omega
  have g1 : W.grownBy (W.alloc (.cells #[.int .i64 x] 3)) none := World.grownBy_alloc W _ none
  have hlT : (T ++ [x]).length = T.length + 1 := by simp
  have hoT : W2.ownsRow w.heap.size 3 1 (.slice (some ⟨g2, 0, none⟩) (T ++ [x]).length c2) (T ++ [x]).length ((T ++ [x]).map iv) := by rw [hlT]; exact ho.mono hwQ
  have hglQ : Q ≤ gl := by
    have := h.gi Ls.length (by simp)
    rw [getD_snoc_r gs _ _ hgl.symm] at this
    exact this
  have hG := (h.ss.blkO (k := G) rfl)
  have hGgo := h.gB G rfl
  have hm := h.ss.more g1 hg2 hoT (by rw [hlT]; omega) (fun j hj => by
    refine ⟨(hne j hj).1, ?_⟩
    rw [List.getD_eq_getElem?_getD (l := T ++ [x]), List.getElem?_append_left hT, ← List.getD_eq_getElem?_getD]
    exact (hne j hj).2)
  rw [hlT] at hm
  have og2 : W2.ownsRow w.heap.size 3 1 (.slice (some ⟨go, 0, none⟩) n cO) n ((niG O).map iv) := own_grown (own_grown h.og g1 (fun k _ e => by cases e)) hg2 (fun k hk e => by
    have hkg : k = go := by simp [blk] at hk; omega
    cases e
    have := h.gQ
    omega)
  have hb2 : Below w.heap.size w W2 := (h.hb.alloc hs (.cells #[.int .i64 x] 3)).grown hg2 (h.hb.alloc hs _).size (fun k e => by cases e; omega)
  refine ⟨hb2.setCell (p := ⟨G, Ls.length, none⟩) hG.1 _, hm.1, own_grown og2 hm.2 (fun k hk e => by
    have hkg : k = go := by simp [blk] at hk; omega
    cases e
    exact hGgo hkg), fun i hi => ?_, h.gQ, ?_, h.gB⟩
  · have hlen : (Ls ++ [T ++ [x]]).length = Ls.length + 1 := by simp
    rw [hlen] at hi
    rcases Nat.lt_or_ge i Ls.length with hil | hil
    · have := h.gi i (by simp; omega)
      rw [getD_snoc_l gs _ _ (by omega)] at this ⊢
      exact this
    · rw [getD_snoc_r gs _ _ (by omega)]
      exact (ho.lt g2 rfl).1
  · have h1 := hg2.size
    have h2 := g1.size
    simp only [World.size_setCell]
    omega
end Go.Proofs.Ytmeojedfokahmaa
