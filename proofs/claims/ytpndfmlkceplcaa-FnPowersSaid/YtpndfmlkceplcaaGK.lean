/-
  What a law over one list holds whose functions return slices of slices of numbers. No conditions but the bounds on the lists.
-/
import Derived.Test.YtpndfmlkceplcaaGJ
import Derived.Test.YtpndfmlkceplcaaSa
import Derived.Test.Ytpndfmlkceplcaa3G
namespace Go.Proofs.Ytpndfmlkceplcaa
open Go.ChangeShapes Go.WideShapes Go.ChangeAt Go.RowKit
set_option linter.unusedVariables false

structure SlS (w W : World) (Bg : Nat) (a : Option Addr) (l : List Int) (ax : Option Addr) (cx : Nat) (X : List Int) (a0 : Option Addr) (c0 : Nat) (gs0 : List (Nat × Nat)) (R : List (List Int)) (ag : Option Addr) (cg : Nat) (gsg : List (Nat × Nat)) (G : List (List Int)) : Prop where
  hb : Below w.heap.size w W
  hr : IntRow w a l
  rx : W.ownsRow w.heap.size 3 1 (.slice ax X.length cx) X.length (X.map iv)
  r0 : OwnSS W w.heap.size a0 c0 gs0 R
  rg : OwnSS W Bg ag cg gsg G
  lo : w.heap.size ≤ Bg ∧ Bg ≤ W.heap.size
  nx : ∀ k, blk ax = some k → k < Bg ∧ blk a0 ≠ some k ∧ ∀ i, i < R.length → (gs0.getD i (0, 0)).1 ≠ k
  n0 : (∀ k, blk a0 = some k → k < Bg) ∧ ∀ i, i < R.length → (gs0.getD i (0, 0)).1 < Bg
section
variable {w W W' : World} {Bg : Nat} {a : Option Addr} {l : List Int} {ax : Option Addr} {cx : Nat} {X X' : List Int} {a0 : Option Addr} {c0 : Nat} {gs0 : List (Nat × Nat)} {R : List (List Int)} {ag : Option Addr} {cg : Nat} {gsg : List (Nat × Nat)} {G G' : List (List Int)}
theorem SlS.rA (h : SlS w W Bg a l ax cx X a0 c0 gs0 R ag cg gsg G) : IntRow W a l := h.hr.below h.hb (Nat.le_refl _)
theorem SlS.kept (h : SlS w W Bg a l ax cx X a0 c0 gs0 R ag cg gsg G) (hb : Below W.heap.size W W') : SlS w W' Bg a l ax cx X a0 c0 gs0 R ag cg gsg G :=
  ⟨h.hb.trans (hb.mono h.hb.size), h.hr, own_below h.rx hb, h.r0.below hb, h.rg.below hb, ⟨h.lo.1, Nat.le_trans h.lo.2 hb.size⟩, h.nx, h.n0⟩
theorem SlS.markX (h : SlS w W Bg a l ax cx X a0 c0 gs0 R ag cg gsg G) (hl : X'.length = X.length) (hx : W'.ownsRow w.heap.size 3 1 (.slice ax X.length cx) X.length (X'.map iv)) (hb : Below w.heap.size W W') (hg : W.grownBy W' (blk ax)) :
    SlS w W' Bg a l ax cx X' a0 c0 gs0 R ag cg gsg G := by
  refine ⟨h.hb.trans hb, h.hr, ?_, h.r0.aside hg (fun k hk => (h.nx k hk).2), h.rg.aside hg (fun k hk => ?_), ⟨h.lo.1, Nat.le_trans h.lo.2 hg.size⟩, h.nx, h.n0⟩
  · rw [hl]; exact hx
  · have hk2 := (h.nx k hk).1
    refine ⟨fun e => ?_, fun i hi e => ?_⟩
    · have := (h.rg.blkO e).1; omega
    · have := (h.rg.blkI i hi).1; omega
theorem SlS.markG (h : SlS w W Bg a l ax cx X a0 c0 gs0 R ag cg gsg G) (hx : OwnSS W' Bg ag cg gsg G') (hb : Below Bg W W') :
    SlS w W' Bg a l ax cx X a0 c0 gs0 R ag cg gsg G' :=
  ⟨h.hb.trans (hb.mono h.lo.1), h.hr, own_lowE h.rx hb (fun k hk => (h.nx k hk).1), h.r0.kept hb h.n0.1 h.n0.2, hx, ⟨h.lo.1, Nat.le_trans h.lo.2 hb.size⟩, h.nx, h.n0⟩
end

theorem sum_ge_len : ∀ (Ls : List (List Nat)), (∀ U ∈ Ls, U ≠ []) → Ls.length ≤ (Ls.map List.length).sum
  | [], _ => Nat.le_refl _
  | U :: Ls, h => by
    have h1 := sum_ge_len Ls (fun V hV => h V (List.mem_cons_of_mem _ hV))
    have h2 := List.length_pos_iff.2 (h U (by simp))
    simp only [List.length_cons, List.map_cons, List.sum_cons]; omega
theorem sum_ge_row : ∀ (Ls : List (List Nat)) (U : List Nat), U ∈ Ls → U.length ≤ (Ls.map List.length).sum
  | V :: Ls, U, h => by
    simp only [List.map_cons, List.sum_cons]
    rcases List.mem_cons.1 h with rfl | h
    · omega
    · have := sum_ge_row Ls U h; omega
theorem levR_small (l : List Int) : SmallSS (levR l) := by
  unfold levR
  split
  · rename_i h40
    have hf := grp_flat l (ordL l) (ordL l).length (Nat.le_refl _)
    rw [grp_all, List.take_length] at hf
    generalize lvlF l (ordL l) = Q at hf ⊢
    have hs : (Q.map List.length).sum = l.length := by rw [← List.length_flatten, hf.1, ordL_len]
    have hm : (Q.map niG).map List.length = Q.map List.length := by
      rw [List.map_map]; exact List.map_congr_left (fun U _ => niG_len U)
    have h1 := sum_ge_len Q hf.2
    refine ⟨by rw [List.length_map]; omega, fun i hi => ?_, by unfold sumLs; rw [hm]; omega⟩
    rw [List.length_map] at hi
    rw [List.getD_eq_getElem?_getD, List.getElem?_map, List.getElem?_eq_getElem hi]
    have := sum_ge_row Q Q[i] (List.getElem_mem _)
    simp only [Option.map_some, Option.getD_some]
    rw [niG_len]; omega
  · exact ⟨by simp, fun i hi => by simp at hi, by simp [sumLs]⟩
end Go.Proofs.Ytpndfmlkceplcaa
