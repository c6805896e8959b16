/-
  What the model's RealizeScores holds of the memory between its steps. No conditions.
-/
import Derived.Test.Ytnlbijmkehijiaa3Za
import Derived.Test.Ytnlbijmkehijiaa3Zg
import Derived.Test.Ytnlbijmkehijiaa3J
import Derived.Deep.RegionWith
namespace Go.Proofs.Ytnlbijmkehijiaa
open Go.ChangeShapes Go.WideShapes Go.ChangeAt Go.RowKit
set_option linter.unusedVariables false

theorem infoBool : (Try.prog.info? 4).map (fun i => (i.zero, i.size, i.bytes)) = some (some (.bool false), 1, 1) := by kernel_rfl
theorem own_gr {e : TypeId} {w w' : World} {B : Nat} {g n c : Nat} {xs : List Value} {row : Option Nat} (h : w.ownsRow B e 1 (.slice (some ⟨g, 0, none⟩) n c) n xs) (hg : w.grownBy w' row) (hne : row ≠ some g) : w'.ownsRow B e 1 (.slice (some ⟨g, 0, none⟩) n c) n xs :=
  h.kept hg (.inr fun e => hne (e.symm.trans rfl))
theorem own_someE {e : TypeId} {w : World} {B n : Nat} {v : Value} {xs : List Value} (h : w.ownsRow B e 1 v n xs) (hne : v ≠ .slice none 0 0) : ∃ g cap, v = .slice (some ⟨g, 0, none⟩) n cap ∧ B ≤ g ∧ g < w.heap.size ∧ n ≤ cap := by
  have h0 := h
  rcases h.2 with ⟨hn, _⟩ | ⟨g, cap, cur, rfl, hb, hg, hnc, _⟩
  · exact absurd hn hne
  · exact ⟨g, cap, rfl, hb, (h0.lt g rfl).2, hnc⟩
theorem grown_drew (w : World) : w.grownBy w.drew none := ⟨rfl, rfl, rfl, Nat.le_refl _, fun _ _ _ => rfl⟩
theorem blks (n : Nat) (Q : List Nat) : (Tmpm.dnL n Q).map bv = (Tmpm.dnL n Q).map Value.bool := rfl

structure Dw (B Bt g gl gd : Nat) : Prop where
  t0 : B < Bt
  g0 : B < g
  l0 : B < gl
  d0 : B < gd
  tg : Bt ≠ g
  tl : Bt ≠ gl
  td : Bt ≠ gd
  gg : g ≠ gl
  gq : g ≠ gd
  ld : gl ≠ gd
structure Sz (w W : World) (Bt g gl gd n cl cd : Nat) (L : List Int) (ys P : List Nat) : Prop where
  d : Dw w.heap.size Bt g gl gd
  hb : Below w.heap.size w W
  xt : Box W Bt 27 (.int .i64 n) (.slice (some ⟨g, 0, none⟩) n n)
  xr : Box W w.heap.size 27 (.int .i64 0) (.slice none 0 0)
  ow : W.ownsRow w.heap.size 3 1 (.slice (some ⟨g, 0, none⟩) n n) n (ys.map nv)
  ol : W.ownsRow w.heap.size 3 1 (.slice (some ⟨gl, 0, none⟩) n cl) n (L.map iv)
  od : W.ownsRow w.heap.size 4 1 (.slice (some ⟨gd, 0, none⟩) n cd) n ((Tmpm.dnL n P).map bv)
section
variable {w W W' : World} {Bt g gl gd n cl cd : Nat} {L : List Int} {ys P : List Nat}
/-- A step that turns no row of these. -/
theorem Sz.aside (h : Sz w W Bt g gl gd n cl cd L ys P) {row : Option Nat} (hg : W.grownBy W' row) (hr : ∀ k, row = some k → w.heap.size < k ∧ k ≠ Bt ∧ k ≠ g ∧ k ≠ gl ∧ k ≠ gd) : Sz w W' Bt g gl gd n cl cd L ys P :=
  ⟨h.d, h.hb.grown hg h.hb.size (fun k e => Nat.le_of_lt (hr k e).1), h.xt.grown hg (fun e => (hr _ e).2.1 rfl), h.xr.grown hg (fun e => absurd (hr _ e).1 (Nat.lt_irrefl _)), own_gr h.ow hg (fun e => (hr _ e).2.2.1 rfl), own_gr h.ol hg (fun e => (hr _ e).2.2.2.1 rfl), own_gr h.od hg (fun e => (hr _ e).2.2.2.2 rfl)⟩
theorem Sz.quiet (h : Sz w W Bt g gl gd n cl cd L ys P) (hg : W.grownBy W' none) : Sz w W' Bt g gl gd n cl cd L ys P := h.aside hg (fun k e => by cases e)
theorem Sz.win (h : Sz w W Bt g gl gd n cl cd L ys P) (i z : Nat) : Sz w (W.setCell ⟨g, i, none⟩ (.int .i64 (z : Nat))) Bt g gl gd n cl cd L (ys.set i z) P := by
  have d := h.d
  obtain ⟨ho, hg⟩ := h.ow.stored i (nv z)
  have hg' : W.grownBy (W.setCell ⟨g, i, none⟩ (.int .i64 (z : Nat))) (some g) := hg
  refine ⟨d, h.hb.grown hg' h.hb.size (fun k e => by cases e; exact Nat.le_of_lt d.g0), h.xt.grown hg' (fun e => d.tg (by cases e; rfl)), h.xr.grown hg' (fun e => by cases e; exact absurd d.g0 (Nat.lt_irrefl _)), ?_, own_gr h.ol hg' (fun e => d.gg (by cases e; rfl)), own_gr h.od hg' (fun e => d.gq (by cases e; rfl))⟩
  rw [List.map_set]; exact ho
theorem Sz.left (h : Sz w W Bt g gl gd n cl cd L ys P) (i : Nat) (z : Int) : Sz w (W.setCell ⟨gl, i, none⟩ (.int .i64 z)) Bt g gl gd n cl cd (L.set i z) ys P := by
  have d := h.d
  obtain ⟨ho, hg⟩ := h.ol.stored i (iv z)
  have hg' : W.grownBy (W.setCell ⟨gl, i, none⟩ (.int .i64 z)) (some gl) := hg
  refine ⟨d, h.hb.grown hg' h.hb.size (fun k e => by cases e; exact Nat.le_of_lt d.l0), h.xt.grown hg' (fun e => d.tl (by cases e; rfl)), h.xr.grown hg' (fun e => by cases e; exact absurd d.l0 (Nat.lt_irrefl _)), own_gr h.ow hg' (fun e => d.gg (by cases e; rfl)), ?_, own_gr h.od hg' (fun e => d.ld (by cases e; rfl))⟩
  rw [List.map_set]; exact ho
theorem Sz.mark {a : Nat} {T : List Nat} (h : Sz w W Bt g gl gd n cl cd L ys (a :: T)) (ha : a ∉ T) : Sz w (W.setCell ⟨gd, a, none⟩ (.bool true)) Bt g gl gd n cl cd L ys T := by
  have d := h.d
  obtain ⟨ho, hg⟩ := h.od.stored a (.bool true)
  refine ⟨d, h.hb.grown hg h.hb.size (fun k e => by cases e; exact Nat.le_of_lt d.d0), h.xt.grown hg (fun e => d.td (by cases e; rfl)), h.xr.grown hg (fun e => by cases e; exact absurd d.d0 (Nat.lt_irrefl _)), own_gr h.ow hg (fun e => d.gq (by cases e; rfl)), own_gr h.ol hg (fun e => d.ld (by cases e; rfl)), ?_⟩
  have e : ((Tmpm.dnL n (a :: T)).map bv).set a (.bool true) = (Tmpm.dnL n T).map bv := by
    rw [← Tmpm.dnL_set ha, List.map_set]; rfl
  rw [← e]; exact ho
theorem Sz.perm {Q : List Nat} (h : Sz w W Bt g gl gd n cl cd L ys P) (hp : Q.Perm P) : Sz w W Bt g gl gd n cl cd L ys Q :=
  ⟨h.d, h.hb, h.xt, h.xr, h.ow, h.ol, by rw [← Tmpm.dnL_perm hp]; exact h.od⟩
theorem Sz.lcell (h : Sz w W Bt g gl gd n cl cd L ys P) (hL : L.length = n) (i : Nat) (hi : i < n) : W.cell? ⟨gl, i, none⟩ = some (.int .i64 (L.getD i 0)) := by
  rw [h.ol.cellAt i (by omega), List.getElem?_map, List.getElem?_eq_getElem (by omega), List.getD_eq_getElem?_getD, List.getElem?_eq_getElem (by omega)]; rfl
theorem Sz.ycell (h : Sz w W Bt g gl gd n cl cd L ys P) (hY : ys.length = n) (i : Nat) (hi : i < n) : W.cell? ⟨g, i, none⟩ = some (.int .i64 (ys.getD i 0 : Nat)) := by
  rw [h.ow.cellAt i (by omega), List.getElem?_map, List.getElem?_eq_getElem (by omega), List.getD_eq_getElem?_getD, List.getElem?_eq_getElem (by omega)]; rfl
theorem Sz.dcell (h : Sz w W Bt g gl gd n cl cd L ys P) (i : Nat) (hi : i < n) : W.cell? ⟨gd, i, none⟩ = some (.bool (!(P.contains i))) := by
  rw [h.od.cellAt i (by omega), List.getElem?_map, List.getElem?_eq_getElem (by rw [Tmpm.dnL_len]; exact hi)]
  have := Tmpm.dnL_at n P i hi
  rw [List.getD_eq_getElem?_getD, List.getElem?_eq_getElem (by rw [Tmpm.dnL_len]; exact hi)] at this
  exact congrArg (fun b => some (Value.bool b)) this
end
/-- The row of those who are hidden. -/
structure Hw (w W : World) (Bt g gl gd gh n ch : Nat) (Q : List Nat) : Prop where
  oh : W.ownsRow w.heap.size 4 1 (.slice (some ⟨gh, 0, none⟩) n ch) n ((Tmpm.dnL n Q).map bv)
  h0 : w.heap.size < gh
  ht : gh ≠ Bt
  hg : gh ≠ g
  hl : gh ≠ gl
  hd : gh ≠ gd
section
variable {w W W' : World} {Bt g gl gd gh n ch : Nat} {Q : List Nat}
theorem Hw.row (h : Hw w W Bt g gl gd gh n ch Q) : ∀ k, some gh = some k → w.heap.size < k ∧ k ≠ Bt ∧ k ≠ g ∧ k ≠ gl ∧ k ≠ gd := fun k e => by cases e; exact ⟨h.h0, h.ht, h.hg, h.hl, h.hd⟩
theorem Hw.aside (h : Hw w W Bt g gl gd gh n ch Q) {row : Option Nat} (hg : W.grownBy W' row) (hr : row ≠ some gh) : Hw w W' Bt g gl gd gh n ch Q := ⟨own_gr h.oh hg hr, h.h0, h.ht, h.hg, h.hl, h.hd⟩
theorem Hw.set1 (h : Hw w W Bt g gl gd gh n ch Q) (p : Addr) (u : Value) (hp : gh ≠ p.block) : Hw w (W.setCell p u) Bt g gl gd gh n ch Q :=
  h.aside (row := some p.block) ⟨rfl, rfl, rfl, by simp [World.setCell], fun k hk hn => heap_setCell_other W p k u (fun e => hn (by rw [e]))⟩ (fun e => hp (by cases e; rfl))
theorem Hw.mark {a : Nat} {T : List Nat} (h : Hw w W Bt g gl gd gh n ch (a :: T)) (ha : a ∉ T) : Hw w (W.setCell ⟨gh, a, none⟩ (.bool true)) Bt g gl gd gh n ch T ∧ W.grownBy (W.setCell ⟨gh, a, none⟩ (.bool true)) (some gh) := by
  obtain ⟨ho, hg⟩ := h.oh.stored a (.bool true)
  have e : ((Tmpm.dnL n (a :: T)).map bv).set a (.bool true) = (Tmpm.dnL n T).map bv := by
    rw [← Tmpm.dnL_set ha, List.map_set]; rfl
  refine ⟨⟨?_, h.h0, h.ht, h.hg, h.hl, h.hd⟩, hg⟩
  rw [← e]; exact ho
theorem Hw.cell (h : Hw w W Bt g gl gd gh n ch Q) (i : Nat) (hi : i < n) : W.cell? ⟨gh, i, none⟩ = some (.bool (!(Q.contains i))) := by
  rw [h.oh.cellAt i (by omega), List.getElem?_map, List.getElem?_eq_getElem (by rw [Tmpm.dnL_len]; exact hi)]
  have := Tmpm.dnL_at n Q i hi
  rw [List.getD_eq_getElem?_getD, List.getElem?_eq_getElem (by rw [Tmpm.dnL_len]; exact hi)] at this
  exact congrArg (fun b => some (Value.bool b)) this
end
/-- The number that the model adds, as a set's new element. -/
theorem add_pow (y b : Nat) (hy : y < 256) (hb : b < 8) (h : y.testBit b = false) : IntKind.i64.wrap ((y : Int) + ((2 ^ b : Nat) : Int)) = ((y ||| 2 ^ b : Nat) : Int) := by
  rw [← Tmpm.add_or hy hb h, IntKind.wrap_i64]
  have hp := pow_le b (by omega)
  generalize 2 ^ b = p at hp ⊢
  omega
end Go.Proofs.Ytnlbijmkehijiaa
