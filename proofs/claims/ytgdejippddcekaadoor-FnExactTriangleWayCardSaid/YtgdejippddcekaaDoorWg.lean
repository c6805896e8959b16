/-
  'l04Reverse' and 'ReverseTriangle' of the model. No conditions but the bounds that Go gives a slice.
-/
import Derived.Test.YtgdejippddcekaaDoorWe
import Derived.Test.YtgdejippddcekaaDoorWf
import Derived.Test.YtgdejippddcekaaDoorI
import Derived.Deep.RegionHeld3
namespace Go.Proofs.YtgdejippddcekaaDoor
open Go.ChangeShapes Go.WideShapes Go.ChangeAt Go.RowKit
set_option linter.unusedVariables false

theorem l02Flip_m (n : Int) (a : Option Addr) (l : List Int) (m cap i j : Nat) (w : World) (hm : l.length = m) (hrow : IntRow w a l) (hok : Ok n l) (hi : i < m) (hj : j < m) (hij : i ≠ j) :
    Calls Tryd.prog 37 #[.agg #[.int .i64 n, .slice a m cap], .int .i64 i, .int .i64 j] w fun e w' => (∃ g c0, e = .returned (.agg #[.int .i64 n, .slice (some ⟨g, 0, none⟩) m c0]) ∧ w'.ownsRow w.heap.size 3 1 (.slice (some ⟨g, 0, none⟩) m c0) m ((flipL l i j).map iv)) ∧ Below w.heap.size w w' := by
  subst hm; exact l02Flip_any n a l cap i j w hrow hok hi hj hij
theorem own_row {w : World} {B g cap m : Nat} {l : List Int} (hm : l.length = m) (h : w.ownsRow B 3 1 (.slice (some ⟨g, 0, none⟩) m cap) m (l.map iv)) : IntRow w (some ⟨g, 0, none⟩) l := by
  subst hm; exact IntRow.of_own h

set_option maxRecDepth 100000 in
set_option maxHeartbeats 4000000 in
theorem l04Reverse_any (m : Nat) (a : Option Addr) (l : List Int) (cap x y z q off cb : Nat) (w : World) (hm : l.length = m) (hrow : IntRow w a l) (hok : Ok m l) (hx : x < m) (hy : y < m) (hz : z < m) (hxy : x ≠ y) (hyz : y ≠ z) (hzx : z ≠ x)
    (hq : q < w.heap.size) (r0 : w.cell? ⟨q, off, none⟩ = some (.int .i64 x)) (r1 : w.cell? ⟨q, off + 1, none⟩ = some (.int .i64 y)) (r2 : w.cell? ⟨q, off + 2, none⟩ = some (.int .i64 z)) :
    Calls Tryd.prog 23 #[.agg #[.int .i64 (m : Int), .slice a m cap], .slice (some ⟨q, off, none⟩) 3 cb] w fun e w' => (∃ g c0, e = .returned (.agg #[.int .i64 (m : Int), .slice (some ⟨g, 0, none⟩) m c0]) ∧ w'.ownsRow w.heap.size 3 1 (.slice (some ⟨g, 0, none⟩) m c0) m ((revL l x y z).map iv)) ∧ Below w.heap.size w w' := by
  obtain ⟨ok1, ok2, ok3⟩ := rev_ok hok (by omega) (by omega) (by omega) hxy hyz hzx
  have OK0 := Lib.hid hok
  have OK1 := Lib.hid ok1
  have OK2 := Lib.hid ok2
  have HR3 : Hid (revL l x y z = flipL (flipL (flipL l x y) y z) z x) := by show _ = _; rfl
  obtain ⟨l1, hl1⟩ : ∃ l1, l1 = flipL l x y := ⟨_, rfl⟩
  have M1 : Hid (l1.length = m) := by show _ = _; rw [hl1, flipL_len]; exact hm
  rw [← hl1] at OK1 OK2 HR3
  obtain ⟨l2, hl2⟩ : ∃ l2, l2 = flipL l1 y z := ⟨_, rfl⟩
  have M2 : Hid (l2.length = m) := by show _ = _; rw [hl2, flipL_len]; exact M1.out
  rw [← hl2] at OK2 HR3
  have L1 := Lib.hid hl1
  have L2 := Lib.hid hl2
  have M0 := Lib.hid hm
  obtain ⟨W, hW⟩ : ∃ W, W = (w.alloc (.cells #[.int .i64 (m : Int), .slice a m cap] 27)).alloc (.cells #[.int .i64 0, .slice none 0 0] 27) := ⟨_, rfl⟩
  have HW := Lib.hid hW
  have b1 : Below w.heap.size w W := by rw [hW]; exact (Below.one w _).alloc (Below.one w _).size _
  have z1 : Hid (W.heap.size = w.heap.size + 2) := by show _ = _; rw [hW]; simp
  have xt : Box W w.heap.size 27 (.int .i64 (m : Int)) (.slice a m cap) := by rw [hW]; exact (Box.new w 27 _ _).more _
  have xr : Box W (w.heap.size + 1) 27 (.int .i64 0) (.slice none 0 0) := by
    have := Box.new (w.alloc (.cells #[.int .i64 (m : Int), .slice a m cap] 27)) 27 (.int .i64 0) (.slice none 0 0)
    rw [hW]; simpa using this
  have B1 := Lib.hid b1
  have R1 := Lib.hid (hrow.below b1 (Nat.le_refl _))
  have XR := Lib.hid xr
  have KEEP : Hid (∀ V : World, Below W.heap.size W V → V.cell? ⟨w.heap.size, 0, none⟩ = some (.int .i64 (m : Int)) ∧ V.cell? ⟨w.heap.size, 1, none⟩ = some (.slice a m cap) ∧ V.cell? ⟨q, off, none⟩ = some (.int .i64 x) ∧ V.cell? ⟨q, off + 1, none⟩ = some (.int .i64 y) ∧ V.cell? ⟨q, off + 2, none⟩ = some (.int .i64 z)) := by
    intro V hV
    have xv := xt.below hV xt.lt
    have hqW : q < W.heap.size := by have := z1.out; omega
    refine ⟨xv.c0, xv.c1, ?_, ?_, ?_⟩
    · rw [hV.cell (p := ⟨q, off, none⟩) hqW, b1.cell (p := ⟨q, off, none⟩) hq]; exact r0
    · rw [hV.cell (p := ⟨q, off + 1, none⟩) hqW, b1.cell (p := ⟨q, off + 1, none⟩) hq]; exact r1
    · rw [hV.cell (p := ⟨q, off + 2, none⟩) hqW, b1.cell (p := ⟨q, off + 2, none⟩) hq]; exact r2
  have KSET : Hid (∀ (V : World) (u0 u1 : Value), Below W.heap.size W V → ((V.setCell ⟨w.heap.size + 1, 0, none⟩ u0).setCell ⟨w.heap.size + 1, 1, none⟩ u1).cell? ⟨w.heap.size, 0, none⟩ = some (.int .i64 (m : Int)) ∧ ((V.setCell ⟨w.heap.size + 1, 0, none⟩ u0).setCell ⟨w.heap.size + 1, 1, none⟩ u1).cell? ⟨w.heap.size, 1, none⟩ = some (.slice a m cap) ∧ ((V.setCell ⟨w.heap.size + 1, 0, none⟩ u0).setCell ⟨w.heap.size + 1, 1, none⟩ u1).cell? ⟨q, off, none⟩ = some (.int .i64 x) ∧ ((V.setCell ⟨w.heap.size + 1, 0, none⟩ u0).setCell ⟨w.heap.size + 1, 1, none⟩ u1).cell? ⟨q, off + 1, none⟩ = some (.int .i64 y) ∧ ((V.setCell ⟨w.heap.size + 1, 0, none⟩ u0).setCell ⟨w.heap.size + 1, 1, none⟩ u1).cell? ⟨q, off + 2, none⟩ = some (.int .i64 z)) := by
    intro V u0 u1 hV
    have xv := ((xt.below hV xt.lt).other ⟨w.heap.size + 1, 0, none⟩ u0 (by simp)).other ⟨w.heap.size + 1, 1, none⟩ u1 (by simp)
    have hb : Below w.heap.size w ((V.setCell ⟨w.heap.size + 1, 0, none⟩ u0).setCell ⟨w.heap.size + 1, 1, none⟩ u1) :=
      ((b1.trans (hV.mono b1.size)).setCell (p := ⟨w.heap.size + 1, 0, none⟩) (Nat.le_succ _) _).setCell (p := ⟨w.heap.size + 1, 1, none⟩) (Nat.le_succ _) _
    refine ⟨xv.c0, xv.c1, ?_, ?_, ?_⟩
    · rw [hb.cell (p := ⟨q, off, none⟩) hq]; exact r0
    · rw [hb.cell (p := ⟨q, off + 1, none⟩) hq]; exact r1
    · rw [hb.cell (p := ⟨q, off + 2, none⟩) hq]; exact r2
  clear hW b1 xt xr hrow hok ok1 ok2 ok3 hl1 hl2 hm r0 r1 r2 hq
  go_enter Tryd.func23, Tryd.ntmps23
  go_wp2
  rw [← HW.out]
  go_region_held3 (fun V => V.cell? ⟨w.heap.size, 0, none⟩ = some (.int .i64 (m : Int)) ∧ V.cell? ⟨w.heap.size, 1, none⟩ = some (.slice a m cap) ∧ V.cell? ⟨q, off, none⟩ = some (.int .i64 x) ∧ V.cell? ⟨q, off + 1, none⟩ = some (.int .i64 y) ∧ V.cell? ⟨q, off + 2, none⟩ = some (.int .i64 z))
    (first | (exact KSET.out _ _ _ BC.out) | (exact KEEP.out _ BC.out) | (exact KEEP.out _ BB.out) | (exact KEEP.out _ BA.out) | (exact KEEP.out _ (Below.refl _ _).drew))
    (first
      | (go_at_call 37
         refine (l02Flip_m _ _ l2 m cB z x _ M2.out RB.out OK2.out hz hx hzx).mono ?_
         rintro e wC ⟨⟨gC, cC, rfl, oC⟩, bC⟩
         have BC := Lib.hid (BB.out.trans (bC.mono BB.out.size))
         have xc := XR.out.below BC.out XR.out.lt
         have OC := Lib.hid oC
         have XC := Lib.hid xc
         have e0 := xc.c0; have e1 := xc.c1; have e2 := xc.f0; have e3 := xc.f1
         clear oC bC xc)
      | (go_at_call 37
         refine (l02Flip_m _ _ l1 m cA y z _ M1.out RA.out OK1.out hy hz hyz).mono ?_
         rintro e wB ⟨⟨gB, cB, rfl, oB⟩, bB⟩
         have BB := Lib.hid (BA.out.trans (bB.mono BA.out.size))
         rw [← L2.out] at oB
         have RB := Lib.hid (own_row M2.out oB)
         clear oB bB)
      | (go_at_call 37
         refine (l02Flip_m _ _ l m cap x y _ M0.out (R1.out.below (Below.refl _ _).drew (Nat.le_refl _)) OK0.out hx hy hxy).mono ?_
         rintro e wA ⟨⟨gA, cA, rfl, oA⟩, bA⟩
         have BA := Lib.hid (((Below.refl W.heap.size W).drew).trans bA)
         rw [← L1.out] at oA
         have RA := Lib.hid (own_row M1.out oA)
         clear oA bA))
  go_wp2
  have hgC : wB.heap.size ≤ gC := (OC.out.lt gC rfl).1
  have hbs : W.heap.size ≤ wB.heap.size := BB.out.size
  have hz1 := z1.out
  have hne : gC ≠ w.heap.size + 1 := by omega
  refine bodyPost_ret (v := .agg #[.int .i64 (m : Int), .slice (some ⟨gC, 0, none⟩) m cC]) (Box.res1 rfl _ rfl ((XC.out.set0 _).set1 _)) rfl ⟨⟨gC, cC, rfl, ?_⟩, ?_⟩
  · rw [HR3.out]
    exact own_other (own_other (OC.out.mono (by omega)) ⟨w.heap.size + 1, 0, none⟩ _ hne) ⟨w.heap.size + 1, 1, none⟩ _ hne
  · exact ((B1.out.trans (BC.out.mono B1.out.size)).setCell (p := ⟨w.heap.size + 1, 0, none⟩) (Nat.le_succ _) _).setCell (p := ⟨w.heap.size + 1, 1, none⟩) (Nat.le_succ _) _

noncomputable def rvN (n : Int) (l r : List Int) : Int := if isB n l r then n else 0
noncomputable def rvR (n : Int) (l r : List Int) : List Int := if isB n l r then revL l (r.getD 0 0).toNat (r.getD 1 0).toNat (r.getD 2 0).toNat else []
/-- What a triangle's list is. -/
theorem is_parts {n : Int} {l r : List Int} (h : isB n l r = true) : Ok n l ∧ n = (l.length : Int) ∧ ∃ x y z : Nat, r = [(x : Int), (y : Int), (z : Int)] ∧ x < l.length ∧ y < l.length ∧ z < l.length ∧ x < y ∧ x < z ∧ y ≠ z ∧ bt l x y = true ∧ bt l y z = true ∧ bt l z x = true := by
  unfold isB triOk at h
  simp only [Bool.and_eq_true, decide_eq_true_eq, beq_iff_eq] at h
  obtain ⟨h1, h2, ⟨p0, p1, p2⟩, h3, h4, b0, b1, b2⟩ := h
  have ok := okB_iff.1 h1
  obtain ⟨x, hx, hxl⟩ := pl_nat p0
  obtain ⟨y, hy, hyl⟩ := pl_nat p1
  obtain ⟨z, hz, hzl⟩ := pl_nat p2
  have hr := len3 h2
  rw [hx, hy, hz] at hr
  rw [hx, hy] at h3 b0
  rw [hx, hz] at h4
  rw [hy, hz] at b1
  rw [hz, hx] at b2
  simp only [Int.toNat_natCast] at b0 b1 b2
  refine ⟨ok, ok.2.2.1.symm, x, y, z, hr, hxl, hyl, hzl, by omega, by omega, ?_, b0, b1, b2⟩
  rintro rfl
  have := (ok.2.2.2 y hyl).2.1
  unfold bt at b1
  rw [this] at b1; cases b1

end Go.Proofs.YtgdejippddcekaaDoor
