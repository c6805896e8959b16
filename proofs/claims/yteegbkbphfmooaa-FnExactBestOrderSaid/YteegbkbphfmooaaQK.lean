/-
  BestOrder, the program's and the model's. No conditions but the bounds that Go gives a slice.
-/
import Derived.Test.YteegbkbphfmooaaQJ
namespace Go.Proofs.Yteegbkbphfmooaa
open Go.ChangeShapes Go.WideShapes Go.ChangeAt Go.RowKit Go.Sort
set_option linter.unusedVariables false

/-- The best order's players. -/
def boL (l : List Int) : List Nat := Rv.dc l.length (Rv.gv (bt l) (2 ^ l.length - 1))
noncomputable def boR (n : Int) (l : List Int) : List Int := if okB n l then ni (boL l) else []
theorem boL_len (l : List Int) : (boL l).length = l.length := Rv.dc_len _ _
theorem boR_le (n : Int) (l : List Int) : (boR n l).length ≤ 8 := by
  unfold boR
  cases h : okB n l
  · simp
  · have hk := okB_iff.1 h
    simp only [if_true, ni_len, boL_len]
    have := hk.2.1
    have := hk.2.2.1
    omega
/-- What is returned. -/
def BoR (n : Int) (l : List Int) (w : World) (e : Ending) (w' : World) : Prop := (∃ a0 c0, e = .returned (.slice a0 (boR n l).length c0) ∧ w'.ownsRow w.heap.size 3 1 (.slice a0 (boR n l).length c0) (boR n l).length ((boR n l).map iv)) ∧ RowKit.Below w.heap.size w w'
set_option maxRecDepth 100000 in
set_option maxHeartbeats 2000000 in
theorem implBestOrder (n : Int) (a : Option Addr) (l : List Int) (cap : Nat) (w : World) (hrow : IntRow w a l) (hl : l.length ≤ maxLen) :
    Calls Try.prog 27 #[.agg #[.int .i64 n, .slice a l.length cap]] w fun e w' => (∃ a0 c0, e = .returned (.slice a0 (boR n l).length c0) ∧ w'.ownsRow w.heap.size 3 1 (.slice a0 (boR n l).length c0) (boR n l).length ((boR n l).map iv)) ∧ RowKit.Below w.heap.size w w' := by
  obtain ⟨Wa, hWa⟩ : ∃ Wa, Wa = w.alloc (.cells #[.int .i64 n, .slice a l.length cap] 25) := ⟨_, rfl⟩
  have HWa := Lib.hid hWa
  have hba : RowKit.Below w.heap.size w Wa := by rw [hWa]; exact (Below.refl _ _).alloc (Nat.le_refl _) _
  have xa : Box Wa w.heap.size 25 (.int .i64 n) (.slice a l.length cap) := by rw [hWa]; exact Box.new _ _ _ _
  have hrowa : IntRow Wa a l := hrow.below hba (Nat.le_refl _)
  have HL := Lib.hid hl
  clear hl hrow hWa
  cases hok : okB n l
  · have HO := Lib.hid hok
    have HE : Hid (boR n l = []) := by show _ = _; unfold boR; rw [hok]; rfl
    clear hok
    go_enter Try.func27, Try.ntmps27
    go_wp2_with fail
    rw [← HWa.out]
    refine (implTourOk n a l cap Wa hrowa HL.out).mono ?_
    rintro e w1 ⟨rfl, hb1⟩
    rw [HO.out]
    have B1 := Lib.hid (hba.trans (hb1.mono hba.size))
    clear hb1
    go_wp2
    go_ret
    exact ⟨⟨none, 0, by rw [HE.out]; rfl, by rw [HE.out]; exact World.ownsRow_nil _ _ _ _⟩, B1.out⟩
  have HO := Lib.hid hok
  have HE : Hid (boR n l = ni (boL l)) := by show _ = _; unfold boR; rw [hok]; rfl
  have HLE : Hid ((boR n l).length = l.length) := by show _ = _; rw [HE.out, ni_len, boL_len]
  have hk := okB_iff.1 hok
  have HK := Lib.hid hk
  have hnl := hk.2.2.1
  have hl8 : l.length ≤ 8 := by have := hk.2.1; omega
  subst hnl
  clear hk hok
  go_enter Try.func27, Try.ntmps27
  go_wp2_with fail
  rw [← HWa.out]
  refine (implTourOk _ a l cap Wa hrowa HL.out).mono ?_
  rintro e w1 ⟨rfl, hb1⟩
  rw [HO.out]
  have X1 := Lib.hid (xa.below hb1 xa.lt)
  have R1 := Lib.hid (hrowa.below hb1 (Nat.le_refl _))
  have B1 := Lib.hid (hba.trans (hb1.mono hba.size))
  clear hb1 hba xa hrowa
  have c0 := X1.out.c0
  have c1 := X1.out.c1
  go_wp2_with fail
  refine (bestOrders_any l.length a l cap w1 rfl HK.out R1.out).mono ?_
  rintro e w2 ⟨⟨a2, c2, rfl, hr2⟩, hb2⟩
  have B2 := Lib.hid (B1.out.trans (hb2.mono B1.out.size))
  have hr3 : ∀ o, (w2.alloc o).ownsRow w.heap.size 3 1 (.slice a2 l.length c2) l.length ((ni (boL l)).map iv) := fun o => (World.ownsRow.mono hr2 B1.out.size).alloc o
  have HR3 := Lib.hid hr3
  clear hb2 hr2 hr3 c0 c1
  go_wp2
  go_ret
  exact ⟨⟨a2, c2, by rw [HLE.out]; rfl, by rw [HLE.out, HE.out]; exact HR3.out _⟩, B2.out.alloc B2.out.size _⟩
set_option maxRecDepth 100000 in
set_option maxHeartbeats 2000000 in
theorem specBestOrder (n : Int) (a : Option Addr) (l : List Int) (cap : Nat) (w : World) (hrow : IntRow w a l) (hl : l.length ≤ maxLen) :
    Calls Try.prog 52 #[.agg #[.int .i64 n, .slice a l.length cap]] w fun e w' => (∃ a0 c0, e = .returned (.slice a0 (boR n l).length c0) ∧ w'.ownsRow w.heap.size 3 1 (.slice a0 (boR n l).length c0) (boR n l).length ((boR n l).map iv)) ∧ RowKit.Below w.heap.size w w' := by
  obtain ⟨Wa, hWa⟩ : ∃ Wa, Wa = w.alloc (.cells #[.int .i64 n, .slice a l.length cap] 25) := ⟨_, rfl⟩
  have HWa := Lib.hid hWa
  have hba : RowKit.Below w.heap.size w Wa := by rw [hWa]; exact (Below.refl _ _).alloc (Nat.le_refl _) _
  have xa : Box Wa w.heap.size 25 (.int .i64 n) (.slice a l.length cap) := by rw [hWa]; exact Box.new _ _ _ _
  have hrowa : IntRow Wa a l := hrow.below hba (Nat.le_refl _)
  have HL := Lib.hid hl
  clear hl hrow hWa
  cases hok : okB n l
  · have HO := Lib.hid hok
    have HE : Hid (boR n l = []) := by show _ = _; unfold boR; rw [hok]; rfl
    clear hok
    go_enter Try.func52, Try.ntmps52
    go_wp2_with fail
    rw [← HWa.out]
    refine (specTourOk n a l cap Wa hrowa HL.out).mono ?_
    rintro e w1 ⟨rfl, hb1⟩
    rw [HO.out]
    have B1 := Lib.hid (hba.trans (hb1.mono hba.size))
    clear hb1
    go_wp2
    go_ret
    exact ⟨⟨none, 0, by rw [HE.out]; rfl, by rw [HE.out]; exact World.ownsRow_nil _ _ _ _⟩, B1.out⟩
  have HO := Lib.hid hok
  have HE : Hid (boR n l = ni (boL l)) := by show _ = _; unfold boR; rw [hok]; rfl
  have HLE : Hid ((boR n l).length = l.length) := by show _ = _; rw [HE.out, ni_len, boL_len]
  have hk := okB_iff.1 hok
  have HK := Lib.hid hk
  have hnl := hk.2.2.1
  have hl8 : l.length ≤ 8 := by have := hk.2.1; omega
  subst hnl
  clear hk hok
  go_enter Try.func52, Try.ntmps52
  go_wp2_with fail
  rw [← HWa.out]
  refine (specTourOk _ a l cap Wa hrowa HL.out).mono ?_
  rintro e w1 ⟨rfl, hb1⟩
  rw [HO.out]
  have X1 := Lib.hid (xa.below hb1 xa.lt)
  have R1 := Lib.hid (hrowa.below hb1 (Nat.le_refl _))
  have B1 := Lib.hid (hba.trans (hb1.mono hba.size))
  clear hb1 hba xa hrowa
  have c0 := X1.out.c0
  have c1 := X1.out.c1
  go_wp2_with fail
  refine (l08Best_any l.length a l cap w1 rfl HK.out R1.out).mono ?_
  rintro e w2 ⟨⟨g2, c2, rfl, hr2⟩, hb2⟩
  have B2 := Lib.hid (B1.out.trans (hb2.mono B1.out.size))
  have HR3 := Lib.hid (World.ownsRow.mono hr2 B1.out.size)
  clear hb2 hr2 c0 c1
  go_wp2
  go_ret
  exact ⟨⟨some ⟨g2, 0, none⟩, c2, by rw [HLE.out]; rfl, by rw [HLE.out, HE.out]; exact HR3.out⟩, B2.out⟩
end Go.Proofs.Yteegbkbphfmooaa
