/-
  'IsTransitive' of the program and of the model. No conditions but the bounds that Go gives a slice.
-/
import Derived.Test.Ytcipffimjaancaa8B
namespace Go.Proofs.Ytcipffimjaancaa
open Go.ChangeShapes Go.WideShapes Go.ChangeAt Go.RowKit
set_option linter.unusedVariables false

/-- What both 'IsTransitive' answer. -/
noncomputable def tranB (n : Int) (l : List Int) : Bool := okB n l && decide (triL l = [])

set_option maxHeartbeats 400000 in
theorem implTran (n : Int) (a : Option Addr) (l : List Int) (cap : Nat) (w : World) (hrow : IntRow w a l) (hl : l.length ≤ maxLen) :
    Calls Try.prog 41 #[.agg #[.int .i64 n, .slice a l.length cap]] w fun e w' => e = .returned (.bool (tranB n l)) ∧ Below w.heap.size w w' := by
  obtain ⟨Wa, hWa⟩ : ∃ Wa, Wa = w.alloc (.cells #[.int .i64 n, .slice a l.length cap] 25) := ⟨_, rfl⟩
  have HWa := Lib.hid hWa
  have hba : Below w.heap.size w Wa := by rw [hWa]; exact (Below.refl _ _).alloc (Nat.le_refl _) _
  have hrowa : IntRow Wa a l := hrow.below hba (Nat.le_refl _)
  have hc := implTri n a l cap Wa hrowa hl
  obtain ⟨x, hx⟩ : ∃ x, x = triR n l := ⟨_, rfl⟩
  rw [← hx] at hc
  have HE : Hid ((x == 0) = tranB n l) := by
    show _ = _
    rw [hx]
    unfold tranB
    cases hok : okB n l
    · have : triR n l = -1 := by unfold triR; rw [hok]; rfl
      rw [this]; rfl
    · rw [Bool.true_and, Bool.eq_iff_iff, beq_iff_eq, decide_eq_true_iff]
      exact (tri_none (okB_iff.1 hok)).symm
  have HC := Lib.hid hc
  clear hc hx hWa hrow hrowa
  go_enter Try.func41, Try.ntmps41
  go_wp2_with fail
  rw [← HWa.out]
  refine HC.out.mono ?_
  rintro e w1 ⟨rfl, hb1⟩
  go_wp2
  go_ret
  exact ⟨by rw [← HE.out]; rfl, hba.trans (hb1.mono hba.size)⟩

set_option maxHeartbeats 400000 in
theorem specTran (n : Int) (a : Option Addr) (l : List Int) (cap : Nat) (w : World) (hrow : IntRow w a l) (hl : l.length ≤ maxLen) :
    Calls Try.prog 40 #[.agg #[.int .i64 n, .slice a l.length cap]] w fun e w' => e = .returned (.bool (tranB n l)) ∧ Below w.heap.size w w' := by
  obtain ⟨Wa, hWa⟩ : ∃ Wa, Wa = w.alloc (.cells #[.int .i64 n, .slice a l.length cap] 25) := ⟨_, rfl⟩
  have HWa := Lib.hid hWa
  have hba : Below w.heap.size w Wa := by rw [hWa]; exact (Below.refl _ _).alloc (Nat.le_refl _) _
  have xa : Box Wa w.heap.size 25 (.int .i64 n) (.slice a l.length cap) := by rw [hWa]; exact Box.new _ _ _ _
  have hrowa : IntRow Wa a l := hrow.below hba (Nat.le_refl _)
  have HL := Lib.hid hl
  clear hl hrow hWa
  cases hok : okB n l
  · have HO := Lib.hid hok
    have HE : Hid (tranB n l = false) := by show _ = _; unfold tranB; rw [hok]; rfl
    clear hok
    go_enter Try.func40, Try.ntmps40
    go_wp2_with fail
    rw [← HWa.out]
    refine (specTourOk n a l cap Wa hrowa HL.out).mono ?_
    rintro e w1 ⟨rfl, hb1⟩
    rw [HO.out]
    go_wp2
    go_ret
    exact ⟨by rw [HE.out]; rfl, hba.trans (hb1.mono hba.size)⟩
  · have HO := Lib.hid hok
    have HK : Hid (Ok n l) := okB_iff.1 hok
    obtain ⟨m, hm⟩ : ∃ m, m = (triL l).length := ⟨_, rfl⟩
    have hm8 : m ≤ 512 := by rw [hm]; exact triL_len l (by have := HK.out.2.1; have := HK.out.2.2.1; omega)
    have HM := Lib.hid hm
    have HE : Hid (((m : Int) == 0) = tranB n l) := by
      show _ = _
      unfold tranB
      rw [hok, Bool.true_and, Bool.eq_iff_iff, beq_iff_eq, decide_eq_true_iff, hm, ← List.length_eq_zero_iff]
      omega
    clear hok hm
    go_enter Try.func40, Try.ntmps40
    go_wp2_with fail
    rw [← HWa.out]
    refine (specTourOk n a l cap Wa hrowa HL.out).mono ?_
    rintro e w1 ⟨rfl, hb1⟩
    rw [HO.out]
    have xa1 := xa.below hb1 xa.lt
    have c0 := xa1.c0
    have c1 := xa1.c1
    have hr1 := hrowa.below hb1 (Nat.le_refl _)
    go_wp2_with fail
    refine (l04All_any n a l cap w1 hr1 HK.out).mono ?_
    rintro e w2 ⟨⟨a0, cc, gs, rfl, hss⟩, hb2⟩
    rw [← HM.out]
    have HB1 := Lib.hid hb1
    have HB2 := Lib.hid hb2
    clear hss hb1 hb2 c0 c1 hr1 xa1
    go_wp2
    go_ret
    have b1 := hba.trans (HB1.out.mono hba.size)
    exact ⟨by rw [← HE.out]; rfl, b1.trans (HB2.out.mono b1.size)⟩
end Go.Proofs.Ytcipffimjaancaa
