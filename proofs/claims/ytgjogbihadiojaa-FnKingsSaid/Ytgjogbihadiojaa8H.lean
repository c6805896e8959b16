/-
  'IsTransitive' of the program and of the model. No conditions but the bounds that Go gives a slice.
-/
import Derived.Test.Ytgjogbihadiojaa8B
namespace Go.Proofs.Ytgjogbihadiojaa
open Go.ChangeShapes Go.WideShapes Go.ChangeAt Go.RowKit
set_option linter.unusedVariables false

/-- What both 'IsTransitive' answer. -/
noncomputable def tranB (n : Int) (l : List Int) : Bool := okB n l && decide (triL l = [])

set_option maxHeartbeats 400000 in
theorem implTran (n : Int) (a : Option Addr) (l : List Int) (cap : Nat) (w : World) (hrow : IntRow w a l) (hl : l.length ≤ maxLen) :
    Calls Try.prog 119 #[.agg #[.int .i64 n, .slice a l.length cap]] w fun e w' => e = .returned (.bool (tranB n l)) ∧ Below w.heap.size w w' := by
  obtain ⟨Wa, hWa⟩ : ∃ Wa, Wa = w.alloc (.cells #[.int .i64 n, .slice a l.length cap] 25) := ⟨_, rfl⟩
  have HWa := Lib.hid hWa
  have hba : Below w.heap.size w Wa := by rw [hWa]; exact (Below.refl _ _).alloc (Nat.le_refl _) _
  have hrowa : IntRow Wa a l := hrow.below hba (Nat.le_refl _)
  have hc := implTri n a l cap Wa hrowa hl
  obtain ⟨x, hx⟩ : ∃ x, x = triR n l := ⟨_, rfl⟩
  rw [← hx] at hc
  have HE : Hid ((x == 0) = tranB n l) := by
    show _ = _
    rw [hx]
    unfold tranB
    cases hok : okB n l
    · have : triR n l = -1 := by unfold triR; rw [hok]; rfl
      rw [this]; rfl
    · rw [Bool.true_and, Bool.eq_iff_iff, beq_iff_eq, decide_eq_true_iff]
      exact (tri_none (okB_iff.1 hok)).symm
  have HC := Lib.hid hc
  clear hc hx hWa hrow hrowa
  go_enter Try.func119, Try.ntmps119
  go_wp2_with fail
  rw [← HWa.out]
  refine HC.out.mono ?_
  rintro e w1 ⟨rfl, hb1⟩
  go_wp2
  go_ret
  exact ⟨by rw [← HE.out]; rfl, hba.trans (hb1.mono hba.size)⟩

end Go.Proofs.Ytgjogbihadiojaa
