/-
  'CountKinds' of the model: a table. No conditions.
-/
import Derived.Test.YteiadhfjpohmdaaXy
namespace Go.Proofs.Yteiadhfjpohmdaa
open Go.ChangeShapes Go.WideShapes Go.ChangeAt Go.RowKit
set_option linter.unusedVariables false

set_option maxRecDepth 100000 in
set_option maxHeartbeats 1000000 in
theorem specCountKinds (n : Int) (w : World) :
    Calls Try.prog 36 #[.int .i64 n] w fun e w' => e = .returned (.int .i64 (ckR n)) ∧ Below w.heap.size w w' := by
  cases hz : (decide (1 ≤ n) && decide (n ≤ 5))
  · have HS : Hid ((decide (1 ≤ n) && decide (n ≤ 5)) = false) := hz
    have HE : Hid (ckR n = -1) := by show _ = _; unfold ckR; rw [hz]; rfl
    clear hz
    go_enter Try.func36, Try.ntmps36
    go_wp2_with fail
    refine (l01In_any n 1 5 _).mono ?_
    rintro e w' ⟨rfl, rfl⟩
    rw [HS.out]
    go_wp2
    go_ret
    exact ⟨by rw [HE.out]; rfl, Below.refl _ _⟩
  · have hn : 1 ≤ n ∧ n ≤ 5 := by simpa using hz
    have HS : Hid ((decide (1 ≤ n) && decide (n ≤ 5)) = true) := hz
    have hc : n = 1 ∨ n = 2 ∨ n = 3 ∨ n = 4 ∨ n = 5 := by omega
    clear hz hn
    have h1 : Hid (ckR 1 = 1) := by show _ = _; decide +kernel
    have h2 : Hid (ckR 2 = 1) := by show _ = _; decide +kernel
    have h3 : Hid (ckR 3 = 2) := by show _ = _; decide +kernel
    have h4 : Hid (ckR 4 = 4) := by show _ = _; decide +kernel
    have h5 : Hid (ckR 5 = 12) := by show _ = _; decide +kernel
    have hb : Below w.heap.size w (w.alloc (.cells #[.int .i64 0, .int .i64 1, .int .i64 1, .int .i64 2, .int .i64 4, .int .i64 12] 3)) := Below.one _ _
    have HB := Lib.hid hb
    clear hb
    rcases hc with rfl | rfl | rfl | rfl | rfl
    all_goals
      go_enter Try.func36, Try.ntmps36
      go_wp2_with fail
      refine (l01In_any _ 1 5 _).mono ?_
      rintro e w' ⟨rfl, rfl⟩
      rw [HS.out]
      go_wp2
      go_ret
      first
        | exact ⟨by rw [h1.out]; rfl, HB.out⟩
        | exact ⟨by rw [h2.out]; rfl, HB.out⟩
        | exact ⟨by rw [h3.out]; rfl, HB.out⟩
        | exact ⟨by rw [h4.out]; rfl, HB.out⟩
        | exact ⟨by rw [h5.out]; rfl, HB.out⟩
end Go.Proofs.Yteiadhfjpohmdaa
