/-
  Both 'PowerOrder'. No conditions but the bounds that Go gives a slice.
-/
import Derived.Test.YtpndfmlkceplcaaGj
import Derived.Test.YtpndfmlkceplcaaGy
namespace Go.Proofs.Ytpndfmlkceplcaa
open Go.ChangeShapes Go.WideShapes Go.ChangeAt Go.RowKit
set_option linter.unusedVariables false

/-- What both 'PowerOrder' answer. -/
noncomputable def pordR (n : Int) (l : List Int) (k : Int) : List Int := ordR (powR n l k)
theorem pordR_le (n : Int) (l : List Int) (k : Int) : (pordR n l k).length ≤ 8 := by
  have h := powR_le n l k
  unfold pordR ordR
  split
  · rw [List.length_map, ordL_len]; exact h
  · simp

set_option maxHeartbeats 400000 in
theorem implPowerOrder (n : Int) (a : Option Addr) (l : List Int) (cap : Nat) (k : Int) (w : World) (hrow : IntRow w a l) (hl : l.length ≤ maxLen) :
    Calls Try.prog 41 #[.agg #[.int .i64 n, .slice a l.length cap], .int .i64 k] w fun e w' => (∃ a0 c0, e = .returned (.slice a0 (pordR n l k).length c0) ∧ w'.ownsRow w.heap.size 3 1 (.slice a0 (pordR n l k).length c0) (pordR n l k).length ((pordR n l k).map iv)) ∧ Below w.heap.size w w' := by
  obtain ⟨Wa, hWa⟩ : ∃ Wa, Wa = w.alloc (.cells #[.int .i64 n, .slice a l.length cap] 27) := ⟨_, rfl⟩
  have HWa := Lib.hid hWa
  have hba : Below w.heap.size w Wa := by rw [hWa]; exact (Below.refl _ _).alloc (Nat.le_refl _) _
  have HC := Lib.hid (implPowers n a l cap k Wa (hrow.below hba (Nat.le_refl _)) hl)
  have BA := Lib.hid hba
  have HLE : Hid ((powR n l k).length ≤ maxLen) := by have := powR_le n l k; show _ ≤ _; unfold maxLen; omega
  obtain ⟨P, hP⟩ : ∃ P, P = powR n l k := ⟨_, rfl⟩
  have HP : Hid (pordR n l k = ordR P) := by show _ = _; unfold pordR; rw [hP]
  rw [← hP] at HC HLE
  rw [HP.out]
  clear hrow hl hWa hba hP
  go_enter Try.func41, Try.ntmps41
  go_wp2_with fail
  rw [← HWa.out]
  refine HC.out.mono ?_
  rintro e w1 ⟨⟨a0, c0, rfl, ho⟩, hb⟩
  have HC2 := Lib.hid (implOrderBy a0 P c0 w1 (own_int ho) HLE.out)
  have B1 := Lib.hid (BA.out.trans (hb.mono BA.out.size))
  clear ho hb
  go_wp2_with fail
  refine HC2.out.mono ?_
  rintro e w2 ⟨⟨a2, c2, rfl, ho2⟩, hb2⟩
  have HO := Lib.hid (ho2.mono B1.out.size)
  have HB := Lib.hid (B1.out.trans (hb2.mono B1.out.size))
  clear ho2 hb2
  go_wp2
  go_ret
  exact ⟨⟨a2, c2, rfl, HO.out⟩, HB.out⟩

end Go.Proofs.Ytpndfmlkceplcaa
