/-
  'CountFullCycles' of the model. No conditions but the bounds that Go gives a slice.
-/
import Derived.Test.YtnlpfajncpbjpaaJK
namespace Go.Proofs.Ytnlpfajncpbjpaa
open Go.ChangeShapes Go.WideShapes Go.ChangeAt Go.RowKit
set_option linter.unusedVariables false

theorem cyc_few {n : Int} {l : List Int} (hok : Ok n l) (h3 : l.length < 3) : (Hw.ways (ww l) (l.length : Int) 0).countP (Hw.cyc (ww l)) = 0 := by
  rw [List.countP_eq_zero]
  intro w hw
  have h := ways_at hok (by have := hok.1; have := hok.2.2.1; omega) hw
  unfold Hw.cyc
  rw [show decide (3 ≤ w.length) = false by rw [decide_eq_false_iff_not]; have := h.2.1; omega]
  simp
theorem cyc_many {n : Int} {l : List Int} (hok : Ok n l) (h3 : 3 ≤ l.length) : (Hw.ways (ww l) (l.length : Int) 0).countP (Hw.cyc (ww l)) = (Hw.ways (ww l) (l.length : Int) 0).countP (cB l) := by
  apply List.countP_congr
  intro w hw
  have h := ways_at hok (by omega) hw
  unfold Hw.cyc cB
  rw [show decide (3 ≤ w.length) = true by rw [decide_eq_true_iff]; have := h.2.1; omega, h.2.2.2, Bool.true_and]

/-- 'l06Cycles' from the beginning. -/
theorem l06Cycles_all (n : Int) (a : Option Addr) (l : List Int) (cap : Nat) (w : World) (hok : Ok n l) (hrow : IntRow w a l) :
    Calls Try.prog 79 #[.agg #[.int .i64 n, .slice a l.length cap], .int .i64 (((2 ^ l.length : Nat) : Int) - 1), .int .i64 0] w fun e w' => e = .returned (.int .i64 ((Hw.ways (ww l) (l.length : Int) 0).countP (cB l) : Nat)) ∧ Below w.heap.size w w' := by
  have hq : 0 < l.length := by have := hok.1; have := hok.2.2.1; omega
  obtain ⟨s, hs, h⟩ := Lw.start hok hq
  have hc := l06Cycles_any n a l cap hok 7 [0] s (2 ^ l.length - 1) 0 w hrow h rfl hs
  have e : ((2 ^ l.length : Nat) : Int) - 1 = ((2 ^ l.length - 1 : Nat) : Int) := by have := Nat.two_pow_pos l.length; omega
  rw [e]; exact hc

set_option maxRecDepth 100000 in
set_option maxHeartbeats 2000000 in
theorem specCountFullCycles (n : Int) (a : Option Addr) (l : List Int) (cap : Nat) (w : World) (hrow : IntRow w a l) (hl : l.length ≤ maxLen) :
    Calls Try.prog 49 #[.agg #[.int .i64 n, .slice a l.length cap]] w fun e w' => e = .returned (.int .i64 (ccR n l)) ∧ Below w.heap.size w w' := by
  obtain ⟨Wa, hWa⟩ : ∃ Wa, Wa = w.alloc (.cells #[.int .i64 n, .slice a l.length cap] 25) := ⟨_, rfl⟩
  have HWa := Lib.hid hWa
  have hba : Below w.heap.size w Wa := by rw [hWa]; exact (Below.refl _ _).alloc (Nat.le_refl _) _
  have xa : Box Wa w.heap.size 25 (.int .i64 n) (.slice a l.length cap) := by rw [hWa]; exact Box.new _ _ _ _
  have hrowa : IntRow Wa a l := hrow.below hba (Nat.le_refl _)
  have HL := Lib.hid hl
  clear hl hrow hWa
  cases hok : okB n l
  · have HO := Lib.hid hok
    have HE : Hid (ccR n l = -1) := by show _ = _; unfold ccR; rw [hok]; rfl
    clear hok
    go_enter Try.func49, Try.ntmps49
    go_wp2_with fail
    rw [← HWa.out]
    refine (specTourOk n a l cap Wa hrowa HL.out).mono ?_
    rintro e w1 ⟨rfl, hb1⟩
    rw [HO.out]
    have B1 := Lib.hid (hba.trans (hb1.mono hba.size))
    clear hb1
    go_wp2
    go_ret
    exact ⟨by rw [HE.out]; rfl, B1.out⟩
  have HO := Lib.hid hok
  have hk := okB_iff.1 hok
  have HE : Hid (ccR n l = ((Hw.ways (ww l) (l.length : Int) 0).countP (Hw.cyc (ww l)) : Nat)) := by show _ = _; unfold ccR; rw [hok]; rfl
  have HK := Lib.hid hk
  have hnl := hk.2.2.1
  have hl8 : l.length ≤ 8 := by have := hk.2.1; omega
  subst hnl
  clear hok hk
  by_cases h3 : (l.length : Int) < 3
  · have HF : Hid (ccR (l.length : Int) l = 0) := by show _ = _; rw [HE.out, cyc_few HK.out (by omega)]; rfl
    go_enter Try.func49, Try.ntmps49
    go_wp2_with fail
    rw [← HWa.out]
    refine (specTourOk _ a l cap Wa hrowa HL.out).mono ?_
    rintro e w1 ⟨rfl, hb1⟩
    rw [HO.out]
    have xa1 := xa.below hb1 xa.lt
    have c0 := xa1.c0
    have c1 := xa1.c1
    have B1 := Lib.hid (hba.trans (hb1.mono hba.size))
    clear hb1 xa1
    go_wp2
    go_ret
    exact ⟨by rw [HF.out]; rfl, B1.out⟩
  have HF : Hid (ccR (l.length : Int) l = ((Hw.ways (ww l) (l.length : Int) 0).countP (cB l) : Nat)) := by show _ = _; rw [HE.out, cyc_many HK.out (by omega)]
  go_enter Try.func49, Try.ntmps49
  go_wp2_with fail
  rw [← HWa.out]
  refine (specTourOk _ a l cap Wa hrowa HL.out).mono ?_
  rintro e w1 ⟨rfl, hb1⟩
  rw [HO.out]
  have xa1 := xa.below hb1 xa.lt
  have hrow1 := hrowa.below hb1 (Nat.le_refl _)
  have c0 := xa1.c0
  have c1 := xa1.c1
  have hq0 := fun d os => cell_regrown c0 d os
  have hq1 := fun d os => cell_regrown c1 d os
  have hrq : ∀ d os, IntRow (Go.Sort.grow (redrawn w1 d) os) a l := fun d os => hrow1.below (below_regrown w1 d os) (Nat.le_refl _)
  have cA : ∀ d os, Calls Try.prog 76 #[.agg #[.int .i64 (l.length : Int), .slice a l.length cap]] (Go.Sort.grow (redrawn w1 d) os) fun e w'' => e = .returned (.int .i64 (((2 ^ l.length : Nat) : Int) - 1)) ∧ ∃ p : Regrown, w'' = Go.Sort.grow (redrawn w1 p.d) p.os :=
    fun d os => Calls.regrown_of (l02All_any a l.length cap l.length _ hl8)
  have cC : ∀ d os, Calls Try.prog 79 #[.agg #[.int .i64 (l.length : Int), .slice a l.length cap], .int .i64 (((2 ^ l.length : Nat) : Int) - 1), .int .i64 0] (Go.Sort.grow (redrawn w1 d) os) fun e w'' => e = .returned (.int .i64 ((Hw.ways (ww l) (l.length : Int) 0).countP (cB l) : Nat)) ∧ ∃ p : Regrown, w'' = Go.Sort.grow (redrawn w1 p.d) p.os :=
    fun d os => Calls.regrown_of (l06Cycles_all _ a l cap _ HK.out (hrq d os))
  obtain ⟨AA, hAA⟩ : ∃ AA : Int, AA = ((2 ^ l.length : Nat) : Int) - 1 := ⟨_, rfl⟩
  rw [← hAA] at cA cC
  obtain ⟨CC, hCC⟩ : ∃ CC, CC = (Hw.ways (ww l) (l.length : Int) 0).countP (cB l) := ⟨_, rfl⟩
  rw [← hCC] at cC
  have HCC := Lib.hid hCC
  have b1 := Lib.hid (hba.trans (hb1.mono hba.size))
  clear hAA hCC hrq hb1 hba xa hrowa xa1 hrow1
  go_wp2
  refine wp_region_quiet_below (by kernel_rfl) (by kernel_rfl) ?_
  repeat (go_big_quiet_step (first | exact cA _ _ | exact cC _ _))
  refine wpQuiet_nil ?_
  intro wq hw'
  have hbq : Below w1.heap.size w1 wq := by obtain ⟨⟨dq, osq⟩, hw''⟩ := hw'; rw [hw'']; exact below_regrown w1 dq osq
  have HBQ := Lib.hid (b1.out.trans (hbq.mono b1.out.size))
  clear hw' cA cC hq0 hq1 hbq c0 c1
  go_wp2
  go_ret
  exact ⟨by rw [HF.out, ← HCC.out]; rfl, HBQ.out⟩
end Go.Proofs.Ytnlpfajncpbjpaa
