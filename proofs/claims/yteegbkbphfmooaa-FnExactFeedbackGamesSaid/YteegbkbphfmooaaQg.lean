/-
  'CountReversals' of the model, 'IsSettled' of the program. No conditions but the bounds that Go gives a slice.
-/
import Derived.Test.YteegbkbphfmooaaQf
namespace Go.Proofs.Yteegbkbphfmooaa
open Go.ChangeShapes Go.WideShapes Go.ChangeAt Go.RowKit Go.Sort
set_option linter.unusedVariables false

set_option maxHeartbeats 1000000 in
theorem specCountReversals (n : Int) (a : Option Addr) (l : List Int) (cap : Nat) (an : Option Addr) (ns : List Int) (cn : Nat) (w : World) (hrow : IntRow w a l) (hl : l.length ≤ maxLen) (hrn : IntRow w an ns) (hn : ns.length ≤ maxLen) (hcn : ns.length ≤ cn) (hcm : cn ≤ maxLen) :
    Calls Try.prog 50 #[.agg #[.int .i64 n, .slice a l.length cap], .slice an ns.length cn] w fun e w' => e = .returned (.int .i64 (crR n l ns)) ∧ Below w.heap.size w w' := by
  obtain ⟨Wa, hWa⟩ : ∃ Wa, Wa = w.alloc (.cells #[.int .i64 n, .slice a l.length cap] 25) := ⟨_, rfl⟩
  have HWa := Lib.hid hWa
  have hba : Below w.heap.size w Wa := by rw [hWa]; exact (Below.refl _ _).alloc (Nat.le_refl _) _
  have xa : Box Wa w.heap.size 25 (.int .i64 n) (.slice a l.length cap) := by rw [hWa]; exact Box.new _ _ _ _
  have R1 := hrow.below hba (Nat.le_refl _)
  have N1 := hrn.below hba (Nat.le_refl _)
  have HOK := Lib.hid (specOrderOk n a l cap an ns cn Wa R1 hl N1 hn hcn hcm)
  have c0 := xa.c0
  have c1 := xa.c1
  cases hok : renB n l ns
  · have HO := Lib.hid hok
    have HE : Hid (crR n l ns = -1) := by show _ = _; unfold crR; rw [hok]; rfl
    clear hl hn hrow hrn hWa hcn hcm hok R1 N1
    go_enter Try.func50, Try.ntmps50
    go_wp2_with fail
    rw [← HWa.out]
    refine HOK.out.mono ?_
    rintro e w1 ⟨rfl, hb1⟩
    rw [HO.out]
    go_wp2
    go_ret
    exact ⟨by rw [HE.out]; rfl, hba.trans (hb1.mono hba.size)⟩
  · have HO := Lib.hid hok
    obtain ⟨ok, rfl, hp, hnl, hod, hni⟩ := ren_parts hok
    have HE : Hid (crR l.length l ns = ((Rv.rv (bt l) (tn ns) : Nat) : Int)) := by show _ = _; unfold crR; rw [hok]; rfl
    obtain ⟨o, ho⟩ : ∃ o, o = tn ns := ⟨_, rfl⟩
    rw [← ho] at hod hni HE
    have HC : Hid (∀ W, IntRow W a l → IntRow W an ns → Calls Try.prog 97 #[.agg #[.int .i64 (l.length : Int), .slice a l.length cap], .slice an l.length cn] W fun e w' => e = .returned (.int .i64 ((Rv.rv (bt l) o : Nat) : Int)) ∧ Below W.heap.size W w') :=
      fun W h1 h2 => l08Count_any l.length a l cap an o cn W rfl ok h1 hod (hni ▸ h2) (hnl ▸ hcn) hcm
    have RR := Lib.hid R1
    have NN := Lib.hid N1
    have HNL := Lib.hid hnl
    clear hl hn hrow hrn hWa hcn hcm hok R1 N1 ok hp hod hni ho
    rw [hnl]
    rw [hnl] at HOK
    go_enter Try.func50, Try.ntmps50
    go_wp2_with fail
    rw [← HWa.out]
    refine HOK.out.mono ?_
    rintro e w1 ⟨rfl, hb1⟩
    rw [HO.out]
    clear c0 c1
    have c0 := (xa.below hb1 xa.lt).c0
    have c1 := (xa.below hb1 xa.lt).c1
    go_wp2_with fail
    refine (HC.out w1 (RR.out.below hb1 (Nat.le_refl _)) (NN.out.below hb1 (Nat.le_refl _))).mono ?_
    rintro e w2 ⟨rfl, hb2⟩
    have B1 := hba.trans (hb1.mono hba.size)
    go_wp2
    go_ret
    exact ⟨by rw [HE.out]; rfl, B1.trans (hb2.mono B1.size)⟩
set_option maxHeartbeats 1000000 in
theorem implIsSettled (n : Int) (a : Option Addr) (l : List Int) (cap : Nat) (an : Option Addr) (ns : List Int) (cn : Nat) (w : World) (hrow : IntRow w a l) (hl : l.length ≤ maxLen) (hrn : IntRow w an ns) (hn : ns.length ≤ maxLen) (hcn : ns.length ≤ cn) (hcm : cn ≤ maxLen) :
    Calls Try.prog 35 #[.agg #[.int .i64 n, .slice a l.length cap], .slice an ns.length cn] w fun e w' => e = .returned (.bool (isR n l ns)) ∧ Below w.heap.size w w' := by
  obtain ⟨Wa, hWa⟩ : ∃ Wa, Wa = w.alloc (.cells #[.int .i64 n, .slice a l.length cap] 25) := ⟨_, rfl⟩
  have HWa := Lib.hid hWa
  have hba : Below w.heap.size w Wa := by rw [hWa]; exact (Below.refl _ _).alloc (Nat.le_refl _) _
  have xa : Box Wa w.heap.size 25 (.int .i64 n) (.slice a l.length cap) := by rw [hWa]; exact Box.new _ _ _ _
  have R1 := hrow.below hba (Nat.le_refl _)
  have N1 := hrn.below hba (Nat.le_refl _)
  have HOK := Lib.hid (implOrderOk n a l cap an ns cn Wa R1 hl N1 hn hcn hcm)
  have c0 := xa.c0
  have c1 := xa.c1
  cases hok : renB n l ns
  · have HO := Lib.hid hok
    have HE : Hid (isR n l ns = false) := by show _ = _; unfold isR; rw [hok]; rfl
    clear hl hn hrow hrn hWa hcn hcm hok R1 N1
    go_enter Try.func35, Try.ntmps35
    go_wp2_with fail
    rw [← HWa.out]
    refine HOK.out.mono ?_
    rintro e w1 ⟨rfl, hb1⟩
    rw [HO.out]
    go_wp2
    go_ret
    exact ⟨by rw [HE.out]; rfl, hba.trans (hb1.mono hba.size)⟩
  · have HO := Lib.hid hok
    obtain ⟨ok, rfl, hp, hnl, hod, hni⟩ := ren_parts hok
    have HE : Hid (isR l.length l ns = (Rv.bet (bt l) (tn ns)).isNone) := by show _ = _; unfold isR; rw [hok]; rfl
    obtain ⟨o, ho⟩ : ∃ o, o = tn ns := ⟨_, rfl⟩
    rw [← ho] at hod hni HE
    have HC : Hid (∀ W, IntRow W a l → IntRow W an ns → Calls Try.prog 85 #[.agg #[.int .i64 (l.length : Int), .slice a l.length cap], .slice an l.length cn] W (BetR l.length (bt l) o W)) :=
      fun W h1 h2 => firstBetter_any l.length a l cap an o cn W rfl ok h1 hod (hni ▸ h2)
    have RR := Lib.hid R1
    have NN := Lib.hid N1
    have HNL := Lib.hid hnl
    clear hl hn hrow hrn hWa hcn hcm hok R1 N1 ok hp hod hni ho
    rw [hnl]
    rw [hnl] at HOK
    go_enter Try.func35, Try.ntmps35
    go_wp2_with fail
    rw [← HWa.out]
    refine HOK.out.mono ?_
    rintro e w1 ⟨rfl, hb1⟩
    rw [HO.out]
    clear c0 c1
    have c0 := (xa.below hb1 xa.lt).c0
    have c1 := (xa.below hb1 xa.lt).c1
    go_wp2_with fail
    refine (HC.out w1 (RR.out.below hb1 (Nat.le_refl _)) (NN.out.below hb1 (Nat.le_refl _))).mono ?_
    have B1 := Lib.hid (hba.trans (hb1.mono hba.size))
    clear HOK HC
    rintro e w2 ⟨⟨hn, rfl⟩ | ⟨x, g, c, hn, rfl, how⟩, hb2⟩
    · have HN := Lib.hid hn
      clear hn
      go_wp2
      go_ret
      exact ⟨by rw [HE.out, HN.out]; rfl, B1.out.trans (hb2.mono B1.out.size)⟩
    · have HN := Lib.hid hn
      clear hn how
      go_wp2
      go_ret
      exact ⟨by rw [HE.out, HN.out]; rfl, B1.out.trans (hb2.mono B1.out.size)⟩
end Go.Proofs.Yteegbkbphfmooaa
