/-
  'BackGames' of the model. No conditions but the bounds that Go gives a slice.
-/
import Derived.Test.YteegbkbphfmooaaQn
import Derived.Test.YteegbkbphfmooaaSa
namespace Go.Proofs.Yteegbkbphfmooaa
open Go.ChangeShapes Go.WideShapes Go.ChangeAt Go.RowKit Go.Sort
set_option linter.unusedVariables false

theorem sum2q (R : List (List Int)) (h : ∀ r ∈ R, r.length = 2) : sumLs R = 2 * R.length := by
  induction R with
  | nil => rfl
  | cons r R ih =>
    have h1 := ih (fun x hx => h x (by simp [hx]))
    have h2 := h r (by simp)
    unfold sumLs at h1 ⊢
    simp only [List.map_cons, List.sum_cons, List.length_cons]
    omega
theorem small2q (R : List (List Int)) (hl : R.length ≤ 512) (h : ∀ r ∈ R, r.length = 2) : SmallSS R := by
  refine ⟨by omega, fun i hi => ?_, by rw [sum2q R h]; omega⟩
  rw [List.getD_eq_getElem?_getD, List.getElem?_eq_getElem hi]
  have := h _ (List.getElem_mem hi)
  simp only [Option.getD_some]; omega
theorem bkR_small (n : Int) (l ns : List Int) : SmallSS (bkR n l ns) := by
  unfold bkR
  cases h : renB n l ns
  · simp only [Bool.false_eq_true, if_false]
    exact ⟨by simp, fun i hi => by simp at hi, by simp [sumLs]⟩
  · obtain ⟨ok, rfl, _, _, _, _⟩ := ren_parts h
    have h8 : l.length ≤ 8 := by have := ok.2.1; omega
    simp only [if_true]
    refine small2q _ ?_ (fun r hr => bk_row hr)
    have := bkA_len l (tn ns) h8 l.length
    omega
set_option maxHeartbeats 1000000 in
theorem specBackGames (n : Int) (a : Option Addr) (l : List Int) (cap : Nat) (an : Option Addr) (ns : List Int) (cn : Nat) (w : World) (hrow : IntRow w a l) (hl : l.length ≤ maxLen) (hrn : IntRow w an ns) (hn : ns.length ≤ maxLen) (hcn : ns.length ≤ cn) (hcm : cn ≤ maxLen) :
    Calls Try.prog 59 #[.agg #[.int .i64 n, .slice a l.length cap], .slice an ns.length cn] w (RetSS w (bkR n l ns)) := by
  obtain ⟨Wa, hWa⟩ : ∃ Wa, Wa = w.alloc (.cells #[.int .i64 n, .slice a l.length cap] 25) := ⟨_, rfl⟩
  have HWa := Lib.hid hWa
  have hba : Below w.heap.size w Wa := by rw [hWa]; exact (Below.refl _ _).alloc (Nat.le_refl _) _
  have xa : Box Wa w.heap.size 25 (.int .i64 n) (.slice a l.length cap) := by rw [hWa]; exact Box.new _ _ _ _
  have R1 := hrow.below hba (Nat.le_refl _)
  have N1 := hrn.below hba (Nat.le_refl _)
  have HOK := Lib.hid (specOrderOk n a l cap an ns cn Wa R1 hl N1 hn hcn hcm)
  have c0 := xa.c0
  have c1 := xa.c1
  cases hok : renB n l ns
  · have HO := Lib.hid hok
    have HE : Hid (bkR n l ns = []) := by show _ = _; unfold bkR; rw [hok]; rfl
    clear hl hn hrow hrn hWa hcn hcm hok R1 N1
    go_enter Try.func59, Try.ntmps59
    go_wp2_with fail
    rw [← HWa.out]
    refine HOK.out.mono ?_
    rintro e w1 ⟨rfl, hb1⟩
    rw [HO.out]
    go_wp2
    go_ret
    exact ⟨⟨none, 0, [], by rw [HE.out]; rfl, by rw [HE.out]; exact OwnSS.nil _ _⟩, hba.trans (hb1.mono hba.size)⟩
  · have HO := Lib.hid hok
    obtain ⟨ok, rfl, hp, hnl, hod, hni⟩ := ren_parts hok
    have HE : Hid (bkR l.length l ns = bkA l (tn ns) l.length) := by show _ = _; unfold bkR; rw [hok]; rfl
    obtain ⟨o, ho⟩ : ∃ o, o = tn ns := ⟨_, rfl⟩
    rw [← ho] at hod hni HE
    have HC : Hid (∀ W, IntRow W a l → IntRow W an ns → Calls Try.prog 102 #[.agg #[.int .i64 (l.length : Int), .slice a l.length cap], .slice an l.length cn] W (RetSS W (bkA l o l.length))) :=
      fun W h1 h2 => l08Back_any l.length a l cap an o cn W rfl ok h1 hod (hni ▸ h2)
    have RR := Lib.hid R1
    have NN := Lib.hid N1
    have HNL := Lib.hid hnl
    clear hl hn hrow hrn hWa hcn hcm hok R1 N1 ok hp hod hni ho
    rw [hnl]
    rw [hnl] at HOK
    go_enter Try.func59, Try.ntmps59
    go_wp2_with fail
    rw [← HWa.out]
    refine HOK.out.mono ?_
    rintro e w1 ⟨rfl, hb1⟩
    rw [HO.out]
    clear c0 c1
    have c0 := (xa.below hb1 xa.lt).c0
    have c1 := (xa.below hb1 xa.lt).c1
    go_wp2_with fail
    refine (HC.out w1 (RR.out.below hb1 (Nat.le_refl _)) (NN.out.below hb1 (Nat.le_refl _))).mono ?_
    rintro e w2 ⟨⟨ao, co, gs, rfl, hss⟩, hb2⟩
    have B1 := Lib.hid (hba.trans (hb1.mono hba.size))
    have HSS := Lib.hid (hss.mono B1.out.size)
    clear hss
    go_wp2
    go_ret
    exact ⟨⟨ao, co, gs, by rw [HE.out]; rfl, by rw [HE.out]; exact HSS.out⟩, B1.out.trans (hb2.mono B1.out.size)⟩
end Go.Proofs.Yteegbkbphfmooaa
