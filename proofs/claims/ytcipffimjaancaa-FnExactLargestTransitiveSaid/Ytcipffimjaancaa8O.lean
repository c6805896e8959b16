/-
  'LargestTransitive' of the model. No conditions but the bounds that Go gives a slice.
-/
import Derived.Test.Ytcipffimjaancaa8N
namespace Go.Proofs.Ytcipffimjaancaa
open Go.ChangeShapes Go.WideShapes Go.ChangeAt Go.RowKit
set_option linter.unusedVariables false

set_option maxRecDepth 100000 in
set_option maxHeartbeats 2000000 in
theorem specLargest (n : Int) (a : Option Addr) (l : List Int) (cap : Nat) (w : World) (hrow : IntRow w a l) (hl : l.length ≤ maxLen) :
    Calls Try.prog 44 #[.agg #[.int .i64 n, .slice a l.length cap]] w fun e w' => e = .returned (.int .i64 (largR n l)) ∧ Below w.heap.size w w' := by
  obtain ⟨Wa, hWa⟩ : ∃ Wa, Wa = w.alloc (.cells #[.int .i64 n, .slice a l.length cap] 25) := ⟨_, rfl⟩
  have HWa := Lib.hid hWa
  have hba : Below w.heap.size w Wa := by rw [hWa]; exact (Below.refl _ _).alloc (Nat.le_refl _) _
  have xa : Box Wa w.heap.size 25 (.int .i64 n) (.slice a l.length cap) := by rw [hWa]; exact Box.new _ _ _ _
  have hrowa : IntRow Wa a l := hrow.below hba (Nat.le_refl _)
  have HL := Lib.hid hl
  clear hl hrow hWa
  cases hok : okB n l
  · have HO := Lib.hid hok
    have HE : Hid (largR n l = 0) := by show _ = _; unfold largR; rw [hok]; rfl
    clear hok
    go_enter Try.func44, Try.ntmps44
    go_wp2_with fail
    rw [← HWa.out]
    refine (specTourOk n a l cap Wa hrowa HL.out).mono ?_
    rintro e w1 ⟨rfl, hb1⟩
    rw [HO.out]
    go_wp2
    go_ret
    exact ⟨by rw [HE.out]; rfl, hba.trans (hb1.mono hba.size)⟩
  · have HO := Lib.hid hok
    have HK : Hid (Ok n l) := okB_iff.1 hok
    have hl8 : l.length ≤ 8 := by have := HK.out.2.1; have := HK.out.2.2.1; omega
    obtain rfl : n = (l.length : Int) := HK.out.2.2.1.symm
    obtain ⟨P, hP⟩ : ∃ P : Nat, P = 2 ^ l.length := ⟨_, rfl⟩
    have hz : wrap64 (2 ^ l.length) = (P : Int) := by rw [hP]; exact wrapPow _ hl8
    have hP8 : P ≤ 256 := by rw [hP]; exact pow_le _ hl8
    have hP1 : 1 ≤ P := by rw [hP]; exact Nat.two_pow_pos _
    have HE : Hid (largR l.length l = (lg l (P - 1) : Int)) := by show _ = _; unfold largR; rw [hok, hP]; rfl
    have HPP := Lib.hid hP
    have HAll : Hid (∀ (W : World), Calls Try.prog 81 #[.agg #[.int .i64 (l.length : Int), .slice a l.length cap]] W fun e w' => e = .returned (.int .i64 ((P : Int) - 1)) ∧ Below W.heap.size W w') := fun W => by rw [hP]; exact l02All_any a l.length cap l.length W hl8
    clear hok hP
    go_enter Try.func44, Try.ntmps44
    go_wp2_with fail
    rw [← HWa.out]
    refine (specTourOk _ a l cap Wa hrowa HL.out).mono ?_
    rintro e w1 ⟨rfl, hb1⟩
    rw [HO.out]
    have HLt : Hid (Lt w w1 l.length a l cap) := ⟨hba.trans (hb1.mono hba.size), xa.below hb1 xa.lt, hrowa.below hb1 (Nat.le_refl _)⟩
    clear hb1 xa hrowa hba
    go_wp2
    go_loopw [3, 4] (fun b i wr => ∃ s best : Nat, 1 ≤ s ∧ s ≤ P ∧ i = .int .i64 (s : Int) ∧ b = .int .i64 (best : Int) ∧ Hid (best = lg l (s - 1)) ∧ Lt w wr l.length a l cap) (fun _ i _ => P - (intOf i).toNat)
    case atStart => exact ⟨1, 0, Nat.le_refl _, hP1, rfl, rfl, rfl, HLt.out⟩
    case round =>
      obtain ⟨s, best, hs1, hsP, rfl, rfl, hbest, hlt⟩ := hrel
      have hbl : best ≤ s - 1 := by rw [hbest.out]; exact lg_le _ _
      have c0 := hlt.hx.c0
      have c1 := hlt.hx.c1
      have HLT := Lib.hid hlt
      by_cases hlt2 : s < P
      · have hsi : (s : Int) < (P : Int) := by omega
        obtain ⟨f1, f2, f3, f4⟩ := part_facts HK.out hs1 (by rw [← HPP.out]; exact hlt2)
        have hp8 : (pI l s).length ≤ 8 := by have := f4.2.1; omega
        have hcall := fun (W : World) (hR : IntRow W a l) => specPart l.length a l cap s W hR HL.out
        rw [f1, f2, f3] at hcall
        have hstep : Hid (lg l s = if gd l best s then s else best) := by
          show _ = _
          obtain ⟨k, rfl⟩ : ∃ k, s = k + 1 := ⟨s - 1, by omega⟩
          rw [hbest.out]; rfl
        obtain ⟨Lp, hLp⟩ : ∃ Lp, Lp = pI l s := ⟨_, rfl⟩
        rw [← hLp] at hcall hp8 f4
        have htran : ∀ (a0 : Option Addr) (c0 : Nat) (W : World), IntRow W a0 Lp → Calls Try.prog 85 #[.agg #[.int .i64 (Lp.length : Int), .slice a0 Lp.length c0]] W fun e w' => (∃ a1 c1, e = .returned (.slice a1 (triL Lp).length c1)) ∧ Below W.heap.size W w' := fun a0 c0 W hR => by
          refine (l04All_any _ a0 Lp c0 W hR f4).mono ?_
          rintro e w' ⟨⟨a1, c1, gs, rfl, _⟩, hb⟩
          exact ⟨⟨a1, c1, rfl⟩, hb⟩
        obtain ⟨tl, htl⟩ : ∃ tl, tl = (triL Lp).length := ⟨_, rfl⟩
        have htl8 : tl ≤ 512 := by rw [htl]; exact triL_len _ hp8
        obtain ⟨tb, htbb⟩ : ∃ tb, tb = decide (triL Lp = []) := ⟨_, rfl⟩
        have htq : ((tl : Int) == 0) = tb := by
          rw [htbb, htl, Bool.eq_iff_iff, beq_iff_eq, decide_eq_true_iff, ← List.length_eq_zero_iff]; omega
        have HTQ := Lib.hid htq
        rw [← htl] at htran
        have hgd : Hid (gd l best s = (tb && decide (pc best < pc s))) := by show _ = _; unfold gd; rw [← hLp, ← htbb]
        have HC := Lib.hid hcall
        have HT := Lib.hid htran
        have hs8 : s < 256 := by omega
        have hbe8 : best < 256 := by omega
        clear hcall htran f1 f2 f3 f4 htbb hLp hlt htl htq
        go_wp2_with fail
        refine (HAll.out wr).mono ?_
        rintro e w0 ⟨rfl, hb0⟩
        have HLT0 := Lib.hid (HLT.out.below hb0)
        clear c0 c1
        have c0 := HLT0.out.hx.c0
        have c1 := HLT0.out.hx.c1
        have hcw := HC.out w0 HLT0.out.hr
        have HCW := Lib.hid hcw
        clear hcw hb0
        go_wp2_with fail
        refine HCW.out.mono ?_
        rintro e w2 ⟨⟨a0, cp0, rfl, ho2⟩, hb2⟩
        obtain ⟨W2, hW2⟩ : ∃ W2, W2 = w2.alloc (.cells #[.int .i64 (Lp.length : Int), .slice a0 Lp.length cp0] 25) := ⟨_, rfl⟩
        have HW2 := Lib.hid hW2
        have hbW2 : Below w2.heap.size w2 W2 := by rw [hW2]; exact (Below.refl _ _).alloc (Nat.le_refl _) _
        have x2 : Box W2 w2.heap.size 25 (.int .i64 (Lp.length : Int)) (.slice a0 Lp.length cp0) := by rw [hW2]; exact Box.new _ _ _ _
        have hr2 := (own_int ho2).below hbW2 (Nat.le_refl _)
        have HLT2 := Lib.hid ((HLT0.out.below hb2).below hbW2)
        clear c0 c1
        have c0 := x2.c0
        have c1 := x2.c1
        rw [HW2.out] at c0 c1
        clear hW2 hbW2 x2 ho2 hb2
        go_wp2_with fail
        rw [← HW2.out]
        refine (l02Bits_any s hs8 W2).mono ?_
        rintro e w' ⟨rfl, rfl⟩
        go_wp2_with fail
        refine (l02Bits_any best hbe8 W2).mono ?_
        rintro e w' ⟨rfl, rfl⟩
        rw [HW2.out.symm] at c0 c1
        by_cases hpc : pc best < pc s
        · have hq : ((pc best : Nat) : Int) < (pc s : Nat) := by omega
          go_wp2_with fail
          refine (HT.out a0 cp0 W2 hr2).mono ?_
          rintro e w3 ⟨⟨a1, c1', rfl⟩, hb3⟩
          have HLT3 := Lib.hid (HLT2.out.below hb3)
          clear hb3 c0 c1 hr2
          cases tb
          · have hq0 := HTQ.out
            have HN : Hid (best = lg l s) := by show _ = _; rw [hstep.out, hgd.out]; rfl
            go_wp2
            go_roundw
            case rel => exact ⟨s + 1, best, by omega, by omega, by go_num, rfl, HN.out, HLT3.out⟩
            case measure => simp [intOf]; omega
          · have hq0 := HTQ.out
            have HN : Hid (s = lg l s) := by show _ = _; rw [hstep.out, hgd.out, decide_eq_true hpc]; rfl
            go_wp2
            go_roundw
            case rel => exact ⟨s + 1, s, by omega, by omega, by go_num, rfl, HN.out, HLT3.out⟩
            case measure => simp [intOf]; omega
        · have hq : ¬ ((pc best : Nat) : Int) < (pc s : Nat) := by omega
          have HN : Hid (best = lg l s) := by show _ = _; rw [hstep.out, hgd.out, decide_eq_false hpc, Bool.and_false]; rfl
          clear c0 c1
          go_wp2
          go_roundw
          case rel => exact ⟨s + 1, best, by omega, by omega, by go_num, rfl, HN.out, HLT2.out⟩
          case measure => simp [intOf]; omega
      · obtain rfl : s = P := by omega
        have HN : Hid ((best : Int) = largR l.length l) := by show _ = _; rw [HE.out, hbest.out]
        clear hlt
        go_wp2_with fail
        refine (HAll.out wr).mono ?_
        rintro e w0 ⟨rfl, hb0⟩
        have HLT0 := Lib.hid (HLT.out.below hb0)
        clear hb0 c0 c1
        go_wp2
        go_ret
        exact ⟨by rw [← HN.out]; rfl, HLT0.out.hb⟩
end Go.Proofs.Ytcipffimjaancaa
