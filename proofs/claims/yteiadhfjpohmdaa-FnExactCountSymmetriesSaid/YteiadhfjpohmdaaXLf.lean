/-
  'FnExactCountSymmetries': the program's CountSymmetries answers as the model's for every tour, and leaves it as it was. No conditions.
-/
import Derived.Test.YteiadhfjpohmdaaXu
import Derived.Test.YteiadhfjpohmdaaC
namespace Go.Proofs.Yteiadhfjpohmdaa
open Go.ChangeShapes Go.WideShapes Go.ChangeAt Go.RowKit
set_option linter.unusedVariables false

set_option maxHeartbeats 400000 in
theorem walkCountSymmetries (n : Int) (a : Option Addr) (cap : Nat) (l : List Int) (w : World) (hl : l.length ≤ maxLen) (hrow : IntRow w a l) :
    Calls Try.prog 7 #[.agg #[.int .i64 n, .slice a l.length cap]] w fun e w' => e = .returned (.bool true) ∧ Below w.heap.size w w' := by
  have HL := Lib.hid hl
  by_cases hbig : (1048576 : Int) < l.length
  · have HS : Hid (szR 1048576 l = -1) := if_pos hbig
    clear hl
    go_enter Try.func7, Try.ntmps7
    go_wp2_with fail
    refine (szT n a cap l 1048576 _ HL.out (by omega) (by omega)).mono ?_
    rintro e w1 ⟨rfl, hb⟩
    rw [HS.out]
    go_wp2
    go_ret
    exact ⟨rfl, (((Below.refl _ _).alloc (Nat.le_refl _) _).trans (hb.mono (by simp)))⟩
  · have HS : Hid (szR 1048576 l = 1048576 - l.length) := if_neg hbig
    have hl20 : l.length ≤ 1048576 := by omega
    have hsz0 : ¬ (1048576 : Int) - l.length < 0 := by omega
    obtain ⟨ob, hob⟩ : ∃ ob : Int, ob = csR n l := ⟨_, rfl⟩
    have HO := Lib.hid hob
    obtain ⟨Wa, hWa⟩ : ∃ Wa, Wa = w.alloc (.cells #[.int .i64 n, .slice a l.length cap] 35) := ⟨_, rfl⟩
    have HWa := Lib.hid hWa
    have hba : Below w.heap.size w Wa := by rw [hWa]; exact (Below.refl _ _).alloc (Nat.le_refl _) _
    have xa : Box Wa w.heap.size 35 (.int .i64 n) (.slice a l.length cap) := by rw [hWa]; exact Box.new _ _ _ _
    have hrowa : IntRow Wa a l := hrow.below hba (Nat.le_refl _)
    clear hl hob hWa hbig
    go_enter Try.func7, Try.ntmps7
    go_wp2_with fail
    rw [← HWa.out]
    refine (szT n a cap l 1048576 Wa HL.out (by omega) (by omega)).mono ?_
    rintro e w1 ⟨rfl, hb1⟩
    rw [HS.out]
    have xa1 := xa.below hb1 xa.lt
    have c0 := xa1.c0
    have c1 := xa1.c1
    have hrow1 := hrowa.below hb1 (Nat.le_refl _)
    go_wp2_with fail
    refine (toT n a cap l w1 hl20 hrow1).mono ?_
    rintro e w2 ⟨⟨g2, rfl, ho2⟩, hb2⟩
    go_wp2_with fail
    refine (specCountSymmetries n _ l _ w2 (IntRow.of_own ho2) HL.out).mono ?_
    rintro e w3 ⟨rfl, hb3⟩
    rw [← HO.out]
    have xa3 := (xa1.below hb2 xa1.lt).below hb3 (Nat.lt_of_lt_of_le xa1.lt hb2.size)
    have hrow3 := (hrow1.below hb2 (Nat.le_refl _)).below hb3 (Nat.le_refl _)
    clear c0 c1 ho2
    have c0 := xa3.c0
    have c1 := xa3.c1
    go_wp2_with fail
    refine (toT n a cap l w3 hl20 hrow3).mono ?_
    rintro e w4 ⟨⟨g4, rfl, ho4⟩, hb4⟩
    obtain ⟨W4, hW4⟩ : ∃ W4, W4 = w4.alloc (.cells #[.int .i64 n, .slice (some ⟨g4, 0, none⟩) l.length l.length] 27) := ⟨_, rfl⟩
    have HW4 := Lib.hid hW4
    have hbW : Below w4.heap.size w4 W4 := by rw [hW4]; exact (Below.refl _ _).alloc (Nat.le_refl _) _
    have xx : Box W4 w4.heap.size 27 (.int .i64 n) (.slice (some ⟨g4, 0, none⟩) l.length l.length) := by rw [hW4]; exact Box.new _ _ _ _
    have xa4 := (xa3.below hb4 xa3.lt).below hbW (Nat.lt_of_lt_of_le xa3.lt hb4.size)
    have hrow4 := (hrow3.below hb4 (Nat.le_refl _)).below hbW (Nat.le_refl _)
    have hx4 := (IntRow.of_own ho4).below hbW (Nat.le_refl _)
    clear hW4 ho4 c0 c1
    go_wp2_with fail
    rw [← HW4.out]
    refine (implCountSymmetries n _ l _ W4 hx4 HL.out).mono ?_
    rintro e w5 ⟨rfl, hb5⟩
    rw [← HO.out]
    have xa5 := xa4.below hb5 xa4.lt
    have xx5 := xx.below hb5 xx.lt
    have hrow5 := hrow4.below hb5 (Nat.le_refl _)
    have hx5 := hx4.below hb5 (Nat.le_refl _)
    have c0 := xa5.c0
    have c1 := xa5.c1
    have d0 := xx5.c0
    have d1 := xx5.c1
    have hB5 : Below w.heap.size w w5 := by
      have b1 := hba.trans (hb1.mono hba.size)
      have b2 := b1.trans (hb2.mono b1.size)
      have b3 := b2.trans (hb3.mono b2.size)
      have b4 := b3.trans (hb4.mono b3.size)
      have b5 := b4.trans (hbW.mono b4.size)
      exact b5.trans (hb5.mono b5.size)
    have XX := Lib.hid xx5
    clear xa xa1 xa3 xa4 xa5 xx xx5 hrow hrowa hrow1 hrow3 hrow4 hx4 hba hb1 hb2 hb3 hb4 hbW hb5
    go_wp2
    go_region_with (first
      | (go_at_call 28; refine (toT n a cap l w5.drew hl20 hrow5).mono ?_; rintro e w6 ⟨⟨g6, rfl, ho6⟩, hbq⟩; have hb6 : Below w5.heap.size w5 w6 := (Below.refl _ w5).drew.trans hbq; have hx6 := hx5.below hb6 (Nat.le_refl _); have hy6 := IntRow.of_own ho6; have d0 := (XX.out.below hb6 XX.out.lt).c0; have d1 := (XX.out.below hb6 XX.out.lt).c1; clear ho6 hbq)
      | (go_at_call 20; refine (eqT_same n _ _ _ _ l _ HL.out hx6 hy6).mono ?_; rintro e w7 ⟨rfl, hb7⟩))
    all_goals
      go_wp2
      go_ret
      refine ⟨rfl, ?_⟩
      have b6 := hB5.trans (hb6.mono hB5.size)
      exact b6.trans (hb7.mono b6.size)

end Go.Proofs.Yteiadhfjpohmdaa

namespace Go.Proofs.Yteiadhfjpohmdaa.fnExactCountSymmetries
open Go.ChangeShapes Go.WideShapes Go.ChangeAt Go.RowKit
open Go.ChangeMaps (open_string shut_string)
set_option linter.unusedVariables false
set_option maxRecDepth 100000 in
theorem lifted (os : Os) (started : os.Started) (H : Type) (enc : TypeId × Value → H) :
    ReturnsInHanded {} Try.checked os 7 .any (Rows.fnExactCountSymmetriesSpec.pre6 enc Try.prog Try.f7 Rows.fnExactCountSymmetriesRow.domain false) (Rows.fnExactCountSymmetriesSpec.post enc Try.prog Try.f7 false true false false) := by
  refine returnsInHanded_of_change (C := Try.checked) own started (by kernel_rfl) Try.func7
    (ChangeSpec.witness6 (enc := enc) (C := Try.checked) false ⟨#[], #[.agg #[.int .i64 0, .slice none 0 0]], []⟩ 8 (by kernel_rfl) (by kernel_rfl) (by kernel_rfl) (by kernel_rfl)) ?_
  intro W base args ds gs before hval0 hW hcnd _
  have hval : ∀ (j : Nat) t v, Try.f7.params[j]? = some t → args[j]? = some v → Value.okWide Try.prog W .any base t v := hval0
  have hW' := hW
  obtain ⟨p, q, hA0, hV, rfl, hfz, hnd⟩ := hW
  have hA : DataW.TrodAll enc Try.prog W 0 (fun _ => true) true Try.f7.params.toList args.toList ds p := hA0
  rw [Try.params7] at hA hval
  obtain ⟨v0, vs0, d0, ds0, p0, q0, hargs, rfl, rfl, h0, r0⟩ := trodAll_cons hA
  obtain ⟨rfl, rfl, rfl⟩ := trodAll_nil r0
  obtain rfl : args = #[v0] := by cases args; simp_all
  obtain ⟨rfl, rfl⟩ := trodVars_none hV
  have k0 := h0
  have lt0 : ∀ x ∈ p0, x.block < W.heap.size := by obtain ⟨m, hm⟩ := k0; exact DataW.trod_lt m _ _ _ hm
  obtain ⟨n0, a0, cap0, l0, rfl, hl0, hr0⟩ := openTour (hval 0 35 v0 rfl rfl) h0
  clear hA0 hval0
  refine (walkCountSymmetries n0 a0 cap0 l0 W hl0 hr0).mono fun e W' ⟨he, bel⟩ => ?_
  subst he
  exact ⟨_, rfl, _, _, _, [], _, [], hW', trodAll_mk1 (shut_bool Try.underlying4 _), (trodAll_cons_mk (Below.trod laidOut (by kernel_rfl) (of_decide_eq_true (by kernel_rfl)) k0 bel lt0) trodAll_mk0), rfl, bel.frame _, fun h => by cases h⟩

theorem proved : Rows.FnExactCountSymmetriesSaid :=
  OpenClaim.holds_of_wide 7 Try.f7 rfl rfl rfl rfl rfl rfl rfl ⟨rfl, rfl, rfl, rfl, rfl⟩ rfl rfl rfl rfl rfl (by kernel_rfl) Try.func7 (by kernel_rfl)
    (of_decide_eq_true (by kernel_rfl)) (by unfold Func.isWrapper; first | (rw [if_pos (by decide +kernel)]; kernel_rfl) | (rw [if_neg (by decide +kernel)]; exact ⟨rfl, rfl⟩))
    (fun os started H enc _ => lifted os started H enc)
end Go.Proofs.Yteiadhfjpohmdaa.fnExactCountSymmetries

