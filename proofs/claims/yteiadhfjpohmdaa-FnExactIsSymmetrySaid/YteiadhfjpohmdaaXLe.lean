/-
  'FnExactIsSymmetry': the program's IsSymmetry answers as the model's for every tour and every list, and leaves both as they were. No conditions.
-/
import Derived.Test.YteiadhfjpohmdaaXk
import Derived.Test.YteiadhfjpohmdaaC
namespace Go.Proofs.Yteiadhfjpohmdaa
open Go.ChangeShapes Go.WideShapes Go.ChangeAt Go.RowKit
set_option linter.unusedVariables false

set_option maxHeartbeats 400000 in
theorem walkIsSymmetry (n : Int) (a : Option Addr) (cap : Nat) (l : List Int) (an : Option Addr) (cn : Nat) (ns : List Int) (w : World) (hl : l.length ≤ maxLen) (hrow : IntRow w a l) (hn : ns.length ≤ maxLen) (hrn : IntRow w an ns) :
    Calls Try.prog 8 #[.agg #[.int .i64 n, .slice a l.length cap], .slice an ns.length cn] w fun e w' => e = .returned (.bool true) ∧ Below w.heap.size w w' := by
  have HL := Lib.hid hl
  have HN := Lib.hid hn
  by_cases hbn : (1048576 : Int) < ns.length
  · unfold maxLen at hn
    clear hl
    go_enter Try.func8, Try.ntmps8
    go_wp2
    go_ret
    exact ⟨rfl, (Below.refl _ _).alloc (Nat.le_refl _) _⟩
  have hns20 : ns.length ≤ 1048576 := by omega
  have hnm : ns.length ≤ 9223372036854775807 := by omega
  clear hn
  by_cases hbig : (1048576 : Int) < l.length
  · have HS : Hid (szR 1048576 l = -1) := if_pos hbig
    clear hl
    go_enter Try.func8, Try.ntmps8
    go_wp2_with fail
    refine (szT n a cap l 1048576 _ HL.out (by omega) (by omega)).mono ?_
    rintro e w1 ⟨rfl, hb⟩
    rw [HS.out]
    go_wp2
    go_ret
    exact ⟨rfl, (((Below.refl _ _).alloc (Nat.le_refl _) _).trans (hb.mono (by simp)))⟩
  · have HS : Hid (szR 1048576 l = 1048576 - l.length) := if_neg hbig
    have hl20 : l.length ≤ 1048576 := by omega
    have hsz0 : ¬ (1048576 : Int) - l.length < 0 := by omega
    obtain ⟨ob, hob⟩ : ∃ ob : Bool, ob = symR n l ns := ⟨_, rfl⟩
    have HO := Lib.hid hob
    obtain ⟨Wa, hWa⟩ : ∃ Wa, Wa = w.alloc (.cells #[.int .i64 n, .slice a l.length cap] 35) := ⟨_, rfl⟩
    have HWa := Lib.hid hWa
    have hba : Below w.heap.size w Wa := by rw [hWa]; exact (Below.refl _ _).alloc (Nat.le_refl _) _
    have xa : Box Wa w.heap.size 35 (.int .i64 n) (.slice a l.length cap) := by rw [hWa]; exact Box.new _ _ _ _
    have hrowa : IntRow Wa a l := hrow.below hba (Nat.le_refl _)
    clear hl hob hWa hbig
    go_enter Try.func8, Try.ntmps8
    go_wp2_with fail
    rw [← HWa.out]
    refine (szT n a cap l 1048576 Wa HL.out (by omega) (by omega)).mono ?_
    rintro e w1 ⟨rfl, hb1⟩
    rw [HS.out]
    have xa1 := xa.below hb1 xa.lt
    have c0 := xa1.c0
    have c1 := xa1.c1
    have hrow1 := hrowa.below hb1 (Nat.le_refl _)
    go_wp2_with fail
    refine (toT n a cap l w1 hl20 hrow1).mono ?_
    rintro e w2 ⟨⟨g2, rfl, ho2⟩, hb2⟩
    have B2 := (hba.trans (hb1.mono hba.size)).trans (hb2.mono (hba.trans (hb1.mono hba.size)).size)
    go_wp2_with fail
    refine (toInt an cn ns w2 hns20 (hrn.below B2 (Nat.le_refl _))).mono ?_
    rintro e w2n ⟨⟨g2n, rfl, ho2n⟩, hb2n⟩
    go_wp2_with fail
    refine (specIsSymmetry n _ l _ _ ns _ w2n ((IntRow.of_own ho2).below hb2n (Nat.le_refl _)) HL.out (IntRow.of_own ho2n) HN.out).mono ?_
    rintro e w3 ⟨rfl, hb3⟩
    rw [← HO.out]
    have hb2' := hb2.trans (hb2n.mono hb2.size)
    have B3 := B2.trans ((hb2n.trans (hb3.mono hb2n.size)).mono B2.size)
    have xa3 := (xa1.below hb2' xa1.lt).below hb3 (Nat.lt_of_lt_of_le xa1.lt hb2'.size)
    have hrow3 := (hrow1.below hb2' (Nat.le_refl _)).below hb3 (Nat.le_refl _)
    clear c0 c1 ho2
    have c0 := xa3.c0
    have c1 := xa3.c1
    go_wp2_with fail
    refine (toT n a cap l w3 hl20 hrow3).mono ?_
    rintro e w4 ⟨⟨g4, rfl, ho4⟩, hb4⟩
    obtain ⟨W4, hW4⟩ : ∃ W4, W4 = w4.alloc (.cells #[.int .i64 n, .slice (some ⟨g4, 0, none⟩) l.length l.length] 27) := ⟨_, rfl⟩
    have HW4 := Lib.hid hW4
    have hbW : Below w4.heap.size w4 W4 := by rw [hW4]; exact (Below.refl _ _).alloc (Nat.le_refl _) _
    have xx : Box W4 w4.heap.size 27 (.int .i64 n) (.slice (some ⟨g4, 0, none⟩) l.length l.length) := by rw [hW4]; exact Box.new _ _ _ _
    have xa4 := (xa3.below hb4 xa3.lt).below hbW (Nat.lt_of_lt_of_le xa3.lt hb4.size)
    have hrow4 := (hrow3.below hb4 (Nat.le_refl _)).below hbW (Nat.le_refl _)
    have hx4 := (IntRow.of_own ho4).below hbW (Nat.le_refl _)
    clear hW4 ho4 c0 c1
    have B4 := B3.trans (hb4.mono B3.size)
    have BW4 := B4.trans (hbW.mono B4.size)
    go_wp2_with fail
    rw [← HW4.out]
    refine (toInt an cn ns W4 hns20 (hrn.below BW4 (Nat.le_refl _))).mono ?_
    rintro e w4n ⟨⟨gn, rfl, hon⟩, hb4n⟩
    have xx4 := xx.below hb4n xx.lt
    have dd0 := xx4.c0
    have dd1 := xx4.c1
    have xa4n := xa4.below hb4n xa4.lt
    have hrow4n := hrow4.below hb4n (Nat.le_refl _)
    have hx4n := hx4.below hb4n (Nat.le_refl _)
    have B4n := BW4.trans (hb4n.mono BW4.size)
    go_wp2_with fail
    refine (implIsSymmetry n _ l _ _ ns _ w4n hx4n HL.out (IntRow.of_own hon) HN.out).mono ?_
    rintro e w5 ⟨rfl, hb5⟩
    have hn5 := (IntRow.of_own hon).below hb5 (Nat.le_refl _)
    clear dd0 dd1
    rw [← HO.out]
    have xa5 := xa4n.below hb5 xa4n.lt
    have xx5 := xx4.below hb5 xx4.lt
    have hrow5 := hrow4n.below hb5 (Nat.le_refl _)
    have hx5 := hx4n.below hb5 (Nat.le_refl _)
    have c0 := xa5.c0
    have c1 := xa5.c1
    have d0 := xx5.c0
    have d1 := xx5.c1
    have hB5 : Below w.heap.size w w5 := B4n.trans (hb5.mono B4n.size)
    have HN5 := Lib.hid hn5
    have HRN := Lib.hid hrn
    clear hn5 hrn B2 B3 B4 BW4 B4n xa4n hrow4n hx4n xx4 hb4n hb2n hb2' ho2n hon
    have XX := Lib.hid xx5
    clear xa xa1 xa3 xa4 xa5 xx xx5 hrow hrowa hrow1 hrow3 hrow4 hx4 hba hb1 hb2 hb3 hb4 hbW hb5
    go_wp2
    go_region_with (first
      | (go_at_call 28; refine (toT n a cap l w5.drew hl20 hrow5).mono ?_; rintro e w6 ⟨⟨g6, rfl, ho6⟩, hbq⟩; have hb6 : Below w5.heap.size w5 w6 := (Below.refl _ w5).drew.trans hbq; have hx6 := hx5.below hb6 (Nat.le_refl _); have hy6 := IntRow.of_own ho6; have d0 := (XX.out.below hb6 XX.out.lt).c0; have d1 := (XX.out.below hb6 XX.out.lt).c1; clear ho6 hbq)
      | (go_at_call 20; refine (eqT_same n _ _ _ _ l _ HL.out hx6 hy6).mono ?_; rintro e w7 ⟨rfl, hb7⟩))
    all_goals
      have b6 := hB5.trans (hb6.mono hB5.size)
      have b7 := b6.trans (hb7.mono b6.size)
      have hn7 := (HN5.out.below hb6 (Nat.le_refl _)).below hb7 (Nat.le_refl _)
      clear c0 c1 d0 d1
      try clear hy6
      go_wp2_with fail
      refine (toInt an cn ns w7 hns20 (HRN.out.below b7 (Nat.le_refl _))).mono ?_
      rintro e w8 ⟨⟨g8, rfl, ho8⟩, hb8⟩
      have hy8 := IntRow.of_own ho8
      have hn8 := hn7.below hb8 (Nat.le_refl _)
      have b8 := b7.trans (hb8.mono b7.size)
      clear ho8
      go_wp2_with fail
      refine (eqInt_same _ _ _ _ ns w8 HN.out hn8 hy8).mono ?_
      rintro e w9 ⟨rfl, hb9⟩
      go_wp2
      go_ret
      exact ⟨rfl, b8.trans (hb9.mono b8.size)⟩

end Go.Proofs.Yteiadhfjpohmdaa

namespace Go.Proofs.Yteiadhfjpohmdaa.fnExactIsSymmetry
open Go.ChangeShapes Go.WideShapes Go.ChangeAt Go.RowKit
open Go.ChangeMaps (open_string shut_string)
set_option linter.unusedVariables false
set_option maxRecDepth 100000 in
theorem lifted (os : Os) (started : os.Started) (H : Type) (enc : TypeId × Value → H) :
    ReturnsInHanded {} Try.checked os 8 .any (Rows.fnExactIsSymmetrySpec.pre6 enc Try.prog Try.f8 Rows.fnExactIsSymmetryRow.domain false) (Rows.fnExactIsSymmetrySpec.post enc Try.prog Try.f8 false true false false) := by
  refine returnsInHanded_of_change (C := Try.checked) own started (by kernel_rfl) Try.func8
    (ChangeSpec.witness6 (enc := enc) (C := Try.checked) false ⟨#[], #[.agg #[.int .i64 0, .slice none 0 0], .slice none 0 0], []⟩ 8 (by kernel_rfl) (by kernel_rfl) (by kernel_rfl) (by kernel_rfl)) ?_
  intro W base args ds gs before hval0 hW hcnd _
  have hval : ∀ (j : Nat) t v, Try.f8.params[j]? = some t → args[j]? = some v → Value.okWide Try.prog W .any base t v := hval0
  have hW' := hW
  obtain ⟨p, q, hA0, hV, rfl, hfz, hnd⟩ := hW
  have hA : DataW.TrodAll enc Try.prog W 0 (fun _ => true) true Try.f8.params.toList args.toList ds p := hA0
  rw [Try.params8] at hA hval
  obtain ⟨v0, vs0, d0, ds0, p0, q0, hargs, rfl, rfl, h0, r0⟩ := trodAll_cons hA
  obtain ⟨v1, vs1, d1, ds1, p1, q1, rfl, rfl, rfl, h1, r1⟩ := trodAll_cons r0
  obtain ⟨rfl, rfl, rfl⟩ := trodAll_nil r1
  obtain rfl : args = #[v0, v1] := by cases args; simp_all
  obtain ⟨rfl, rfl⟩ := trodVars_none hV
  have k0 := h0
  have lt0 : ∀ x ∈ p0, x.block < W.heap.size := by obtain ⟨m, hm⟩ := k0; exact DataW.trod_lt m _ _ _ hm
  obtain ⟨n0, a0, cap0, l0, rfl, hl0, hr0⟩ := openTour (hval 0 35 v0 rfl rfl) h0
  have k1 := h1
  have lt1 : ∀ x ∈ p1, x.block < W.heap.size := by obtain ⟨m, hm⟩ := k1; exact DataW.trod_lt m _ _ _ hm
  obtain ⟨a1, cap1, l1, rfl, hl1, hr1⟩ := openInts h1 (okWide_slice Try.underlying22 (hval 1 22 v1 rfl rfl))
  clear hA0 hval0
  refine (walkIsSymmetry n0 a0 cap0 l0 a1 cap1 l1 W hl0 hr0 hl1 hr1).mono fun e W' ⟨he, bel⟩ => ?_
  subst he
  exact ⟨_, rfl, _, _, _, [], _, [], hW', trodAll_mk1 (shut_bool Try.underlying4 _), (trodAll_cons_mk (Below.trod laidOut (by kernel_rfl) (of_decide_eq_true (by kernel_rfl)) k0 bel lt0) (trodAll_cons_mk (Below.trod laidOut (by kernel_rfl) (of_decide_eq_true (by kernel_rfl)) k1 bel lt1) trodAll_mk0)), rfl, bel.frame _, fun h => by cases h⟩

theorem proved : Rows.FnExactIsSymmetrySaid :=
  OpenClaim.holds_of_wide 8 Try.f8 rfl rfl rfl rfl rfl rfl rfl ⟨rfl, rfl, rfl, rfl, rfl⟩ rfl rfl rfl rfl rfl (by kernel_rfl) Try.func8 (by kernel_rfl)
    (of_decide_eq_true (by kernel_rfl)) (by unfold Func.isWrapper; first | (rw [if_pos (by decide +kernel)]; kernel_rfl) | (rw [if_neg (by decide +kernel)]; exact ⟨rfl, rfl⟩))
    (fun os started H enc _ => lifted os started H enc)
end Go.Proofs.Yteiadhfjpohmdaa.fnExactIsSymmetry

