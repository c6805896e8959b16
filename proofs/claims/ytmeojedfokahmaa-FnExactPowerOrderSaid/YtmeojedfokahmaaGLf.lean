/-
  'FnExactPowerOrder': the program's PowerOrder answers as the model's for every tour and every number, leaves it as it was, and shares no memory with it. No conditions.
-/
import Derived.Test.YtmeojedfokahmaaGk
import Derived.Test.YtmeojedfokahmaaD
import Derived.Test.Ytmeojedfokahmaa3G
namespace Go.Proofs.Ytmeojedfokahmaa
open Go.ChangeShapes Go.WideShapes Go.ChangeAt Go.RowKit
set_option linter.unusedVariables false

set_option maxHeartbeats 1000000 in
theorem walkPowerOrder (n : Int) (a : Option Addr) (cap : Nat) (l : List Int) (k : Int) (w : World) (hl : l.length ≤ maxLen) (hrow : IntRow w a l) (h_k : (Lit.int .i64 k).wf = true) :
    Calls Try.prog 9 #[.agg #[.int .i64 n, .slice a l.length cap], .int .i64 k] w fun e w' => e = .returned (.bool true) ∧ Below w.heap.size w w' := by
  have HL := Lib.hid hl
  by_cases hbig : (1048576 : Int) < l.length
  · have HS : Hid (szR 1048576 l = -1) := if_pos hbig
    clear hl
    go_enter Try.func9, Try.ntmps9
    go_wp2_with fail
    refine (szT n a cap l 1048576 _ HL.out (by omega) (by omega)).mono ?_
    rintro e w1 ⟨rfl, hb⟩
    rw [HS.out]
    go_wp2
    go_ret
    exact ⟨rfl, (((Below.refl _ _).alloc (Nat.le_refl _) _).trans (hb.mono (by simp)))⟩
  · have HS : Hid (szR 1048576 l = 1048576 - l.length) := if_neg hbig
    have hl20 : l.length ≤ 1048576 := by omega
    have hsz0 : ¬ (1048576 : Int) - l.length < 0 := by omega
    have hRl := pordR_le n l k
    obtain ⟨R, hR⟩ : ∃ R : List Int, R = pordR n l k := ⟨_, rfl⟩
    have CS : ∀ (a : Option Addr) (cap : Nat) (W : World), IntRow W a l → Calls Try.prog 56 #[.agg #[.int .i64 n, .slice a l.length cap], .int .i64 k] W fun e w' => (∃ a0 c0, e = .returned (.slice a0 R.length c0) ∧ w'.ownsRow W.heap.size 3 1 (.slice a0 R.length c0) R.length (R.map iv)) ∧ Below W.heap.size W w' := by
      intro a cap W hr
      have := specPowerOrder n a l cap k W hr HL.out
      rw [← hR] at this
      exact this
    have CI : ∀ (a : Option Addr) (cap : Nat) (W : World), IntRow W a l → Calls Try.prog 42 #[.agg #[.int .i64 n, .slice a l.length cap], .int .i64 k] W fun e w' => (∃ a0 c0, e = .returned (.slice a0 R.length c0) ∧ w'.ownsRow W.heap.size 3 1 (.slice a0 R.length c0) R.length (R.map iv)) ∧ Below W.heap.size W w' := by
      intro a cap W hr
      have := implPowerOrder n a l cap k W hr HL.out
      rw [← hR] at this
      exact this
    rw [← hR] at hRl
    have hRm : R.length ≤ maxLen := by unfold maxLen; omega
    have HRM := Lib.hid hRm
    have HCS := Lib.hid CS
    have HCI := Lib.hid CI
    obtain ⟨Wa, hWa⟩ : ∃ Wa, Wa = w.alloc (.cells #[.int .i64 n, .slice a l.length cap] 48) := ⟨_, rfl⟩
    have HWa := Lib.hid hWa
    have hba : Below w.heap.size w Wa := by rw [hWa]; exact (Below.refl _ _).alloc (Nat.le_refl _) _
    have sa : Wa.heap.size = w.heap.size + 1 := by rw [hWa]; simp
    have xa : Box Wa w.heap.size 48 (.int .i64 n) (.slice a l.length cap) := by rw [hWa]; exact Box.new _ _ _ _
    have hrowa : IntRow Wa a l := hrow.below hba (Nat.le_refl _)
    clear hl hWa hbig CS CI hR hRm
    go_enter Try.func9, Try.ntmps9
    go_wp2_with fail
    rw [← HWa.out]
    refine (szT n a cap l 1048576 Wa HL.out (by omega) (by omega)).mono ?_
    rintro e w1 ⟨rfl, hb1⟩
    rw [HS.out]
    have xa1 := xa.below hb1 xa.lt
    have c0 := xa1.c0
    have c1 := xa1.c1
    have hrow1 := hrowa.below hb1 (Nat.le_refl _)
    go_wp2_with fail
    refine (toT n a cap l w1 hl20 hrow1).mono ?_
    rintro e w2 ⟨⟨g2, rfl, ho2⟩, hb2⟩
    go_wp2_with fail
    refine (HCS.out _ _ w2 (IntRow.of_own ho2)).mono ?_
    rintro e w3 ⟨⟨a0, ca0, rfl, ho3⟩, hb3⟩
    have hbW3 : Below w3.heap.size w3 w3 := Below.refl _ _
    have s3 : 0 = 0 := rfl
    have xa3w := (xa1.below hb2 xa1.lt).below hb3 (Nat.lt_of_lt_of_le xa1.lt hb2.size)
    have xa3 := xa3w.below hbW3 xa3w.lt
    have hrow3 := ((hrow1.below hb2 (Nat.le_refl _)).below hb3 (Nat.le_refl _)).below hbW3 (Nat.le_refl _)
    clear c0 c1 ho2
    have c0 := xa3.c0
    have c1 := xa3.c1
    go_wp2_with fail
    refine (toT n a cap l w3 hl20 hrow3).mono ?_
    rintro e w4 ⟨⟨g4, rfl, ho4⟩, hb4⟩
    obtain ⟨W4, hW4⟩ : ∃ W4, W4 = w4.alloc (.cells #[.int .i64 n, .slice (some ⟨g4, 0, none⟩) l.length l.length] 25) := ⟨_, rfl⟩
    have HW4 := Lib.hid hW4
    have hbW4 : Below w4.heap.size w4 W4 := by rw [hW4]; exact (Below.refl _ _).alloc (Nat.le_refl _) _
    have s4 : W4.heap.size = w4.heap.size + 1 := by rw [hW4]; simp
    have xx : Box W4 w4.heap.size 25 (.int .i64 n) (.slice (some ⟨g4, 0, none⟩) l.length l.length) := by rw [hW4]; exact Box.new _ _ _ _
    have hx4 := (IntRow.of_own ho4).below hbW4 (Nat.le_refl _)
    clear hW4 c0 c1
    go_wp2_with fail
    rw [← HW4.out]
    refine (HCI.out _ _ W4 hx4).mono ?_
    rintro e w5 ⟨⟨ag, cg, rfl, ho5⟩, hb5⟩
    have hbW5 : Below w5.heap.size w5 w5 := Below.refl _ _
    have t1 := hb1.size
    have t2 := hb2.size
    have t3 := hb3.size
    have t4 := hb4.size
    have t5 := hb5.size
    have t6 := hbW5.size
    have B1 := hba.trans (hb1.mono hba.size)
    have B2 := B1.trans (hb2.mono B1.size)
    have B3 := B2.trans (hb3.mono B2.size)
    have B4 := B3.trans (hbW3.mono B3.size)
    have B5 := B4.trans (hb4.mono B4.size)
    have B6 := B5.trans (hbW4.mono B5.size)
    have B7 := B6.trans (hb5.mono B6.size)
    have B8 := B7.trans (hbW5.mono B7.size)
    have st : St w w5 w.heap.size n a cap l w4.heap.size (some ⟨g4, 0, none⟩) l.length l a0 ca0 R ag cg R := by
      refine ⟨B8, hrow, ?_, ?_, ?_, ?_, ?_, ?_, ?_⟩
      · exact (((xa3.below hb4 xa3.lt).below hbW4 (Nat.lt_of_lt_of_le xa3.lt t4)).below hb5 (by omega)).below hbW5 (by omega)
      · exact (xx.below hb5 xx.lt).below hbW5 (by omega)
      · exact (own_below (own_below (own_below ho4 hbW4) hb5) hbW5).mono B4.size
      · exact (own_below (own_below (own_below (own_below (own_below ho3 hbW3) hb4) hbW4) hb5) hbW5).mono B2.size
      · exact (own_below ho5 hbW5).mono B6.size
      · intro k hk
        have h4 := own_blk ho4 hk
        refine ⟨by omega, by omega, fun e => ?_, fun e => ?_⟩
        · have := own_blk ho3 e; omega
        · have := own_blk ho5 e; omega
      · intro k hk
        have h5 := own_blk ho5 hk
        refine ⟨by omega, by omega, fun e => ?_, fun e => ?_⟩
        · have := own_blk ho3 e; omega
        · have := own_blk ho4 e; omega
    clear xa3w B1 B2 B3 B4 B5 B6 B7 B8 t1 t2 t3 t4 t5 t6 xa xa1 xa3 xx hrowa hrow1 hrow3 hx4 ho3 ho4 ho5 hba hb1 hb2 hb3 hbW3 hb4 hbW4 hb5 hbW5 sa s3 s4
    have S5 := Lib.hid st
    clear st
    go_wp2_with fail
    refine (eqInt_same _ _ _ _ R w5 HRM.out (own_int S5.out.rg) (own_int S5.out.r0)).mono ?_
    rintro e w6 ⟨rfl, hb6⟩
    have S6 := Lib.hid (S5.out.kept hb6)
    clear hb6
    have c0 := S6.out.bA.c0
    have c1 := S6.out.bA.c1
    have d0 := S6.out.bx.c0
    have d1 := S6.out.bx.c1
    go_wp2
    go_region_with (first
      | (go_at_call 46; refine (toT n a cap l w6.drew hl20 S6.out.rA).mono ?_; rintro e w7 ⟨⟨g7, rfl, ho7⟩, hbq⟩; have hb7 : Below w6.heap.size w6 w7 := (Below.refl _ w6).drew.trans hbq; have S7 := Lib.hid (S6.out.kept hb7); have hy7 := IntRow.of_own ho7; have d0 := S7.out.bx.c0; have d1 := S7.out.bx.c1; clear ho7 hbq)
      | (go_at_call 48; refine (eqT_same n _ _ _ _ l _ HL.out (own_int S7.out.rx) hy7).mono ?_; rintro e w8 ⟨rfl, hb8⟩))
    all_goals
      have S8 := Lib.hid (S7.out.kept hb8)
      clear hb7 hb8 c0 c1 d0 d1
      try clear hy7
      have d0 := S8.out.bx.c0
      have d1 := S8.out.bx.c1
      go_wp2_with fail
      refine (markT1 n w.heap.size l.length (some ⟨g4, 0, none⟩) l.length (l.map iv) w8 (by omega) S8.out.hb.size S8.out.rx).mono ?_
      rintro e w9 ⟨rfl, ho9, hb9, hg9⟩
      have S9 := Lib.hid (S8.out.markX (X' := marks 1 l.length) (marks_len 1 _) ho9 hb9 hg9)
      clear d0 d1 ho9 hb9 hg9
      go_wp2_with fail
      refine (eqInt_same _ _ _ _ R w9 HRM.out (own_int S9.out.rg) (own_int S9.out.r0)).mono ?_
      rintro e w10 ⟨rfl, hb10⟩
      have S10 := Lib.hid (S9.out.kept hb10)
      clear hb10
      go_wp2_with fail
      refine (markI1 w.heap.size R.length ag cg (R.map iv) w10 (by omega) S10.out.rg).mono ?_
      rintro e w11 ⟨rfl, ho11, hb11, hg11⟩
      have S11 := Lib.hid (S10.out.markG (G' := marks 1 R.length) (marks_len 1 _) ho11 hb11 hg11)
      have hG : Hid ((marks 1 R.length).length = R.length) := marks_len 1 _
      clear ho11 hb11 hg11
      go_wp2_with fail
      refine (heldI1 w.heap.size R.length ag cg w11 (by omega) (by have := S11.out.rg; rw [hG.out] at this; exact this)).mono ?_
      rintro e w12 ⟨rfl, hb12⟩
      have S12 := Lib.hid (S11.out.kept hb12)
      clear hb12
      have c0 := S12.out.bA.c0
      have c1 := S12.out.bA.c1
      go_wp2_with fail
      refine (toT n a cap l w12 hl20 S12.out.rA).mono ?_
      rintro e w13 ⟨⟨g13, rfl, ho13⟩, hb13⟩
      have S13 := Lib.hid (S12.out.kept hb13)
      clear c0 c1 hb13
      go_wp2_with fail
      refine (HCI.out _ _ w13 (IntRow.of_own ho13)).mono ?_
      rintro e w14 ⟨⟨ah, ch, rfl, ho14⟩, hb14⟩
      have S14 := Lib.hid (S13.out.kept hb14)
      have hh14 := own_int ho14
      clear hb14 ho13 ho14
      go_wp2_with fail
      refine (eqInt_same _ _ _ _ R w14 HRM.out hh14 (own_int S14.out.r0)).mono ?_
      rintro e w16 ⟨rfl, hb16⟩
      have S16 := Lib.hid (S14.out.kept hb16)
      clear hb16 hh14
      go_wp2_with fail
      refine (heldI1 w.heap.size R.length ag cg w16 (by omega) (by have := S16.out.rg; rw [hG.out] at this; exact this)).mono ?_
      rintro e w17 ⟨rfl, hb17⟩
      have S17 := Lib.hid (S16.out.kept hb17)
      clear hb17
      go_wp2
      go_ret
      exact ⟨rfl, S17.out.hb⟩

end Go.Proofs.Ytmeojedfokahmaa

namespace Go.Proofs.Ytmeojedfokahmaa.fnExactPowerOrder
open Go.ChangeShapes Go.WideShapes Go.ChangeAt Go.RowKit
open Go.ChangeMaps (open_string shut_string)
set_option linter.unusedVariables false
set_option maxRecDepth 100000 in
theorem lifted (os : Os) (started : os.Started) (H : Type) (enc : TypeId × Value → H) :
    ReturnsInHanded {} Try.checked os 9 .any (Rows.fnExactPowerOrderSpec.pre6 enc Try.prog Try.f9 Rows.fnExactPowerOrderRow.domain false) (Rows.fnExactPowerOrderSpec.post enc Try.prog Try.f9 false true false false) := by
  refine returnsInHanded_of_change (C := Try.checked) own started (by kernel_rfl) Try.func9
    (ChangeSpec.witness6 (enc := enc) (C := Try.checked) false ⟨#[], #[.agg #[.int .i64 0, .slice none 0 0], .int .i64 0], []⟩ 8 (by kernel_rfl) (by kernel_rfl) (by kernel_rfl) (by kernel_rfl)) ?_
  intro W base args ds gs before hval0 hW hcnd _
  have hval : ∀ (j : Nat) t v, Try.f9.params[j]? = some t → args[j]? = some v → Value.okWide Try.prog W .any base t v := hval0
  have hW' := hW
  obtain ⟨p, q, hA0, hV, rfl, hfz, hnd⟩ := hW
  have hA : DataW.TrodAll enc Try.prog W 0 (fun _ => true) true Try.f9.params.toList args.toList ds p := hA0
  rw [Try.params9] at hA hval
  obtain ⟨v0, vs0, d0, ds0, p0, q0, hargs, rfl, rfl, h0, r0⟩ := trodAll_cons hA
  obtain ⟨v1, vs1, d1, ds1, p1, q1, rfl, rfl, rfl, h1, r1⟩ := trodAll_cons r0
  obtain ⟨rfl, rfl, rfl⟩ := trodAll_nil r1
  obtain rfl : args = #[v0, v1] := by cases args; simp_all
  obtain ⟨rfl, rfl⟩ := trodVars_none hV
  have k0 := h0
  have lt0 : ∀ x ∈ p0, x.block < W.heap.size := by obtain ⟨m, hm⟩ := k0; exact DataW.trod_lt m _ _ _ hm
  obtain ⟨n0, a0, cap0, l0, rfl, hl0, hr0⟩ := openTour (hval 0 48 v0 rfl rfl) h0
  obtain ⟨a1, rfl, rfl, rfl, hs1⟩ := open_int Try.underlying3 (hval 1 3 v1 rfl rfl) h1
  clear hA0 hval0
  refine (walkPowerOrder n0 a0 cap0 l0 a1 W hl0 hr0 hs1).mono fun e W' ⟨he, bel⟩ => ?_
  subst he
  exact ⟨_, rfl, _, _, _, [], _, [], hW', trodAll_mk1 (shut_bool Try.underlying4 _), (trodAll_cons_mk (Below.trod laidOut (by kernel_rfl) (of_decide_eq_true (by kernel_rfl)) k0 bel lt0) (trodAll_cons_mk (shut_int Try.underlying3 hs1) trodAll_mk0)), rfl, bel.frame _, fun h => by cases h⟩

theorem proved : Rows.FnExactPowerOrderSaid :=
  OpenClaim.holds_of_wide 9 Try.f9 rfl rfl rfl rfl rfl rfl rfl ⟨rfl, rfl, rfl, rfl, rfl⟩ rfl rfl rfl rfl rfl (by kernel_rfl) Try.func9 (by kernel_rfl)
    (of_decide_eq_true (by kernel_rfl)) (by unfold Func.isWrapper; first | (rw [if_pos (by decide +kernel)]; kernel_rfl) | (rw [if_neg (by decide +kernel)]; exact ⟨rfl, rfl⟩))
    (fun os started H enc _ => lifted os started H enc)
end Go.Proofs.Ytmeojedfokahmaa.fnExactPowerOrder

