/-
  'FnExactMixStrategies': the program's MixStrategies answers as the model's for any two lists and numbers, leaves the lists as they were, and shares no memory with them. No conditions.
-/
import Derived.Test.YtpndfmlkceplcaaYh
import Derived.Test.YtpndfmlkceplcaaYg
import Derived.Test.YtpndfmlkceplcaaC
namespace Go.Proofs.Ytpndfmlkceplcaa
open Go.ChangeShapes Go.WideShapes Go.ChangeAt Go.RowKit
set_option linter.unusedVariables false

set_option maxHeartbeats 2000000 in
theorem walkMixStrategies (a : Option Addr) (ca : Nat) (l : List Int) (b : Option Addr) (cb : Nat) (m : List Int) (p q : Int) (w : World) (hl : l.length ≤ maxLen) (hrowa : IntRow w a l) (hm : m.length ≤ maxLen) (hrowb : IntRow w b m) (h_p : (Lit.int .i64 p).wf = true) (h_q : (Lit.int .i64 q).wf = true) :
    Calls Try.prog 7 #[.slice a l.length ca, .slice b m.length cb, .int .i64 p, .int .i64 q] w fun e w' => e = .returned (.bool true) ∧ Below w.heap.size w w' := by
  have HL := Lib.hid hl
  have HM := Lib.hid hm
  unfold maxLen at hl hm
  by_cases hbig : (1048576 : Int) < l.length
  · go_enter Try.func7, Try.ntmps7
    go_wp2
    go_ret
    exact ⟨rfl, Below.refl _ _⟩
  · by_cases hbig2 : (1048576 : Int) < m.length
    · go_enter Try.func7, Try.ntmps7
      go_wp2
      go_ret
      exact ⟨rfl, Below.refl _ _⟩
    · have hl20 : l.length ≤ 1048576 := by omega
      have hm20 : m.length ≤ 1048576 := by omega
      have hRl := mxL_len p q l m
      obtain ⟨R, hR⟩ : ∃ R : List Int, R = mxL p q l m := ⟨_, rfl⟩
      obtain ⟨rb, hrb⟩ : ∃ rb : Bool, rb = mxK p q l m := ⟨_, rfl⟩
      have CS : ∀ (a1 : Option Addr) (c1 : Nat) (b1 : Option Addr) (d1 : Nat) (W : World), IntRow W a1 l → IntRow W b1 m → Calls Try.prog 25 #[.slice a1 l.length c1, .slice b1 m.length d1, .int .i64 p, .int .i64 q] W fun e w' => (∃ a0 c0, e = .returned (.tuple #[.slice a0 R.length c0, .bool rb]) ∧ w'.ownsRow W.heap.size 3 1 (.slice a0 R.length c0) R.length (R.map iv)) ∧ Below W.heap.size W w' := by
        intro a1 c1 b1 d1 W hr hs
        have := specMix a1 c1 l b1 d1 m p q W hr HL.out hs HM.out
        rw [← hR, ← hrb] at this
        exact this
      have CI : ∀ (a1 : Option Addr) (c1 : Nat) (b1 : Option Addr) (d1 : Nat) (W : World), IntRow W a1 l → IntRow W b1 m → Calls Try.prog 26 #[.slice a1 l.length c1, .slice b1 m.length d1, .int .i64 p, .int .i64 q] W fun e w' => (∃ a0 c0, e = .returned (.tuple #[.slice a0 R.length c0, .bool rb]) ∧ w'.ownsRow W.heap.size 3 1 (.slice a0 R.length c0) R.length (R.map iv)) ∧ Below W.heap.size W w' := by
        intro a1 c1 b1 d1 W hr hs
        have := implMix a1 c1 l b1 d1 m p q W hr HL.out hs HM.out
        rw [← hR, ← hrb] at this
        exact this
      rw [← hR] at hRl
      have hRm : R.length ≤ maxLen := by unfold maxLen; omega
      have HRM := Lib.hid hRm
      have HCS := Lib.hid CS
      have HCI := Lib.hid CI
      clear CS CI hR hRm hrb
      go_enter Try.func7, Try.ntmps7
      go_wp2_with fail
      refine (toInt a ca l w hl20 hrowa).mono ?_
      rintro e w1 ⟨⟨g1, rfl, ho1⟩, hb1⟩
      go_wp2_with fail
      refine (toInt b cb m w1 hm20 (hrowb.below hb1 (Nat.le_refl _))).mono ?_
      rintro e w2 ⟨⟨g2, rfl, ho2⟩, hb2⟩
      have B2 := hb1.trans (hb2.mono hb1.size)
      go_wp2_with fail
      refine (HCS.out _ _ _ _ w2 ((IntRow.of_own ho1).below hb2 (Nat.le_refl _)) (IntRow.of_own ho2)).mono ?_
      rintro e w3 ⟨⟨a0, ca0, rfl, ho3⟩, hb3⟩
      have B3 := B2.trans (hb3.mono B2.size)
      go_wp2_with fail
      refine (toInt a ca l w3 hl20 (hrowa.below B3 (Nat.le_refl _))).mono ?_
      rintro e w4 ⟨⟨gx, rfl, hox⟩, hb4⟩
      have B4 := B3.trans (hb4.mono B3.size)
      go_wp2_with fail
      refine (toInt b cb m w4 hm20 (hrowb.below B4 (Nat.le_refl _))).mono ?_
      rintro e w5 ⟨⟨gy, rfl, hoy⟩, hb5⟩
      have B5 := B4.trans (hb5.mono B4.size)
      go_wp2_with fail
      refine (HCI.out _ _ _ _ w5 ((IntRow.of_own hox).below hb5 (Nat.le_refl _)) (IntRow.of_own hoy)).mono ?_
      rintro e w6 ⟨⟨ag, cg, rfl, ho6⟩, hb6⟩
      have B6 := B5.trans (hb6.mono B5.size)
      have S6 : Hid (S2 w w6 a l b m (some ⟨gx, 0, none⟩) l.length l (some ⟨gy, 0, none⟩) m.length m a0 ca0 R ag cg R) := by
        have t4 := hb4.size
        have t5 := hb5.size
        have t6 := hb6.size
        refine ⟨B6, hrowa, hrowb, (own_below (own_below hox hb5) hb6).mono B3.size, (own_below hoy hb6).mono B4.size, (own_below (own_below (own_below ho3 hb4) hb5) hb6).mono B2.size, ho6.mono B5.size, ?_, ?_, ?_⟩
        · intro k hk
          have h3 := own_blk hox hk
          refine ⟨fun e => ?_, fun e => ?_, fun e => ?_⟩
          · have := own_blk hoy e; omega
          · have := own_blk ho3 e; omega
          · have := own_blk ho6 e; omega
        · intro k hk
          have h3 := own_blk hoy hk
          refine ⟨fun e => ?_, fun e => ?_, fun e => ?_⟩
          · have := own_blk hox e; omega
          · have := own_blk ho3 e; omega
          · have := own_blk ho6 e; omega
        · intro k hk
          have h3 := own_blk ho6 hk
          refine ⟨fun e => ?_, fun e => ?_, fun e => ?_⟩
          · have := own_blk hox e; omega
          · have := own_blk hoy e; omega
          · have := own_blk ho3 e; omega
      clear B2 B3 B4 B5 B6 ho1 ho2 ho3 hox hoy ho6 hb1 hb2 hb3 hb4 hb5 hb6
      go_wp2_with fail
      refine (eqInt_same _ _ _ _ R w6 HRM.out (own_int S6.out.rg) (own_int S6.out.r0)).mono ?_
      rintro e w7 ⟨rfl, hb7⟩
      have S7 := Lib.hid (S6.out.kept hb7)
      go_wp2_with fail
      refine (toInt a ca l w7 hl20 S7.out.rA).mono ?_
      rintro e w8 ⟨⟨g8, rfl, ho8⟩, hb8⟩
      have S8 := Lib.hid (S7.out.kept hb8)
      have hy8 := IntRow.of_own ho8
      clear ho8
      go_wp2_with fail
      refine (eqInt_same _ _ _ _ l w8 HL.out (own_int S8.out.rx) hy8).mono ?_
      rintro e w9 ⟨rfl, hb9⟩
      have S9 := Lib.hid (S8.out.kept hb9)
      go_wp2_with fail
      refine (toInt b cb m w9 hm20 S9.out.rB).mono ?_
      rintro e w10 ⟨⟨g10, rfl, ho10⟩, hb10⟩
      have S10 := Lib.hid (S9.out.kept hb10)
      have hy10 := IntRow.of_own ho10
      clear ho10
      go_wp2_with fail
      refine (eqInt_same _ _ _ _ m w10 HM.out (own_int S10.out.ry) hy10).mono ?_
      rintro e w11 ⟨rfl, hb11⟩
      have S11 := Lib.hid (S10.out.kept hb11)
      go_wp2_with fail
      refine (markI1 w.heap.size l.length (some ⟨gx, 0, none⟩) l.length (l.map iv) w11 (by omega) S11.out.rx).mono ?_
      rintro e w12 ⟨rfl, ho12, hb12, hg12⟩
      have S12 := Lib.hid (S11.out.markX (X' := marks 1 l.length) (marks_len 1 _) ho12 hb12 hg12)
      clear ho12 hb12 hg12
      go_wp2_with fail
      refine (markI3 w.heap.size m.length l.length (some ⟨gy, 0, none⟩) m.length (m.map iv) w12 (by omega) (by omega) S12.out.ry).mono ?_
      rintro e w13 ⟨⟨kk, rfl, hkk⟩, ⟨Z, hZ, ho13⟩, hb13, hg13⟩
      have S13 := Lib.hid (S12.out.markY (Y' := Z) hZ ho13 hb13 hg13)
      clear ho13 hb13 hg13
      have hk0 : ¬ (kk : Int) < 0 := by omega
      go_wp2_with fail
      refine (eqInt_same _ _ _ _ R w13 HRM.out (own_int S13.out.rg) (own_int S13.out.r0)).mono ?_
      rintro e w14 ⟨rfl, hb14⟩
      have S14 := Lib.hid (S13.out.kept hb14)
      go_wp2_with fail
      refine (markI1 w.heap.size R.length ag cg (R.map iv) w14 (by omega) S14.out.rg).mono ?_
      rintro e w15 ⟨rfl, ho15, hb15, hg15⟩
      have S15 := Lib.hid (S14.out.markG (G' := marks 1 R.length) (marks_len 1 _) ho15 hb15 hg15)
      have hG : Hid ((marks 1 R.length).length = R.length) := marks_len 1 _
      clear ho15 hb15 hg15
      go_wp2_with fail
      refine (heldI1 w.heap.size R.length ag cg w15 (by omega) (by have := S15.out.rg; rw [hG.out] at this; exact this)).mono ?_
      rintro e w16 ⟨rfl, hb16⟩
      have S16 := Lib.hid (S15.out.kept hb16)
      go_wp2_with fail
      refine (toInt a ca l w16 hl20 S16.out.rA).mono ?_
      rintro e w17 ⟨⟨ga, rfl, hoa⟩, hb17⟩
      have S17 := Lib.hid (S16.out.kept hb17)
      go_wp2_with fail
      refine (toInt b cb m w17 hm20 S17.out.rB).mono ?_
      rintro e w18 ⟨⟨gb, rfl, hob⟩, hb18⟩
      have S18 := Lib.hid (S17.out.kept hb18)
      have hra2 := (IntRow.of_own hoa).below hb18 (Nat.le_refl _)
      have hrb2 := IntRow.of_own hob
      clear hoa hob
      go_wp2_with fail
      refine (HCI.out _ _ _ _ w18 hra2 hrb2).mono ?_
      rintro e w19 ⟨⟨ah, ch, rfl, hoh⟩, hb19⟩
      have S19 := Lib.hid (S18.out.kept hb19)
      have hh := own_int hoh
      clear hoh
      go_wp2_with fail
      refine (eqInt_same _ _ _ _ R w19 HRM.out hh (own_int S19.out.r0)).mono ?_
      rintro e w20 ⟨rfl, hb20⟩
      have S20 := Lib.hid (S19.out.kept hb20)
      go_wp2_with fail
      refine (heldI1 w.heap.size R.length ag cg w20 (by omega) (by have := S20.out.rg; rw [hG.out] at this; exact this)).mono ?_
      rintro e w21 ⟨rfl, hb21⟩
      have S21 := Lib.hid (S20.out.kept hb21)
      go_wp2
      go_ret
      exact ⟨rfl, S21.out.hb⟩

end Go.Proofs.Ytpndfmlkceplcaa

namespace Go.Proofs.Ytpndfmlkceplcaa.fnExactMixStrategies
open Go.ChangeShapes Go.WideShapes Go.ChangeAt Go.RowKit
open Go.ChangeMaps (open_string shut_string)
set_option linter.unusedVariables false
set_option maxRecDepth 100000 in
theorem lifted (os : Os) (started : os.Started) (H : Type) (enc : TypeId × Value → H) :
    ReturnsInHanded {} Try.checked os 7 .any (Rows.fnExactMixStrategiesSpec.pre6 enc Try.prog Try.f7 Rows.fnExactMixStrategiesRow.domain false) (Rows.fnExactMixStrategiesSpec.post enc Try.prog Try.f7 false true false false) := by
  refine returnsInHanded_of_change (C := Try.checked) own started (by kernel_rfl) Try.func7
    (ChangeSpec.witness6 (enc := enc) (C := Try.checked) false ⟨#[], #[.slice none 0 0, .slice none 0 0, .int .i64 0, .int .i64 0], []⟩ 8 (by kernel_rfl) (by kernel_rfl) (by kernel_rfl) (by kernel_rfl)) ?_
  intro W base args ds gs before hval0 hW hcnd _
  have hval : ∀ (j : Nat) t v, Try.f7.params[j]? = some t → args[j]? = some v → Value.okWide Try.prog W .any base t v := hval0
  have hW' := hW
  obtain ⟨p, q, hA0, hV, rfl, hfz, hnd⟩ := hW
  have hA : DataW.TrodAll enc Try.prog W 0 (fun _ => true) true Try.f7.params.toList args.toList ds p := hA0
  rw [Try.params7] at hA hval
  obtain ⟨v0, vs0, d0, ds0, p0, q0, hargs, rfl, rfl, h0, r0⟩ := trodAll_cons hA
  obtain ⟨v1, vs1, d1, ds1, p1, q1, rfl, rfl, rfl, h1, r1⟩ := trodAll_cons r0
  obtain ⟨v2, vs2, d2, ds2, p2, q2, rfl, rfl, rfl, h2, r2⟩ := trodAll_cons r1
  obtain ⟨v3, vs3, d3, ds3, p3, q3, rfl, rfl, rfl, h3, r3⟩ := trodAll_cons r2
  obtain ⟨rfl, rfl, rfl⟩ := trodAll_nil r3
  obtain rfl : args = #[v0, v1, v2, v3] := by cases args; simp_all
  obtain ⟨rfl, rfl⟩ := trodVars_none hV
  have k0 := h0
  have lt0 : ∀ x ∈ p0, x.block < W.heap.size := by obtain ⟨m, hm⟩ := k0; exact DataW.trod_lt m _ _ _ hm
  obtain ⟨a0, cap0, l0, rfl, hl0, hr0⟩ := openInts h0 (okWide_slice Try.underlying22 (hval 0 22 v0 rfl rfl))
  have k1 := h1
  have lt1 : ∀ x ∈ p1, x.block < W.heap.size := by obtain ⟨m, hm⟩ := k1; exact DataW.trod_lt m _ _ _ hm
  obtain ⟨a1, cap1, l1, rfl, hl1, hr1⟩ := openInts h1 (okWide_slice Try.underlying22 (hval 1 22 v1 rfl rfl))
  obtain ⟨a2, rfl, rfl, rfl, hs2⟩ := open_int Try.underlying3 (hval 2 3 v2 rfl rfl) h2
  obtain ⟨a3, rfl, rfl, rfl, hs3⟩ := open_int Try.underlying3 (hval 3 3 v3 rfl rfl) h3
  clear hA0 hval0
  refine (walkMixStrategies a0 cap0 l0 a1 cap1 l1 a2 a3 W hl0 hr0 hl1 hr1 hs2 hs3).mono fun e W' ⟨he, bel⟩ => ?_
  subst he
  exact ⟨_, rfl, _, _, _, [], _, [], hW', trodAll_mk1 (shut_bool Try.underlying4 _), (trodAll_cons_mk (Below.trod laidOut (by kernel_rfl) (of_decide_eq_true (by kernel_rfl)) k0 bel lt0) (trodAll_cons_mk (Below.trod laidOut (by kernel_rfl) (of_decide_eq_true (by kernel_rfl)) k1 bel lt1) (trodAll_cons_mk (shut_int Try.underlying3 hs2) (trodAll_cons_mk (shut_int Try.underlying3 hs3) trodAll_mk0)))), rfl, bel.frame _, fun h => by cases h⟩

theorem proved : Rows.FnExactMixStrategiesSaid :=
  OpenClaim.holds_of_wide 7 Try.f7 rfl rfl rfl rfl rfl rfl rfl ⟨rfl, rfl, rfl, rfl, rfl⟩ rfl rfl rfl rfl rfl (by kernel_rfl) Try.func7 (by kernel_rfl)
    (of_decide_eq_true (by kernel_rfl)) (by unfold Func.isWrapper; first | (rw [if_pos (by decide +kernel)]; kernel_rfl) | (rw [if_neg (by decide +kernel)]; exact ⟨rfl, rfl⟩))
    (fun os started H enc _ => lifted os started H enc)
end Go.Proofs.Ytpndfmlkceplcaa.fnExactMixStrategies

