/-
  'FnExactLevelsOf': the program's LevelsOf answers as the model's for every list, leaves it as it was, and shares no memory with it. No conditions.
-/
import Derived.Test.YtmeojedfokahmaaGK
namespace Go.Proofs.Ytmeojedfokahmaa
open Go.ChangeShapes Go.WideShapes Go.ChangeAt Go.RowKit
set_option linter.unusedVariables false

set_option maxHeartbeats 1000000 in
theorem walkLevelsOf (a : Option Addr) (cap : Nat) (l : List Int) (w : World) (hl : l.length ≤ maxLen) (hrow : IntRow w a l) :
    Calls Try.prog 11 #[.slice a l.length cap] w fun e w' => e = .returned (.bool true) ∧ Below w.heap.size w w' := by
  have HL := Lib.hid hl
  unfold maxLen at hl
  by_cases hbig : (1048576 : Int) < l.length
  · go_enter Try.func11, Try.ntmps11
    go_wp2
    go_ret
    exact ⟨rfl, Below.refl _ _⟩
  · have hl20 : l.length ≤ 1048576 := by omega
    have hRs : SmallSS (levR l) := levR_small l
    obtain ⟨R, hR⟩ : ∃ R : List (List Int), R = levR l := ⟨_, rfl⟩
    have CS : ∀ (a : Option Addr) (cap : Nat) (W : World), IntRow W a l → Calls Try.prog 58 #[.slice a l.length cap] W fun e w' => (∃ a0 c0 gs, e = .returned (.slice a0 R.length c0) ∧ OwnSS w' W.heap.size a0 c0 gs R) ∧ Below W.heap.size W w' := by
      intro a cap W hr
      have := specLevels a l cap W hr HL.out
      rw [← hR] at this
      exact this
    have CI : ∀ (a : Option Addr) (cap : Nat) (W : World), IntRow W a l → Calls Try.prog 41 #[.slice a l.length cap] W fun e w' => (∃ a0 c0 gs, e = .returned (.slice a0 R.length c0) ∧ OwnSS w' W.heap.size a0 c0 gs R) ∧ Below W.heap.size W w' := by
      intro a cap W hr
      have := implLevels a l cap W hr HL.out
      rw [← hR] at this
      exact this
    rw [← hR] at hRs
    have HRS := Lib.hid hRs
    have hss := hRs.2.2
    have HCS := Lib.hid CS
    have HCI := Lib.hid CI
    clear CS CI hR hRs
    go_enter Try.func11, Try.ntmps11
    go_wp2_with fail
    refine (toInt a cap l w hl20 hrow).mono ?_
    rintro e w1 ⟨⟨g1, rfl, ho1⟩, hb1⟩
    go_wp2_with fail
    refine (HCS.out _ _ w1 (IntRow.of_own ho1)).mono ?_
    rintro e w2 ⟨⟨a0, ca0, gs0, rfl, ho2⟩, hb2⟩
    have hrow2 := (hrow.below hb1 (Nat.le_refl _)).below hb2 (Nat.le_refl _)
    go_wp2_with fail
    refine (toInt a cap l w2 hl20 hrow2).mono ?_
    rintro e w3 ⟨⟨g3, rfl, ho3⟩, hb3⟩
    go_wp2_with fail
    refine (HCI.out _ _ w3 (IntRow.of_own ho3)).mono ?_
    rintro e w4 ⟨⟨ag, cg, gsg, rfl, ho4⟩, hb4⟩
    have B1 := hb1
    have B2 := B1.trans (hb2.mono B1.size)
    have B3 := B2.trans (hb3.mono B2.size)
    have B4 := B3.trans (hb4.mono B3.size)
    have t3 := hb3.size
    have t4 := hb4.size
    have S4 : Hid (SlS w w4 w3.heap.size a l (some ⟨g3, 0, none⟩) l.length l a0 ca0 gs0 R ag cg gsg R) := by
      refine ⟨B4, hrow, (own_below ho3 hb4).mono B2.size, ((ho2.below hb3).below hb4).mono B1.size, ho4, ⟨B3.size, t4⟩, ?_, ?_⟩
      · intro k hk
        have h3 := own_blk ho3 hk
        refine ⟨h3.2, fun e => ?_, fun i hi e => ?_⟩
        · have := (ho2.blkO e).2; omega
        · have := (ho2.blkI i hi).2; omega
      · refine ⟨fun k hk => ?_, fun i hi => ?_⟩
        · have := (ho2.blkO hk).2; omega
        · have := (ho2.blkI i hi).2; omega
    obtain ⟨Bg, hBg⟩ : ∃ Bg, Bg = w3.heap.size := ⟨_, rfl⟩
    rw [← hBg] at S4
    clear hBg B1 B2 B3 B4 t3 t4 ho1 ho2 ho3 ho4 hb1 hb2 hb3 hb4 hrow2
    go_wp2_with fail
    refine (eqSS_1 _ _ _ _ _ _ _ _ R w4 S4.out.rg S4.out.r0 HRS.out).mono ?_
    rintro e w6 ⟨rfl, hb6⟩
    have S6 := Lib.hid (S4.out.kept hb6)
    clear hb6
    go_wp2_with fail
    refine (toInt a cap l w6 hl20 S6.out.rA).mono ?_
    rintro e w7 ⟨⟨g7, rfl, ho7⟩, hb7⟩
    have S7 := Lib.hid (S6.out.kept hb7)
    have hy7 := IntRow.of_own ho7
    clear ho7 hb7
    go_wp2_with fail
    refine (eqInt_same _ _ _ _ l w7 HL.out (own_int S7.out.rx) hy7).mono ?_
    rintro e w8 ⟨rfl, hb8⟩
    have S8 := Lib.hid (S7.out.kept hb8)
    clear hb8 hy7
    go_wp2_with fail
    refine (markI1 w.heap.size l.length (some ⟨g3, 0, none⟩) l.length (l.map iv) w8 (by omega) S8.out.rx).mono ?_
    rintro e w9 ⟨rfl, ho9, hb9, hg9⟩
    have S9 := Lib.hid (S8.out.markX (X' := marks 1 l.length) (marks_len 1 _) ho9 hb9 hg9)
    clear ho9 hb9 hg9
    go_wp2_with fail
    refine (eqSS_1 _ _ _ _ _ _ _ _ R w9 S9.out.rg S9.out.r0 HRS.out).mono ?_
    rintro e w10 ⟨rfl, hb10⟩
    have S10 := Lib.hid (S9.out.kept hb10)
    clear hb10
    go_wp2_with fail
    refine (markSS_1 ag cg Bg gsg R w10 S10.out.rg HRS.out).mono ?_
    rintro e w11 ⟨rfl, ho11, hb11⟩
    have S11 := Lib.hid (S10.out.markG ho11 hb11)
    clear ho11 hb11
    have hneg : ¬ ((1 + sumLs R : Nat) : Int) < 0 := by omega
    obtain ⟨Q, hQ⟩ : ∃ Q : Nat, Q = 1 + sumLs R := ⟨_, rfl⟩
    have HQ := Lib.hid hQ
    rw [← hQ] at hneg ⊢
    clear hQ
    go_wp2_with fail
    refine (heldSS_1 ag cg Bg gsg R w11 S11.out.rg HRS.out).mono ?_
    rintro e w12 ⟨rfl, hb12⟩
    rw [← HQ.out]
    have S12 := Lib.hid (S11.out.kept hb12)
    clear hb12
    go_wp2_with fail
    refine (toInt a cap l w12 hl20 S12.out.rA).mono ?_
    rintro e w13 ⟨⟨g13, rfl, ho13⟩, hb13⟩
    have S13 := Lib.hid (S12.out.kept hb13)
    clear hb13
    go_wp2_with fail
    refine (HCI.out _ _ w13 (IntRow.of_own ho13)).mono ?_
    rintro e w14 ⟨⟨ah, ch, gsh, rfl, ho14⟩, hb14⟩
    have S14 := Lib.hid (S13.out.kept hb14)
    have H14 := Lib.hid ho14
    clear hb14 ho13 ho14
    go_wp2_with fail
    refine (eqSS_1 _ _ _ _ _ _ _ _ R w14 H14.out S14.out.r0 HRS.out).mono ?_
    rintro e w16 ⟨rfl, hb16⟩
    have S16 := Lib.hid (S14.out.kept hb16)
    clear hb16 H14
    go_wp2_with fail
    refine (heldSS_1 ag cg Bg gsg R w16 S16.out.rg HRS.out).mono ?_
    rintro e w17 ⟨rfl, hb17⟩
    rw [← HQ.out]
    have S17 := Lib.hid (S16.out.kept hb17)
    clear hb17
    go_wp2
    go_ret
    exact ⟨rfl, S17.out.hb⟩

end Go.Proofs.Ytmeojedfokahmaa

namespace Go.Proofs.Ytmeojedfokahmaa.fnExactLevelsOf
open Go.ChangeShapes Go.WideShapes Go.ChangeAt Go.RowKit
open Go.ChangeMaps (open_string shut_string)
set_option linter.unusedVariables false
set_option maxRecDepth 100000 in
theorem lifted (os : Os) (started : os.Started) (H : Type) (enc : TypeId × Value → H) :
    ReturnsInHanded {} Try.checked os 11 .any (Rows.fnExactLevelsOfSpec.pre6 enc Try.prog Try.f11 Rows.fnExactLevelsOfRow.domain false) (Rows.fnExactLevelsOfSpec.post enc Try.prog Try.f11 false true false false) := by
  refine returnsInHanded_of_change (C := Try.checked) own started (by kernel_rfl) Try.func11
    (ChangeSpec.witness6 (enc := enc) (C := Try.checked) false ⟨#[], #[.slice none 0 0], []⟩ 8 (by kernel_rfl) (by kernel_rfl) (by kernel_rfl) (by kernel_rfl)) ?_
  intro W base args ds gs before hval0 hW hcnd _
  have hval : ∀ (j : Nat) t v, Try.f11.params[j]? = some t → args[j]? = some v → Value.okWide Try.prog W .any base t v := hval0
  have hW' := hW
  obtain ⟨p, q, hA0, hV, rfl, hfz, hnd⟩ := hW
  have hA : DataW.TrodAll enc Try.prog W 0 (fun _ => true) true Try.f11.params.toList args.toList ds p := hA0
  rw [Try.params11] at hA hval
  obtain ⟨v0, vs0, d0, ds0, p0, q0, hargs, rfl, rfl, h0, r0⟩ := trodAll_cons hA
  obtain ⟨rfl, rfl, rfl⟩ := trodAll_nil r0
  obtain rfl : args = #[v0] := by cases args; simp_all
  obtain ⟨rfl, rfl⟩ := trodVars_none hV
  have k0 := h0
  have lt0 : ∀ x ∈ p0, x.block < W.heap.size := by obtain ⟨m, hm⟩ := k0; exact DataW.trod_lt m _ _ _ hm
  obtain ⟨a0, cap0, l0, rfl, hl0, hr0⟩ := openInts h0 (okWide_slice Try.underlying23 (hval 0 23 v0 rfl rfl))
  clear hA0 hval0
  refine (walkLevelsOf a0 cap0 l0 W hl0 hr0).mono fun e W' ⟨he, bel⟩ => ?_
  subst he
  exact ⟨_, rfl, _, _, _, [], _, [], hW', trodAll_mk1 (shut_bool Try.underlying4 _), (trodAll_cons_mk (Below.trod laidOut (by kernel_rfl) (of_decide_eq_true (by kernel_rfl)) k0 bel lt0) trodAll_mk0), rfl, bel.frame _, fun h => by cases h⟩

theorem proved : Rows.FnExactLevelsOfSaid :=
  OpenClaim.holds_of_wide 11 Try.f11 rfl rfl rfl rfl rfl rfl rfl ⟨rfl, rfl, rfl, rfl, rfl⟩ rfl rfl rfl rfl rfl (by kernel_rfl) Try.func11 (by kernel_rfl)
    (of_decide_eq_true (by kernel_rfl)) (by unfold Func.isWrapper; first | (rw [if_pos (by decide +kernel)]; kernel_rfl) | (rw [if_neg (by decide +kernel)]; exact ⟨rfl, rfl⟩))
    (fun os started H enc _ => lifted os started H enc)
end Go.Proofs.Ytmeojedfokahmaa.fnExactLevelsOf

