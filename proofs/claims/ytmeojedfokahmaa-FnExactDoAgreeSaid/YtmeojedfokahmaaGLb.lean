/-
  'FnExactDoAgree': the program's DoAgree answers as the model's for any two lists, and leaves both as they were. No conditions.
-/
import Derived.Test.YtmeojedfokahmaaGa
import Derived.Test.YtmeojedfokahmaaD
namespace Go.Proofs.Ytmeojedfokahmaa
open Go.ChangeShapes Go.WideShapes Go.ChangeAt Go.RowKit
set_option linter.unusedVariables false

set_option maxHeartbeats 1000000 in
theorem walkDoAgree (a : Option Addr) (ca : Nat) (l : List Int) (b : Option Addr) (cb : Nat) (m : List Int) (w : World) (hl : l.length ≤ maxLen) (hrowa : IntRow w a l) (hm : m.length ≤ maxLen) (hrowb : IntRow w b m) :
    Calls Try.prog 12 #[.slice a l.length ca, .slice b m.length cb] w fun e w' => e = .returned (.bool true) ∧ Below w.heap.size w w' := by
  have HL := Lib.hid hl
  have HM := Lib.hid hm
  unfold maxLen at hl hm
  by_cases hbig : (1048576 : Int) < l.length
  · go_enter Try.func12, Try.ntmps12
    go_wp2
    go_ret
    exact ⟨rfl, Below.refl _ _⟩
  · by_cases hbig2 : (1048576 : Int) < m.length
    · go_enter Try.func12, Try.ntmps12
      go_wp2
      go_ret
      exact ⟨rfl, Below.refl _ _⟩
    · have hl20 : l.length ≤ 1048576 := by omega
      have hm20 : m.length ≤ 1048576 := by omega
      obtain ⟨ob, hob⟩ : ∃ ob : Bool, ob = agB l m := ⟨_, rfl⟩
      have HO := Lib.hid hob
      clear hob
      go_enter Try.func12, Try.ntmps12
      go_wp2_with fail
      refine (toInt a ca l w hl20 hrowa).mono ?_
      rintro e w1 ⟨⟨g1, rfl, ho1⟩, hb1⟩
      have B1 := hb1
      have R0 := (hrowa).below hb1 (Nat.le_refl _)
      have R1 := (hrowb).below hb1 (Nat.le_refl _)
      have R2 := IntRow.of_own ho1
      clear ho1
      go_wp2_with fail
      refine (toInt b cb m w1 hm20 R1).mono ?_
      rintro e w2 ⟨⟨g2, rfl, ho2⟩, hb2⟩
      have B2 := B1.trans (hb2.mono B1.size)
      have R3 := (R0).below hb2 (Nat.le_refl _)
      have R4 := (R1).below hb2 (Nat.le_refl _)
      have R5 := (R2).below hb2 (Nat.le_refl _)
      have R6 := IntRow.of_own ho2
      clear hb2 B1 R0 R1 R2 ho2
      go_wp2_with fail
      refine (specDoAgree _ l _ _ m _ w2 R5 R6 HL.out HM.out).mono ?_
      rintro e w3 ⟨rfl, hb3⟩
      rw [← HO.out]
      have B3 := B2.trans (hb3.mono B2.size)
      have R7 := (R3).below hb3 (Nat.le_refl _)
      have R8 := (R4).below hb3 (Nat.le_refl _)
      have R9 := (R5).below hb3 (Nat.le_refl _)
      have R10 := (R6).below hb3 (Nat.le_refl _)
      clear hb3 B2 R3 R4 R5 R6
      go_wp2_with fail
      refine (toInt a ca l w3 hl20 R7).mono ?_
      rintro e w4 ⟨⟨g4, rfl, ho4⟩, hb4⟩
      have B4 := B3.trans (hb4.mono B3.size)
      have R11 := (R7).below hb4 (Nat.le_refl _)
      have R12 := (R8).below hb4 (Nat.le_refl _)
      have R13 := (R9).below hb4 (Nat.le_refl _)
      have R14 := (R10).below hb4 (Nat.le_refl _)
      have R15 := IntRow.of_own ho4
      clear hb4 B3 R7 R8 R9 R10 ho4
      go_wp2_with fail
      refine (toInt b cb m w4 hm20 R12).mono ?_
      rintro e w5 ⟨⟨g5, rfl, ho5⟩, hb5⟩
      have B5 := B4.trans (hb5.mono B4.size)
      have R16 := (R11).below hb5 (Nat.le_refl _)
      have R17 := (R12).below hb5 (Nat.le_refl _)
      have R18 := (R13).below hb5 (Nat.le_refl _)
      have R19 := (R14).below hb5 (Nat.le_refl _)
      have R20 := (R15).below hb5 (Nat.le_refl _)
      have R21 := IntRow.of_own ho5
      clear hb5 B4 R11 R12 R13 R14 R15 ho5
      go_wp2_with fail
      refine (implDoAgree _ l _ _ m _ w5 R20 R21 HL.out HM.out).mono ?_
      rintro e w6 ⟨rfl, hb6⟩
      rw [← HO.out]
      have B6 := B5.trans (hb6.mono B5.size)
      have R22 := (R16).below hb6 (Nat.le_refl _)
      have R23 := (R17).below hb6 (Nat.le_refl _)
      have R24 := (R18).below hb6 (Nat.le_refl _)
      have R25 := (R19).below hb6 (Nat.le_refl _)
      have R26 := (R20).below hb6 (Nat.le_refl _)
      have R27 := (R21).below hb6 (Nat.le_refl _)
      clear hb6 B5 R16 R17 R18 R19 R20 R21
      go_wp2_with fail
      refine (toInt a ca l w6 hl20 R22).mono ?_
      rintro e w7 ⟨⟨g7, rfl, ho7⟩, hb7⟩
      have B7 := B6.trans (hb7.mono B6.size)
      have R28 := (R22).below hb7 (Nat.le_refl _)
      have R29 := (R23).below hb7 (Nat.le_refl _)
      have R30 := (R24).below hb7 (Nat.le_refl _)
      have R31 := (R25).below hb7 (Nat.le_refl _)
      have R32 := (R26).below hb7 (Nat.le_refl _)
      have R33 := (R27).below hb7 (Nat.le_refl _)
      have R34 := IntRow.of_own ho7
      clear hb7 B6 R22 R23 R24 R25 R26 R27 ho7
      go_wp2_with fail
      refine (eqInt_same _ _ _ _ l w7 HL.out R32 R34).mono ?_
      rintro e w8 ⟨rfl, hb8⟩
      have B8 := B7.trans (hb8.mono B7.size)
      have R35 := (R28).below hb8 (Nat.le_refl _)
      have R36 := (R29).below hb8 (Nat.le_refl _)
      have R37 := (R30).below hb8 (Nat.le_refl _)
      have R38 := (R31).below hb8 (Nat.le_refl _)
      have R39 := (R32).below hb8 (Nat.le_refl _)
      have R40 := (R33).below hb8 (Nat.le_refl _)
      have R41 := (R34).below hb8 (Nat.le_refl _)
      clear hb8 B7 R28 R29 R30 R31 R32 R33 R34
      go_wp2_with fail
      refine (toInt b cb m w8 hm20 R36).mono ?_
      rintro e w9 ⟨⟨g9, rfl, ho9⟩, hb9⟩
      have B9 := B8.trans (hb9.mono B8.size)
      have R42 := (R35).below hb9 (Nat.le_refl _)
      have R43 := (R36).below hb9 (Nat.le_refl _)
      have R44 := (R37).below hb9 (Nat.le_refl _)
      have R45 := (R38).below hb9 (Nat.le_refl _)
      have R46 := (R39).below hb9 (Nat.le_refl _)
      have R47 := (R40).below hb9 (Nat.le_refl _)
      have R48 := (R41).below hb9 (Nat.le_refl _)
      have R49 := IntRow.of_own ho9
      clear hb9 B8 R35 R36 R37 R38 R39 R40 R41 ho9
      go_wp2_with fail
      refine (eqInt_same _ _ _ _ m w9 HM.out R47 R49).mono ?_
      rintro e w10 ⟨rfl, hb10⟩
      have B10 := B9.trans (hb10.mono B9.size)
      have R50 := (R42).below hb10 (Nat.le_refl _)
      have R51 := (R43).below hb10 (Nat.le_refl _)
      have R52 := (R44).below hb10 (Nat.le_refl _)
      have R53 := (R45).below hb10 (Nat.le_refl _)
      have R54 := (R46).below hb10 (Nat.le_refl _)
      have R55 := (R47).below hb10 (Nat.le_refl _)
      have R56 := (R48).below hb10 (Nat.le_refl _)
      have R57 := (R49).below hb10 (Nat.le_refl _)
      clear hb10 B9 R42 R43 R44 R45 R46 R47 R48 R49
      go_wp2
      go_ret
      exact ⟨rfl, B10⟩

end Go.Proofs.Ytmeojedfokahmaa

namespace Go.Proofs.Ytmeojedfokahmaa.fnExactDoAgree
open Go.ChangeShapes Go.WideShapes Go.ChangeAt Go.RowKit
open Go.ChangeMaps (open_string shut_string)
set_option linter.unusedVariables false
set_option maxRecDepth 100000 in
theorem lifted (os : Os) (started : os.Started) (H : Type) (enc : TypeId × Value → H) :
    ReturnsInHanded {} Try.checked os 12 .any (Rows.fnExactDoAgreeSpec.pre6 enc Try.prog Try.f12 Rows.fnExactDoAgreeRow.domain false) (Rows.fnExactDoAgreeSpec.post enc Try.prog Try.f12 false true false false) := by
  refine returnsInHanded_of_change (C := Try.checked) own started (by kernel_rfl) Try.func12
    (ChangeSpec.witness6 (enc := enc) (C := Try.checked) false ⟨#[], #[.slice none 0 0, .slice none 0 0], []⟩ 8 (by kernel_rfl) (by kernel_rfl) (by kernel_rfl) (by kernel_rfl)) ?_
  intro W base args ds gs before hval0 hW hcnd _
  have hval : ∀ (j : Nat) t v, Try.f12.params[j]? = some t → args[j]? = some v → Value.okWide Try.prog W .any base t v := hval0
  have hW' := hW
  obtain ⟨p, q, hA0, hV, rfl, hfz, hnd⟩ := hW
  have hA : DataW.TrodAll enc Try.prog W 0 (fun _ => true) true Try.f12.params.toList args.toList ds p := hA0
  rw [Try.params12] at hA hval
  obtain ⟨v0, vs0, d0, ds0, p0, q0, hargs, rfl, rfl, h0, r0⟩ := trodAll_cons hA
  obtain ⟨v1, vs1, d1, ds1, p1, q1, rfl, rfl, rfl, h1, r1⟩ := trodAll_cons r0
  obtain ⟨rfl, rfl, rfl⟩ := trodAll_nil r1
  obtain rfl : args = #[v0, v1] := by cases args; simp_all
  obtain ⟨rfl, rfl⟩ := trodVars_none hV
  have k0 := h0
  have lt0 : ∀ x ∈ p0, x.block < W.heap.size := by obtain ⟨m, hm⟩ := k0; exact DataW.trod_lt m _ _ _ hm
  obtain ⟨a0, cap0, l0, rfl, hl0, hr0⟩ := openInts h0 (okWide_slice Try.underlying23 (hval 0 23 v0 rfl rfl))
  have k1 := h1
  have lt1 : ∀ x ∈ p1, x.block < W.heap.size := by obtain ⟨m, hm⟩ := k1; exact DataW.trod_lt m _ _ _ hm
  obtain ⟨a1, cap1, l1, rfl, hl1, hr1⟩ := openInts h1 (okWide_slice Try.underlying23 (hval 1 23 v1 rfl rfl))
  clear hA0 hval0
  refine (walkDoAgree a0 cap0 l0 a1 cap1 l1 W hl0 hr0 hl1 hr1).mono fun e W' ⟨he, bel⟩ => ?_
  subst he
  exact ⟨_, rfl, _, _, _, [], _, [], hW', trodAll_mk1 (shut_bool Try.underlying4 _), (trodAll_cons_mk (Below.trod laidOut (by kernel_rfl) (of_decide_eq_true (by kernel_rfl)) k0 bel lt0) (trodAll_cons_mk (Below.trod laidOut (by kernel_rfl) (of_decide_eq_true (by kernel_rfl)) k1 bel lt1) trodAll_mk0)), rfl, bel.frame _, fun h => by cases h⟩

theorem proved : Rows.FnExactDoAgreeSaid :=
  OpenClaim.holds_of_wide 12 Try.f12 rfl rfl rfl rfl rfl rfl rfl ⟨rfl, rfl, rfl, rfl, rfl⟩ rfl rfl rfl rfl rfl (by kernel_rfl) Try.func12 (by kernel_rfl)
    (of_decide_eq_true (by kernel_rfl)) (by unfold Func.isWrapper; first | (rw [if_pos (by decide +kernel)]; kernel_rfl) | (rw [if_neg (by decide +kernel)]; exact ⟨rfl, rfl⟩))
    (fun os started H enc _ => lifted os started H enc)
end Go.Proofs.Ytmeojedfokahmaa.fnExactDoAgree

