/-
  'FnExactIsConnection': the program's IsConnection answers as the model's for every number and every list, and leaves the list as it was. No conditions.
-/
import Derived.Test.YteiadhfjpohmdaaXf
import Derived.Test.YteiadhfjpohmdaaC
namespace Go.Proofs.Yteiadhfjpohmdaa
open Go.ChangeShapes Go.WideShapes Go.ChangeAt Go.RowKit
set_option linter.unusedVariables false

set_option maxHeartbeats 1000000 in
theorem walkIsConnection (n : Int) (a : Option Addr) (cap : Nat) (l : List Int) (w : World) (hn : (Lit.int .i64 n).wf = true) (hl : l.length ≤ maxLen) (hrow : IntRow w a l) :
    Calls Try.prog 3 #[.int .i64 n, .slice a l.length cap] w fun e w' => e = .returned (.bool true) ∧ Below w.heap.size w w' := by
  have HL := Lib.hid hl
  unfold maxLen at hl
  by_cases hbig : (1048576 : Int) < l.length
  · go_enter Try.func3, Try.ntmps3
    go_wp2
    go_ret
    exact ⟨rfl, Below.refl _ _⟩
  · have hl20 : l.length ≤ 1048576 := by omega
    obtain ⟨ob, hob⟩ : ∃ ob : Bool, ob = Ct.conB n l := ⟨_, rfl⟩
    have HO := Lib.hid hob
    clear hob
    go_enter Try.func3, Try.ntmps3
    go_wp2_with fail
    refine (toInt a cap l w hl20 hrow).mono ?_
    rintro e w1 ⟨⟨g1, rfl, ho1⟩, hb1⟩
    go_wp2_with fail
    refine (specIsConnection n _ l _ w1 (IntRow.of_own ho1) HL.out).mono ?_
    rintro e w2 ⟨rfl, hb2⟩
    rw [← HO.out]
    have hrow2 := (hrow.below hb1 (Nat.le_refl _)).below hb2 (Nat.le_refl _)
    go_wp2_with fail
    refine (toInt a cap l w2 hl20 hrow2).mono ?_
    rintro e w3 ⟨⟨g3, rfl, ho3⟩, hb3⟩
    go_wp2_with fail
    refine (implIsConnection n _ l _ w3 (IntRow.of_own ho3) HL.out).mono ?_
    rintro e w4 ⟨rfl, hb4⟩
    rw [← HO.out]
    have B1 := hb1
    have B2 := B1.trans (hb2.mono B1.size)
    have B3 := B2.trans (hb3.mono B2.size)
    have B4 := B3.trans (hb4.mono B3.size)
    have hrow4 := (hrow2.below hb3 (Nat.le_refl _)).below hb4 (Nat.le_refl _)
    have hx4 := (IntRow.of_own ho3).below hb4 (Nat.le_refl _)
    clear B1 B2 B3 hb1 hb2 hb3 hb4 ho1 ho3 hrow2
    go_wp2_with fail
    refine (toInt a cap l w4 hl20 hrow4).mono ?_
    rintro e w5 ⟨⟨g5, rfl, ho5⟩, hb5⟩
    have hx5 := hx4.below hb5 (Nat.le_refl _)
    have hy5 := IntRow.of_own ho5
    have B5 := B4.trans (hb5.mono B4.size)
    clear B4 hb5 ho5 hx4 hrow4
    go_wp2_with fail
    refine (eqInt_same _ _ _ _ l w5 HL.out hx5 hy5).mono ?_
    rintro e w6 ⟨rfl, hb6⟩
    have B6 := B5.trans (hb6.mono B5.size)
    clear B5 hb6 hx5 hy5
    go_wp2
    go_ret
    exact ⟨rfl, B6⟩

end Go.Proofs.Yteiadhfjpohmdaa

namespace Go.Proofs.Yteiadhfjpohmdaa.fnExactIsConnection
open Go.ChangeShapes Go.WideShapes Go.ChangeAt Go.RowKit
open Go.ChangeMaps (open_string shut_string)
set_option linter.unusedVariables false
set_option maxRecDepth 100000 in
theorem lifted (os : Os) (started : os.Started) (H : Type) (enc : TypeId × Value → H) :
    ReturnsInHanded {} Try.checked os 3 .any (Rows.fnExactIsConnectionSpec.pre6 enc Try.prog Try.f3 Rows.fnExactIsConnectionRow.domain false) (Rows.fnExactIsConnectionSpec.post enc Try.prog Try.f3 false true false false) := by
  refine returnsInHanded_of_change (C := Try.checked) own started (by kernel_rfl) Try.func3
    (ChangeSpec.witness6 (enc := enc) (C := Try.checked) false ⟨#[], #[.int .i64 0, .slice none 0 0], []⟩ 8 (by kernel_rfl) (by kernel_rfl) (by kernel_rfl) (by kernel_rfl)) ?_
  intro W base args ds gs before hval0 hW hcnd _
  have hval : ∀ (j : Nat) t v, Try.f3.params[j]? = some t → args[j]? = some v → Value.okWide Try.prog W .any base t v := hval0
  have hW' := hW
  obtain ⟨p, q, hA0, hV, rfl, hfz, hnd⟩ := hW
  have hA : DataW.TrodAll enc Try.prog W 0 (fun _ => true) true Try.f3.params.toList args.toList ds p := hA0
  rw [Try.params3] at hA hval
  obtain ⟨v0, vs0, d0, ds0, p0, q0, hargs, rfl, rfl, h0, r0⟩ := trodAll_cons hA
  obtain ⟨v1, vs1, d1, ds1, p1, q1, rfl, rfl, rfl, h1, r1⟩ := trodAll_cons r0
  obtain ⟨rfl, rfl, rfl⟩ := trodAll_nil r1
  obtain rfl : args = #[v0, v1] := by cases args; simp_all
  obtain ⟨rfl, rfl⟩ := trodVars_none hV
  obtain ⟨a0, rfl, rfl, rfl, hs0⟩ := open_int Try.underlying3 (hval 0 3 v0 rfl rfl) h0
  have k1 := h1
  have lt1 : ∀ x ∈ p1, x.block < W.heap.size := by obtain ⟨m, hm⟩ := k1; exact DataW.trod_lt m _ _ _ hm
  obtain ⟨a1, cap1, l1, rfl, hl1, hr1⟩ := openInts h1 (okWide_slice Try.underlying22 (hval 1 22 v1 rfl rfl))
  clear hA0 hval0
  refine (walkIsConnection a0 a1 cap1 l1 W hs0 hl1 hr1).mono fun e W' ⟨he, bel⟩ => ?_
  subst he
  exact ⟨_, rfl, _, _, _, [], _, [], hW', trodAll_mk1 (shut_bool Try.underlying4 _), (trodAll_cons_mk (shut_int Try.underlying3 hs0) (trodAll_cons_mk (Below.trod laidOut (by kernel_rfl) (of_decide_eq_true (by kernel_rfl)) k1 bel lt1) trodAll_mk0)), rfl, bel.frame _, fun h => by cases h⟩

theorem proved : Rows.FnExactIsConnectionSaid :=
  OpenClaim.holds_of_wide 3 Try.f3 rfl rfl rfl rfl rfl rfl rfl ⟨rfl, rfl, rfl, rfl, rfl⟩ rfl rfl rfl rfl rfl (by kernel_rfl) Try.func3 (by kernel_rfl)
    (of_decide_eq_true (by kernel_rfl)) (by unfold Func.isWrapper; first | (rw [if_pos (by decide +kernel)]; kernel_rfl) | (rw [if_neg (by decide +kernel)]; exact ⟨rfl, rfl⟩))
    (fun os started H enc _ => lifted os started H enc)
end Go.Proofs.Yteiadhfjpohmdaa.fnExactIsConnection

