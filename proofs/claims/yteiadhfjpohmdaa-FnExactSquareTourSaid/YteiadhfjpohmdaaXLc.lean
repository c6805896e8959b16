/-
  'FnExactSquareTour': the program's SquareTour answers as the model's for every number, and shares no memory with another call. No conditions.
-/
import Derived.Test.YteiadhfjpohmdaaXh
import Derived.Test.Yteiadhfjpohmdaa3G
import Derived.Test.YteiadhfjpohmdaaC
namespace Go.Proofs.Yteiadhfjpohmdaa
open Go.ChangeShapes Go.WideShapes Go.ChangeAt Go.RowKit
set_option linter.unusedVariables false

set_option maxHeartbeats 1000000 in
theorem walkSquareTour (n : Int) (w : World) (hn : (Lit.int .i64 n).wf = true) :
    Calls Try.prog 5 #[.int .i64 n] w fun e w' => e = .returned (.bool true) ∧ Below w.heap.size w w' := by
  have hRl := sqR_le n
  obtain ⟨R, hR⟩ : ∃ R : List Int, R = sqR n := ⟨_, rfl⟩
  obtain ⟨rn, hrn⟩ : ∃ rn : Int, rn = sqN n := ⟨_, rfl⟩
  obtain ⟨rb, hrb⟩ : ∃ rb : Bool, rb = isSq n := ⟨_, rfl⟩
  have CS : ∀ W : World, Calls Try.prog 24 #[.int .i64 n] W fun e w' => (∃ a0 c0, e = .returned (.tuple #[.agg #[.int .i64 rn, .slice a0 R.length c0], .bool rb]) ∧ w'.ownsRow W.heap.size 3 1 (.slice a0 R.length c0) R.length (R.map iv)) ∧ Below W.heap.size W w' := by
    intro W
    have := specSquareTour n W
    unfold SqP at this
    rw [← hR, ← hrn, ← hrb] at this
    exact this
  have CI : ∀ W : World, Calls Try.prog 25 #[.int .i64 n] W fun e w' => (∃ a0 c0, e = .returned (.tuple #[.agg #[.int .i64 rn, .slice a0 R.length c0], .bool rb]) ∧ w'.ownsRow W.heap.size 3 1 (.slice a0 R.length c0) R.length (R.map iv)) ∧ Below W.heap.size W w' := by
    intro W
    have := implSquareTour n W
    unfold SqP at this
    rw [← hR, ← hrn, ← hrb] at this
    exact this
  rw [← hR] at hRl
  have hRm : R.length ≤ maxLen := by unfold maxLen; omega
  have HRM := Lib.hid hRm
  have HCS := Lib.hid CS
  have HCI := Lib.hid CI
  clear CS CI hR hrn hrb hRm
  go_enter Try.func5, Try.ntmps5
  go_wp2_with fail
  refine (HCS.out w).mono ?_
  rintro e w2 ⟨⟨a0, ca0, rfl, ho2⟩, hb2⟩
  obtain ⟨W2, hW2⟩ : ∃ W2, W2 = w2.alloc (.cells #[.int .i64 rn, .slice a0 R.length ca0] 27) := ⟨_, rfl⟩
  have HW2 := Lib.hid hW2
  have hbW2 : Below w2.heap.size w2 W2 := by rw [hW2]; exact (Below.refl _ _).alloc (Nat.le_refl _) _
  have s2 : W2.heap.size = w2.heap.size + 1 := by rw [hW2]; simp
  have xp0 : Box W2 w2.heap.size 27 (.int .i64 rn) (.slice a0 R.length ca0) := by rw [hW2]; exact Box.new _ _ _ _
  have S2 := Lib.hid s2
  clear hW2 s2
  go_wp2_with fail
  rw [← HW2.out]
  refine (HCI.out W2).mono ?_
  rintro e w4 ⟨⟨ag, cg, rfl, ho4⟩, hb4⟩
  obtain ⟨W4, hW4⟩ : ∃ W4, W4 = w4.alloc (.cells #[.int .i64 rn, .slice ag R.length cg] 27) := ⟨_, rfl⟩
  have HW4 := Lib.hid hW4
  have hbW4 : Below w4.heap.size w4 W4 := by rw [hW4]; exact (Below.refl _ _).alloc (Nat.le_refl _) _
  have xpg : Box W4 w4.heap.size 27 (.int .i64 rn) (.slice ag R.length cg) := by rw [hW4]; exact Box.new _ _ _ _
  have B2 := hb2
  have B2' := B2.trans (hbW2.mono B2.size)
  have B4 := B2'.trans (hb4.mono B2'.size)
  have B4' := B4.trans (hbW4.mono B4.size)
  have t4 := hb4.size
  have t5 := hbW4.size
  have e2 := S2.out
  have S4 : Hid (Sl w W4 none [] none 0 [] a0 ca0 R ag cg R) := by
    refine ⟨B4', .inl rfl, World.ownsRow_nil _ _ _ _, ((own_below (own_below (own_below ho2 hbW2) hb4) hbW4)), (own_below ho4 hbW4).mono B2'.size, ?_, ?_⟩
    · intro k hk
      cases hk
    · intro k hk
      have h4 := own_blk ho4 hk
      refine ⟨fun e => ?_, fun e => (by cases e)⟩
      have := own_blk ho2 e; omega
  have X4 : Hid (Bs W4 w2.heap.size w4.heap.size rn a0 ca0 R.length ag cg R.length none) := by
    refine ⟨(xp0.below hb4 (by have := xp0.lt; omega)).below hbW4 (by have := xp0.lt; omega), xpg, ?_⟩
    rintro k (hk | hk)
    · cases hk
    · have h4 := own_blk ho4 hk
      exact ⟨by omega, by omega⟩
  clear B2 B2' B4 B4' t4 t5 e2 ho2 ho4 hb2 hbW2 hb4 hbW4 xp0 xpg hW4
  have e0 := X4.out.b0.c0
  have e1 := X4.out.b0.c1
  rw [HW4.out] at e0 e1
  go_wp2_with fail
  rw [← HW4.out]
  refine (eqT_same rn _ _ _ _ R W4 HRM.out (own_int S4.out.rg) (own_int S4.out.r0)).mono ?_
  rintro e w10 ⟨rfl, hb10⟩
  have S10 := Lib.hid (S4.out.kept hb10)
  have X10 := Lib.hid (X4.out.kept hb10)
  clear hb10 e0 e1
  have e2 := X10.out.bg.c0
  have e3 := X10.out.bg.c1
  go_wp2_with fail
  refine (markT1 rn w.heap.size R.length ag cg (R.map iv) w10 (by omega) S10.out.hb.size S10.out.rg).mono ?_
  rintro e w11 ⟨rfl, ho11, hb11, hg11⟩
  have S11 := Lib.hid (S10.out.markG (G' := marks 1 R.length) (marks_len 1 _) ho11 hb11 hg11)
  have X11 := Lib.hid (X10.out.grown hg11 (.inr rfl))
  have hG : Hid ((marks 1 R.length).length = R.length) := marks_len 1 _
  clear ho11 hb11 hg11 e2 e3
  have e2 := X11.out.bg.c0
  have e3 := X11.out.bg.c1
  go_wp2_with fail
  refine (heldT1 rn w.heap.size R.length ag cg w11 (by omega) (by have := S11.out.rg; rw [hG.out] at this; exact this)).mono ?_
  rintro e w12 ⟨rfl, hb12⟩
  have S12 := Lib.hid (S11.out.kept hb12)
  have X12 := Lib.hid (X11.out.kept hb12)
  clear hb12 e2 e3
  go_wp2_with fail
  refine (HCI.out w12).mono ?_
  rintro e w14 ⟨⟨ah, ch, rfl, ho14⟩, hb14⟩
  have S14 := Lib.hid (S12.out.kept hb14)
  have X14 := Lib.hid (X12.out.kept hb14)
  obtain ⟨W15, hW15⟩ : ∃ W15, W15 = w14.alloc (.cells #[.int .i64 rn, .slice ah R.length ch] 27) := ⟨_, rfl⟩
  have HW15 := Lib.hid hW15
  have hbW15 : Below w14.heap.size w14 W15 := by rw [hW15]; exact (Below.refl _ _).alloc (Nat.le_refl _) _
  have hh15 := (own_int ho14).below hbW15 (Nat.le_refl _)
  have S15 := Lib.hid (S14.out.kept hbW15)
  have X15 := Lib.hid (X14.out.kept hbW15)
  clear hb14 ho14 hW15 hbW15
  have e0 := X15.out.b0.c0
  have e1 := X15.out.b0.c1
  rw [HW15.out] at e0 e1
  go_wp2_with fail
  rw [← HW15.out]
  refine (eqT_same rn _ _ _ _ R W15 HRM.out hh15 (own_int S15.out.r0)).mono ?_
  rintro e w16 ⟨rfl, hb16⟩
  have S16 := Lib.hid (S15.out.kept hb16)
  have X16 := Lib.hid (X15.out.kept hb16)
  clear hb16 hh15 e0 e1
  have e2 := X16.out.bg.c0
  have e3 := X16.out.bg.c1
  go_wp2_with fail
  refine (heldT1 rn w.heap.size R.length ag cg w16 (by omega) (by have := S16.out.rg; rw [hG.out] at this; exact this)).mono ?_
  rintro e w17 ⟨rfl, hb17⟩
  have S17 := Lib.hid (S16.out.kept hb17)
  clear hb17 e2 e3
  go_wp2
  go_ret
  exact ⟨rfl, S17.out.hb⟩

end Go.Proofs.Yteiadhfjpohmdaa

namespace Go.Proofs.Yteiadhfjpohmdaa.fnExactSquareTour
open Go.ChangeShapes Go.WideShapes Go.ChangeAt Go.RowKit
open Go.ChangeMaps (open_string shut_string)
set_option linter.unusedVariables false
set_option maxRecDepth 100000 in
theorem lifted (os : Os) (started : os.Started) (H : Type) (enc : TypeId × Value → H) :
    ReturnsInHanded {} Try.checked os 5 .any (Rows.fnExactSquareTourSpec.pre6 enc Try.prog Try.f5 Rows.fnExactSquareTourRow.domain false) (Rows.fnExactSquareTourSpec.post enc Try.prog Try.f5 false true false false) := by
  refine returnsInHanded_of_change (C := Try.checked) own started (by kernel_rfl) Try.func5
    (ChangeSpec.witness6 (enc := enc) (C := Try.checked) false ⟨#[], #[.int .i64 0], []⟩ 8 (by kernel_rfl) (by kernel_rfl) (by kernel_rfl) (by kernel_rfl)) ?_
  intro W base args ds gs before hval0 hW hcnd _
  have hval : ∀ (j : Nat) t v, Try.f5.params[j]? = some t → args[j]? = some v → Value.okWide Try.prog W .any base t v := hval0
  have hW' := hW
  obtain ⟨p, q, hA0, hV, rfl, hfz, hnd⟩ := hW
  have hA : DataW.TrodAll enc Try.prog W 0 (fun _ => true) true Try.f5.params.toList args.toList ds p := hA0
  rw [Try.params5] at hA hval
  obtain ⟨v0, vs0, d0, ds0, p0, q0, hargs, rfl, rfl, h0, r0⟩ := trodAll_cons hA
  obtain ⟨rfl, rfl, rfl⟩ := trodAll_nil r0
  obtain rfl : args = #[v0] := by cases args; simp_all
  obtain ⟨rfl, rfl⟩ := trodVars_none hV
  obtain ⟨a0, rfl, rfl, rfl, hs0⟩ := open_int Try.underlying3 (hval 0 3 v0 rfl rfl) h0
  clear hA0 hval0
  refine (walkSquareTour a0 W hs0).mono fun e W' ⟨he, bel⟩ => ?_
  subst he
  exact ⟨_, rfl, _, _, _, [], _, [], hW', trodAll_mk1 (shut_bool Try.underlying4 _), (trodAll_cons_mk (shut_int Try.underlying3 hs0) trodAll_mk0), rfl, bel.frame _, fun h => by cases h⟩

theorem proved : Rows.FnExactSquareTourSaid :=
  OpenClaim.holds_of_wide 5 Try.f5 rfl rfl rfl rfl rfl rfl rfl ⟨rfl, rfl, rfl, rfl, rfl⟩ rfl rfl rfl rfl rfl (by kernel_rfl) Try.func5 (by kernel_rfl)
    (of_decide_eq_true (by kernel_rfl)) (by unfold Func.isWrapper; first | (rw [if_pos (by decide +kernel)]; kernel_rfl) | (rw [if_neg (by decide +kernel)]; exact ⟨rfl, rfl⟩))
    (fun os started H enc _ => lifted os started H enc)
end Go.Proofs.Yteiadhfjpohmdaa.fnExactSquareTour

