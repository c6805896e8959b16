/-
  'FnExactRotationalTour': the program's RotationalTour answers as the model's for every number and every list, leaves the list as it was, and shares no memory with it. No conditions.
-/
import Derived.Test.YteiadhfjpohmdaaXg
import Derived.Test.Yteiadhfjpohmdaa3G
import Derived.Test.YteiadhfjpohmdaaC
namespace Go.Proofs.Yteiadhfjpohmdaa
open Go.ChangeShapes Go.WideShapes Go.ChangeAt Go.RowKit
set_option linter.unusedVariables false

set_option maxHeartbeats 1000000 in
theorem walkRotationalTour (n : Int) (a : Option Addr) (cap : Nat) (l : List Int) (w : World) (hn : (Lit.int .i64 n).wf = true) (hl : l.length ≤ maxLen) (hrow : IntRow w a l) :
    Calls Try.prog 4 #[.int .i64 n, .slice a l.length cap] w fun e w' => e = .returned (.bool true) ∧ Below w.heap.size w w' := by
  have HL := Lib.hid hl
  unfold maxLen at hl
  by_cases hbig : (1048576 : Int) < l.length
  · go_enter Try.func4, Try.ntmps4
    go_wp2
    go_ret
    exact ⟨rfl, Below.refl _ _⟩
  · have hl20 : l.length ≤ 1048576 := by omega
    have hRl := rtR_le n l
    obtain ⟨R, hR⟩ : ∃ R : List Int, R = rtR n l := ⟨_, rfl⟩
    obtain ⟨rn, hrn⟩ : ∃ rn : Int, rn = rtN n l := ⟨_, rfl⟩
    obtain ⟨rb, hrb⟩ : ∃ rb : Bool, rb = Ct.conB n l := ⟨_, rfl⟩
    have CS : ∀ (a : Option Addr) (cap : Nat) (W : World), IntRow W a l → Calls Try.prog 18 #[.int .i64 n, .slice a l.length cap] W fun e w' => (∃ a0 c0, e = .returned (.tuple #[.agg #[.int .i64 rn, .slice a0 R.length c0], .bool rb]) ∧ w'.ownsRow W.heap.size 3 1 (.slice a0 R.length c0) R.length (R.map iv)) ∧ Below W.heap.size W w' := by
      intro a cap W hr
      have := specRotationalTour n a l cap W hr HL.out
      rw [← hR, ← hrn, ← hrb] at this
      exact this
    have CI : ∀ (a : Option Addr) (cap : Nat) (W : World), IntRow W a l → Calls Try.prog 19 #[.int .i64 n, .slice a l.length cap] W fun e w' => (∃ a0 c0, e = .returned (.tuple #[.agg #[.int .i64 rn, .slice a0 R.length c0], .bool rb]) ∧ w'.ownsRow W.heap.size 3 1 (.slice a0 R.length c0) R.length (R.map iv)) ∧ Below W.heap.size W w' := by
      intro a cap W hr
      have := implRotationalTour n a l cap W hr HL.out
      rw [← hR, ← hrn, ← hrb] at this
      exact this
    rw [← hR] at hRl
    have hRm : R.length ≤ maxLen := by unfold maxLen; omega
    have HRM := Lib.hid hRm
    have HCS := Lib.hid CS
    have HCI := Lib.hid CI
    clear CS CI hR hrn hrb hRm
    go_enter Try.func4, Try.ntmps4
    go_wp2_with fail
    refine (toInt a cap l w hl20 hrow).mono ?_
    rintro e w1 ⟨⟨g1, rfl, ho1⟩, hb1⟩
    go_wp2_with fail
    refine (HCS.out _ _ w1 (IntRow.of_own ho1)).mono ?_
    rintro e w2 ⟨⟨a0, ca0, rfl, ho2⟩, hb2⟩
    obtain ⟨W2, hW2⟩ : ∃ W2, W2 = w2.alloc (.cells #[.int .i64 rn, .slice a0 R.length ca0] 27) := ⟨_, rfl⟩
    have HW2 := Lib.hid hW2
    have hbW2 : Below w2.heap.size w2 W2 := by rw [hW2]; exact (Below.refl _ _).alloc (Nat.le_refl _) _
    have s2 : W2.heap.size = w2.heap.size + 1 := by rw [hW2]; simp
    have xp0 : Box W2 w2.heap.size 27 (.int .i64 rn) (.slice a0 R.length ca0) := by rw [hW2]; exact Box.new _ _ _ _
    have hrow2 := ((hrow.below hb1 (Nat.le_refl _)).below hb2 (Nat.le_refl _)).below hbW2 (Nat.le_refl _)
    have S2 := Lib.hid s2
    clear hW2 s2
    go_wp2_with fail
    rw [← HW2.out]
    refine (toInt a cap l W2 hl20 hrow2).mono ?_
    rintro e w3 ⟨⟨g3, rfl, ho3⟩, hb3⟩
    go_wp2_with fail
    refine (HCI.out _ _ w3 (IntRow.of_own ho3)).mono ?_
    rintro e w4 ⟨⟨ag, cg, rfl, ho4⟩, hb4⟩
    obtain ⟨W4, hW4⟩ : ∃ W4, W4 = w4.alloc (.cells #[.int .i64 rn, .slice ag R.length cg] 27) := ⟨_, rfl⟩
    have HW4 := Lib.hid hW4
    have hbW4 : Below w4.heap.size w4 W4 := by rw [hW4]; exact (Below.refl _ _).alloc (Nat.le_refl _) _
    have xpg : Box W4 w4.heap.size 27 (.int .i64 rn) (.slice ag R.length cg) := by rw [hW4]; exact Box.new _ _ _ _
    have B1 := hb1
    have B2 := B1.trans (hb2.mono B1.size)
    have B2' := B2.trans (hbW2.mono B2.size)
    have B3 := B2'.trans (hb3.mono B2'.size)
    have B4 := B3.trans (hb4.mono B3.size)
    have B4' := B4.trans (hbW4.mono B4.size)
    have t3 := hb3.size
    have t4 := hb4.size
    have t5 := hbW4.size
    have e2 := S2.out
    have S4 : Hid (Sl w W4 a l (some ⟨g3, 0, none⟩) l.length l a0 ca0 R ag cg R) := by
      refine ⟨B4', hrow, (own_below (own_below ho3 hb4) hbW4).mono B2'.size, (own_below (own_below (own_below (own_below ho2 hbW2) hb3) hb4) hbW4).mono B1.size, (own_below ho4 hbW4).mono B3.size, ?_, ?_⟩
      · intro k hk
        have h3 := own_blk ho3 hk
        refine ⟨fun e => ?_, fun e => ?_⟩
        · have := own_blk ho2 e; omega
        · have := own_blk ho4 e; omega
      · intro k hk
        have h4 := own_blk ho4 hk
        refine ⟨fun e => ?_, fun e => ?_⟩
        · have := own_blk ho2 e; omega
        · have := own_blk ho3 e; omega
    have X4 : Hid (Bs W4 w2.heap.size w4.heap.size rn a0 ca0 R.length ag cg R.length (some ⟨g3, 0, none⟩)) := by
      refine ⟨((xp0.below hb3 xp0.lt).below hb4 (by have := xp0.lt; omega)).below hbW4 (by have := xp0.lt; omega), xpg, ?_⟩
      rintro k (hk | hk)
      · have h3 := own_blk ho3 hk
        exact ⟨by omega, by omega⟩
      · have h4 := own_blk ho4 hk
        exact ⟨by omega, by omega⟩
    clear B1 B2 B2' B3 B4 B4' t3 t4 t5 e2 ho1 ho2 ho3 ho4 hb1 hb2 hbW2 hb3 hb4 hbW4 hrow2 xp0 xpg hW4
    have e0 := X4.out.b0.c0
    have e1 := X4.out.b0.c1
    rw [HW4.out] at e0 e1
    go_wp2_with fail
    rw [← HW4.out]
    refine (eqT_same rn _ _ _ _ R W4 HRM.out (own_int S4.out.rg) (own_int S4.out.r0)).mono ?_
    rintro e w6 ⟨rfl, hb6⟩
    have S6 := Lib.hid (S4.out.kept hb6)
    have X6 := Lib.hid (X4.out.kept hb6)
    clear hb6 e0 e1
    go_wp2_with fail
    refine (toInt a cap l w6 hl20 S6.out.rA).mono ?_
    rintro e w7 ⟨⟨g7, rfl, ho7⟩, hb7⟩
    have S7 := Lib.hid (S6.out.kept hb7)
    have X7 := Lib.hid (X6.out.kept hb7)
    have hy7 := IntRow.of_own ho7
    clear ho7 hb7
    go_wp2_with fail
    refine (eqInt_same _ _ _ _ l w7 HL.out (own_int S7.out.rx) hy7).mono ?_
    rintro e w8 ⟨rfl, hb8⟩
    have S8 := Lib.hid (S7.out.kept hb8)
    have X8 := Lib.hid (X7.out.kept hb8)
    clear hb8 hy7
    go_wp2_with fail
    refine (markI1 w.heap.size l.length (some ⟨g3, 0, none⟩) l.length (l.map iv) w8 (by omega) S8.out.rx).mono ?_
    rintro e w9 ⟨rfl, ho9, hb9, hg9⟩
    have S9 := Lib.hid (S8.out.markX (X' := marks 1 l.length) (marks_len 1 _) ho9 hb9 hg9)
    have X9 := Lib.hid (X8.out.grown hg9 (.inl rfl))
    clear ho9 hb9 hg9
    have e0 := X9.out.b0.c0
    have e1 := X9.out.b0.c1
    have e2 := X9.out.bg.c0
    have e3 := X9.out.bg.c1
    go_wp2_with fail
    refine (eqT_same rn _ _ _ _ R w9 HRM.out (own_int S9.out.rg) (own_int S9.out.r0)).mono ?_
    rintro e w10 ⟨rfl, hb10⟩
    have S10 := Lib.hid (S9.out.kept hb10)
    have X10 := Lib.hid (X9.out.kept hb10)
    clear hb10 e0 e1 e2 e3
    have e2 := X10.out.bg.c0
    have e3 := X10.out.bg.c1
    go_wp2_with fail
    refine (markT1 rn w.heap.size R.length ag cg (R.map iv) w10 (by omega) S10.out.hb.size S10.out.rg).mono ?_
    rintro e w11 ⟨rfl, ho11, hb11, hg11⟩
    have S11 := Lib.hid (S10.out.markG (G' := marks 1 R.length) (marks_len 1 _) ho11 hb11 hg11)
    have X11 := Lib.hid (X10.out.grown hg11 (.inr rfl))
    have hG : Hid ((marks 1 R.length).length = R.length) := marks_len 1 _
    clear ho11 hb11 hg11 e2 e3
    have e2 := X11.out.bg.c0
    have e3 := X11.out.bg.c1
    go_wp2_with fail
    refine (heldT1 rn w.heap.size R.length ag cg w11 (by omega) (by have := S11.out.rg; rw [hG.out] at this; exact this)).mono ?_
    rintro e w12 ⟨rfl, hb12⟩
    have S12 := Lib.hid (S11.out.kept hb12)
    have X12 := Lib.hid (X11.out.kept hb12)
    clear hb12 e2 e3
    go_wp2_with fail
    refine (toInt a cap l w12 hl20 S12.out.rA).mono ?_
    rintro e w13 ⟨⟨g13, rfl, ho13⟩, hb13⟩
    have S13 := Lib.hid (S12.out.kept hb13)
    have X13 := Lib.hid (X12.out.kept hb13)
    clear hb13
    go_wp2_with fail
    refine (HCI.out _ _ w13 (IntRow.of_own ho13)).mono ?_
    rintro e w14 ⟨⟨ah, ch, rfl, ho14⟩, hb14⟩
    have S14 := Lib.hid (S13.out.kept hb14)
    have X14 := Lib.hid (X13.out.kept hb14)
    obtain ⟨W15, hW15⟩ : ∃ W15, W15 = w14.alloc (.cells #[.int .i64 rn, .slice ah R.length ch] 27) := ⟨_, rfl⟩
    have HW15 := Lib.hid hW15
    have hbW15 : Below w14.heap.size w14 W15 := by rw [hW15]; exact (Below.refl _ _).alloc (Nat.le_refl _) _
    have hh15 := (own_int ho14).below hbW15 (Nat.le_refl _)
    have S15 := Lib.hid (S14.out.kept hbW15)
    have X15 := Lib.hid (X14.out.kept hbW15)
    clear hb14 ho13 ho14 hW15 hbW15
    have e0 := X15.out.b0.c0
    have e1 := X15.out.b0.c1
    rw [HW15.out] at e0 e1
    go_wp2_with fail
    rw [← HW15.out]
    refine (eqT_same rn _ _ _ _ R W15 HRM.out hh15 (own_int S15.out.r0)).mono ?_
    rintro e w16 ⟨rfl, hb16⟩
    have S16 := Lib.hid (S15.out.kept hb16)
    have X16 := Lib.hid (X15.out.kept hb16)
    clear hb16 hh15 e0 e1
    have e2 := X16.out.bg.c0
    have e3 := X16.out.bg.c1
    go_wp2_with fail
    refine (heldT1 rn w.heap.size R.length ag cg w16 (by omega) (by have := S16.out.rg; rw [hG.out] at this; exact this)).mono ?_
    rintro e w17 ⟨rfl, hb17⟩
    have S17 := Lib.hid (S16.out.kept hb17)
    clear hb17 e2 e3
    go_wp2
    go_ret
    exact ⟨rfl, S17.out.hb⟩

end Go.Proofs.Yteiadhfjpohmdaa

namespace Go.Proofs.Yteiadhfjpohmdaa.fnExactRotationalTour
open Go.ChangeShapes Go.WideShapes Go.ChangeAt Go.RowKit
open Go.ChangeMaps (open_string shut_string)
set_option linter.unusedVariables false
set_option maxRecDepth 100000 in
theorem lifted (os : Os) (started : os.Started) (H : Type) (enc : TypeId × Value → H) :
    ReturnsInHanded {} Try.checked os 4 .any (Rows.fnExactRotationalTourSpec.pre6 enc Try.prog Try.f4 Rows.fnExactRotationalTourRow.domain false) (Rows.fnExactRotationalTourSpec.post enc Try.prog Try.f4 false true false false) := by
  refine returnsInHanded_of_change (C := Try.checked) own started (by kernel_rfl) Try.func4
    (ChangeSpec.witness6 (enc := enc) (C := Try.checked) false ⟨#[], #[.int .i64 0, .slice none 0 0], []⟩ 8 (by kernel_rfl) (by kernel_rfl) (by kernel_rfl) (by kernel_rfl)) ?_
  intro W base args ds gs before hval0 hW hcnd _
  have hval : ∀ (j : Nat) t v, Try.f4.params[j]? = some t → args[j]? = some v → Value.okWide Try.prog W .any base t v := hval0
  have hW' := hW
  obtain ⟨p, q, hA0, hV, rfl, hfz, hnd⟩ := hW
  have hA : DataW.TrodAll enc Try.prog W 0 (fun _ => true) true Try.f4.params.toList args.toList ds p := hA0
  rw [Try.params4] at hA hval
  obtain ⟨v0, vs0, d0, ds0, p0, q0, hargs, rfl, rfl, h0, r0⟩ := trodAll_cons hA
  obtain ⟨v1, vs1, d1, ds1, p1, q1, rfl, rfl, rfl, h1, r1⟩ := trodAll_cons r0
  obtain ⟨rfl, rfl, rfl⟩ := trodAll_nil r1
  obtain rfl : args = #[v0, v1] := by cases args; simp_all
  obtain ⟨rfl, rfl⟩ := trodVars_none hV
  obtain ⟨a0, rfl, rfl, rfl, hs0⟩ := open_int Try.underlying3 (hval 0 3 v0 rfl rfl) h0
  have k1 := h1
  have lt1 : ∀ x ∈ p1, x.block < W.heap.size := by obtain ⟨m, hm⟩ := k1; exact DataW.trod_lt m _ _ _ hm
  obtain ⟨a1, cap1, l1, rfl, hl1, hr1⟩ := openInts h1 (okWide_slice Try.underlying22 (hval 1 22 v1 rfl rfl))
  clear hA0 hval0
  refine (walkRotationalTour a0 a1 cap1 l1 W hs0 hl1 hr1).mono fun e W' ⟨he, bel⟩ => ?_
  subst he
  exact ⟨_, rfl, _, _, _, [], _, [], hW', trodAll_mk1 (shut_bool Try.underlying4 _), (trodAll_cons_mk (shut_int Try.underlying3 hs0) (trodAll_cons_mk (Below.trod laidOut (by kernel_rfl) (of_decide_eq_true (by kernel_rfl)) k1 bel lt1) trodAll_mk0)), rfl, bel.frame _, fun h => by cases h⟩

theorem proved : Rows.FnExactRotationalTourSaid :=
  OpenClaim.holds_of_wide 4 Try.f4 rfl rfl rfl rfl rfl rfl rfl ⟨rfl, rfl, rfl, rfl, rfl⟩ rfl rfl rfl rfl rfl (by kernel_rfl) Try.func4 (by kernel_rfl)
    (of_decide_eq_true (by kernel_rfl)) (by unfold Func.isWrapper; first | (rw [if_pos (by decide +kernel)]; kernel_rfl) | (rw [if_neg (by decide +kernel)]; exact ⟨rfl, rfl⟩))
    (fun os started H enc _ => lifted os started H enc)
end Go.Proofs.Yteiadhfjpohmdaa.fnExactRotationalTour

