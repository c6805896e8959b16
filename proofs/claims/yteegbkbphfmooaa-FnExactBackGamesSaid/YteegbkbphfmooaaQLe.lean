/-
  'FnExactBackGames': the program's BackGames answers as the model's for every tour and every list, leaves both as they were, and shares no memory with them. No conditions.
-/
import Derived.Test.YteegbkbphfmooaaQo
import Derived.Test.YteegbkbphfmooaaSa
import Derived.Test.YteegbkbphfmooaaH
namespace Go.Proofs.Yteegbkbphfmooaa
open Go.ChangeShapes Go.WideShapes Go.ChangeAt Go.RowKit
set_option linter.unusedVariables false

theorem markI2 (B n p : Nat) (a : Option Addr) (cap : Nat) (l : List Value) (w : World) (hn : n ≤ 1048577) (hp : p ≤ 1048577) (hown : w.ownsRow B 3 1 (.slice a n cap) n l) :
    Calls Try.prog 54 #[.slice a n cap, .int .i64 (1 + p)] w fun e w' => (∃ k : Nat, e = .returned (.int .i64 k) ∧ k ≤ 4194304) ∧ (∃ Z : List Int, Z.length = n ∧ w'.ownsRow B 3 1 (.slice a n cap) n (Z.map iv)) ∧ Below B w w' ∧ w.grownBy w' (blk a) := by
  have := markInt B n (1 + p) _ l w hn (by omega) hown
  rw [blk_own] at this
  have e : ((1 + p : Nat) : Int) = 1 + (p : Int) := by omega
  rw [e] at this
  refine this.mono ?_
  rintro e' w' ⟨rfl, ho, hb, hg⟩
  exact ⟨⟨_, rfl, by omega⟩, ⟨_, marks_len _ _, ho⟩, hb, hg⟩


/-- The row of the second argument, beside 'StS'. -/
structure NxS (w W : World) (Bg gn m : Nat) (Z : List Int) (pA px : Nat) (ax a0 : Option Addr) (gs0 : List (Nat × Nat)) (k0 : Nat) : Prop where
  r1 : W.ownsRow w.heap.size 3 1 (.slice (some ⟨gn, 0, none⟩) m m) m (Z.map iv)
  nb : gn < Bg ∧ gn ≠ pA ∧ gn ≠ px ∧ blk ax ≠ some gn ∧ blk a0 ≠ some gn ∧ ∀ i, i < k0 → (gs0.getD i (0, 0)).1 ≠ gn
theorem NxS.kept {w W W' : World} {Bg gn m : Nat} {Z : List Int} {pA px : Nat} {ax a0 : Option Addr} {gs0 : List (Nat × Nat)} {k0 : Nat} (h : NxS w W Bg gn m Z pA px ax a0 gs0 k0) (hb : Below W.heap.size W W') : NxS w W' Bg gn m Z pA px ax a0 gs0 k0 := ⟨own_below h.r1 hb, h.nb⟩
theorem NxS.grown {w W W' : World} {Bg gn m : Nat} {Z : List Int} {pA px : Nat} {ax a0 : Option Addr} {gs0 : List (Nat × Nat)} {k0 : Nat} (h : NxS w W Bg gn m Z pA px ax a0 gs0 k0) (hg : W.grownBy W' (blk ax)) : NxS w W' Bg gn m Z pA px ax a0 gs0 k0 :=
  ⟨own_grown h.r1 hg (fun k hk e => by
    have hkg : k = gn := by simp [blk] at hk; omega
    subst hkg
    exact h.nb.2.2.2.1 e), h.nb⟩
theorem StS.markN {w W W' : World} {Bg pA : Nat} {n : Int} {a : Option Addr} {cap : Nat} {l : List Int} {px : Nat} {ax : Option Addr} {cx : Nat} {X : List Int} {a0 : Option Addr} {c0 : Nat} {gs0 : List (Nat × Nat)} {R : List (List Int)} {ag : Option Addr} {cg : Nat} {gsg : List (Nat × Nat)} {G : List (List Int)} {gn m : Nat} {Z : List Int}
    (h : StS w W Bg pA n a cap l px ax cx X a0 c0 gs0 R ag cg gsg G) (hn : NxS w W Bg gn m Z pA px ax a0 gs0 R.length) (hb : Below w.heap.size W W') (hg : W.grownBy W' (some gn)) : StS w W' Bg pA n a cap l px ax cx X a0 c0 gs0 R ag cg gsg G := by
  refine ⟨h.hb.trans hb, h.hr, h.bA.grown hg (fun e => hn.nb.2.1 (by simpa using e)), h.bx.grown hg (fun e => hn.nb.2.2.1 (by simpa using e)), own_grown h.rx hg (fun k hk e => hn.nb.2.2.2.1 (by rw [hk, ← e])), h.r0.aside hg (fun k hk => ?_), h.rg.aside hg (fun k hk => ?_), ⟨h.lo.1, Nat.le_trans h.lo.2.1 hg.size, h.lo.2.2⟩, h.nx, h.n0⟩
  · cases hk
    exact ⟨hn.nb.2.2.2.2.1, hn.nb.2.2.2.2.2⟩
  · cases hk
    have := hn.nb.1
    refine ⟨fun e => ?_, fun i hi e => ?_⟩
    · have := (h.rg.blkO e).1; omega
    · have := (h.rg.blkI i hi).1; omega

set_option maxHeartbeats 2000000 in
theorem walkBackGames (n : Int) (a : Option Addr) (cap : Nat) (l : List Int) (an : Option Addr) (cn : Nat) (ns : List Int) (w : World) (hl : l.length ≤ maxLen) (hrow : IntRow w a l) (hn : ns.length ≤ maxLen) (hrn : IntRow w an ns) :
    Calls Try.prog 12 #[.agg #[.int .i64 n, .slice a l.length cap], .slice an ns.length cn] w fun e w' => e = .returned (.bool true) ∧ Below w.heap.size w w' := by
  have HL := Lib.hid hl
  have HN := Lib.hid hn
  by_cases hbn : (1048576 : Int) < ns.length
  · unfold maxLen at hn
    clear hl
    go_enter Try.func12, Try.ntmps12
    go_wp2
    go_ret
    exact ⟨rfl, (Below.refl _ _).alloc (Nat.le_refl _) _⟩
  have hns20 : ns.length ≤ 1048576 := by omega
  have hnm : ns.length ≤ 9223372036854775807 := by omega
  clear hn
  by_cases hbig : (1048576 : Int) < l.length
  · have HS : Hid (szR 1048576 l = -1) := if_pos hbig
    clear hl
    go_enter Try.func12, Try.ntmps12
    go_wp2_with fail
    refine (szT n a cap l 1048576 _ HL.out (by omega) (by omega)).mono ?_
    rintro e w1 ⟨rfl, hb⟩
    rw [HS.out]
    go_wp2
    go_ret
    exact ⟨rfl, (((Below.refl _ _).alloc (Nat.le_refl _) _).trans (hb.mono (by simp)))⟩
  · have HS : Hid (szR 1048576 l = 1048576 - l.length) := if_neg hbig
    have hl20 : l.length ≤ 1048576 := by omega
    have hsz0 : ¬ (1048576 : Int) - l.length < 0 := by omega
    have hRs : SmallSS (bkR n l ns) := bkR_small n l ns
    obtain ⟨R, hR⟩ : ∃ R : List (List Int), R = bkR n l ns := ⟨_, rfl⟩
    have CS : ∀ (a : Option Addr) (cap : Nat) (an : Option Addr) (cn : Nat) (W : World), IntRow W a l → IntRow W an ns → ns.length ≤ cn → cn ≤ maxLen → Calls Try.prog 59 #[.agg #[.int .i64 n, .slice a l.length cap], .slice an ns.length cn] W (RetSS W R) := by
      intro a cap an cn W hr hr2 hr3 hr4
      have := specBackGames n a l cap an ns cn W hr HL.out hr2 HN.out hr3 hr4
      rw [← hR] at this
      exact this
    have CI : ∀ (a : Option Addr) (cap : Nat) (an : Option Addr) (cn : Nat) (W : World), IntRow W a l → IntRow W an ns → ns.length ≤ cn → cn ≤ maxLen → Calls Try.prog 33 #[.agg #[.int .i64 n, .slice a l.length cap], .slice an ns.length cn] W (RetSS W R) := by
      intro a cap an cn W hr hr2 hr3 hr4
      have := implBackGames n a l cap an ns cn W hr HL.out hr2 HN.out hr3 hr4
      rw [← hR] at this
      exact this
    rw [← hR] at hRs
    have HRS := Lib.hid hRs
    have hss := hRs.2.2
    have HCS := Lib.hid CS
    have HCI := Lib.hid CI
    obtain ⟨Wa, hWa⟩ : ∃ Wa, Wa = w.alloc (.cells #[.int .i64 n, .slice a l.length cap] 47) := ⟨_, rfl⟩
    have HWa := Lib.hid hWa
    have hba : Below w.heap.size w Wa := by rw [hWa]; exact (Below.refl _ _).alloc (Nat.le_refl _) _
    have sa : Wa.heap.size = w.heap.size + 1 := by rw [hWa]; simp
    have xa : Box Wa w.heap.size 47 (.int .i64 n) (.slice a l.length cap) := by rw [hWa]; exact Box.new _ _ _ _
    have hrowa : IntRow Wa a l := hrow.below hba (Nat.le_refl _)
    clear hl hWa hbig CS CI hR hRs
    go_enter Try.func12, Try.ntmps12
    go_wp2_with fail
    rw [← HWa.out]
    refine (szT n a cap l 1048576 Wa HL.out (by omega) (by omega)).mono ?_
    rintro e w1 ⟨rfl, hb1⟩
    rw [HS.out]
    have xa1 := xa.below hb1 xa.lt
    have c0 := xa1.c0
    have c1 := xa1.c1
    have hrow1 := hrowa.below hb1 (Nat.le_refl _)
    go_wp2_with fail
    refine (toT n a cap l w1 hl20 hrow1).mono ?_
    rintro e w2 ⟨⟨g2, rfl, ho2⟩, hb2⟩
    have B2 := (hba.trans (hb1.mono hba.size)).trans (hb2.mono (hba.trans (hb1.mono hba.size)).size)
    go_wp2_with fail
    refine (toInt an cn ns w2 hns20 (hrn.below B2 (Nat.le_refl _))).mono ?_
    rintro e w2n ⟨⟨g2n, rfl, ho2n⟩, hb2n⟩
    go_wp2_with fail
    refine (HCS.out _ _ _ _ w2n ((IntRow.of_own ho2).below hb2n (Nat.le_refl _)) (IntRow.of_own ho2n) (Nat.le_refl _) HN.out).mono ?_
    rintro e w3 ⟨⟨a0, ca0, gs0, rfl, ho3⟩, hb3⟩
    have hb2' := hb2.trans (hb2n.mono hb2.size)
    have xa3 := (xa1.below hb2' xa1.lt).below hb3 (Nat.lt_of_lt_of_le xa1.lt hb2'.size)
    have hrow3 := (hrow1.below hb2' (Nat.le_refl _)).below hb3 (Nat.le_refl _)
    clear c0 c1 ho2
    have c0 := xa3.c0
    have c1 := xa3.c1
    go_wp2_with fail
    refine (toT n a cap l w3 hl20 hrow3).mono ?_
    rintro e w4 ⟨⟨g4, rfl, ho4⟩, hb4⟩
    obtain ⟨W4, hW4⟩ : ∃ W4, W4 = w4.alloc (.cells #[.int .i64 n, .slice (some ⟨g4, 0, none⟩) l.length l.length] 25) := ⟨_, rfl⟩
    have HW4 := Lib.hid hW4
    have hbW4 : Below w4.heap.size w4 W4 := by rw [hW4]; exact (Below.refl _ _).alloc (Nat.le_refl _) _
    have s4 : W4.heap.size = w4.heap.size + 1 := by rw [hW4]; simp
    have xx : Box W4 w4.heap.size 25 (.int .i64 n) (.slice (some ⟨g4, 0, none⟩) l.length l.length) := by rw [hW4]; exact Box.new _ _ _ _
    have hx4 := (IntRow.of_own ho4).below hbW4 (Nat.le_refl _)
    have BW4 : Below w.heap.size w W4 := by
      have b1 := B2.trans (hb2n.mono B2.size)
      have b2 := b1.trans (hb3.mono b1.size)
      have b4 := b2.trans (hb4.mono b2.size)
      exact b4.trans (hbW4.mono b4.size)
    clear hW4 c0 c1
    go_wp2_with fail
    rw [← HW4.out]
    refine (toInt an cn ns W4 hns20 (hrn.below BW4 (Nat.le_refl _))).mono ?_
    rintro e w4n ⟨⟨gn, rfl, hon⟩, hb4n⟩
    have xx4 := xx.below hb4n xx.lt
    have dd0 := xx4.c0
    have dd1 := xx4.c1
    go_wp2_with fail
    refine (HCI.out _ _ _ _ w4n (hx4.below hb4n (Nat.le_refl _)) (IntRow.of_own hon) (Nat.le_refl _) HN.out).mono ?_
    rintro e w5 ⟨⟨ag, cg, gsg, rfl, ho5⟩, hb5⟩
    have t1 := hb1.size
    have t2 := hb2.size
    have t3 := hb3.size
    have t4 := hb4.size
    have t5 := hb5.size
    have t4n := hb4n.size
    have t2n := hb2n.size
    have tW4 := hbW4.size
    have B1 := hba.trans (hb1.mono hba.size)
    have B2n := B2.trans (hb2n.mono B2.size)
    have B3 := B2n.trans (hb3.mono B2n.size)
    have B5 := B3.trans (hb4.mono B3.size)
    have B6 := B5.trans (hbW4.mono B5.size)
    have B6n := B6.trans (hb4n.mono B6.size)
    have B7 := B6n.trans (hb5.mono B6n.size)
    have st : StS w w5 w4n.heap.size w.heap.size n a cap l w4.heap.size (some ⟨g4, 0, none⟩) l.length l a0 ca0 gs0 R ag cg gsg R := by
      have ho3' := (((ho3.below hb4).below hbW4).below hb4n).below hb5
      refine ⟨B7, hrow, ?_, ?_, ?_, ho3'.mono B2n.size, ho5, ⟨by omega, t5, by omega, by omega⟩, ?_, ?_⟩
      · exact (((xa3.below hb4 xa3.lt).below hbW4 (Nat.lt_of_lt_of_le xa3.lt t4)).below hb4n (by omega)).below hb5 (by omega)
      · exact xx4.below hb5 xx4.lt
      · exact (own_below (own_below (own_below ho4 hbW4) hb4n) hb5).mono B3.size
      · intro k hk
        have h4 := own_blk ho4 hk
        refine ⟨by omega, by omega, by omega, fun e => ?_, fun i hi e => ?_⟩
        · have := (ho3.blkO e).2; omega
        · have := (ho3.blkI i hi).2; omega
      · refine ⟨fun k hk => ?_, fun i hi => ?_⟩
        · have := (ho3.blkO hk).2; omega
        · have := (ho3.blkI i hi).2; omega
    have nx : NxS w w5 w4n.heap.size gn ns.length ns w.heap.size w4.heap.size (some ⟨g4, 0, none⟩) a0 gs0 R.length := by
      have hgn := hon.lt gn rfl
      refine ⟨(own_below hon hb5).mono B6.size, hgn.2, by omega, by omega, fun e => ?_, fun e => ?_, fun i hi e => ?_⟩
      · have := own_blk ho4 e; omega
      · have := (ho3.blkO e).2; omega
      · have := (ho3.blkI i hi).2; omega
    have N5 := Lib.hid nx
    clear nx B2n B6n t4n t2n tW4 hb4n hb2n hb2' dd0 dd1 xx4 hon ho2n BW4
    clear B1 B2 B3 B5 B6 B7 t1 t2 t3 t4 t5 xa xa1 xa3 xx hrowa hrow1 hrow3 hx4 ho3 ho4 ho5 hba hb1 hb2 hb3 hb4 hbW4 hb5 sa s4
    have S5 := Lib.hid st
    clear st
    go_wp2_with fail
    refine (eqSS_1 _ _ _ _ _ _ _ _ R w5 S5.out.rg S5.out.r0 HRS.out).mono ?_
    rintro e w6 ⟨rfl, hb6⟩
    have S6 := Lib.hid (S5.out.kept hb6)
    have N6 := Lib.hid (N5.out.kept hb6)
    clear hb6
    have c0 := S6.out.bA.c0
    have c1 := S6.out.bA.c1
    have d0 := S6.out.bx.c0
    have d1 := S6.out.bx.c1
    go_wp2
    go_region_with (first
      | (go_at_call 46; refine (toT n a cap l w6.drew hl20 S6.out.rA).mono ?_; rintro e w7 ⟨⟨g7, rfl, ho7⟩, hbq⟩; have hb7 : Below w6.heap.size w6 w7 := (Below.refl _ w6).drew.trans hbq; have S7 := Lib.hid (S6.out.kept hb7); have hy7 := IntRow.of_own ho7; have d0 := S7.out.bx.c0; have d1 := S7.out.bx.c1; clear ho7 hbq)
      | (go_at_call 48; refine (eqT_same n _ _ _ _ l _ HL.out (own_int S7.out.rx) hy7).mono ?_; rintro e w8 ⟨rfl, hb8⟩))
    all_goals
      have S8 := Lib.hid (S7.out.kept hb8)
      have N8 := Lib.hid ((N6.out.kept hb7).kept hb8)
      clear hb7 hb8 c0 c1 d0 d1
      try clear hy7
      go_wp2_with fail
      refine (toInt an cn ns w8 hns20 (hrn.below S8.out.hb (Nat.le_refl _))).mono ?_
      rintro e w8a ⟨⟨g8, rfl, ho8⟩, hb8a⟩
      have S8a := Lib.hid (S8.out.kept hb8a)
      have N8a := Lib.hid (N8.out.kept hb8a)
      have hy8 := IntRow.of_own ho8
      clear ho8 hb8a
      go_wp2_with fail
      refine (eqInt_same _ _ _ _ ns w8a HN.out (own_int N8a.out.r1) hy8).mono ?_
      rintro e w8b ⟨rfl, hb8b⟩
      have S8b := Lib.hid (S8a.out.kept hb8b)
      have N8b := Lib.hid (N8a.out.kept hb8b)
      clear hb8b hy8
      have d0 := S8b.out.bx.c0
      have d1 := S8b.out.bx.c1
      go_wp2_with fail
      refine (markT1 n w.heap.size l.length (some ⟨g4, 0, none⟩) l.length (l.map iv) w8b (by omega) S8b.out.hb.size S8b.out.rx).mono ?_
      rintro e w9a ⟨rfl, ho9, hb9, hg9⟩
      have S9a := Lib.hid (S8b.out.markX (X' := marks 1 l.length) (marks_len 1 _) ho9 hb9 hg9)
      have N9a := Lib.hid (N8b.out.grown hg9)
      clear d0 d1 ho9 hb9 hg9
      go_wp2_with fail
      refine (markI2 w.heap.size ns.length l.length (some ⟨gn, 0, none⟩) ns.length (ns.map iv) w9a (by omega) (by omega) N9a.out.r1).mono ?_
      rintro e w9 ⟨⟨kk, rfl, hkk⟩, ⟨Z, hZl, ho9⟩, hb9, hg9⟩
      have S9 := Lib.hid (S9a.out.markN N9a.out hb9 hg9)
      clear ho9 hb9 hg9 hZl
      go_wp2_with fail
      refine (eqSS_1 _ _ _ _ _ _ _ _ R w9 S9.out.rg S9.out.r0 HRS.out).mono ?_
      rintro e w10 ⟨rfl, hb10⟩
      have S10 := Lib.hid (S9.out.kept hb10)
      clear hb10
      go_wp2_with fail
      refine (markSS_1 ag cg w4n.heap.size gsg R w10 S10.out.rg HRS.out).mono ?_
      rintro e w11 ⟨rfl, ho11, hb11⟩
      have S11 := Lib.hid (S10.out.markG ho11 hb11)
      clear ho11 hb11
      have hneg : ¬ ((1 + sumLs R : Nat) : Int) < 0 := by omega
      obtain ⟨Q, hQ⟩ : ∃ Q : Nat, Q = 1 + sumLs R := ⟨_, rfl⟩
      have HQ := Lib.hid hQ
      rw [← hQ] at hneg ⊢
      clear hQ
      go_wp2_with fail
      refine (heldSS_1 ag cg w4n.heap.size gsg R w11 S11.out.rg HRS.out).mono ?_
      rintro e w12 ⟨rfl, hb12⟩
      rw [← HQ.out]
      have S12 := Lib.hid (S11.out.kept hb12)
      clear hb12
      have c0 := S12.out.bA.c0
      have c1 := S12.out.bA.c1
      go_wp2_with fail
      refine (toT n a cap l w12 hl20 S12.out.rA).mono ?_
      rintro e w13 ⟨⟨g13, rfl, ho13⟩, hb13⟩
      have S13 := Lib.hid (S12.out.kept hb13)
      clear c0 c1 hb13
      go_wp2_with fail
      refine (toInt an cn ns w13 hns20 (hrn.below S13.out.hb (Nat.le_refl _))).mono ?_
      rintro e w13a ⟨⟨g13a, rfl, ho13a⟩, hb13a⟩
      have S13a := Lib.hid (S13.out.kept hb13a)
      have hx13 := (IntRow.of_own ho13).below hb13a (Nat.le_refl _)
      clear hb13a
      go_wp2_with fail
      refine (HCI.out _ _ _ _ w13a hx13 (IntRow.of_own ho13a) (Nat.le_refl _) HN.out).mono ?_
      rintro e w14 ⟨⟨ah, ch, gsh, rfl, ho14⟩, hb14⟩
      have S14 := Lib.hid (S13a.out.kept hb14)
      have H14 := Lib.hid ho14
      clear hb14 ho13 ho13a hx13 ho14
      go_wp2_with fail
      refine (eqSS_1 _ _ _ _ _ _ _ _ R w14 H14.out S14.out.r0 HRS.out).mono ?_
      rintro e w16 ⟨rfl, hb16⟩
      have S16 := Lib.hid (S14.out.kept hb16)
      clear hb16 H14
      go_wp2_with fail
      refine (heldSS_1 ag cg w4n.heap.size gsg R w16 S16.out.rg HRS.out).mono ?_
      rintro e w17 ⟨rfl, hb17⟩
      rw [← HQ.out]
      have S17 := Lib.hid (S16.out.kept hb17)
      clear hb17
      go_wp2
      go_ret
      exact ⟨rfl, S17.out.hb⟩
end Go.Proofs.Yteegbkbphfmooaa

namespace Go.Proofs.Yteegbkbphfmooaa.fnExactBackGames
open Go.ChangeShapes Go.WideShapes Go.ChangeAt Go.RowKit
open Go.ChangeMaps (open_string shut_string)
set_option linter.unusedVariables false
set_option maxRecDepth 100000 in
theorem lifted (os : Os) (started : os.Started) (H : Type) (enc : TypeId × Value → H) :
    ReturnsInHanded {} Try.checked os 12 .any (Rows.fnExactBackGamesSpec.pre6 enc Try.prog Try.f12 Rows.fnExactBackGamesRow.domain false) (Rows.fnExactBackGamesSpec.post enc Try.prog Try.f12 false true false false) := by
  refine returnsInHanded_of_change (C := Try.checked) own started (by kernel_rfl) Try.func12
    (ChangeSpec.witness6 (enc := enc) (C := Try.checked) false ⟨#[], #[.agg #[.int .i64 0, .slice none 0 0], .slice none 0 0], []⟩ 8 (by kernel_rfl) (by kernel_rfl) (by kernel_rfl) (by kernel_rfl)) ?_
  intro W base args ds gs before hval0 hW hcnd _
  have hval : ∀ (j : Nat) t v, Try.f12.params[j]? = some t → args[j]? = some v → Value.okWide Try.prog W .any base t v := hval0
  have hW' := hW
  obtain ⟨p, q, hA0, hV, rfl, hfz, hnd⟩ := hW
  have hA : DataW.TrodAll enc Try.prog W 0 (fun _ => true) true Try.f12.params.toList args.toList ds p := hA0
  rw [Try.params12] at hA hval
  obtain ⟨v0, vs0, d0, ds0, p0, q0, hargs, rfl, rfl, h0, r0⟩ := trodAll_cons hA
  obtain ⟨v1, vs1, d1, ds1, p1, q1, rfl, rfl, rfl, h1, r1⟩ := trodAll_cons r0
  obtain ⟨rfl, rfl, rfl⟩ := trodAll_nil r1
  obtain rfl : args = #[v0, v1] := by cases args; simp_all
  obtain ⟨rfl, rfl⟩ := trodVars_none hV
  have k0 := h0
  have lt0 : ∀ x ∈ p0, x.block < W.heap.size := by obtain ⟨m, hm⟩ := k0; exact DataW.trod_lt m _ _ _ hm
  obtain ⟨n0, a0, cap0, l0, rfl, hl0, hr0⟩ := openTour (hval 0 47 v0 rfl rfl) h0
  have k1 := h1
  have lt1 : ∀ x ∈ p1, x.block < W.heap.size := by obtain ⟨m, hm⟩ := k1; exact DataW.trod_lt m _ _ _ hm
  obtain ⟨a1, cap1, l1, rfl, hl1, hr1⟩ := openInts h1 (okWide_slice Try.underlying23 (hval 1 23 v1 rfl rfl))
  clear hA0 hval0
  refine (walkBackGames n0 a0 cap0 l0 a1 cap1 l1 W hl0 hr0 hl1 hr1).mono fun e W' ⟨he, bel⟩ => ?_
  subst he
  exact ⟨_, rfl, _, _, _, [], _, [], hW', trodAll_mk1 (shut_bool Try.underlying4 _), (trodAll_cons_mk (Below.trod laidOut (by kernel_rfl) (of_decide_eq_true (by kernel_rfl)) k0 bel lt0) (trodAll_cons_mk (Below.trod laidOut (by kernel_rfl) (of_decide_eq_true (by kernel_rfl)) k1 bel lt1) trodAll_mk0)), rfl, bel.frame _, fun h => by cases h⟩

theorem proved : Rows.FnExactBackGamesSaid :=
  OpenClaim.holds_of_wide 12 Try.f12 rfl rfl rfl rfl rfl rfl rfl ⟨rfl, rfl, rfl, rfl, rfl⟩ rfl rfl rfl rfl rfl (by kernel_rfl) Try.func12 (by kernel_rfl)
    (of_decide_eq_true (by kernel_rfl)) (by unfold Func.isWrapper; first | (rw [if_pos (by decide +kernel)]; kernel_rfl) | (rw [if_neg (by decide +kernel)]; exact ⟨rfl, rfl⟩))
    (fun os started H enc _ => lifted os started H enc)
end Go.Proofs.Yteegbkbphfmooaa.fnExactBackGames

