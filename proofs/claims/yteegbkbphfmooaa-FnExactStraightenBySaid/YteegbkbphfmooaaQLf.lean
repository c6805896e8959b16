/-
  'FnExactStraightenBy': the program's StraightenBy answers as the model's for every tour and every list, leaves both as they were, and shares no memory with them. No conditions.
-/
import Derived.Test.YteegbkbphfmooaaQr
import Derived.Test.YteegbkbphfmooaaC
import Derived.Test.YteegbkbphfmooaaH
namespace Go.Proofs.Yteegbkbphfmooaa
open Go.ChangeShapes Go.WideShapes Go.ChangeAt Go.RowKit
set_option linter.unusedVariables false

theorem markI2 (B n p : Nat) (a : Option Addr) (cap : Nat) (l : List Value) (w : World) (hn : n ≤ 1048577) (hp : p ≤ 1048577) (hown : w.ownsRow B 3 1 (.slice a n cap) n l) :
    Calls Try.prog 54 #[.slice a n cap, .int .i64 (1 + p)] w fun e w' => (∃ k : Nat, e = .returned (.int .i64 k) ∧ k ≤ 4194304) ∧ (∃ Z : List Int, Z.length = n ∧ w'.ownsRow B 3 1 (.slice a n cap) n (Z.map iv)) ∧ Below B w w' ∧ w.grownBy w' (blk a) := by
  have := markInt B n (1 + p) _ l w hn (by omega) hown
  rw [blk_own] at this
  have e : ((1 + p : Nat) : Int) = 1 + (p : Int) := by omega
  rw [e] at this
  refine this.mono ?_
  rintro e' w' ⟨rfl, ho, hb, hg⟩
  exact ⟨⟨_, rfl, by omega⟩, ⟨_, marks_len _ _, ho⟩, hb, hg⟩

/-- The row of names, beside 'St' and 'Bs'. -/
structure Nx (w W : World) (gn : Nat) (m : Nat) (Z : List Int) (pA px p0 pg : Nat) (a0 ax ag : Option Addr) : Prop where
  r1 : W.ownsRow w.heap.size 3 1 (.slice (some ⟨gn, 0, none⟩) m m) m (Z.map iv)
  nb : gn ≠ pA ∧ gn ≠ px ∧ gn ≠ p0 ∧ gn ≠ pg ∧ blk a0 ≠ some gn ∧ blk ax ≠ some gn ∧ blk ag ≠ some gn
theorem Nx.kept {w W W' : World} {gn m : Nat} {Z : List Int} {pA px p0 pg : Nat} {a0 ax ag : Option Addr} (h : Nx w W gn m Z pA px p0 pg a0 ax ag) (hb : Below W.heap.size W W') : Nx w W' gn m Z pA px p0 pg a0 ax ag := ⟨own_below h.r1 hb, h.nb⟩
theorem Nx.grown {w W W' : World} {gn m : Nat} {Z : List Int} {pA px p0 pg : Nat} {a0 ax ag : Option Addr} (h : Nx w W gn m Z pA px p0 pg a0 ax ag) {row : Option Nat} (hg : W.grownBy W' row) (hr : row = blk ax ∨ row = blk ag) : Nx w W' gn m Z pA px p0 pg a0 ax ag :=
  ⟨own_grown h.r1 hg (fun k hk e => by
    have hkg : k = gn := by simp [blk] at hk; omega
    subst hkg
    rcases hr with h1 | h1
    · exact h.nb.2.2.2.2.2.1 (h1.symm.trans e)
    · exact h.nb.2.2.2.2.2.2 (h1.symm.trans e)), h.nb⟩
theorem St.markN {w W W' : World} {pA : Nat} {n : Int} {a : Option Addr} {cap : Nat} {l : List Int} {px : Nat} {ax : Option Addr} {cx : Nat} {X : List Int} {a0 : Option Addr} {c0 : Nat} {R : List Int} {ag : Option Addr} {cg : Nat} {G : List Int} {gn m : Nat} {Z : List Int} {p0 pg : Nat}
    (h : St w W pA n a cap l px ax cx X a0 c0 R ag cg G) (hn : Nx w W gn m Z pA px p0 pg a0 ax ag) (hb : Below w.heap.size W W') (hg : W.grownBy W' (some gn)) : St w W' pA n a cap l px ax cx X a0 c0 R ag cg G :=
  ⟨h.hb.trans hb, h.hr, h.bA.grown hg (fun e => hn.nb.1 (by simpa using e)), h.bx.grown hg (fun e => hn.nb.2.1 (by simpa using e)), own_grown h.rx hg (fun k hk e => hn.nb.2.2.2.2.2.1 (by rw [hk, ← e])), own_grown h.r0 hg (fun k hk e => hn.nb.2.2.2.2.1 (by rw [hk, ← e])), own_grown h.rg hg (fun k hk e => hn.nb.2.2.2.2.2.2 (by rw [hk, ← e])), h.nx, h.ng⟩
theorem Bs.markN {w W W' : World} {p0 pg : Nat} {rn : Int} {a0 : Option Addr} {c0 m0 : Nat} {ag : Option Addr} {cg mg : Nat} {ax : Option Addr} {gn m : Nat} {Z : List Int} {pA px : Nat}
    (h : Bs W p0 pg rn a0 c0 m0 ag cg mg ax) (hn : Nx w W gn m Z pA px p0 pg a0 ax ag) (hg : W.grownBy W' (some gn)) : Bs W' p0 pg rn a0 c0 m0 ag cg mg ax :=
  ⟨h.b0.grown hg (fun e => hn.nb.2.2.1 (by simpa using e)), h.bg.grown hg (fun e => hn.nb.2.2.2.1 (by simpa using e)), h.n0⟩

set_option maxHeartbeats 1000000 in
theorem walkStraightenBy (n : Int) (a : Option Addr) (cap : Nat) (l : List Int) (an : Option Addr) (cn : Nat) (ns : List Int) (w : World) (hl : l.length ≤ maxLen) (hrow : IntRow w a l) (hn : ns.length ≤ maxLen) (hrn : IntRow w an ns) :
    Calls Try.prog 13 #[.agg #[.int .i64 n, .slice a l.length cap], .slice an ns.length cn] w fun e w' => e = .returned (.bool true) ∧ Below w.heap.size w w' := by
  have HL := Lib.hid hl
  have HN := Lib.hid hn
  by_cases hbn : (1048576 : Int) < ns.length
  · unfold maxLen at hn
    clear hl
    go_enter Try.func13, Try.ntmps13
    go_wp2
    go_ret
    exact ⟨rfl, (Below.refl _ _).alloc (Nat.le_refl _) _⟩
  have hns20 : ns.length ≤ 1048576 := by omega
  have hnm : ns.length ≤ 9223372036854775807 := by omega
  clear hn
  by_cases hbig : (1048576 : Int) < l.length
  · have HS : Hid (szR 1048576 l = -1) := if_pos hbig
    clear hl
    go_enter Try.func13, Try.ntmps13
    go_wp2_with fail
    refine (szT n a cap l 1048576 _ HL.out (by omega) (by omega)).mono ?_
    rintro e w1 ⟨rfl, hb⟩
    rw [HS.out]
    go_wp2
    go_ret
    exact ⟨rfl, (((Below.refl _ _).alloc (Nat.le_refl _) _).trans (hb.mono (by simp)))⟩
  · have HS : Hid (szR 1048576 l = 1048576 - l.length) := if_neg hbig
    have hl20 : l.length ≤ 1048576 := by omega
    have hsz0 : ¬ (1048576 : Int) - l.length < 0 := by omega
    have hRl := stR_le n l ns
    obtain ⟨R, hR⟩ : ∃ R : List Int, R = stR n l ns := ⟨_, rfl⟩
    obtain ⟨rn, hrn⟩ : ∃ rn : Int, rn = stN n l ns := ⟨_, rfl⟩
    obtain ⟨rb, hrb⟩ : ∃ rb : Bool, rb = renB n l ns := ⟨_, rfl⟩
    have CS : ∀ (a : Option Addr) (cap : Nat) (an : Option Addr) (cn : Nat) (W : World), IntRow W a l → IntRow W an ns → ns.length ≤ cn → cn ≤ maxLen → Calls Try.prog 63 #[.agg #[.int .i64 n, .slice a l.length cap], .slice an ns.length cn] W fun e w' => (∃ a0 c0, e = .returned (.tuple #[.agg #[.int .i64 rn, .slice a0 R.length c0], .bool rb]) ∧ w'.ownsRow W.heap.size 3 1 (.slice a0 R.length c0) R.length (R.map iv)) ∧ Below W.heap.size W w' := by
      intro a cap an cn W hr hr2 hr3 hr4
      have := specStraightenBy n a l cap an ns cn W hr HL.out hr2 HN.out hr3 hr4
      rw [← hR, ← hrn, ← hrb] at this
      exact this
    have CI : ∀ (a : Option Addr) (cap : Nat) (an : Option Addr) (cn : Nat) (W : World), IntRow W a l → IntRow W an ns → ns.length ≤ cn → cn ≤ maxLen → Calls Try.prog 32 #[.agg #[.int .i64 n, .slice a l.length cap], .slice an ns.length cn] W fun e w' => (∃ a0 c0, e = .returned (.tuple #[.agg #[.int .i64 rn, .slice a0 R.length c0], .bool rb]) ∧ w'.ownsRow W.heap.size 3 1 (.slice a0 R.length c0) R.length (R.map iv)) ∧ Below W.heap.size W w' := by
      intro a cap an cn W hr hr2 hr3 hr4
      have := implStraightenBy n a l cap an ns cn W hr HL.out hr2 HN.out hr3 hr4
      rw [← hR, ← hrn, ← hrb] at this
      exact this
    rw [← hR] at hRl
    have hRm : R.length ≤ maxLen := by unfold maxLen; omega
    have HRM := Lib.hid hRm
    have HCS := Lib.hid CS
    have HCI := Lib.hid CI
    obtain ⟨Wa, hWa⟩ : ∃ Wa, Wa = w.alloc (.cells #[.int .i64 n, .slice a l.length cap] 47) := ⟨_, rfl⟩
    have HWa := Lib.hid hWa
    have hba : Below w.heap.size w Wa := by rw [hWa]; exact (Below.refl _ _).alloc (Nat.le_refl _) _
    have sa : Wa.heap.size = w.heap.size + 1 := by rw [hWa]; simp
    have xa : Box Wa w.heap.size 47 (.int .i64 n) (.slice a l.length cap) := by rw [hWa]; exact Box.new _ _ _ _
    have hrowa : IntRow Wa a l := hrow.below hba (Nat.le_refl _)
    clear hl hWa hbig CS CI hR hRm hrn hrb
    go_enter Try.func13, Try.ntmps13
    go_wp2_with fail
    rw [← HWa.out]
    refine (szT n a cap l 1048576 Wa HL.out (by omega) (by omega)).mono ?_
    rintro e w1 ⟨rfl, hb1⟩
    rw [HS.out]
    have xa1 := xa.below hb1 xa.lt
    have c0 := xa1.c0
    have c1 := xa1.c1
    have hrow1 := hrowa.below hb1 (Nat.le_refl _)
    go_wp2_with fail
    refine (toT n a cap l w1 hl20 hrow1).mono ?_
    rintro e w2 ⟨⟨g2, rfl, ho2⟩, hb2⟩
    have B2 := (hba.trans (hb1.mono hba.size)).trans (hb2.mono (hba.trans (hb1.mono hba.size)).size)
    go_wp2_with fail
    refine (toInt an cn ns w2 hns20 (hrn.below B2 (Nat.le_refl _))).mono ?_
    rintro e w2n ⟨⟨g2n, rfl, ho2n⟩, hb2n⟩
    go_wp2_with fail
    refine (HCS.out _ _ _ _ w2n ((IntRow.of_own ho2).below hb2n (Nat.le_refl _)) (IntRow.of_own ho2n) (Nat.le_refl _) HN.out).mono ?_
    rintro e w3 ⟨⟨a0, ca0, rfl, ho3⟩, hb3⟩
    obtain ⟨W3, hW3⟩ : ∃ W3, W3 = w3.alloc (.cells #[.int .i64 rn, .slice a0 R.length ca0] 25) := ⟨_, rfl⟩
    have HW3 := Lib.hid hW3
    have hbW3 : Below w3.heap.size w3 W3 := by rw [hW3]; exact (Below.refl _ _).alloc (Nat.le_refl _) _
    have s3 : W3.heap.size = w3.heap.size + 1 := by rw [hW3]; simp
    have xp0 : Box W3 w3.heap.size 25 (.int .i64 rn) (.slice a0 R.length ca0) := by rw [hW3]; exact Box.new _ _ _ _
    clear hW3
    have hb2' := hb2.trans (hb2n.mono hb2.size)
    have xa3w := (xa1.below hb2' xa1.lt).below hb3 (Nat.lt_of_lt_of_le xa1.lt hb2'.size)
    have xa3 := xa3w.below hbW3 xa3w.lt
    have hrow3 := ((hrow1.below hb2' (Nat.le_refl _)).below hb3 (Nat.le_refl _)).below hbW3 (Nat.le_refl _)
    clear c0 c1 ho2
    have c0 := xa3.c0
    have c1 := xa3.c1
    rw [HW3.out] at c0 c1
    go_wp2_with fail
    rw [← HW3.out]
    refine (toT n a cap l W3 hl20 hrow3).mono ?_
    rintro e w4 ⟨⟨g4, rfl, ho4⟩, hb4⟩
    obtain ⟨W4, hW4⟩ : ∃ W4, W4 = w4.alloc (.cells #[.int .i64 n, .slice (some ⟨g4, 0, none⟩) l.length l.length] 25) := ⟨_, rfl⟩
    have HW4 := Lib.hid hW4
    have hbW4 : Below w4.heap.size w4 W4 := by rw [hW4]; exact (Below.refl _ _).alloc (Nat.le_refl _) _
    have s4 : W4.heap.size = w4.heap.size + 1 := by rw [hW4]; simp
    have xx : Box W4 w4.heap.size 25 (.int .i64 n) (.slice (some ⟨g4, 0, none⟩) l.length l.length) := by rw [hW4]; exact Box.new _ _ _ _
    have hx4 := (IntRow.of_own ho4).below hbW4 (Nat.le_refl _)
    have BW4 : Below w.heap.size w W4 := by
      have b1 := B2.trans (hb2n.mono B2.size)
      have b2 := b1.trans (hb3.mono b1.size)
      have b3 := b2.trans (hbW3.mono b2.size)
      have b4 := b3.trans (hb4.mono b3.size)
      exact b4.trans (hbW4.mono b4.size)
    clear hW4 c0 c1
    go_wp2_with fail
    rw [← HW4.out]
    refine (toInt an cn ns W4 hns20 (hrn.below BW4 (Nat.le_refl _))).mono ?_
    rintro e w4n ⟨⟨gn, rfl, hon⟩, hb4n⟩
    have xx4 := xx.below hb4n xx.lt
    have dd0 := xx4.c0
    have dd1 := xx4.c1
    go_wp2_with fail
    refine (HCI.out _ _ _ _ w4n (hx4.below hb4n (Nat.le_refl _)) (IntRow.of_own hon) (Nat.le_refl _) HN.out).mono ?_
    rintro e w5 ⟨⟨ag, cg, rfl, ho5⟩, hb5⟩
    obtain ⟨W5, hW5⟩ : ∃ W5, W5 = w5.alloc (.cells #[.int .i64 rn, .slice ag R.length cg] 25) := ⟨_, rfl⟩
    have HW5 := Lib.hid hW5
    have hbW5 : Below w5.heap.size w5 W5 := by rw [hW5]; exact (Below.refl _ _).alloc (Nat.le_refl _) _
    have xpg : Box W5 w5.heap.size 25 (.int .i64 rn) (.slice ag R.length cg) := by rw [hW5]; exact Box.new _ _ _ _
    clear hW5
    have t1 := hb1.size
    have t2 := hb2.size
    have t3 := hb3.size
    have t4 := hb4.size
    have t4n := hb4n.size
    have t2n := hb2n.size
    have t5 := hb5.size
    have t6 := hbW5.size
    have B1 := hba.trans (hb1.mono hba.size)
    have B2n := B2.trans (hb2n.mono B2.size)
    have B3 := B2n.trans (hb3.mono B2n.size)
    have B4 := B3.trans (hbW3.mono B3.size)
    have B5 := B4.trans (hb4.mono B4.size)
    have B6 := B5.trans (hbW4.mono B5.size)
    have B6n := B6.trans (hb4n.mono B6.size)
    have B7 := B6n.trans (hb5.mono B6n.size)
    have B8 := B7.trans (hbW5.mono B7.size)
    have st : St w W5 w.heap.size n a cap l w4.heap.size (some ⟨g4, 0, none⟩) l.length l a0 ca0 R ag cg R := by
      refine ⟨B8, hrow, ?_, ?_, ?_, ?_, ?_, ?_, ?_⟩
      · exact ((((xa3.below hb4 xa3.lt).below hbW4 (Nat.lt_of_lt_of_le xa3.lt t4)).below hb4n (by omega)).below hb5 (by omega)).below hbW5 (by omega)
      · exact (xx4.below hb5 xx4.lt).below hbW5 (by omega)
      · exact (own_below (own_below (own_below (own_below ho4 hbW4) hb4n) hb5) hbW5).mono B4.size
      · exact (own_below (own_below (own_below (own_below (own_below (own_below ho3 hbW3) hb4) hbW4) hb4n) hb5) hbW5).mono B2n.size
      · exact (own_below ho5 hbW5).mono B6n.size
      · intro k hk
        have h4 := own_blk ho4 hk
        refine ⟨by omega, by omega, fun e => ?_, fun e => ?_⟩
        · have := own_blk ho3 e; omega
        · have := own_blk ho5 e; omega
      · intro k hk
        have h5 := own_blk ho5 hk
        refine ⟨by omega, by omega, fun e => ?_, fun e => ?_⟩
        · have := own_blk ho3 e; omega
        · have := own_blk ho4 e; omega
    have y0 := (((xp0.below hb4 xp0.lt).below hbW4 (by omega)).below hb4n (by omega)).below hb5 (by omega)
    have bs : Bs W5 w3.heap.size w5.heap.size rn a0 ca0 R.length ag cg R.length (some ⟨g4, 0, none⟩) := by
      refine ⟨((((xp0.below hb4 xp0.lt).below hbW4 (by omega)).below hb4n (by omega)).below hb5 (by omega)).below hbW5 (by omega), xpg, ?_⟩
      intro k hk
      rcases hk with hk | hk
      · have := own_blk ho4 hk; omega
      · have := own_blk ho5 hk; omega
    have nx : Nx w W5 gn ns.length ns w.heap.size w4.heap.size w3.heap.size w5.heap.size a0 (some ⟨g4, 0, none⟩) ag := by
      have hgn := hon.lt gn rfl
      refine ⟨(own_below (own_below hon hb5) hbW5).mono B6.size, by omega, by omega, by omega, by omega, fun e => ?_, fun e => ?_, fun e => ?_⟩
      · have := own_blk ho3 e; omega
      · have := own_blk ho4 e; omega
      · have := own_blk ho5 e; omega
    have N5 := Lib.hid nx
    clear nx B2n B6n t4n t2n hb4n hb2n hb2' dd0 dd1 xx4 hon ho2n BW4
    clear xa3w B1 B2 B3 B4 B5 B6 B7 B8 t1 t2 t3 t4 t5 t6 xa xa1 xa3 xx hrowa hrow1 hrow3 hx4 ho3 ho4 ho5 hba hb1 hb2 hb3 hbW3 hb4 hbW4 hb5 hbW5 sa s3 s4 xp0 xpg
    have S5 := Lib.hid st
    have B5 := Lib.hid bs
    clear bs
    have e0 := B5.out.b0.c0
    have e1 := B5.out.b0.c1
    rw [HW5.out] at e0 e1
    clear y0
    clear st
    go_wp2_with fail
    rw [← HW5.out]
    refine (eqT_same rn _ _ _ _ R W5 HRM.out (own_int S5.out.rg) (own_int S5.out.r0)).mono ?_
    rintro e w6 ⟨rfl, hb6⟩
    have S6 := Lib.hid (S5.out.kept hb6)
    have N6 := Lib.hid (N5.out.kept hb6)
    have B6 := Lib.hid (B5.out.kept hb6)
    clear e0 e1
    clear hb6
    have c0 := S6.out.bA.c0
    have c1 := S6.out.bA.c1
    have d0 := S6.out.bx.c0
    have d1 := S6.out.bx.c1
    go_wp2
    go_region_with (first
      | (go_at_call 46; refine (toT n a cap l w6.drew hl20 S6.out.rA).mono ?_; rintro e w7 ⟨⟨g7, rfl, ho7⟩, hbq⟩; have hb7 : Below w6.heap.size w6 w7 := (Below.refl _ w6).drew.trans hbq; have S7 := Lib.hid (S6.out.kept hb7); have hy7 := IntRow.of_own ho7; have d0 := S7.out.bx.c0; have d1 := S7.out.bx.c1; clear ho7 hbq)
      | (go_at_call 48; refine (eqT_same n _ _ _ _ l _ HL.out (own_int S7.out.rx) hy7).mono ?_; rintro e w8 ⟨rfl, hb8⟩))
    all_goals
      have S8 := Lib.hid (S7.out.kept hb8)
      have N8 := Lib.hid ((N6.out.kept hb7).kept hb8)
      have B8 := Lib.hid ((B6.out.kept hb7).kept hb8)
      clear hb7 hb8 c0 c1 d0 d1
      try clear hy7
      go_wp2_with fail
      refine (toInt an cn ns w8 hns20 (hrn.below S8.out.hb (Nat.le_refl _))).mono ?_
      rintro e w8a ⟨⟨g8, rfl, ho8⟩, hb8a⟩
      have S8a := Lib.hid (S8.out.kept hb8a)
      have B8a := Lib.hid (B8.out.kept hb8a)
      have N8a := Lib.hid (N8.out.kept hb8a)
      have hy8 := IntRow.of_own ho8
      clear ho8 hb8a
      go_wp2_with fail
      refine (eqInt_same _ _ _ _ ns w8a HN.out (own_int N8a.out.r1) hy8).mono ?_
      rintro e w8b ⟨rfl, hb8b⟩
      have S8b := Lib.hid (S8a.out.kept hb8b)
      have B8b := Lib.hid (B8a.out.kept hb8b)
      have N8b := Lib.hid (N8a.out.kept hb8b)
      clear hb8b hy8
      have d0 := S8b.out.bx.c0
      have d1 := S8b.out.bx.c1
      go_wp2_with fail
      refine (markT1 n w.heap.size l.length (some ⟨g4, 0, none⟩) l.length (l.map iv) w8b (by omega) S8b.out.hb.size S8b.out.rx).mono ?_
      rintro e w9a ⟨rfl, ho9, hb9, hg9⟩
      have S9a := Lib.hid (S8b.out.markX (X' := marks 1 l.length) (marks_len 1 _) ho9 hb9 hg9)
      have B9a := Lib.hid (B8b.out.grown hg9 (.inl rfl))
      have N9a := Lib.hid (N8b.out.grown hg9 (.inl rfl))
      clear d0 d1 ho9 hb9 hg9
      go_wp2_with fail
      refine (markI2 w.heap.size ns.length l.length (some ⟨gn, 0, none⟩) ns.length (ns.map iv) w9a (by omega) (by omega) N9a.out.r1).mono ?_
      rintro e w9 ⟨⟨kk, rfl, hkk⟩, ⟨Z, hZl, ho9⟩, hb9, hg9⟩
      have S9 := Lib.hid (S9a.out.markN N9a.out hb9 hg9)
      have B9 := Lib.hid (B9a.out.markN N9a.out hg9)
      clear ho9 hb9 hg9 hZl
      have e0 := B9.out.b0.c0
      have e1 := B9.out.b0.c1
      have e2 := B9.out.bg.c0
      have e3 := B9.out.bg.c1
      go_wp2_with fail
      refine (eqT_same rn _ _ _ _ R w9 HRM.out (own_int S9.out.rg) (own_int S9.out.r0)).mono ?_
      rintro e w10 ⟨rfl, hb10⟩
      have S10 := Lib.hid (S9.out.kept hb10)
      have B10 := Lib.hid (B9.out.kept hb10)
      clear e0 e1 e2 e3
      clear hb10
      have e2 := B10.out.bg.c0
      have e3 := B10.out.bg.c1
      go_wp2_with fail
      refine (markT1 rn w.heap.size R.length ag cg (R.map iv) w10 (by omega) S10.out.hb.size S10.out.rg).mono ?_
      rintro e w11 ⟨rfl, ho11, hb11, hg11⟩
      have S11 := Lib.hid (S10.out.markG (G' := marks 1 R.length) (marks_len 1 _) ho11 hb11 hg11)
      have hG : Hid ((marks 1 R.length).length = R.length) := marks_len 1 _
      have B11 := Lib.hid (B10.out.grown hg11 (.inr rfl))
      clear e2 e3
      clear ho11 hb11 hg11
      have e2 := B11.out.bg.c0
      have e3 := B11.out.bg.c1
      go_wp2_with fail
      refine (heldT1 rn w.heap.size R.length ag cg w11 (by omega) (by have := S11.out.rg; rw [hG.out] at this; exact this)).mono ?_
      rintro e w12 ⟨rfl, hb12⟩
      have S12 := Lib.hid (S11.out.kept hb12)
      have B12 := Lib.hid (B11.out.kept hb12)
      clear e2 e3
      clear hb12
      have c0 := S12.out.bA.c0
      have c1 := S12.out.bA.c1
      go_wp2_with fail
      refine (toT n a cap l w12 hl20 S12.out.rA).mono ?_
      rintro e w13 ⟨⟨g13, rfl, ho13⟩, hb13⟩
      have S13 := Lib.hid (S12.out.kept hb13)
      have B13 := Lib.hid (B12.out.kept hb13)
      clear c0 c1 hb13
      go_wp2_with fail
      refine (toInt an cn ns w13 hns20 (hrn.below S13.out.hb (Nat.le_refl _))).mono ?_
      rintro e w13a ⟨⟨g13a, rfl, ho13a⟩, hb13a⟩
      have S13a := Lib.hid (S13.out.kept hb13a)
      have B13a := Lib.hid (B13.out.kept hb13a)
      have hx13 := (IntRow.of_own ho13).below hb13a (Nat.le_refl _)
      clear hb13a
      go_wp2_with fail
      refine (HCI.out _ _ _ _ w13a hx13 (IntRow.of_own ho13a) (Nat.le_refl _) HN.out).mono ?_
      rintro e w14 ⟨⟨ah, ch, rfl, ho14⟩, hb14⟩
      have S14 := Lib.hid (S13a.out.kept hb14)
      have B14 := Lib.hid (B13a.out.kept hb14)
      obtain ⟨W14, hW14⟩ : ∃ W14, W14 = w14.alloc (.cells #[.int .i64 rn, .slice ah R.length ch] 25) := ⟨_, rfl⟩
      have HW14 := Lib.hid hW14
      have hbW14 : Below w14.heap.size w14 W14 := by rw [hW14]; exact (Below.refl _ _).alloc (Nat.le_refl _) _
      have xh : Box W14 w14.heap.size 25 (.int .i64 rn) (.slice ah R.length ch) := by rw [hW14]; exact Box.new _ _ _ _
      have hh14 := (own_int ho14).below hbW14 (Nat.le_refl _)
      have S15 := Lib.hid (S14.out.kept hbW14)
      have B15 := Lib.hid (B14.out.kept hbW14)
      have e0 := B15.out.b0.c0
      have e1 := B15.out.b0.c1
      rw [HW14.out] at e0 e1
      clear hW14 hbW14 hb14 ho13 ho13a hx13 ho14 xh
      go_wp2_with fail
      rw [← HW14.out]
      refine (eqT_same rn _ _ _ _ R W14 HRM.out hh14 (own_int S15.out.r0)).mono ?_
      rintro e w16 ⟨rfl, hb16⟩
      have S16 := Lib.hid (S15.out.kept hb16)
      have B16 := Lib.hid (B15.out.kept hb16)
      clear e0 e1 hb16 hh14
      have e2 := B16.out.bg.c0
      have e3 := B16.out.bg.c1
      go_wp2_with fail
      refine (heldT1 rn w.heap.size R.length ag cg w16 (by omega) (by have := S16.out.rg; rw [hG.out] at this; exact this)).mono ?_
      rintro e w17 ⟨rfl, hb17⟩
      have S17 := Lib.hid (S16.out.kept hb17)
      clear hb17
      go_wp2
      go_ret
      exact ⟨rfl, S17.out.hb⟩

end Go.Proofs.Yteegbkbphfmooaa

namespace Go.Proofs.Yteegbkbphfmooaa.fnExactStraightenBy
open Go.ChangeShapes Go.WideShapes Go.ChangeAt Go.RowKit
open Go.ChangeMaps (open_string shut_string)
set_option linter.unusedVariables false
set_option maxRecDepth 100000 in
theorem lifted (os : Os) (started : os.Started) (H : Type) (enc : TypeId × Value → H) :
    ReturnsInHanded {} Try.checked os 13 .any (Rows.fnExactStraightenBySpec.pre6 enc Try.prog Try.f13 Rows.fnExactStraightenByRow.domain false) (Rows.fnExactStraightenBySpec.post enc Try.prog Try.f13 false true false false) := by
  refine returnsInHanded_of_change (C := Try.checked) own started (by kernel_rfl) Try.func13
    (ChangeSpec.witness6 (enc := enc) (C := Try.checked) false ⟨#[], #[.agg #[.int .i64 0, .slice none 0 0], .slice none 0 0], []⟩ 8 (by kernel_rfl) (by kernel_rfl) (by kernel_rfl) (by kernel_rfl)) ?_
  intro W base args ds gs before hval0 hW hcnd _
  have hval : ∀ (j : Nat) t v, Try.f13.params[j]? = some t → args[j]? = some v → Value.okWide Try.prog W .any base t v := hval0
  have hW' := hW
  obtain ⟨p, q, hA0, hV, rfl, hfz, hnd⟩ := hW
  have hA : DataW.TrodAll enc Try.prog W 0 (fun _ => true) true Try.f13.params.toList args.toList ds p := hA0
  rw [Try.params13] at hA hval
  obtain ⟨v0, vs0, d0, ds0, p0, q0, hargs, rfl, rfl, h0, r0⟩ := trodAll_cons hA
  obtain ⟨v1, vs1, d1, ds1, p1, q1, rfl, rfl, rfl, h1, r1⟩ := trodAll_cons r0
  obtain ⟨rfl, rfl, rfl⟩ := trodAll_nil r1
  obtain rfl : args = #[v0, v1] := by cases args; simp_all
  obtain ⟨rfl, rfl⟩ := trodVars_none hV
  have k0 := h0
  have lt0 : ∀ x ∈ p0, x.block < W.heap.size := by obtain ⟨m, hm⟩ := k0; exact DataW.trod_lt m _ _ _ hm
  obtain ⟨n0, a0, cap0, l0, rfl, hl0, hr0⟩ := openTour (hval 0 47 v0 rfl rfl) h0
  have k1 := h1
  have lt1 : ∀ x ∈ p1, x.block < W.heap.size := by obtain ⟨m, hm⟩ := k1; exact DataW.trod_lt m _ _ _ hm
  obtain ⟨a1, cap1, l1, rfl, hl1, hr1⟩ := openInts h1 (okWide_slice Try.underlying23 (hval 1 23 v1 rfl rfl))
  clear hA0 hval0
  refine (walkStraightenBy n0 a0 cap0 l0 a1 cap1 l1 W hl0 hr0 hl1 hr1).mono fun e W' ⟨he, bel⟩ => ?_
  subst he
  exact ⟨_, rfl, _, _, _, [], _, [], hW', trodAll_mk1 (shut_bool Try.underlying4 _), (trodAll_cons_mk (Below.trod laidOut (by kernel_rfl) (of_decide_eq_true (by kernel_rfl)) k0 bel lt0) (trodAll_cons_mk (Below.trod laidOut (by kernel_rfl) (of_decide_eq_true (by kernel_rfl)) k1 bel lt1) trodAll_mk0)), rfl, bel.frame _, fun h => by cases h⟩

theorem proved : Rows.FnExactStraightenBySaid :=
  OpenClaim.holds_of_wide 13 Try.f13 rfl rfl rfl rfl rfl rfl rfl ⟨rfl, rfl, rfl, rfl, rfl⟩ rfl rfl rfl rfl rfl (by kernel_rfl) Try.func13 (by kernel_rfl)
    (of_decide_eq_true (by kernel_rfl)) (by unfold Func.isWrapper; first | (rw [if_pos (by decide +kernel)]; kernel_rfl) | (rw [if_neg (by decide +kernel)]; exact ⟨rfl, rfl⟩))
    (fun os started H enc _ => lifted os started H enc)
end Go.Proofs.Yteegbkbphfmooaa.fnExactStraightenBy

