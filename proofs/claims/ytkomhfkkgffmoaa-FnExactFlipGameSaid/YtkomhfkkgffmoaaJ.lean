/-
  'FnExactFlipGame': the program's FlipGame answers as the model's for every tour and all numbers, leaves the tour as it was, and shares no memory with it. No conditions.
-/
import Derived.Test.YtkomhfkkgffmoaaI
namespace Go.Proofs.Ytkomhfkkgffmoaa
open Go.ChangeShapes Go.WideShapes Go.ChangeAt Go.RowKit
set_option linter.unusedVariables false

theorem flipR_le (n : Int) (l : List Int) (p q : Int) : (flipR n l p q).length ≤ 8 := by
  unfold flipR
  cases h : flipB n l p q
  · simp
  · unfold flipB at h
    simp only [Bool.and_eq_true] at h
    have hk := okB_iff.1 h.1.1.1
    have h1 := hk.2.1
    have h2 := hk.2.2.1
    simp [flipL, flipAt_len]
    omega

set_option maxHeartbeats 1000000 in
theorem specFlip (n : Int) (a : Option Addr) (l : List Int) (cap : Nat) (p q : Int) (w : World) (hrow : IntRow w a l) (hl : l.length ≤ maxLen) :
    Calls Try.prog 34 #[.agg #[.int .i64 n, .slice a l.length cap], .int .i64 p, .int .i64 q] w fun e w' => (∃ a0 c0, e = .returned (.tuple #[.agg #[.int .i64 (flipN n l p q), .slice a0 (flipR n l p q).length c0], .bool (flipB n l p q)]) ∧ w'.ownsRow w.heap.size 3 1 (.slice a0 (flipR n l p q).length c0) (flipR n l p q).length ((flipR n l p q).map iv)) ∧ Below w.heap.size w w' := by
  obtain ⟨Wb, hWb⟩ : ∃ Wb, Wb = w.alloc (.cells #[.int .i64 n, .slice a l.length cap] 27) := ⟨_, rfl⟩
  obtain ⟨Wa, hWa⟩ : ∃ Wa, Wa = Wb.alloc (.cells #[.int .i64 0, .slice none 0 0] 27) := ⟨_, rfl⟩
  have sb : Wb.heap.size = w.heap.size + 1 := by rw [hWb]; simp
  have sa : Wa.heap.size = w.heap.size + 1 + 1 := by rw [hWa]; simp [sb]
  have hbb : Below w.heap.size w Wb := by rw [hWb]; exact (Below.refl _ _).alloc (Nat.le_refl _) _
  have hba : Below w.heap.size w Wa := by rw [hWa]; exact hbb.alloc hbb.size _
  have xt : Box Wa w.heap.size 27 (.int .i64 n) (.slice a l.length cap) := by
    rw [hWa]; exact (show Box Wb w.heap.size 27 (.int .i64 n) (.slice a l.length cap) by rw [hWb]; exact Box.new _ _ _ _).below ((Below.refl Wb.heap.size Wb).alloc (Nat.le_refl _) _) (by omega)
  have xr : Box Wa (w.heap.size + 1) 27 (.int .i64 0) (.slice none 0 0) := by rw [hWa, ← sb]; exact Box.new _ _ _ _
  have HWa : Hid (Wa = (w.alloc (.cells #[.int .i64 n, .slice a l.length cap] 27)).alloc (.cells #[.int .i64 0, .slice none 0 0] 27)) := by rw [hWa, hWb]; exact rfl
  have hrowa : IntRow Wa a l := hrow.below hba (Nat.le_refl _)
  have HL := Lib.hid hl
  clear hl hrow hWa hWb hbb
  cases hok : (okB n l && pl n p)
  · have HO := Lib.hid hok
    have HE : Hid (flipB n l p q = false) := by show _ = _; unfold flipB; rw [hok]; rfl
    clear hok
    go_enter Try.func34, Try.ntmps34
    go_wp2_with fail
    rw [← HWa.out]
    refine (specPlayer n a l cap p Wa hrowa HL.out).mono ?_
    rintro e w1 ⟨rfl, hb1⟩
    rw [HO.out]
    have B1 := hba.trans (hb1.mono hba.size)
    have xr1 := xr.below hb1 xr.lt
    have xt1 := xt.below hb1 xt.lt
    have hrow1 := hrowa.below hb1 (Nat.le_refl _)
    clear xr xt hrowa
    have c0 := xr1.c0
    have c1 := xr1.c1
    have f0 := xr1.f0
    have f1 := xr1.f1
    have X := Lib.hid xr1
    have BB := Lib.hid (B1)
    clear xr1
    go_wp2
    refine bodyPost_ret (v := .tuple #[.agg #[.int .i64 0, .slice none 0 0], .bool false]) (Box.res2 rfl _ rfl rfl ((X.out.set0 _).set1 _)) rfl ?_
    refine ⟨⟨none, 0, ?_, ?_⟩, ?_⟩
    · unfold flipN flipR; rw [HE.out]; rfl
    · unfold flipR; rw [HE.out]; exact World.ownsRow_nil _ _ _ _
    · exact (BB.out.setCell (p := ⟨w.heap.size + 1, 0, none⟩) (Nat.le_succ _) _).setCell (p := ⟨w.heap.size + 1, 1, none⟩) (Nat.le_succ _) _
  have HO := Lib.hid hok
  have hok1 := (Bool.and_eq_true_iff.1 hok).1
  have hp := (Bool.and_eq_true_iff.1 hok).2
  have HK : Hid (Ok n l) := okB_iff.1 hok1
  have hn1 := HK.out.1
  have hn8 := HK.out.2.1
  cases hq : pl n q
  · have HQ := Lib.hid hq
    have HE : Hid (flipB n l p q = false) := by show _ = _; unfold flipB; rw [hq]; simp
    clear hok hok1 hp hq
    go_enter Try.func34, Try.ntmps34
    go_wp2_with fail
    rw [← HWa.out]
    refine (specPlayer n a l cap p Wa hrowa HL.out).mono ?_
    rintro e w1 ⟨rfl, hb1⟩
    rw [HO.out]
    have B1 := hba.trans (hb1.mono hba.size)
    have xr1 := xr.below hb1 xr.lt
    have xt1 := xt.below hb1 xt.lt
    have hrow1 := hrowa.below hb1 (Nat.le_refl _)
    clear xr xt hrowa
    have c0 := xt1.c0
    go_wp2_with fail
    refine (l01In_any _ _ _ _).mono ?_
    rintro e w' ⟨rfl, rfl⟩
    rw [pl_le, HQ.out]
    clear c0
    have c0 := xr1.c0
    have c1 := xr1.c1
    have f0 := xr1.f0
    have f1 := xr1.f1
    have X := Lib.hid xr1
    have BB := Lib.hid (B1)
    clear xr1
    go_wp2
    refine bodyPost_ret (v := .tuple #[.agg #[.int .i64 0, .slice none 0 0], .bool false]) (Box.res2 rfl _ rfl rfl ((X.out.set0 _).set1 _)) rfl ?_
    refine ⟨⟨none, 0, ?_, ?_⟩, ?_⟩
    · unfold flipN flipR; rw [HE.out]; rfl
    · unfold flipR; rw [HE.out]; exact World.ownsRow_nil _ _ _ _
    · exact (BB.out.setCell (p := ⟨w.heap.size + 1, 0, none⟩) (Nat.le_succ _) _).setCell (p := ⟨w.heap.size + 1, 1, none⟩) (Nat.le_succ _) _
  have HQ := Lib.hid hq
  cases hpq : (p == q)
  case true =>
    have HE : Hid (flipB n l p q = false) := by show _ = _; unfold flipB; rw [hpq]; simp
    clear hok hok1 hp hq
    go_enter Try.func34, Try.ntmps34
    go_wp2_with fail
    rw [← HWa.out]
    refine (specPlayer n a l cap p Wa hrowa HL.out).mono ?_
    rintro e w1 ⟨rfl, hb1⟩
    rw [HO.out]
    have B1 := hba.trans (hb1.mono hba.size)
    have xr1 := xr.below hb1 xr.lt
    have xt1 := xt.below hb1 xt.lt
    have hrow1 := hrowa.below hb1 (Nat.le_refl _)
    clear xr xt hrowa
    have c0 := xt1.c0
    go_wp2_with fail
    refine (l01In_any _ _ _ _).mono ?_
    rintro e w' ⟨rfl, rfl⟩
    rw [pl_le, HQ.out]
    clear c0
    have c0 := xr1.c0
    have c1 := xr1.c1
    have f0 := xr1.f0
    have f1 := xr1.f1
    have X := Lib.hid xr1
    have BB := Lib.hid (B1)
    clear xr1
    go_wp2
    refine bodyPost_ret (v := .tuple #[.agg #[.int .i64 0, .slice none 0 0], .bool false]) (Box.res2 rfl _ rfl rfl ((X.out.set0 _).set1 _)) rfl ?_
    refine ⟨⟨none, 0, ?_, ?_⟩, ?_⟩
    · unfold flipN flipR; rw [HE.out]; rfl
    · unfold flipR; rw [HE.out]; exact World.ownsRow_nil _ _ _ _
    · exact (BB.out.setCell (p := ⟨w.heap.size + 1, 0, none⟩) (Nat.le_succ _) _).setCell (p := ⟨w.heap.size + 1, 1, none⟩) (Nat.le_succ _) _
  case false =>
    have HE : Hid (flipB n l p q = true) := by show _ = _; unfold flipB; rw [hok1, hp, hq, hpq]; rfl
    have hp2 := pl_iff.1 hp
    have hq2 := pl_iff.1 hq
    obtain ⟨i, rfl⟩ : ∃ i : Nat, p = i := ⟨p.toNat, by omega⟩
    obtain ⟨j, rfl⟩ : ∃ j : Nat, q = j := ⟨q.toNat, by omega⟩
    have hnl := HK.out.2.2.1
    have hil : i < l.length := by omega
    have hjl : j < l.length := by omega
    have hij : i ≠ j := by intro e; subst e; simp at hpq
    clear hok hok1 hp hq hp2 hq2
    go_enter Try.func34, Try.ntmps34
    go_wp2_with fail
    rw [← HWa.out]
    refine (specPlayer n a l cap i Wa hrowa HL.out).mono ?_
    rintro e w1 ⟨rfl, hb1⟩
    rw [HO.out]
    have B1 := hba.trans (hb1.mono hba.size)
    have xr1 := xr.below hb1 xr.lt
    have xt1 := xt.below hb1 xt.lt
    have hrow1 := hrowa.below hb1 (Nat.le_refl _)
    clear xr xt hrowa
    have c0 := xt1.c0
    have c1 := xt1.c1
    go_wp2_with fail
    refine (l01In_any _ _ _ _).mono ?_
    rintro e w' ⟨rfl, rfl⟩
    rw [pl_le, HQ.out]
    go_wp2_with fail
    refine (l02Flip_any n a l cap i j w1 hrow1 HK.out hil hjl hij).mono ?_
    rintro e w2 ⟨⟨g, ck, rfl, ho2⟩, hb2⟩
    have xr2 := xr1.below hb2 xr1.lt
    have B2 := B1.trans (hb2.mono B1.size)
    have e0 := xr2.c0
    have e1 := xr2.c1
    have e2 := xr2.f0
    have e3 := xr2.f1
    have XR := Lib.hid xr2
    have BB := Lib.hid B2
    have HO2 := Lib.hid ho2
    have HX := Lib.hid xr1.lt
    have HB1 := Lib.hid B1.size
    have hlen : Hid ((flipL l i j).length = l.length) := by show _ = _; simp [flipL, flipAt_len]
    clear xr2 B2 ho2 xr1 xt1 B1 hrow1 c0 c1 hb1 hb2
    go_wp2
    refine bodyPost_ret (v := .tuple #[.agg #[.int .i64 n, .slice (some ⟨g, 0, none⟩) l.length ck], .bool true]) (Box.res2 rfl _ rfl rfl ((XR.out.set0 _).set1 _)) rfl ?_
    have hn : flipN n l i j = n := by unfold flipN; rw [HE.out]; rfl
    have hr : flipR n l i j = flipL l i j := by unfold flipR; rw [HE.out]; rfl
    refine ⟨⟨some ⟨g, 0, none⟩, ck, ?_, ?_⟩, ?_⟩
    · rw [hn, hr, hlen.out, HE.out]
    · rw [hr, hlen.out]
      exact (own_set (own_set HO2.out ⟨w.heap.size + 1, 0, none⟩ _ (by have := HX.out; show w.heap.size + 1 < _; omega)) ⟨w.heap.size + 1, 1, none⟩ _ (by have := HX.out; show w.heap.size + 1 < _; omega)).mono HB1.out
    · exact (BB.out.setCell (p := ⟨w.heap.size + 1, 0, none⟩) (Nat.le_succ _) _).setCell (p := ⟨w.heap.size + 1, 1, none⟩) (Nat.le_succ _) _

set_option maxHeartbeats 1000000 in
theorem walkFlipGame (n : Int) (a : Option Addr) (cap : Nat) (l : List Int) (p q : Int) (w : World) (hl : l.length ≤ maxLen) (hrow : IntRow w a l) (h_p : (Lit.int .i64 p).wf = true) (h_q : (Lit.int .i64 q).wf = true) :
    Calls Try.prog 9 #[.agg #[.int .i64 n, .slice a l.length cap], .int .i64 p, .int .i64 q] w fun e w' => e = .returned (.bool true) ∧ Below w.heap.size w w' := by
  have HL := Lib.hid hl
  by_cases hbig : (1048576 : Int) < l.length
  · have HS : Hid (szR 1048576 l = -1) := if_pos hbig
    clear hl
    go_enter Try.func9, Try.ntmps9
    go_wp2_with fail
    refine (szT n a cap l 1048576 _ HL.out (by omega) (by omega)).mono ?_
    rintro e w1 ⟨rfl, hb⟩
    rw [HS.out]
    go_wp2
    go_ret
    exact ⟨rfl, (((Below.refl _ _).alloc (Nat.le_refl _) _).trans (hb.mono (by simp)))⟩
  · have HS : Hid (szR 1048576 l = 1048576 - l.length) := if_neg hbig
    have hl20 : l.length ≤ 1048576 := by omega
    have hsz0 : ¬ (1048576 : Int) - l.length < 0 := by omega
    have hRl := (fun n l p q => flipR_le n l p q) n l p q
    obtain ⟨R, hR⟩ : ∃ R : List Int, R = flipR n l p q := ⟨_, rfl⟩
    obtain ⟨rn, hrn⟩ : ∃ rn : Int, rn = flipN n l p q := ⟨_, rfl⟩
    obtain ⟨rb, hrb⟩ : ∃ rb : Bool, rb = flipB n l p q := ⟨_, rfl⟩
    have CS : ∀ (a : Option Addr) (cap : Nat) (W : World), IntRow W a l → Calls Try.prog 34 #[.agg #[.int .i64 n, .slice a l.length cap], .int .i64 p, .int .i64 q] W fun e w' => (∃ a0 c0, e = .returned (.tuple #[.agg #[.int .i64 rn, .slice a0 R.length c0], .bool rb]) ∧ w'.ownsRow W.heap.size 3 1 (.slice a0 R.length c0) R.length (R.map iv)) ∧ Below W.heap.size W w' := by
      intro a cap W hr
      have := specFlip n a l cap p q W hr HL.out
      rw [← hR, ← hrn, ← hrb] at this
      exact this
    have CI : ∀ (a : Option Addr) (cap : Nat) (W : World), IntRow W a l → Calls Try.prog 35 #[.agg #[.int .i64 n, .slice a l.length cap], .int .i64 p, .int .i64 q] W fun e w' => (∃ a0 c0, e = .returned (.tuple #[.agg #[.int .i64 rn, .slice a0 R.length c0], .bool rb]) ∧ w'.ownsRow W.heap.size 3 1 (.slice a0 R.length c0) R.length (R.map iv)) ∧ Below W.heap.size W w' := by
      intro a cap W hr
      have := implFlip n a l cap p q W hr HL.out
      rw [← hR, ← hrn, ← hrb] at this
      exact this
    rw [← hR] at hRl
    have hRm : R.length ≤ maxLen := by unfold maxLen; omega
    have HRM := Lib.hid hRm
    have HCS := Lib.hid CS
    have HCI := Lib.hid CI
    obtain ⟨Wa, hWa⟩ : ∃ Wa, Wa = w.alloc (.cells #[.int .i64 n, .slice a l.length cap] 24) := ⟨_, rfl⟩
    have HWa := Lib.hid hWa
    have hba : Below w.heap.size w Wa := by rw [hWa]; exact (Below.refl _ _).alloc (Nat.le_refl _) _
    have sa : Wa.heap.size = w.heap.size + 1 := by rw [hWa]; simp
    have xa : Box Wa w.heap.size 24 (.int .i64 n) (.slice a l.length cap) := by rw [hWa]; exact Box.new _ _ _ _
    have hrowa : IntRow Wa a l := hrow.below hba (Nat.le_refl _)
    clear hl hWa hbig CS CI hR hRm hrn hrb
    go_enter Try.func9, Try.ntmps9
    go_wp2_with fail
    rw [← HWa.out]
    refine (szT n a cap l 1048576 Wa HL.out (by omega) (by omega)).mono ?_
    rintro e w1 ⟨rfl, hb1⟩
    rw [HS.out]
    have xa1 := xa.below hb1 xa.lt
    have c0 := xa1.c0
    have c1 := xa1.c1
    have hrow1 := hrowa.below hb1 (Nat.le_refl _)
    go_wp2_with fail
    refine (toT n a cap l w1 hl20 hrow1).mono ?_
    rintro e w2 ⟨⟨g2, rfl, ho2⟩, hb2⟩
    go_wp2_with fail
    refine (HCS.out _ _ w2 (IntRow.of_own ho2)).mono ?_
    rintro e w3 ⟨⟨a0, ca0, rfl, ho3⟩, hb3⟩
    obtain ⟨W3, hW3⟩ : ∃ W3, W3 = w3.alloc (.cells #[.int .i64 rn, .slice a0 R.length ca0] 27) := ⟨_, rfl⟩
    have HW3 := Lib.hid hW3
    have hbW3 : Below w3.heap.size w3 W3 := by rw [hW3]; exact (Below.refl _ _).alloc (Nat.le_refl _) _
    have s3 : W3.heap.size = w3.heap.size + 1 := by rw [hW3]; simp
    have xp0 : Box W3 w3.heap.size 27 (.int .i64 rn) (.slice a0 R.length ca0) := by rw [hW3]; exact Box.new _ _ _ _
    clear hW3
    have xa3w := (xa1.below hb2 xa1.lt).below hb3 (Nat.lt_of_lt_of_le xa1.lt hb2.size)
    have xa3 := xa3w.below hbW3 xa3w.lt
    have hrow3 := ((hrow1.below hb2 (Nat.le_refl _)).below hb3 (Nat.le_refl _)).below hbW3 (Nat.le_refl _)
    clear c0 c1 ho2
    have c0 := xa3.c0
    have c1 := xa3.c1
    rw [HW3.out] at c0 c1
    go_wp2_with fail
    rw [← HW3.out]
    refine (toT n a cap l W3 hl20 hrow3).mono ?_
    rintro e w4 ⟨⟨g4, rfl, ho4⟩, hb4⟩
    obtain ⟨W4, hW4⟩ : ∃ W4, W4 = w4.alloc (.cells #[.int .i64 n, .slice (some ⟨g4, 0, none⟩) l.length l.length] 27) := ⟨_, rfl⟩
    have HW4 := Lib.hid hW4
    have hbW4 : Below w4.heap.size w4 W4 := by rw [hW4]; exact (Below.refl _ _).alloc (Nat.le_refl _) _
    have s4 : W4.heap.size = w4.heap.size + 1 := by rw [hW4]; simp
    have xx : Box W4 w4.heap.size 27 (.int .i64 n) (.slice (some ⟨g4, 0, none⟩) l.length l.length) := by rw [hW4]; exact Box.new _ _ _ _
    have hx4 := (IntRow.of_own ho4).below hbW4 (Nat.le_refl _)
    clear hW4 c0 c1
    go_wp2_with fail
    rw [← HW4.out]
    refine (HCI.out _ _ W4 hx4).mono ?_
    rintro e w5 ⟨⟨ag, cg, rfl, ho5⟩, hb5⟩
    obtain ⟨W5, hW5⟩ : ∃ W5, W5 = w5.alloc (.cells #[.int .i64 rn, .slice ag R.length cg] 27) := ⟨_, rfl⟩
    have HW5 := Lib.hid hW5
    have hbW5 : Below w5.heap.size w5 W5 := by rw [hW5]; exact (Below.refl _ _).alloc (Nat.le_refl _) _
    have xpg : Box W5 w5.heap.size 27 (.int .i64 rn) (.slice ag R.length cg) := by rw [hW5]; exact Box.new _ _ _ _
    clear hW5
    have t1 := hb1.size
    have t2 := hb2.size
    have t3 := hb3.size
    have t4 := hb4.size
    have t5 := hb5.size
    have t6 := hbW5.size
    have B1 := hba.trans (hb1.mono hba.size)
    have B2 := B1.trans (hb2.mono B1.size)
    have B3 := B2.trans (hb3.mono B2.size)
    have B4 := B3.trans (hbW3.mono B3.size)
    have B5 := B4.trans (hb4.mono B4.size)
    have B6 := B5.trans (hbW4.mono B5.size)
    have B7 := B6.trans (hb5.mono B6.size)
    have B8 := B7.trans (hbW5.mono B7.size)
    have st : St w W5 w.heap.size n a cap l w4.heap.size (some ⟨g4, 0, none⟩) l.length l a0 ca0 R ag cg R := by
      refine ⟨B8, hrow, ?_, ?_, ?_, ?_, ?_, ?_, ?_⟩
      · exact (((xa3.below hb4 xa3.lt).below hbW4 (Nat.lt_of_lt_of_le xa3.lt t4)).below hb5 (by omega)).below hbW5 (by omega)
      · exact (xx.below hb5 xx.lt).below hbW5 (by omega)
      · exact (own_below (own_below (own_below ho4 hbW4) hb5) hbW5).mono B4.size
      · exact (own_below (own_below (own_below (own_below (own_below ho3 hbW3) hb4) hbW4) hb5) hbW5).mono B2.size
      · exact (own_below ho5 hbW5).mono B6.size
      · intro k hk
        have h4 := own_blk ho4 hk
        refine ⟨by omega, by omega, fun e => ?_, fun e => ?_⟩
        · have := own_blk ho3 e; omega
        · have := own_blk ho5 e; omega
      · intro k hk
        have h5 := own_blk ho5 hk
        refine ⟨by omega, by omega, fun e => ?_, fun e => ?_⟩
        · have := own_blk ho3 e; omega
        · have := own_blk ho4 e; omega
    have y0 := ((xp0.below hb4 xp0.lt).below hbW4 (by omega)).below hb5 (by omega)
    have bs : Bs W5 w3.heap.size w5.heap.size rn a0 ca0 R.length ag cg R.length (some ⟨g4, 0, none⟩) := by
      refine ⟨(((xp0.below hb4 xp0.lt).below hbW4 (by omega)).below hb5 (by omega)).below hbW5 (by omega), xpg, ?_⟩
      intro k hk
      rcases hk with hk | hk
      · have := own_blk ho4 hk; omega
      · have := own_blk ho5 hk; omega
    clear xa3w B1 B2 B3 B4 B5 B6 B7 B8 t1 t2 t3 t4 t5 t6 xa xa1 xa3 xx hrowa hrow1 hrow3 hx4 ho3 ho4 ho5 hba hb1 hb2 hb3 hbW3 hb4 hbW4 hb5 hbW5 sa s3 s4 xp0 xpg
    have S5 := Lib.hid st
    have B5 := Lib.hid bs
    clear bs
    have e0 := B5.out.b0.c0
    have e1 := B5.out.b0.c1
    rw [HW5.out] at e0 e1
    clear y0
    clear st
    go_wp2_with fail
    rw [← HW5.out]
    refine (eqT_same rn _ _ _ _ R W5 HRM.out (own_int S5.out.rg) (own_int S5.out.r0)).mono ?_
    rintro e w6 ⟨rfl, hb6⟩
    have S6 := Lib.hid (S5.out.kept hb6)
    have B6 := Lib.hid (B5.out.kept hb6)
    clear e0 e1
    clear hb6
    have c0 := S6.out.bA.c0
    have c1 := S6.out.bA.c1
    have d0 := S6.out.bx.c0
    have d1 := S6.out.bx.c1
    go_wp2
    go_region_with (first
      | (go_at_call 15; refine (toT n a cap l w6.drew hl20 S6.out.rA).mono ?_; rintro e w7 ⟨⟨g7, rfl, ho7⟩, hbq⟩; have hb7 : Below w6.heap.size w6 w7 := (Below.refl _ w6).drew.trans hbq; have S7 := Lib.hid (S6.out.kept hb7); have hy7 := IntRow.of_own ho7; have d0 := S7.out.bx.c0; have d1 := S7.out.bx.c1; clear ho7 hbq)
      | (go_at_call 17; refine (eqT_same n _ _ _ _ l _ HL.out (own_int S7.out.rx) hy7).mono ?_; rintro e w8 ⟨rfl, hb8⟩))
    all_goals
      have S8 := Lib.hid (S7.out.kept hb8)
      have B8 := Lib.hid ((B6.out.kept hb7).kept hb8)
      clear hb7 hb8 c0 c1 d0 d1
      try clear hy7
      have d0 := S8.out.bx.c0
      have d1 := S8.out.bx.c1
      go_wp2_with fail
      refine (markT1 n w.heap.size l.length (some ⟨g4, 0, none⟩) l.length (l.map iv) w8 (by omega) S8.out.hb.size S8.out.rx).mono ?_
      rintro e w9 ⟨rfl, ho9, hb9, hg9⟩
      have S9 := Lib.hid (S8.out.markX (X' := marks 1 l.length) (marks_len 1 _) ho9 hb9 hg9)
      have B9 := Lib.hid (B8.out.grown hg9 (.inl rfl))
      clear d0 d1 ho9 hb9 hg9
      have e0 := B9.out.b0.c0
      have e1 := B9.out.b0.c1
      have e2 := B9.out.bg.c0
      have e3 := B9.out.bg.c1
      go_wp2_with fail
      refine (eqT_same rn _ _ _ _ R w9 HRM.out (own_int S9.out.rg) (own_int S9.out.r0)).mono ?_
      rintro e w10 ⟨rfl, hb10⟩
      have S10 := Lib.hid (S9.out.kept hb10)
      have B10 := Lib.hid (B9.out.kept hb10)
      clear e0 e1 e2 e3
      clear hb10
      have e2 := B10.out.bg.c0
      have e3 := B10.out.bg.c1
      go_wp2_with fail
      refine (markT1 rn w.heap.size R.length ag cg (R.map iv) w10 (by omega) S10.out.hb.size S10.out.rg).mono ?_
      rintro e w11 ⟨rfl, ho11, hb11, hg11⟩
      have S11 := Lib.hid (S10.out.markG (G' := marks 1 R.length) (marks_len 1 _) ho11 hb11 hg11)
      have hG : Hid ((marks 1 R.length).length = R.length) := marks_len 1 _
      have B11 := Lib.hid (B10.out.grown hg11 (.inr rfl))
      clear e2 e3
      clear ho11 hb11 hg11
      have e2 := B11.out.bg.c0
      have e3 := B11.out.bg.c1
      go_wp2_with fail
      refine (heldT1 rn w.heap.size R.length ag cg w11 (by omega) (by have := S11.out.rg; rw [hG.out] at this; exact this)).mono ?_
      rintro e w12 ⟨rfl, hb12⟩
      have S12 := Lib.hid (S11.out.kept hb12)
      have B12 := Lib.hid (B11.out.kept hb12)
      clear e2 e3
      clear hb12
      have c0 := S12.out.bA.c0
      have c1 := S12.out.bA.c1
      go_wp2_with fail
      refine (toT n a cap l w12 hl20 S12.out.rA).mono ?_
      rintro e w13 ⟨⟨g13, rfl, ho13⟩, hb13⟩
      have S13 := Lib.hid (S12.out.kept hb13)
      have B13 := Lib.hid (B12.out.kept hb13)
      clear c0 c1 hb13
      go_wp2_with fail
      refine (HCI.out _ _ w13 (IntRow.of_own ho13)).mono ?_
      rintro e w14 ⟨⟨ah, ch, rfl, ho14⟩, hb14⟩
      have S14 := Lib.hid (S13.out.kept hb14)
      have B14 := Lib.hid (B13.out.kept hb14)
      obtain ⟨W14, hW14⟩ : ∃ W14, W14 = w14.alloc (.cells #[.int .i64 rn, .slice ah R.length ch] 27) := ⟨_, rfl⟩
      have HW14 := Lib.hid hW14
      have hbW14 : Below w14.heap.size w14 W14 := by rw [hW14]; exact (Below.refl _ _).alloc (Nat.le_refl _) _
      have xh : Box W14 w14.heap.size 27 (.int .i64 rn) (.slice ah R.length ch) := by rw [hW14]; exact Box.new _ _ _ _
      have hh14 := (own_int ho14).below hbW14 (Nat.le_refl _)
      have S15 := Lib.hid (S14.out.kept hbW14)
      have B15 := Lib.hid (B14.out.kept hbW14)
      have e0 := B15.out.b0.c0
      have e1 := B15.out.b0.c1
      rw [HW14.out] at e0 e1
      clear hW14 hbW14 hb14 ho13 ho14 xh
      go_wp2_with fail
      rw [← HW14.out]
      refine (eqT_same rn _ _ _ _ R W14 HRM.out hh14 (own_int S15.out.r0)).mono ?_
      rintro e w16 ⟨rfl, hb16⟩
      have S16 := Lib.hid (S15.out.kept hb16)
      have B16 := Lib.hid (B15.out.kept hb16)
      clear e0 e1 hb16 hh14
      have e2 := B16.out.bg.c0
      have e3 := B16.out.bg.c1
      go_wp2_with fail
      refine (heldT1 rn w.heap.size R.length ag cg w16 (by omega) (by have := S16.out.rg; rw [hG.out] at this; exact this)).mono ?_
      rintro e w17 ⟨rfl, hb17⟩
      have S17 := Lib.hid (S16.out.kept hb17)
      clear hb17
      go_wp2
      go_ret
      exact ⟨rfl, S17.out.hb⟩

end Go.Proofs.Ytkomhfkkgffmoaa

namespace Go.Proofs.Ytkomhfkkgffmoaa.fnExactFlipGame
open Go.ChangeShapes Go.WideShapes Go.ChangeAt Go.RowKit
open Go.ChangeMaps (open_string shut_string)
set_option linter.unusedVariables false
set_option maxRecDepth 100000 in
theorem lifted (os : Os) (started : os.Started) (H : Type) (enc : TypeId × Value → H) :
    ReturnsInHanded {} Try.checked os 9 .any (Rows.fnExactFlipGameSpec.pre6 enc Try.prog Try.f9 Rows.fnExactFlipGameRow.domain false) (Rows.fnExactFlipGameSpec.post enc Try.prog Try.f9 false true false false) := by
  refine returnsInHanded_of_change (C := Try.checked) own started (by kernel_rfl) Try.func9
    (ChangeSpec.witness6 (enc := enc) (C := Try.checked) false ⟨#[], #[.agg #[.int .i64 0, .slice none 0 0], .int .i64 0, .int .i64 0], []⟩ 8 (by kernel_rfl) (by kernel_rfl) (by kernel_rfl) (by kernel_rfl)) ?_
  intro W base args ds gs before hval0 hW hcnd _
  have hval : ∀ (j : Nat) t v, Try.f9.params[j]? = some t → args[j]? = some v → Value.okWide Try.prog W .any base t v := hval0
  have hW' := hW
  obtain ⟨p, q, hA0, hV, rfl, hfz, hnd⟩ := hW
  have hA : DataW.TrodAll enc Try.prog W 0 (fun _ => true) true Try.f9.params.toList args.toList ds p := hA0
  rw [Try.params9] at hA hval
  obtain ⟨v0, vs0, d0, ds0, p0, q0, hargs, rfl, rfl, h0, r0⟩ := trodAll_cons hA
  obtain ⟨v1, vs1, d1, ds1, p1, q1, rfl, rfl, rfl, h1, r1⟩ := trodAll_cons r0
  obtain ⟨v2, vs2, d2, ds2, p2, q2, rfl, rfl, rfl, h2, r2⟩ := trodAll_cons r1
  obtain ⟨rfl, rfl, rfl⟩ := trodAll_nil r2
  obtain rfl : args = #[v0, v1, v2] := by cases args; simp_all
  obtain ⟨rfl, rfl⟩ := trodVars_none hV
  have k0 := h0
  have lt0 : ∀ x ∈ p0, x.block < W.heap.size := by obtain ⟨m, hm⟩ := k0; exact DataW.trod_lt m _ _ _ hm
  obtain ⟨n0, a0, cap0, l0, rfl, hl0, hr0⟩ := openTour (hval 0 24 v0 rfl rfl) h0
  obtain ⟨a1, rfl, rfl, rfl, hs1⟩ := open_int Try.underlying3 (hval 1 3 v1 rfl rfl) h1
  obtain ⟨a2, rfl, rfl, rfl, hs2⟩ := open_int Try.underlying3 (hval 2 3 v2 rfl rfl) h2
  clear hA0 hval0
  refine (walkFlipGame n0 a0 cap0 l0 a1 a2 W hl0 hr0 hs1 hs2).mono fun e W' ⟨he, bel⟩ => ?_
  subst he
  exact ⟨_, rfl, _, _, _, [], _, [], hW', trodAll_mk1 (shut_bool Try.underlying4 _), (trodAll_cons_mk (Below.trod laidOut (by kernel_rfl) (of_decide_eq_true (by kernel_rfl)) k0 bel lt0) (trodAll_cons_mk (shut_int Try.underlying3 hs1) (trodAll_cons_mk (shut_int Try.underlying3 hs2) trodAll_mk0))), rfl, bel.frame _, fun h => by cases h⟩

theorem proved : Rows.FnExactFlipGameSaid :=
  OpenClaim.holds_of_wide 9 Try.f9 rfl rfl rfl rfl rfl rfl rfl ⟨rfl, rfl, rfl, rfl, rfl⟩ rfl rfl rfl rfl rfl (by kernel_rfl) Try.func9 (by kernel_rfl)
    (of_decide_eq_true (by kernel_rfl)) (by unfold Func.isWrapper; first | (rw [if_pos (by decide +kernel)]; kernel_rfl) | (rw [if_neg (by decide +kernel)]; exact ⟨rfl, rfl⟩))
    (fun os started H enc _ => lifted os started H enc)
end Go.Proofs.Ytkomhfkkgffmoaa.fnExactFlipGame

