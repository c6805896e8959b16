/-
  'FnExactDoesBeat', 'FnExactScoreOf': the program's DoesBeat and ScoreOf answer as the model's for every tour and all numbers, and leave the tour as it was. No conditions.
-/
import Derived.Test.YteiadhfjpohmdaaD
namespace Go.Proofs.Yteiadhfjpohmdaa
open Go.ChangeShapes Go.WideShapes Go.ChangeAt Go.RowKit
set_option linter.unusedVariables false

theorem Ok.nat {n : Int} {l : List Int} (h : Ok n l) {i : Nat} (hi : i < l.length) : ∃ x : Nat, l.getD i 0 = x ∧ x < 2 ^ l.length ∧ x < 256 := by
  have h1 := (h.2.2.2 i hi).1
  have h8 : l.length ≤ 8 := by have := h.2.1; have := h.2.2.1; omega
  have hp := pow_le _ h8
  simp only [inSet, Bool.and_eq_true, decide_eq_true_eq] at h1
  refine ⟨(l.getD i 0).toNat, by omega, by omega, by omega⟩

/-- What both 'DoesBeat' answer. -/
noncomputable def dbB (n : Int) (l : List Int) (p q : Int) : Bool := okB n l && pl n p && pl n q && bt l p.toNat q.toNat
/-- What both 'ScoreOf' answer. -/
noncomputable def scoreR (n : Int) (l : List Int) (p : Int) : Int := if okB n l && pl n p then (pc (l.getD p.toNat 0).toNat : Int) else -1

theorem hasPlayer_pl (n : Int) (a : Option Addr) (len cap : Nat) (k : Int) (w : World) : Calls Try.prog 111 #[.agg #[.int .i64 n, .slice a len cap], .int .i64 k] w fun e w' => e = .returned (.bool (pl n k)) ∧ Below w.heap.size w w' := hasPlayer_any n a len cap k w

set_option maxHeartbeats 400000 in
theorem implDoesBeat (n : Int) (a : Option Addr) (l : List Int) (cap : Nat) (p q : Int) (w : World) (hrow : IntRow w a l) (hl : l.length ≤ maxLen) :
    Calls Try.prog 50 #[.agg #[.int .i64 n, .slice a l.length cap], .int .i64 p, .int .i64 q] w fun e w' => e = .returned (.bool (dbB n l p q)) ∧ Below w.heap.size w w' := by
  obtain ⟨Wa, hWa⟩ : ∃ Wa, Wa = w.alloc (.cells #[.int .i64 n, .slice a l.length cap] 27) := ⟨_, rfl⟩
  have HWa := Lib.hid hWa
  have hba : Below w.heap.size w Wa := by rw [hWa]; exact (Below.refl _ _).alloc (Nat.le_refl _) _
  have xa : Box Wa w.heap.size 27 (.int .i64 n) (.slice a l.length cap) := by rw [hWa]; exact Box.new _ _ _ _
  have hrowa : IntRow Wa a l := hrow.below hba (Nat.le_refl _)
  have HL := Lib.hid hl
  clear hl hrow hWa
  cases hok : okB n l
  · have HO := Lib.hid hok
    have HE : Hid (dbB n l p q = false) := by show _ = _; unfold dbB; rw [hok]; rfl
    clear hok
    go_enter Try.func50, Try.ntmps50
    go_wp2_with fail
    rw [← HWa.out]
    refine (implTourOk n a l cap Wa hrowa HL.out).mono ?_
    rintro e w1 ⟨rfl, hb1⟩
    rw [HO.out]
    go_wp2
    go_ret
    exact ⟨by rw [HE.out]; rfl, hba.trans (hb1.mono hba.size)⟩
  have HO := Lib.hid hok
  have hk := okB_iff.1 hok
  have hn1 := hk.1
  have hn8 := hk.2.1
  have hnl := hk.2.2.1
  clear hk
  cases hp : pl n p
  · have HP := Lib.hid hp
    have HE : Hid (dbB n l p q = false) := by show _ = _; unfold dbB; rw [hp]; simp
    clear hok hp
    go_enter Try.func50, Try.ntmps50
    go_wp2_with fail
    rw [← HWa.out]
    refine (implTourOk n a l cap Wa hrowa HL.out).mono ?_
    rintro e w1 ⟨rfl, hb1⟩
    rw [HO.out]
    have c0 := (xa.below hb1 xa.lt).c0
    have c1 := (xa.below hb1 xa.lt).c1
    go_wp2_with fail
    refine (hasPlayer_pl n a _ cap p w1).mono ?_
    rintro e w2 ⟨rfl, hb2⟩
    rw [HP.out]
    go_wp2
    go_ret
    have b1 := hba.trans (hb1.mono hba.size)
    exact ⟨by rw [HE.out]; rfl, b1.trans (hb2.mono b1.size)⟩
  have HP := Lib.hid hp
  have hp2 := pl_iff.1 hp
  obtain ⟨i, rfl⟩ : ∃ i : Nat, p = i := ⟨p.toNat, by omega⟩
  have hil : i < l.length := by omega
  cases hq : pl n q
  · have HQ := Lib.hid hq
    have HE : Hid (dbB n l i q = false) := by show _ = _; unfold dbB; rw [hq]; simp
    clear hok hp hq hp2
    go_enter Try.func50, Try.ntmps50
    go_wp2_with fail
    rw [← HWa.out]
    refine (implTourOk n a l cap Wa hrowa HL.out).mono ?_
    rintro e w1 ⟨rfl, hb1⟩
    rw [HO.out]
    have xa1 := xa.below hb1 xa.lt
    have c0 := xa1.c0
    have c1 := xa1.c1
    go_wp2_with fail
    refine (hasPlayer_pl n a _ cap i w1).mono ?_
    rintro e w2 ⟨rfl, hb2⟩
    rw [HP.out]
    have xa2 := xa1.below hb2 xa1.lt
    clear c0 c1
    have c0 := xa2.c0
    have c1 := xa2.c1
    go_wp2_with fail
    refine (hasPlayer_pl n a _ cap q w2).mono ?_
    rintro e w3 ⟨rfl, hb3⟩
    rw [HQ.out]
    go_wp2
    go_ret
    have b1 := hba.trans (hb1.mono hba.size)
    have b2 := b1.trans (hb2.mono b1.size)
    exact ⟨by rw [HE.out]; rfl, b2.trans (hb3.mono b2.size)⟩
  · have HQ := Lib.hid hq
    have hq2 := pl_iff.1 hq
    obtain ⟨j, rfl⟩ : ∃ j : Nat, q = j := ⟨q.toNat, by omega⟩
    have HE : Hid (dbB n l i j = bt l i j) := by show _ = _; unfold dbB; rw [hok, hq, hp]; simp
    have hj : j < 64 := by omega
    clear hok hq hp hq2 hp2
    go_enter Try.func50, Try.ntmps50
    go_wp2_with fail
    rw [← HWa.out]
    refine (implTourOk n a l cap Wa hrowa HL.out).mono ?_
    rintro e w1 ⟨rfl, hb1⟩
    rw [HO.out]
    have xa1 := xa.below hb1 xa.lt
    have hrow1 := hrowa.below hb1 (Nat.le_refl _)
    have c0 := xa1.c0
    have c1 := xa1.c1
    go_wp2_with fail
    refine (hasPlayer_pl n a _ cap i w1).mono ?_
    rintro e w2 ⟨rfl, hb2⟩
    rw [HP.out]
    have xa2 := xa1.below hb2 xa1.lt
    have hrow2 := hrow1.below hb2 (Nat.le_refl _)
    clear c0 c1
    have c0 := xa2.c0
    have c1 := xa2.c1
    go_wp2_with fail
    refine (hasPlayer_pl n a _ cap j w2).mono ?_
    rintro e w3 ⟨rfl, hb3⟩
    rw [HQ.out]
    have xa3 := xa2.below hb3 xa2.lt
    have hrow3 := hrow2.below hb3 (Nat.le_refl _)
    clear c0 c1
    have c0 := xa3.c0
    have c1 := xa3.c1
    go_wp2_with fail
    refine (beats_any n a l cap i j w3 hrow3 HL.out hil hj).mono ?_
    rintro e w4 ⟨rfl, hb4⟩
    go_wp2
    go_ret
    have b1 := hba.trans (hb1.mono hba.size)
    have b2 := b1.trans (hb2.mono b1.size)
    have b3 := b2.trans (hb3.mono b2.size)
    exact ⟨by rw [HE.out]; rfl, b3.trans (hb4.mono b3.size)⟩

end Go.Proofs.Yteiadhfjpohmdaa
