/-
  'ClimbToKing' of the program and of the model. No conditions but the bounds that Go gives a slice.
-/
import Derived.Test.YtgjogbihadiojaaU8
import Derived.Test.YtgjogbihadiojaaU4
namespace Go.Proofs.Ytgjogbihadiojaa
open Go.ChangeShapes Go.WideShapes Go.ChangeAt Go.RowKit
set_option linter.unusedVariables false

/-- What both 'ClimbToKing' answer. -/
noncomputable def climbR (n : Int) (l : List Int) (k : Int) : Int := if okB n l && pl n k then ((Kk.climb (ww l) l.length k.toNat : Nat) : Int) else -1
/-- Where the climb stands: at its start, or at its end. -/
def At9 (l : List Int) (v q : Nat) : Prop := v < l.length ∧ q < l.length ∧ (q = v ∨ (Kk.kingN (ww l) l.length v = false ∧ q = st8 l v l.length))
theorem At9.king {l : List Int} {v q : Nat} (h : At9 l v q) (hk : Kk.kingN (ww l) l.length q = true) : q = Kk.climb (ww l) l.length v := by
  unfold Kk.climb
  rcases h.2.2 with rfl | ⟨h1, rfl⟩
  · rw [hk]; rfl
  · rw [h1]; rfl
theorem At9.next {n : Int} {l : List Int} (hok : Ok n l) {v q : Nat} (h : At9 l v q) (hk : Kk.kingN (ww l) l.length q = false) : At9 l v (st8 l q l.length) ∧ Kk.kingN (ww l) l.length (st8 l q l.length) = true := by
  have hs := Kk.king_step (okVa hok) h.2.1 hk
  have hlt := Kk.step_lt (okVa hok) h.2.1
  rcases h.2.2 with rfl | ⟨h1, h2⟩
  · exact ⟨⟨h.1, hlt, .inr ⟨hk, rfl⟩⟩, hs.2⟩
  · exfalso
    have := (Kk.king_step (okVa hok) h.1 h1).2
    rw [h2, show st8 l v l.length = Kk.step (ww l) l.length v from rfl, this] at hk
    cases hk
/-- How many steps are left. -/
def left9 (l : List Int) (q : Nat) : Nat := if Kk.kingN (ww l) l.length q then 0 else 1

set_option maxRecDepth 100000 in
set_option maxHeartbeats 2000000 in
theorem implClimb (n : Int) (a : Option Addr) (l : List Int) (cap : Nat) (kk : Int) (w : World) (hrow : IntRow w a l) (hl : l.length ≤ maxLen) :
    Calls Try.prog 33 #[.agg #[.int .i64 n, .slice a l.length cap], .int .i64 kk] w fun e w' => e = .returned (.int .i64 (climbR n l kk)) ∧ Below w.heap.size w w' := by
  obtain ⟨Wa, hWa⟩ : ∃ Wa, Wa = w.alloc (.cells #[.int .i64 n, .slice a l.length cap] 25) := ⟨_, rfl⟩
  have HWa := Lib.hid hWa
  have hba : Below w.heap.size w Wa := by rw [hWa]; exact (Below.refl _ _).alloc (Nat.le_refl _) _
  have xa : Box Wa w.heap.size 25 (.int .i64 n) (.slice a l.length cap) := by rw [hWa]; exact Box.new _ _ _ _
  have hrowa : IntRow Wa a l := hrow.below hba (Nat.le_refl _)
  have HL := Lib.hid hl
  clear hl hrow hWa
  cases hok : okB n l
  · have HO := Lib.hid hok
    have HE : Hid (climbR n l kk = -1) := by show _ = _; unfold climbR; rw [hok]; rfl
    clear hok
    go_enter Try.func33, Try.ntmps33
    go_wp2_with fail
    rw [← HWa.out]
    refine (implTourOk n a l cap Wa hrowa HL.out).mono ?_
    rintro e w1 ⟨rfl, hb1⟩
    rw [HO.out]
    go_wp2
    go_ret
    exact ⟨by rw [HE.out]; rfl, hba.trans (hb1.mono hba.size)⟩
  have HO := Lib.hid hok
  have HK := Lib.hid (okB_iff.1 hok)
  cases hp : pl n kk
  · have HP := Lib.hid hp
    have HE : Hid (climbR n l kk = -1) := by show _ = _; unfold climbR; rw [hp]; simp
    clear hok hp
    go_enter Try.func33, Try.ntmps33
    go_wp2_with fail
    rw [← HWa.out]
    refine (implTourOk n a l cap Wa hrowa HL.out).mono ?_
    rintro e w1 ⟨rfl, hb1⟩
    rw [HO.out]
    have c0 := (xa.below hb1 xa.lt).c0
    have c1 := (xa.below hb1 xa.lt).c1
    go_wp2_with fail
    refine (hasPlayer_pl n a _ cap kk w1).mono ?_
    rintro e w2 ⟨rfl, hb2⟩
    rw [HP.out]
    go_wp2
    go_ret
    have b1 := hba.trans (hb1.mono hba.size)
    exact ⟨by rw [HE.out]; rfl, b1.trans (hb2.mono b1.size)⟩
  have HP := Lib.hid hp
  have hp2 := pl_iff.1 hp
  obtain rfl : n = (l.length : Int) := HK.out.2.2.1.symm
  obtain ⟨v, rfl⟩ : ∃ v : Nat, kk = v := ⟨kk.toNat, by omega⟩
  have hvl : v < l.length := by omega
  have HE : Hid (climbR l.length l v = ((Kk.climb (ww l) l.length v : Nat) : Int)) := by show _ = _; unfold climbR; rw [hok, hp]; rfl
  have HSR : Hid (∀ q, At9 l v q → stepR l.length l q = ((st8 l q l.length : Nat) : Int)) := by
    intro q hq
    have h1 : pl (l.length : Int) (q : Int) = true := pl_iff.2 ⟨by omega, by have := hq.2.1; omega⟩
    unfold stepR; rw [hok, h1]; rfl
  clear hok hp hp2
  go_enter Try.func33, Try.ntmps33
  go_wp2_with fail
  rw [← HWa.out]
  refine (implTourOk _ a l cap Wa hrowa HL.out).mono ?_
  rintro e w1 ⟨rfl, hb1⟩
  rw [HO.out]
  have xa1 := xa.below hb1 xa.lt
  have hrow1 := hrowa.below hb1 (Nat.le_refl _)
  have c0 := xa1.c0
  have c1 := xa1.c1
  have b1 := hba.trans (hb1.mono hba.size)
  go_wp2_with fail
  refine (hasPlayer_pl _ a _ cap v w1).mono ?_
  rintro e w3 ⟨rfl, hb2⟩
  rw [HP.out]
  have XA3 := Lib.hid (xa1.below hb2 xa1.lt)
  have HR3 := Lib.hid (hrow1.below hb2 (Nat.le_refl _))
  have B3 := Lib.hid (b1.trans (hb2.mono b1.size))
  clear c0 c1 b1 hb1 hb2 hba xa xa1 hrowa hrow1
  go_wp2
  go_loopw [1] (fun s wr => ∃ q : Nat, s = .int .i64 (q : Int) ∧ Hid (At9 l v q) ∧ Below w3.heap.size w3 wr) (fun s _ => left9 l (intOf s).toNat)
  case atStart => exact ⟨v, rfl, ⟨hvl, hvl, .inl rfl⟩, Below.refl _ _⟩
  case round =>
    obtain ⟨q, rfl, hat, hb⟩ := hrel
    have xr := XA3.out.below hb XA3.out.lt
    have c0 := xr.c0
    have c1 := xr.c1
    have HRr := Lib.hid (HR3.out.below hb (Nat.le_refl _))
    cases hkg : Kk.kingN (ww l) l.length q
    · have HKG := Lib.hid hkg
      have hnx := At9.next HK.out hat.out hkg
      have hn : Hid (At9 l v (st8 l q l.length)) := hnx.1
      have hm1 : left9 l q = 1 := by unfold left9; rw [hkg]; rfl
      have hm0 : left9 l (st8 l q l.length) = 0 := by unfold left9; rw [hnx.2]; rfl
      have HM1 := Lib.hid hm1
      have HM0 := Lib.hid hm0
      obtain ⟨z, hz⟩ : ∃ z, z = st8 l q l.length := ⟨_, rfl⟩
      rw [← hz] at hn HM0
      have HZ := Lib.hid hz
      clear hkg hnx hm1 hm0 xr hz
      go_wp2_with fail
      refine (isKing_any _ a l cap q _ HRr.out HK.out hat.out.2.1).mono ?_
      rintro e w4 ⟨rfl, hb4⟩
      rw [HKG.out]
      have xr4 := (XA3.out.below hb XA3.out.lt).below hb4 (Nat.lt_of_lt_of_le XA3.out.lt hb.size)
      have hb44 := hb.trans (hb4.mono hb.size)
      have hr4 := HRr.out.below hb4 (Nat.le_refl _)
      clear c0 c1
      have c0 := xr4.c0
      have c1 := xr4.c1
      clear xr4 hb4
      go_wp2_with fail
      refine (implStep _ a l cap q _ hr4 HL.out).mono ?_
      rintro e w5 ⟨rfl, hb5⟩
      rw [HSR.out q hat.out, ← HZ.out]
      have hb55 := hb44.trans (hb5.mono hb44.size)
      go_wp2
      go_roundw
      case rel => exact ⟨z, rfl, hn, hb55⟩
      case measure =>
        show left9 l (Int.toNat (z : Int)) < left9 l (Int.toNat (q : Int))
        rw [Int.toNat_natCast, Int.toNat_natCast, HM0.out, HM1.out]; omega
    · have HKG := Lib.hid hkg
      have hE : Hid (q = Kk.climb (ww l) l.length v) := hat.out.king hkg
      clear hkg xr
      go_wp2_with fail
      refine (isKing_any _ a l cap q _ HRr.out HK.out hat.out.2.1).mono ?_
      rintro e w4 ⟨rfl, hb4⟩
      rw [HKG.out]
      have hb44 := hb.trans (hb4.mono hb.size)
      go_wp2
      go_ret
      exact ⟨by rw [HE.out, ← hE.out]; rfl, B3.out.trans (hb44.mono B3.out.size)⟩

set_option maxRecDepth 100000 in
set_option maxHeartbeats 2000000 in
theorem specClimb (n : Int) (a : Option Addr) (l : List Int) (cap : Nat) (kk : Int) (w : World) (hrow : IntRow w a l) (hl : l.length ≤ maxLen) :
    Calls Try.prog 52 #[.agg #[.int .i64 n, .slice a l.length cap], .int .i64 kk] w fun e w' => e = .returned (.int .i64 (climbR n l kk)) ∧ Below w.heap.size w w' := by
  obtain ⟨Wa, hWa⟩ : ∃ Wa, Wa = w.alloc (.cells #[.int .i64 n, .slice a l.length cap] 25) := ⟨_, rfl⟩
  have HWa := Lib.hid hWa
  have hba : Below w.heap.size w Wa := by rw [hWa]; exact (Below.refl _ _).alloc (Nat.le_refl _) _
  have xa : Box Wa w.heap.size 25 (.int .i64 n) (.slice a l.length cap) := by rw [hWa]; exact Box.new _ _ _ _
  have hrowa : IntRow Wa a l := hrow.below hba (Nat.le_refl _)
  have HL := Lib.hid hl
  clear hl hrow hWa
  cases hok : (okB n l && pl n kk)
  · have HO := Lib.hid hok
    have HE : Hid (climbR n l kk = -1) := by show _ = _; unfold climbR; rw [hok]; rfl
    clear hok
    go_enter Try.func52, Try.ntmps52
    go_wp2_with fail
    rw [← HWa.out]
    refine (specPlayer n a l cap kk Wa hrowa HL.out).mono ?_
    rintro e w1 ⟨rfl, hb1⟩
    rw [HO.out]
    go_wp2
    go_ret
    exact ⟨by rw [HE.out]; rfl, hba.trans (hb1.mono hba.size)⟩
  have HO := Lib.hid hok
  have HK := Lib.hid (okB_iff.1 (Bool.and_eq_true_iff.1 hok).1)
  have hp := pl_iff.1 (Bool.and_eq_true_iff.1 hok).2
  obtain rfl : n = (l.length : Int) := HK.out.2.2.1.symm
  obtain ⟨v, rfl⟩ : ∃ v : Nat, kk = v := ⟨kk.toNat, by omega⟩
  have hvl : v < l.length := by omega
  have HE : Hid (climbR l.length l v = ((Kk.climb (ww l) l.length v : Nat) : Int)) := by show _ = _; unfold climbR; rw [hok]; rfl
  clear hok hp
  go_enter Try.func52, Try.ntmps52
  go_wp2_with fail
  rw [← HWa.out]
  refine (specPlayer _ a l cap v Wa hrowa HL.out).mono ?_
  rintro e w3 ⟨rfl, hb1⟩
  rw [HO.out]
  have XA3 := Lib.hid (xa.below hb1 xa.lt)
  have HR3 := Lib.hid (hrowa.below hb1 (Nat.le_refl _))
  have B3 := Lib.hid (hba.trans (hb1.mono hba.size))
  clear hb1 hba xa hrowa
  go_wp2
  go_loopw [1] (fun s wr => ∃ q : Nat, s = .int .i64 (q : Int) ∧ Hid (At9 l v q) ∧ Below w3.heap.size w3 wr) (fun s _ => left9 l (intOf s).toNat)
  case atStart => exact ⟨v, rfl, ⟨hvl, hvl, .inl rfl⟩, Below.refl _ _⟩
  case round =>
    obtain ⟨q, rfl, hat, hb⟩ := hrel
    have xr := XA3.out.below hb XA3.out.lt
    have c0 := xr.c0
    have c1 := xr.c1
    have HRr := Lib.hid (HR3.out.below hb (Nat.le_refl _))
    cases hkg : Kk.kingN (ww l) l.length q
    · have HKG := Lib.hid hkg
      have hnx := At9.next HK.out hat.out hkg
      have hn : Hid (At9 l v (st8 l q l.length)) := hnx.1
      have hm1 : left9 l q = 1 := by unfold left9; rw [hkg]; rfl
      have hm0 : left9 l (st8 l q l.length) = 0 := by unfold left9; rw [hnx.2]; rfl
      have HM1 := Lib.hid hm1
      have HM0 := Lib.hid hm0
      obtain ⟨z, hz⟩ : ∃ z, z = st8 l q l.length := ⟨_, rfl⟩
      rw [← hz] at hn HM0
      have HZ := Lib.hid hz
      clear hkg hnx hm1 hm0 xr hz
      go_wp2_with fail
      refine (l07King_any _ a l cap q _ HRr.out HK.out hat.out.2.1).mono ?_
      rintro e w4 ⟨rfl, hb4⟩
      rw [HKG.out]
      have xr4 := (XA3.out.below hb XA3.out.lt).below hb4 (Nat.lt_of_lt_of_le XA3.out.lt hb.size)
      have hb44 := hb.trans (hb4.mono hb.size)
      have hr4 := HRr.out.below hb4 (Nat.le_refl _)
      clear c0 c1
      have c0 := xr4.c0
      have c1 := xr4.c1
      clear xr4 hb4
      go_wp2_with fail
      refine (l07Step_any _ a l cap q _ hr4 HK.out hat.out.2.1).mono ?_
      rintro e w5 ⟨rfl, hb5⟩
      rw [← HZ.out]
      have hb55 := hb44.trans (hb5.mono hb44.size)
      go_wp2
      go_roundw
      case rel => exact ⟨z, rfl, hn, hb55⟩
      case measure =>
        show left9 l (Int.toNat (z : Int)) < left9 l (Int.toNat (q : Int))
        rw [Int.toNat_natCast, Int.toNat_natCast, HM0.out, HM1.out]; omega
    · have HKG := Lib.hid hkg
      have hE : Hid (q = Kk.climb (ww l) l.length v) := hat.out.king hkg
      clear hkg xr
      go_wp2_with fail
      refine (l07King_any _ a l cap q _ HRr.out HK.out hat.out.2.1).mono ?_
      rintro e w4 ⟨rfl, hb4⟩
      rw [HKG.out]
      have hb44 := hb.trans (hb4.mono hb.size)
      go_wp2
      go_ret
      exact ⟨by rw [HE.out, ← hE.out]; rfl, B3.out.trans (hb44.mono B3.out.size)⟩
end Go.Proofs.Ytgjogbihadiojaa
