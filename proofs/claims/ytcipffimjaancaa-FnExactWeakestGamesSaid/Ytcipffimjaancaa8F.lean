/-
  'ReachOf' of the program and of the model. No conditions but the bounds that Go gives a slice.
-/
import Derived.Test.Ytcipffimjaancaa8E
namespace Go.Proofs.Ytcipffimjaancaa
open Go.ChangeShapes Go.WideShapes Go.ChangeAt Go.RowKit
set_option linter.unusedVariables false

/-- What both 'ReachOf' answer. -/
noncomputable def reachR (n : Int) (l : List Int) (p : Int) : Int := if okB n l && pl n p then (Rc.rs l.length (ww l) p.toNat : Int) else 0

set_option maxRecDepth 100000 in
set_option maxHeartbeats 1000000 in
theorem specReachOf (n : Int) (a : Option Addr) (l : List Int) (cap : Nat) (p : Int) (w : World) (hrow : IntRow w a l) (hl : l.length ≤ maxLen) :
    Calls Try.prog 27 #[.agg #[.int .i64 n, .slice a l.length cap], .int .i64 p] w fun e w' => e = .returned (.int .i64 (reachR n l p)) ∧ Below w.heap.size w w' := by
  obtain ⟨Wa, hWa⟩ : ∃ Wa, Wa = w.alloc (.cells #[.int .i64 n, .slice a l.length cap] 25) := ⟨_, rfl⟩
  have HWa := Lib.hid hWa
  have hba : Below w.heap.size w Wa := by rw [hWa]; exact (Below.refl _ _).alloc (Nat.le_refl _) _
  have xa : Box Wa w.heap.size 25 (.int .i64 n) (.slice a l.length cap) := by rw [hWa]; exact Box.new _ _ _ _
  have hrowa : IntRow Wa a l := hrow.below hba (Nat.le_refl _)
  have HL := Lib.hid hl
  clear hl hrow hWa
  cases hok : (okB n l && pl n p)
  · have HO := Lib.hid hok
    have HE : Hid (reachR n l p = 0) := by show _ = _; unfold reachR; rw [hok]; rfl
    clear hok
    go_enter Try.func27, Try.ntmps27
    go_wp2_with fail
    rw [← HWa.out]
    refine (specPlayer n a l cap p Wa hrowa HL.out).mono ?_
    rintro e w1 ⟨rfl, hb1⟩
    rw [HO.out]
    go_wp2
    go_ret
    exact ⟨by rw [HE.out]; rfl, hba.trans (hb1.mono hba.size)⟩
  · have HO := Lib.hid hok
    have hk := okB_iff.1 (Bool.and_eq_true_iff.1 hok).1
    have hp := pl_iff.1 (Bool.and_eq_true_iff.1 hok).2
    have hnl := hk.2.2.1
    have hn8 := hk.2.1
    obtain ⟨i, rfl⟩ : ∃ i : Nat, p = i := ⟨p.toNat, by omega⟩
    have hil : i < l.length := by omega
    have HK := Lib.hid hk
    have HE : Hid (reachR n l i = (Rc.rs l.length (ww l) i : Int)) := by show _ = _; unfold reachR; rw [hok]; rfl
    clear hok hk hp
    go_enter Try.func27, Try.ntmps27
    go_wp2_with fail
    rw [← HWa.out]
    refine (specPlayer n a l cap i Wa hrowa HL.out).mono ?_
    rintro e w1 ⟨rfl, hb1⟩
    rw [HO.out]
    have c0 := (xa.below hb1 xa.lt).c0
    have c1 := (xa.below hb1 xa.lt).c1
    have hr1 := Lib.hid (hrowa.below hb1 (Nat.le_refl _))
    go_wp2_with fail
    refine (l05Reach_any n a l cap i w1 hr1.out HK.out hil).mono ?_
    rintro e w2 ⟨rfl, hb2⟩
    go_wp2
    go_ret
    have b1 := hba.trans (hb1.mono hba.size)
    exact ⟨by rw [HE.out]; rfl, b1.trans (hb2.mono b1.size)⟩

set_option maxRecDepth 100000 in
set_option maxHeartbeats 1000000 in
theorem implReachOf (n : Int) (a : Option Addr) (l : List Int) (cap : Nat) (p : Int) (w : World) (hrow : IntRow w a l) (hl : l.length ≤ maxLen) :
    Calls Try.prog 29 #[.agg #[.int .i64 n, .slice a l.length cap], .int .i64 p] w fun e w' => e = .returned (.int .i64 (reachR n l p)) ∧ Below w.heap.size w w' := by
  obtain ⟨Wa, hWa⟩ : ∃ Wa, Wa = w.alloc (.cells #[.int .i64 n, .slice a l.length cap] 25) := ⟨_, rfl⟩
  have HWa := Lib.hid hWa
  have hba : Below w.heap.size w Wa := by rw [hWa]; exact (Below.refl _ _).alloc (Nat.le_refl _) _
  have xa : Box Wa w.heap.size 25 (.int .i64 n) (.slice a l.length cap) := by rw [hWa]; exact Box.new _ _ _ _
  have hrowa : IntRow Wa a l := hrow.below hba (Nat.le_refl _)
  have HL := Lib.hid hl
  clear hl hrow hWa
  cases hok : okB n l
  · have HO := Lib.hid hok
    have HE : Hid (reachR n l p = 0) := by show _ = _; unfold reachR; rw [hok]; rfl
    clear hok
    go_enter Try.func29, Try.ntmps29
    go_wp2_with fail
    rw [← HWa.out]
    refine (implTourOk n a l cap Wa hrowa HL.out).mono ?_
    rintro e w1 ⟨rfl, hb1⟩
    rw [HO.out]
    go_wp2
    go_ret
    exact ⟨by rw [HE.out]; rfl, hba.trans (hb1.mono hba.size)⟩
  have HO := Lib.hid hok
  have hk := okB_iff.1 hok
  have hnl := hk.2.2.1
  have hn8 := hk.2.1
  cases hp : pl n p
  · have HP := Lib.hid hp
    have HE : Hid (reachR n l p = 0) := by show _ = _; unfold reachR; rw [hp]; simp
    clear hok hp hk
    go_enter Try.func29, Try.ntmps29
    go_wp2_with fail
    rw [← HWa.out]
    refine (implTourOk n a l cap Wa hrowa HL.out).mono ?_
    rintro e w1 ⟨rfl, hb1⟩
    rw [HO.out]
    have c0 := (xa.below hb1 xa.lt).c0
    have c1 := (xa.below hb1 xa.lt).c1
    go_wp2_with fail
    refine (hasPlayer_pl n a _ cap p w1).mono ?_
    rintro e w2 ⟨rfl, hb2⟩
    rw [HP.out]
    go_wp2
    go_ret
    have b1 := hba.trans (hb1.mono hba.size)
    exact ⟨by rw [HE.out]; rfl, b1.trans (hb2.mono b1.size)⟩
  · have HP := Lib.hid hp
    have hp2 := pl_iff.1 hp
    obtain ⟨i, rfl⟩ : ∃ i : Nat, p = i := ⟨p.toNat, by omega⟩
    have hil : i < l.length := by omega
    have HK := Lib.hid hk
    have HE : Hid (reachR n l i = (Rc.rs l.length (ww l) i : Int)) := by show _ = _; unfold reachR; rw [hok, hp]; rfl
    clear hok hk hp hp2
    go_enter Try.func29, Try.ntmps29
    go_wp2_with fail
    rw [← HWa.out]
    refine (implTourOk n a l cap Wa hrowa HL.out).mono ?_
    rintro e w1 ⟨rfl, hb1⟩
    rw [HO.out]
    have xa1 := xa.below hb1 xa.lt
    have c0 := xa1.c0
    have c1 := xa1.c1
    go_wp2_with fail
    refine (hasPlayer_pl n _ _ cap i w1).mono ?_
    rintro e w2 ⟨rfl, hb2⟩
    rw [HP.out]
    have xa2 := xa1.below hb2 xa1.lt
    clear c0 c1
    have c0 := xa2.c0
    have c1 := xa2.c1
    have hr2 := Lib.hid ((hrowa.below hb1 (Nat.le_refl _)).below hb2 (Nat.le_refl _))
    go_wp2_with fail
    refine (reachFrom_any n a l cap i w2 hr2.out HK.out hil).mono ?_
    rintro e w3 ⟨rfl, hb3⟩
    go_wp2
    go_ret
    have b1 := hba.trans (hb1.mono hba.size)
    have b2 := b1.trans (hb2.mono b1.size)
    exact ⟨by rw [HE.out]; rfl, b2.trans (hb3.mono b2.size)⟩

end Go.Proofs.Ytcipffimjaancaa
