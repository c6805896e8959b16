/-
  'IsRotational' of the program and of the model. No conditions but the bounds that Go gives a slice.
-/
import Derived.Test.YteiadhfjpohmdaaXk
namespace Go.Proofs.Yteiadhfjpohmdaa
open Go.ChangeShapes Go.WideShapes Go.ChangeAt Go.RowKit
set_option linter.unusedVariables false

/-- What both answer. -/
noncomputable def rotR (n : Int) (l : List Int) : Bool := okB n l && eqX (renR n l (turnZ l.length)) l
theorem turn_perm (n : Nat) (h1 : 1 ≤ n) (h8 : n ≤ 8) : permB n (turnZ n) = true := by
  have : ∀ n : Fin 9, 1 ≤ n.val → Rn.isO n.val (Rn.turnN n.val) = true := by decide +kernel
  exact Rn.isO_perm (this ⟨n, by omega⟩ h1)

set_option maxRecDepth 100000 in
set_option maxHeartbeats 2000000 in
theorem implIsRotational (n : Int) (a : Option Addr) (l : List Int) (cap : Nat) (w : World) (hrow : IntRow w a l) (hl : l.length ≤ maxLen) :
    Calls Try.prog 29 #[.agg #[.int .i64 n, .slice a l.length cap]] w fun e w' => e = .returned (.bool (rotR n l)) ∧ Below w.heap.size w w' := by
  obtain ⟨Wa, hWa⟩ : ∃ Wa, Wa = w.alloc (.cells #[.int .i64 n, .slice a l.length cap] 27) := ⟨_, rfl⟩
  have HWa := Lib.hid hWa
  have hba : Below w.heap.size w Wa := by rw [hWa]; exact (Below.refl _ _).alloc (Nat.le_refl _) _
  have xa : Box Wa w.heap.size 27 (.int .i64 n) (.slice a l.length cap) := by rw [hWa]; exact Box.new _ _ _ _
  have hrowa : IntRow Wa a l := hrow.below hba (Nat.le_refl _)
  have HL := Lib.hid hl
  have HT := Lib.hid (implTourOk n a l cap Wa.drew (hrowa.below (Below.refl _ Wa).drew (Nat.le_refl _)) hl)
  have c0 := xa.c0
  have c1 := xa.c1
  clear hrow hWa hl
  cases hok : okB n l
  · have HO := Lib.hid hok
    have HE : Hid (rotR n l = false) := by show _ = _; unfold rotR; rw [hok]; rfl
    have HBA := Lib.hid hba
    clear hok xa hrowa hba
    go_enter Try.func29, Try.ntmps29
    go_wp2
    rw [← HWa.out]
    first
    | (go_region_with (go_at_call 90; refine HT.out.mono ?_; rintro e w1 ⟨rfl, hb1⟩; rw [HO.out]; have HB1 := Lib.hid (HBA.out.trans (((Below.refl _ Wa).drew.trans hb1).mono HBA.out.size)); clear hb1))
    | fail
    all_goals
      clear c0 c1
      go_wp2
      go_ret
      exact ⟨by rw [HE.out]; rfl, HB1.out⟩
  have HO := Lib.hid hok
  have hk := okB_iff.1 hok
  obtain rfl : n = (l.length : Int) := hk.2.2.1.symm
  have hl1 : 1 ≤ l.length := by have := hk.1; omega
  have hl8 : l.length ≤ 8 := by have := hk.2.1; omega
  have hE : symR (l.length : Int) l (turnZ l.length) = rotR (l.length : Int) l := by
    unfold symR rotR
    rw [show renB (l.length : Int) l (turnZ l.length) = true by unfold renB; rw [hok, turn_perm _ hl1 hl8]; rfl, hok]
  have HE := Lib.hid hE
  have HTL := Lib.hid (turnZ_len l.length)
  have XA := Lib.hid xa
  have HRA := Lib.hid hrowa
  have HBA := Lib.hid hba
  obtain ⟨m, hm⟩ : ∃ m, m = l.length := ⟨_, rfl⟩
  have HM := Lib.hid hm
  rw [← hm] at hl1 hl8 HT HE HTL XA c0 c1 HWa HO ⊢
  clear hok hk hE xa hrowa hba hm
  go_enter Try.func29, Try.ntmps29
  go_wp2
  rw [← HWa.out]
  first
  | (go_region_with (first
      | (go_at_call 90; refine HT.out.mono ?_; rintro e w1 ⟨rfl, hb1⟩; rw [HO.out]; have hb01 := (Below.refl _ Wa).drew.trans hb1; have B1 := Lib.hid hb01; have d0 := (XA.out.below hb01 XA.out.lt).c0; have d1 := (XA.out.below hb01 XA.out.lt).c1; clear hb1 hb01)
      | (go_at_call 91; refine (nextPlayers_any m hl1 hl8 _).mono ?_; rintro e w2 ⟨⟨ad, c2, rfl, hr2⟩, hb2⟩; have hb02 := B1.out.trans (hb2.mono B1.out.size); have B2 := Lib.hid hb02; have R2 := Lib.hid hr2; have e0 := (XA.out.below hb02 XA.out.lt).c0; have e1 := (XA.out.below hb02 XA.out.lt).c1; clear hb2 hb02 hr2)
      | (go_at_call 33; have HS := Lib.hid (implIsSymmetry (m : Int) a l cap (some ad) (turnZ m) c2 w2 (HRA.out.below B2.out (Nat.le_refl _)) HL.out R2.out (by rw [HTL.out]; unfold maxLen; omega)); rw [HTL.out, HE.out, ← HM.out] at HS; refine HS.out.mono ?_; rintro e w3 ⟨rfl, hb3⟩; have B3 := Lib.hid (B2.out.trans (hb3.mono B2.out.size)); clear hb3)))
  | fail
  all_goals
    have B4 := Lib.hid (HBA.out.trans (B3.out.mono HBA.out.size))
    clear c0 c1 d0 d1
    simp [go_sem]
    go_wp2
    go_ret
    exact ⟨rfl, B4.out⟩

end Go.Proofs.Yteiadhfjpohmdaa
