/-
  'IsRotational' of the model. No conditions but the bounds that Go gives a slice.
-/
import Derived.Test.YteiadhfjpohmdaaXl
import Derived.Deep.RegionHeld3
namespace Go.Proofs.Yteiadhfjpohmdaa
open Go.ChangeShapes Go.WideShapes Go.ChangeAt Go.RowKit
set_option linter.unusedVariables false

theorem own_intX {w : World} {B m c : Nat} {a : Option Addr} {L : List Int} (hm : L.length = m) (h : w.ownsRow B 3 1 (.slice a m c) m (L.map iv)) : IntRow w a L := by subst hm; exact own_int h
theorem same_len {w : World} {B m g : Nat} {L : List Int} (hL : L.length = m) (h : w.ownsRow B 3 1 (.slice (some ⟨g, 0, none⟩) m m) m (L.map iv)) : IntRow w (some ⟨g, 0, none⟩) L := by
  subst hL; exact IntRow.of_own h
theorem field1_tour (n : Int) (s : Value) (W : World) : (Instr.field 27 (.agg #[.int .i64 n, s]) 1).run Try.prog W = .ok s W := by kernel_rfl
set_option maxRecDepth 100000 in
set_option maxHeartbeats 2000000 in
theorem specIsRotational (n : Int) (a : Option Addr) (l : List Int) (cap : Nat) (w : World) (hrow : IntRow w a l) (hl : l.length ≤ maxLen) :
    Calls Try.prog 27 #[.agg #[.int .i64 n, .slice a l.length cap]] w fun e w' => e = .returned (.bool (rotR n l)) ∧ Below w.heap.size w w' := by
  obtain ⟨Wa, hWa⟩ : ∃ Wa, Wa = w.alloc (.cells #[.int .i64 n, .slice a l.length cap] 27) := ⟨_, rfl⟩
  have HWa := Lib.hid hWa
  have hba : Below w.heap.size w Wa := by rw [hWa]; exact (Below.refl _ _).alloc (Nat.le_refl _) _
  have xa : Box Wa w.heap.size 27 (.int .i64 n) (.slice a l.length cap) := by rw [hWa]; exact Box.new _ _ _ _
  have hrowa : IntRow Wa a l := hrow.below hba (Nat.le_refl _)
  have HL := Lib.hid hl
  have HT := Lib.hid (specTourOk n a l cap Wa.drew (hrowa.below (Below.refl _ Wa).drew (Nat.le_refl _)) hl)
  have c0 := xa.c0
  have c1 := xa.c1
  clear hrow hWa hl
  cases hok : okB n l
  · have HO := Lib.hid hok
    have HE : Hid (rotR n l = false) := by show _ = _; unfold rotR; rw [hok]; rfl
    have HBA := Lib.hid hba
    clear hok xa hrowa hba
    go_enter Try.func27, Try.ntmps27
    go_wp2
    rw [← HWa.out]
    first
    | (go_region_with (go_at_call 86; refine HT.out.mono ?_; rintro e w1 ⟨rfl, hb1⟩; rw [HO.out]; have HB1 := Lib.hid (HBA.out.trans (((Below.refl _ Wa).drew.trans hb1).mono HBA.out.size)); clear hb1))
    | fail
    all_goals
      clear c0 c1
      go_wp2
      go_ret
      exact ⟨by rw [HE.out]; rfl, HB1.out⟩
  have HO := Lib.hid hok
  have hk := okB_iff.1 hok
  obtain rfl : n = (l.length : Int) := hk.2.2.1.symm
  have hl1 : 1 ≤ l.length := by have := hk.1; omega
  have hl8 : l.length ≤ 8 := by have := hk.2.1; omega
  have hE : renR (l.length : Int) l (turnZ l.length) = (renF (turnZ l.length) (gamesL l.length l)).map Int.ofNat := by
    unfold renR
    rw [show renB (l.length : Int) l (turnZ l.length) = true by unfold renB; rw [hok, turn_perm _ hl1 hl8]; rfl]; rfl
  have hE2 : eqX (renR (l.length : Int) l (turnZ l.length)) l = rotR (l.length : Int) l := by unfold rotR; rw [hok]; rfl
  have hRl : (renR (l.length : Int) l (turnZ l.length)).length = l.length := by rw [hE]; simp [renF_len]
  obtain ⟨R, hR⟩ : ∃ R, R = renR (l.length : Int) l (turnZ l.length) := ⟨_, rfl⟩
  rw [← hR] at hE hE2 hRl
  have HE2 := Lib.hid hE2
  have HTL := Lib.hid (turnZ_len l.length)
  have XA := Lib.hid xa
  have HRA := Lib.hid hrowa
  have HBA := Lib.hid hba
  have HREN : Hid (∀ (b : Option Addr) (c2 : Nat) (W : World), IntRow W a l → IntRow W b (turnZ l.length) → Calls Try.prog 88 #[.agg #[.int .i64 (l.length : Int), .slice a l.length cap], .slice b l.length c2] W fun e w' => (∃ g, e = .returned (.agg #[.int .i64 (l.length : Int), .slice (some ⟨g, 0, none⟩) l.length l.length]) ∧ IntRow w' (some ⟨g, 0, none⟩) R) ∧ Below W.heap.size W w') := by
    intro b c2 W h1 h2
    have := l02Rename_any a l cap b (turnZ l.length) c2 W h1 h2 hk (turn_perm _ hl1 hl8)
    rw [HTL.out] at this
    refine this.mono ?_
    rintro e w' ⟨⟨g, he, ho⟩, hb⟩
    rw [nv_iv, ← hE] at ho
    exact ⟨⟨g, he, same_len hRl ho⟩, hb⟩
  obtain ⟨m, hm⟩ : ∃ m, m = l.length := ⟨_, rfl⟩
  have HM := Lib.hid hm
  rw [← hm] at hl1 hl8 HT HE2 HTL XA c0 c1 HWa HO HREN hRl ⊢
  have HRL := Lib.hid hRl
  clear hok hk hE hE2 xa hrowa hba hm hR hRl
  go_enter Try.func27, Try.ntmps27
  go_wp2
  rw [← HWa.out]
  have hfd := fun (s : Value) (W : World) => field1_tour (m : Int) s W
  have BD : Hid (Below Wa.heap.size Wa Wa.drew) := (Below.refl _ Wa).drew
  have KEEP : Hid (∀ V, Below Wa.heap.size Wa V → (V.cell? ⟨w.heap.size, 0, none⟩ = some (.int .i64 (m : Int)) ∧ V.cell? ⟨w.heap.size, 1, none⟩ = some (.slice a m cap))) := fun V hb => ⟨(XA.out.below hb XA.out.lt).c0, (XA.out.below hb XA.out.lt).c1⟩
  go_region_held3 (fun V => V.cell? ⟨w.heap.size, 0, none⟩ = some (.int .i64 (m : Int)) ∧ V.cell? ⟨w.heap.size, 1, none⟩ = some (.slice a m cap))
      (first | (exact KEEP.out _ B3.out) | (exact KEEP.out _ B2.out) | (exact KEEP.out _ B1.out) | (exact KEEP.out _ BD.out))
      (first
      | (go_at_call 86
         refine HT.out.mono ?_
         rintro e w1 ⟨rfl, hb1⟩
         rw [HO.out]
         have B1 := Lib.hid (BD.out.trans hb1)
         clear hb1)
      | (go_at_call 89
         refine (l11Turn_any m hl1 hl8 _).mono ?_
         rintro e w2 ⟨⟨g2, c2, rfl, ho2⟩, hb2⟩
         have B2 := Lib.hid (B1.out.trans (hb2.mono B1.out.size))
         have R2 : Hid (IntRow w2 (some ⟨g2, 0, none⟩) (turnZ m)) := own_intX HTL.out ho2
         clear hb2 ho2)
      | (go_at_call 88
         refine (HREN.out _ c2 w2 (HRA.out.below B2.out (Nat.le_refl _)) R2.out).mono ?_
         rintro e w3 ⟨⟨g3, rfl, hr3⟩, hb3⟩
         have B3 := Lib.hid (B2.out.trans (hb3.mono B2.out.size))
         have HS := Lib.hid (l04Same_any (some ⟨g3, 0, none⟩) a R l m cap w3 hr3 (HRA.out.below B3.out (Nat.le_refl _)) (by rw [HRL.out]; unfold maxLen; omega) HL.out)
         rw [HRL.out, HE2.out, ← HM.out] at HS
         clear hb3 hr3)
      | (go_at_call 87
         refine HS.out.mono ?_
         rintro e w4 ⟨rfl, rfl⟩))
  all_goals
    have B4 := Lib.hid (HBA.out.trans (B3.out.mono HBA.out.size))
    clear c0 c1
    simp [go_sem]
    go_wp2
    go_ret
    exact ⟨rfl, B4.out⟩
end Go.Proofs.Yteiadhfjpohmdaa
