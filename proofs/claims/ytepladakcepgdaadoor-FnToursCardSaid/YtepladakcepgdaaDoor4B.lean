/-
  The model's 'FormatTour'. No conditions but the bounds that Go gives a slice.
-/
import Derived.Test.YtepladakcepgdaaDoor4A
namespace Go.Proofs.YtepladakcepgdaaDoor
open Go.ChangeShapes Go.WideShapes Go.ChangeAt Go.RowKit
set_option linter.unusedVariables false

set_option maxHeartbeats 1000000 in
theorem specFormat (n : Int) (a : Option Addr) (l : List Int) (cap : Nat) (w : World) (hrow : IntRow w a l) (hl : l.length ≤ maxLen) :
    Calls Tryd.prog 23 #[.agg #[.int .i64 n, .slice a l.length cap]] w fun e w' => e = .returned (.string ⟨(fmtR n l).toArray⟩) ∧ Below w.heap.size w w' := by
  obtain ⟨Wa, hWa⟩ : ∃ Wa, Wa = w.alloc (.cells #[.int .i64 n, .slice a l.length cap] 25) := ⟨_, rfl⟩
  have HWa := Lib.hid hWa
  have hba : Below w.heap.size w Wa := by rw [hWa]; exact (Below.refl _ _).alloc (Nat.le_refl _) _
  have xa : Box Wa w.heap.size 25 (.int .i64 n) (.slice a l.length cap) := by rw [hWa]; exact Box.new _ _ _ _
  have hrowa : IntRow Wa a l := hrow.below hba (Nat.le_refl _)
  have HL := Lib.hid hl
  clear hl hrow hWa
  cases hok : okB n l
  · have HO := Lib.hid hok
    have HE : Hid (fmtR n l = []) := by show _ = _; unfold fmtR; rw [hok]; rfl
    clear hok
    go_enter Tryd.func23, Tryd.ntmps23
    go_wp2_with fail
    rw [← HWa.out]
    refine (specTourOk n a l cap Wa hrowa HL.out).mono ?_
    rintro e w1 ⟨rfl, hb1⟩
    rw [HO.out]
    go_wp2
    go_ret
    exact ⟨by rw [HE.out]; rfl, hba.trans (hb1.mono hba.size)⟩
  have HO := Lib.hid hok
  have hk := okB_iff.1 hok
  have h8 : l.length ≤ 8 := by have := hk.2.1; have := hk.2.2.1; omega
  have h1 : 0 < l.length := by have := hk.1; have := hk.2.2.1; omega
  obtain rfl : n = (l.length : Int) := hk.2.2.1.symm
  have HE : Hid (fmtR l.length l = fmtTo l l.length []) := by show _ = _; unfold fmtR; rw [hok]; rfl
  clear hok hk
  go_enter Tryd.func23, Tryd.ntmps23
  go_wp2_with fail
  rw [← HWa.out]
  refine (specTourOk _ a l cap Wa hrowa HL.out).mono ?_
  rintro e w1 ⟨rfl, hb1⟩
  rw [HO.out]
  have xa1 := xa.below hb1 xa.lt
  have hrow1 := hrowa.below hb1 (Nat.le_refl _)
  have hB1 := hba.trans (hb1.mono hba.size)
  have hlt1 : w.heap.size < w1.heap.size := xa1.lt
  have c0 := xa1.c0
  have XX := Lib.hid xa1
  have HIR := Lib.hid hrow1
  clear xa xa1 hrowa hrow1 hba hb1
  have hil : (Lib.itoa (l.length : Int)).length ≤ 21 := Lib.itoa_length_le _ (by omega) (by omega)
  obtain ⟨H, hH⟩ : ∃ H : ByteArray, H = ⟨(Lib.itoa (l.length : Int)).toArray⟩ := ⟨_, rfl⟩
  have hHs : H.size ≤ 21 := by rw [hH, Lib.size_eq]; simpa using hil
  have HH := Lib.hid hH
  clear hH
  go_wp2_with fail
  refine (specFmt (l.length : Int) w1 (by omega) (by omega)).mono ?_
  rintro e w2 ⟨rfl, hb2⟩
  rw [← HH.out]
  have c0 := (XX.out.below hb2 hlt1).c0
  have c1 := (XX.out.below hb2 hlt1).c1
  have hA0 : Hid ((H ++ ⟨#[58]⟩).data.toList = fmtTo l 0 []) := by
    show _ = _; rw [data_append, HH.out]; unfold fmtTo; rw [rowsTo_zero]; simp
  go_wp2
  clear c0 c1
  go_loopw [3, 16] (fun s i wr => ∃ (k : Nat) (A : ByteArray), k ≤ l.length ∧ i = .int .i64 k ∧ s = .string A ∧ Hid (A.data.toList = fmtTo l k []) ∧ Below w1.heap.size w1 wr) (fun _ i _ => l.length - (intOf i).toNat)
  case atStart => exact ⟨0, _, Nat.zero_le _, rfl, rfl, hA0, hb2⟩
  case round =>
    clear hb2 hA0
    obtain ⟨k, A, hk, rfl, rfl, hA, hb⟩ := hrel
    by_cases hlt : k < l.length
    · have hki : (k : Int) < (l.length : Int) := by omega
      have hA2 : Hid (A.data.toList = fmtTo l k (rowBits l k (k + 1))) := by show _ = _; rw [rowBits_zero]; exact hA.out
      have hb2 := hb
      clear hb hA
      go_wp2
      go_loopw [3, 5] (fun s q W => ∃ (j : Nat) (C : ByteArray), k + 1 ≤ j ∧ j ≤ l.length ∧ q = .int .i64 j ∧ s = .string C ∧ Hid (C.data.toList = fmtTo l k (rowBits l k j)) ∧ Below w1.heap.size w1 W) (fun _ q _ => l.length - (intOf q).toNat)
      case atStart => exact ⟨k + 1, A, Nat.le_refl _, hlt, by go_num, rfl, hA2, hb2⟩
      case round =>
        clear hb2 hA2
        obtain ⟨j, C, hj1, hj, rfl, rfl, hC, hb⟩ := hrel
        have c0 := (XX.out.below hb hlt1).c0
        have c1 := (XX.out.below hb hlt1).c1
        have hlen := fmtTo_len l h8 k (by omega) (rowBits l k j) (by rw [rowBits_len]; omega)
        have hCs : C.size ≤ 200 := by rw [Lib.size_eq, hC.out]; exact hlen
        by_cases hjl : j < l.length
        · have hji : (j : Int) < (l.length : Int) := by omega
          have hir := HIR.out.below hb (Nat.le_refl _)
          have hsn := Lib.hid (rowBits_succ l k j hj1)
          cases hbit : bt l k j
          · have HB := Lib.hid hbit
            clear hbit hlen
            go_wp2_with fail
            refine (l02Beats_any _ a l cap k j _ hir HL.out hlt (by omega)).mono ?_
            rintro e w6 ⟨rfl, hb6⟩
            rw [HB.out]
            have hb7 := hb.trans (hb6.mono hb.size)
            have hC2 : Hid ((C ++ ⟨#[48]⟩).data.toList = fmtTo l k (rowBits l k (j + 1))) := by
              show _ = _; rw [hsn.out, HB.out, fmtTo_snoc, data_append, hC.out]; rfl
            have c0 := (XX.out.below hb7 hlt1).c0
            clear c1 hb6 hir hb
            go_wp2
            go_roundw
            case rel => exact ⟨j + 1, _, by omega, by omega, by go_num, rfl, hC2, hb7⟩
            case measure => simp [intOf]; omega
          · have HB := Lib.hid hbit
            clear hbit hlen
            go_wp2_with fail
            refine (l02Beats_any _ a l cap k j _ hir HL.out hlt (by omega)).mono ?_
            rintro e w6 ⟨rfl, hb6⟩
            rw [HB.out]
            have hb7 := hb.trans (hb6.mono hb.size)
            have hC2 : Hid ((C ++ ⟨#[49]⟩).data.toList = fmtTo l k (rowBits l k (j + 1))) := by
              show _ = _; rw [hsn.out, HB.out, fmtTo_snoc, data_append, hC.out]; rfl
            have c0 := (XX.out.below hb7 hlt1).c0
            clear c1 hb6 hir hb
            go_wp2
            go_roundw
            case rel => exact ⟨j + 1, _, by omega, by omega, by go_num, rfl, hC2, hb7⟩
            case measure => simp [intOf]; omega
        · obtain rfl : j = l.length := by omega
          have hCn : Hid (C.data.toList = fmtTo l (k + 1) []) := by show _ = _; rw [fmtTo_next]; exact hC.out
          clear hC hlen
          go_wp2
          go_roundw
          case rel => exact ⟨k + 1, C, by omega, by go_num, rfl, hCn, hb⟩
          case measure => simp [intOf]; omega
    · obtain rfl : k = l.length := by omega
      have hAe : Hid (A = ⟨(fmtTo l l.length []).toArray⟩) := of_data hA.out
      go_wp2
      go_ret
      exact ⟨by rw [HE.out, ← hAe.out]; rfl, hB1.trans (hb.mono hB1.size)⟩
end Go.Proofs.YtepladakcepgdaaDoor
