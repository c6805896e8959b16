/-
  FewestReversals and CountBestOrders, the program's and the model's. No conditions but the bounds that Go gives a slice.
-/
import Derived.Test.YteegbkbphfmooaaQG
import Derived.Test.YteegbkbphfmooaaQv
namespace Go.Proofs.Yteegbkbphfmooaa
open Go.ChangeShapes Go.WideShapes Go.ChangeAt Go.RowKit Go.Sort
set_option linter.unusedVariables false

noncomputable def frR (n : Int) (l : List Int) : Int := if okB n l then ((Rv.gm (bt l) (2 ^ l.length - 1) : Nat) : Int) else -1
noncomputable def cbR (n : Int) (l : List Int) : Int := if okB n l then ((Rv.gn (bt l) (2 ^ l.length - 1) : Nat) : Int) else -1
theorem tab_cell {W : World} {B g N c s : Nat} {F : Nat → Nat} (h : W.ownsRow B 3 1 (.slice (some ⟨g, 0, none⟩) N c) N (((List.range N).map fun s => ((F s : Nat) : Int)).map iv)) (hs : s < N) : W.cell? ⟨g, s, none⟩ = some (.int .i64 ((F s : Nat) : Int)) := by
  have := h.cellAt s (by omega)
  rw [List.getElem?_map, List.getElem?_map, List.getElem?_range hs] at this
  exact this
set_option maxRecDepth 100000 in
set_option maxHeartbeats 2000000 in
theorem implFewestReversals (n : Int) (a : Option Addr) (l : List Int) (cap : Nat) (w : World) (hrow : IntRow w a l) (hl : l.length ≤ maxLen) :
    Calls Try.prog 28 #[.agg #[.int .i64 n, .slice a l.length cap]] w fun e w' => e = .returned (.int .i64 (frR n l)) ∧ RowKit.Below w.heap.size w w' := by
  obtain ⟨Wa, hWa⟩ : ∃ Wa, Wa = w.alloc (.cells #[.int .i64 n, .slice a l.length cap] 25) := ⟨_, rfl⟩
  have HWa := Lib.hid hWa
  have hba : RowKit.Below w.heap.size w Wa := by rw [hWa]; exact (Below.refl _ _).alloc (Nat.le_refl _) _
  have xa : Box Wa w.heap.size 25 (.int .i64 n) (.slice a l.length cap) := by rw [hWa]; exact Box.new _ _ _ _
  have hrowa : IntRow Wa a l := hrow.below hba (Nat.le_refl _)
  have HL := Lib.hid hl
  clear hl hrow hWa
  cases hok : okB n l
  · have HO := Lib.hid hok
    have HE : Hid (frR n l = -1) := by show _ = _; unfold frR; rw [hok]; rfl
    clear hok
    go_enter Try.func28, Try.ntmps28
    go_wp2_with fail
    rw [← HWa.out]
    refine (implTourOk n a l cap Wa hrowa HL.out).mono ?_
    rintro e w1 ⟨rfl, hb1⟩
    rw [HO.out]
    have B1 := Lib.hid (hba.trans (hb1.mono hba.size))
    clear hb1
    go_wp2
    go_ret
    exact ⟨by rw [HE.out]; rfl, B1.out⟩
  have HO := Lib.hid hok
  have HE : Hid (frR n l = ((Rv.gm (bt l) (2 ^ l.length - 1) : Nat) : Int)) := by show _ = _; unfold frR; rw [hok]; rfl
  have hk := okB_iff.1 hok
  have HK := Lib.hid hk
  have hnl := hk.2.2.1
  have hl8 : l.length ≤ 8 := by have := hk.2.1; omega
  subst hnl
  clear hk hok
  go_enter Try.func28, Try.ntmps28
  go_wp2_with fail
  rw [← HWa.out]
  refine (implTourOk _ a l cap Wa hrowa HL.out).mono ?_
  rintro e w1 ⟨rfl, hb1⟩
  rw [HO.out]
  have X1 := Lib.hid (xa.below hb1 xa.lt)
  have R1 := Lib.hid (hrowa.below hb1 (Nat.le_refl _))
  have B1 := Lib.hid (hba.trans (hb1.mono hba.size))
  clear hb1 hba xa hrowa
  have c0 := X1.out.c0
  have c1 := X1.out.c1
  go_wp2_with fail
  refine (bestOrders_any l.length a l cap w1 rfl HK.out R1.out).mono ?_
  rintro e w2 ⟨⟨a2, c2, rfl, _⟩, hb2⟩
  have B2 := Lib.hid (B1.out.trans (hb2.mono B1.out.size))
  clear hb2 c0 c1
  go_wp2
  go_ret
  exact ⟨by rw [HE.out]; rfl, B2.out.alloc B2.out.size _⟩
set_option maxRecDepth 100000 in
set_option maxHeartbeats 2000000 in
theorem implCountBestOrders (n : Int) (a : Option Addr) (l : List Int) (cap : Nat) (w : World) (hrow : IntRow w a l) (hl : l.length ≤ maxLen) :
    Calls Try.prog 41 #[.agg #[.int .i64 n, .slice a l.length cap]] w fun e w' => e = .returned (.int .i64 (cbR n l)) ∧ RowKit.Below w.heap.size w w' := by
  obtain ⟨Wa, hWa⟩ : ∃ Wa, Wa = w.alloc (.cells #[.int .i64 n, .slice a l.length cap] 25) := ⟨_, rfl⟩
  have HWa := Lib.hid hWa
  have hba : RowKit.Below w.heap.size w Wa := by rw [hWa]; exact (Below.refl _ _).alloc (Nat.le_refl _) _
  have xa : Box Wa w.heap.size 25 (.int .i64 n) (.slice a l.length cap) := by rw [hWa]; exact Box.new _ _ _ _
  have hrowa : IntRow Wa a l := hrow.below hba (Nat.le_refl _)
  have HL := Lib.hid hl
  clear hl hrow hWa
  cases hok : okB n l
  · have HO := Lib.hid hok
    have HE : Hid (cbR n l = -1) := by show _ = _; unfold cbR; rw [hok]; rfl
    clear hok
    go_enter Try.func41, Try.ntmps41
    go_wp2_with fail
    rw [← HWa.out]
    refine (implTourOk n a l cap Wa hrowa HL.out).mono ?_
    rintro e w1 ⟨rfl, hb1⟩
    rw [HO.out]
    have B1 := Lib.hid (hba.trans (hb1.mono hba.size))
    clear hb1
    go_wp2
    go_ret
    exact ⟨by rw [HE.out]; rfl, B1.out⟩
  have HO := Lib.hid hok
  have HE : Hid (cbR n l = ((Rv.gn (bt l) (2 ^ l.length - 1) : Nat) : Int)) := by show _ = _; unfold cbR; rw [hok]; rfl
  have hk := okB_iff.1 hok
  have HK := Lib.hid hk
  have hnl := hk.2.2.1
  have hl8 : l.length ≤ 8 := by have := hk.2.1; omega
  subst hnl
  clear hk hok
  go_enter Try.func41, Try.ntmps41
  go_wp2_with fail
  rw [← HWa.out]
  refine (implTourOk _ a l cap Wa hrowa HL.out).mono ?_
  rintro e w1 ⟨rfl, hb1⟩
  rw [HO.out]
  have X1 := Lib.hid (xa.below hb1 xa.lt)
  have R1 := Lib.hid (hrowa.below hb1 (Nat.le_refl _))
  have B1 := Lib.hid (hba.trans (hb1.mono hba.size))
  clear hb1 hba xa hrowa
  have c0 := X1.out.c0
  have c1 := X1.out.c1
  go_wp2_with fail
  refine (bestOrders_any l.length a l cap w1 rfl HK.out R1.out).mono ?_
  rintro e w2 ⟨⟨a2, c2, rfl, _⟩, hb2⟩
  have B2 := Lib.hid (B1.out.trans (hb2.mono B1.out.size))
  clear hb2 c0 c1
  go_wp2
  go_ret
  exact ⟨by rw [HE.out]; rfl, B2.out.alloc B2.out.size _⟩
set_option maxRecDepth 100000 in
set_option maxHeartbeats 2000000 in
theorem specFewestReversals (n : Int) (a : Option Addr) (l : List Int) (cap : Nat) (w : World) (hrow : IntRow w a l) (hl : l.length ≤ maxLen) :
    Calls Try.prog 51 #[.agg #[.int .i64 n, .slice a l.length cap]] w fun e w' => e = .returned (.int .i64 (frR n l)) ∧ RowKit.Below w.heap.size w w' := by
  obtain ⟨Wa, hWa⟩ : ∃ Wa, Wa = w.alloc (.cells #[.int .i64 n, .slice a l.length cap] 25) := ⟨_, rfl⟩
  have HWa := Lib.hid hWa
  have hba : RowKit.Below w.heap.size w Wa := by rw [hWa]; exact (Below.refl _ _).alloc (Nat.le_refl _) _
  have xa : Box Wa w.heap.size 25 (.int .i64 n) (.slice a l.length cap) := by rw [hWa]; exact Box.new _ _ _ _
  have hrowa : IntRow Wa a l := hrow.below hba (Nat.le_refl _)
  have HL := Lib.hid hl
  clear hl hrow hWa
  cases hok : okB n l
  · have HO := Lib.hid hok
    have HE : Hid (frR n l = -1) := by show _ = _; unfold frR; rw [hok]; rfl
    clear hok
    go_enter Try.func51, Try.ntmps51
    go_wp2_with fail
    rw [← HWa.out]
    refine (specTourOk n a l cap Wa hrowa HL.out).mono ?_
    rintro e w1 ⟨rfl, hb1⟩
    rw [HO.out]
    have B1 := Lib.hid (hba.trans (hb1.mono hba.size))
    clear hb1
    go_wp2
    go_ret
    exact ⟨by rw [HE.out]; rfl, B1.out⟩
  have HO := Lib.hid hok
  have HE : Hid (frR n l = ((Rv.gm (bt l) (2 ^ l.length - 1) : Nat) : Int)) := by show _ = _; unfold frR; rw [hok]; rfl
  have hk := okB_iff.1 hok
  have HK := Lib.hid hk
  have hnl := hk.2.2.1
  have hl8 : l.length ≤ 8 := by have := hk.2.1; omega
  subst hnl
  clear hk hok
  go_enter Try.func51, Try.ntmps51
  go_wp2_with fail
  rw [← HWa.out]
  refine (specTourOk _ a l cap Wa hrowa HL.out).mono ?_
  rintro e w1 ⟨rfl, hb1⟩
  rw [HO.out]
  have X1 := Lib.hid (xa.below hb1 xa.lt)
  have R1 := Lib.hid (hrowa.below hb1 (Nat.le_refl _))
  have B1 := Lib.hid (hba.trans (hb1.mono hba.size))
  clear hb1 hba xa hrowa
  have c0 := X1.out.c0
  have c1 := X1.out.c1
  obtain ⟨N, hN⟩ : ∃ N, N = 2 ^ l.length := ⟨_, rfl⟩
  have hN256 : N ≤ 256 := by rw [hN]; exact pow_le _ hl8
  have hN1 : 1 ≤ N := by rw [hN]; exact Nat.one_le_two_pow
  obtain ⟨M, hM⟩ : ∃ M, M = N - 1 := ⟨_, rfl⟩
  have HMN : Hid ((N : Int) - 1 = (M : Int)) := by show _ = _; omega
  have hMi : (M : Int) < (N : Int) := by omega
  have hMN : M < N := by omega
  have HT := Lib.hid (l08Table_any l.length a l cap w1 rfl HK.out R1.out)
  rw [← hN] at HT
  have HALL : Hid (∀ W, Calls Try.prog 99 #[.agg #[.int .i64 (l.length : Int), .slice a l.length cap]] W fun e w' => e = .returned (.int .i64 (M : Int)) ∧ RowKit.Below W.heap.size W w') := fun W => by
    have := l02All_any a l.length cap l.length W hl8
    rw [← hN, HMN.out] at this
    exact this.mono fun e w' ⟨h1, h2⟩ => ⟨h1, h2⟩
  have HEM : Hid (2 ^ l.length - 1 = M) := by show _ = _; rw [hM, hN]
  rw [HEM.out] at HE
  clear hN hM
  go_wp2_with fail
  refine HT.out.mono ?_
  rintro e w2 ⟨⟨gb, cb, gw, cw, rfl, hob, how⟩, hb2⟩
  have x2 := X1.out.below hb2 X1.out.lt
  have d0 := x2.c0
  have d1 := x2.c1
  have HOW := Lib.hid hob
  have B2 := Lib.hid (B1.out.trans (hb2.mono B1.out.size))
  clear hb2 c0 c1 x2 hob how HT
  go_wp2_with fail
  refine (HALL.out w2).mono ?_
  rintro e w3 ⟨rfl, hb3⟩
  have B3 := Lib.hid (B2.out.trans (hb3.mono B2.out.size))
  have hc := tab_cell (own_below HOW.out hb3) hMN
  clear hb3 d0 d1 HOW
  go_wp2
  go_ret
  exact ⟨by rw [HE.out]; rfl, B3.out⟩
set_option maxRecDepth 100000 in
set_option maxHeartbeats 2000000 in
theorem specCountBestOrders (n : Int) (a : Option Addr) (l : List Int) (cap : Nat) (w : World) (hrow : IntRow w a l) (hl : l.length ≤ maxLen) :
    Calls Try.prog 56 #[.agg #[.int .i64 n, .slice a l.length cap]] w fun e w' => e = .returned (.int .i64 (cbR n l)) ∧ RowKit.Below w.heap.size w w' := by
  obtain ⟨Wa, hWa⟩ : ∃ Wa, Wa = w.alloc (.cells #[.int .i64 n, .slice a l.length cap] 25) := ⟨_, rfl⟩
  have HWa := Lib.hid hWa
  have hba : RowKit.Below w.heap.size w Wa := by rw [hWa]; exact (Below.refl _ _).alloc (Nat.le_refl _) _
  have xa : Box Wa w.heap.size 25 (.int .i64 n) (.slice a l.length cap) := by rw [hWa]; exact Box.new _ _ _ _
  have hrowa : IntRow Wa a l := hrow.below hba (Nat.le_refl _)
  have HL := Lib.hid hl
  clear hl hrow hWa
  cases hok : okB n l
  · have HO := Lib.hid hok
    have HE : Hid (cbR n l = -1) := by show _ = _; unfold cbR; rw [hok]; rfl
    clear hok
    go_enter Try.func56, Try.ntmps56
    go_wp2_with fail
    rw [← HWa.out]
    refine (specTourOk n a l cap Wa hrowa HL.out).mono ?_
    rintro e w1 ⟨rfl, hb1⟩
    rw [HO.out]
    have B1 := Lib.hid (hba.trans (hb1.mono hba.size))
    clear hb1
    go_wp2
    go_ret
    exact ⟨by rw [HE.out]; rfl, B1.out⟩
  have HO := Lib.hid hok
  have HE : Hid (cbR n l = ((Rv.gn (bt l) (2 ^ l.length - 1) : Nat) : Int)) := by show _ = _; unfold cbR; rw [hok]; rfl
  have hk := okB_iff.1 hok
  have HK := Lib.hid hk
  have hnl := hk.2.2.1
  have hl8 : l.length ≤ 8 := by have := hk.2.1; omega
  subst hnl
  clear hk hok
  go_enter Try.func56, Try.ntmps56
  go_wp2_with fail
  rw [← HWa.out]
  refine (specTourOk _ a l cap Wa hrowa HL.out).mono ?_
  rintro e w1 ⟨rfl, hb1⟩
  rw [HO.out]
  have X1 := Lib.hid (xa.below hb1 xa.lt)
  have R1 := Lib.hid (hrowa.below hb1 (Nat.le_refl _))
  have B1 := Lib.hid (hba.trans (hb1.mono hba.size))
  clear hb1 hba xa hrowa
  have c0 := X1.out.c0
  have c1 := X1.out.c1
  obtain ⟨N, hN⟩ : ∃ N, N = 2 ^ l.length := ⟨_, rfl⟩
  have hN256 : N ≤ 256 := by rw [hN]; exact pow_le _ hl8
  have hN1 : 1 ≤ N := by rw [hN]; exact Nat.one_le_two_pow
  obtain ⟨M, hM⟩ : ∃ M, M = N - 1 := ⟨_, rfl⟩
  have HMN : Hid ((N : Int) - 1 = (M : Int)) := by show _ = _; omega
  have hMi : (M : Int) < (N : Int) := by omega
  have hMN : M < N := by omega
  have HT := Lib.hid (l08Table_any l.length a l cap w1 rfl HK.out R1.out)
  rw [← hN] at HT
  have HALL : Hid (∀ W, Calls Try.prog 99 #[.agg #[.int .i64 (l.length : Int), .slice a l.length cap]] W fun e w' => e = .returned (.int .i64 (M : Int)) ∧ RowKit.Below W.heap.size W w') := fun W => by
    have := l02All_any a l.length cap l.length W hl8
    rw [← hN, HMN.out] at this
    exact this.mono fun e w' ⟨h1, h2⟩ => ⟨h1, h2⟩
  have HEM : Hid (2 ^ l.length - 1 = M) := by show _ = _; rw [hM, hN]
  rw [HEM.out] at HE
  clear hN hM
  go_wp2_with fail
  refine HT.out.mono ?_
  rintro e w2 ⟨⟨gb, cb, gw, cw, rfl, hob, how⟩, hb2⟩
  have x2 := X1.out.below hb2 X1.out.lt
  have d0 := x2.c0
  have d1 := x2.c1
  have HOW := Lib.hid how
  have B2 := Lib.hid (B1.out.trans (hb2.mono B1.out.size))
  clear hb2 c0 c1 x2 hob how HT
  go_wp2_with fail
  refine (HALL.out w2).mono ?_
  rintro e w3 ⟨rfl, hb3⟩
  have B3 := Lib.hid (B2.out.trans (hb3.mono B2.out.size))
  have hc := tab_cell (own_below HOW.out hb3) hMN
  clear hb3 d0 d1 HOW
  go_wp2
  go_ret
  exact ⟨by rw [HE.out]; rfl, B3.out⟩
end Go.Proofs.Yteegbkbphfmooaa
