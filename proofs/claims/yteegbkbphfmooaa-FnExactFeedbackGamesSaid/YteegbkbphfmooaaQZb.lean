/-
  The model's best order and the four functions over it (QH to QN in one). No conditions but the bounds that Go gives a slice.
-/
import Derived.Test.YteegbkbphfmooaaQZa
import Derived.Test.YteegbkbphfmooaaQv
import Derived.Test.YteegbkbphfmooaaQo
namespace Go.Proofs.Yteegbkbphfmooaa
open Go.ChangeShapes Go.WideShapes Go.ChangeAt Go.RowKit Go.Sort
set_option linter.unusedVariables false

noncomputable def frR (n : Int) (l : List Int) : Int := if okB n l then ((Rv.gm (bt l) (2 ^ l.length - 1) : Nat) : Int) else -1
noncomputable def cbR (n : Int) (l : List Int) : Int := if okB n l then ((Rv.gn (bt l) (2 ^ l.length - 1) : Nat) : Int) else -1
theorem tab_cell {W : World} {B g N c s : Nat} {F : Nat → Nat} (h : W.ownsRow B 3 1 (.slice (some ⟨g, 0, none⟩) N c) N (((List.range N).map fun s => ((F s : Nat) : Int)).map iv)) (hs : s < N) : W.cell? ⟨g, s, none⟩ = some (.int .i64 ((F s : Nat) : Int)) := by
  have := h.cellAt s (by omega)
  rw [List.getElem?_map, List.getElem?_map, List.getElem?_range hs] at this
  exact this
set_option maxRecDepth 100000 in
set_option maxHeartbeats 2000000 in
theorem implFewestReversals (n : Int) (a : Option Addr) (l : List Int) (cap : Nat) (w : World) (hrow : IntRow w a l) (hl : l.length ≤ maxLen) :
    Calls Try.prog 28 #[.agg #[.int .i64 n, .slice a l.length cap]] w fun e w' => e = .returned (.int .i64 (frR n l)) ∧ RowKit.Below w.heap.size w w' := by
  obtain ⟨Wa, hWa⟩ : ∃ Wa, Wa = w.alloc (.cells #[.int .i64 n, .slice a l.length cap] 25) := ⟨_, rfl⟩
  have HWa := Lib.hid hWa
  have hba : RowKit.Below w.heap.size w Wa := by rw [hWa]; exact (Below.refl _ _).alloc (Nat.le_refl _) _
  have xa : Box Wa w.heap.size 25 (.int .i64 n) (.slice a l.length cap) := by rw [hWa]; exact Box.new _ _ _ _
  have hrowa : IntRow Wa a l := hrow.below hba (Nat.le_refl _)
  have HL := Lib.hid hl
  clear hl hrow hWa
  cases hok : okB n l
  · have HO := Lib.hid hok
    have HE : Hid (frR n l = -1) := by show _ = _; unfold frR; rw [hok]; rfl
    clear hok
    go_enter Try.func28, Try.ntmps28
    go_wp2_with fail
    rw [← HWa.out]
    refine (implTourOk n a l cap Wa hrowa HL.out).mono ?_
    rintro e w1 ⟨rfl, hb1⟩
    rw [HO.out]
    have B1 := Lib.hid (hba.trans (hb1.mono hba.size))
    clear hb1
    go_wp2
    go_ret
    exact ⟨by rw [HE.out]; rfl, B1.out⟩
  have HO := Lib.hid hok
  have HE : Hid (frR n l = ((Rv.gm (bt l) (2 ^ l.length - 1) : Nat) : Int)) := by show _ = _; unfold frR; rw [hok]; rfl
  have hk := okB_iff.1 hok
  have HK := Lib.hid hk
  have hnl := hk.2.2.1
  have hl8 : l.length ≤ 8 := by have := hk.2.1; omega
  subst hnl
  clear hk hok
  go_enter Try.func28, Try.ntmps28
  go_wp2_with fail
  rw [← HWa.out]
  refine (implTourOk _ a l cap Wa hrowa HL.out).mono ?_
  rintro e w1 ⟨rfl, hb1⟩
  rw [HO.out]
  have X1 := Lib.hid (xa.below hb1 xa.lt)
  have R1 := Lib.hid (hrowa.below hb1 (Nat.le_refl _))
  have B1 := Lib.hid (hba.trans (hb1.mono hba.size))
  clear hb1 hba xa hrowa
  have c0 := X1.out.c0
  have c1 := X1.out.c1
  go_wp2_with fail
  refine (bestOrders_any l.length a l cap w1 rfl HK.out R1.out).mono ?_
  rintro e w2 ⟨⟨a2, c2, rfl, _⟩, hb2⟩
  have B2 := Lib.hid (B1.out.trans (hb2.mono B1.out.size))
  clear hb2 c0 c1
  go_wp2
  go_ret
  exact ⟨by rw [HE.out]; rfl, B2.out.alloc B2.out.size _⟩
set_option maxRecDepth 100000 in
set_option maxHeartbeats 2000000 in
theorem implCountBestOrders (n : Int) (a : Option Addr) (l : List Int) (cap : Nat) (w : World) (hrow : IntRow w a l) (hl : l.length ≤ maxLen) :
    Calls Try.prog 41 #[.agg #[.int .i64 n, .slice a l.length cap]] w fun e w' => e = .returned (.int .i64 (cbR n l)) ∧ RowKit.Below w.heap.size w w' := by
  obtain ⟨Wa, hWa⟩ : ∃ Wa, Wa = w.alloc (.cells #[.int .i64 n, .slice a l.length cap] 25) := ⟨_, rfl⟩
  have HWa := Lib.hid hWa
  have hba : RowKit.Below w.heap.size w Wa := by rw [hWa]; exact (Below.refl _ _).alloc (Nat.le_refl _) _
  have xa : Box Wa w.heap.size 25 (.int .i64 n) (.slice a l.length cap) := by rw [hWa]; exact Box.new _ _ _ _
  have hrowa : IntRow Wa a l := hrow.below hba (Nat.le_refl _)
  have HL := Lib.hid hl
  clear hl hrow hWa
  cases hok : okB n l
  · have HO := Lib.hid hok
    have HE : Hid (cbR n l = -1) := by show _ = _; unfold cbR; rw [hok]; rfl
    clear hok
    go_enter Try.func41, Try.ntmps41
    go_wp2_with fail
    rw [← HWa.out]
    refine (implTourOk n a l cap Wa hrowa HL.out).mono ?_
    rintro e w1 ⟨rfl, hb1⟩
    rw [HO.out]
    have B1 := Lib.hid (hba.trans (hb1.mono hba.size))
    clear hb1
    go_wp2
    go_ret
    exact ⟨by rw [HE.out]; rfl, B1.out⟩
  have HO := Lib.hid hok
  have HE : Hid (cbR n l = ((Rv.gn (bt l) (2 ^ l.length - 1) : Nat) : Int)) := by show _ = _; unfold cbR; rw [hok]; rfl
  have hk := okB_iff.1 hok
  have HK := Lib.hid hk
  have hnl := hk.2.2.1
  have hl8 : l.length ≤ 8 := by have := hk.2.1; omega
  subst hnl
  clear hk hok
  go_enter Try.func41, Try.ntmps41
  go_wp2_with fail
  rw [← HWa.out]
  refine (implTourOk _ a l cap Wa hrowa HL.out).mono ?_
  rintro e w1 ⟨rfl, hb1⟩
  rw [HO.out]
  have X1 := Lib.hid (xa.below hb1 xa.lt)
  have R1 := Lib.hid (hrowa.below hb1 (Nat.le_refl _))
  have B1 := Lib.hid (hba.trans (hb1.mono hba.size))
  clear hb1 hba xa hrowa
  have c0 := X1.out.c0
  have c1 := X1.out.c1
  go_wp2_with fail
  refine (bestOrders_any l.length a l cap w1 rfl HK.out R1.out).mono ?_
  rintro e w2 ⟨⟨a2, c2, rfl, _⟩, hb2⟩
  have B2 := Lib.hid (B1.out.trans (hb2.mono B1.out.size))
  clear hb2 c0 c1
  go_wp2
  go_ret
  exact ⟨by rw [HE.out]; rfl, B2.out.alloc B2.out.size _⟩
set_option maxRecDepth 100000 in
set_option maxHeartbeats 2000000 in
theorem specFewestReversals (n : Int) (a : Option Addr) (l : List Int) (cap : Nat) (w : World) (hrow : IntRow w a l) (hl : l.length ≤ maxLen) :
    Calls Try.prog 51 #[.agg #[.int .i64 n, .slice a l.length cap]] w fun e w' => e = .returned (.int .i64 (frR n l)) ∧ RowKit.Below w.heap.size w w' := by
  obtain ⟨Wa, hWa⟩ : ∃ Wa, Wa = w.alloc (.cells #[.int .i64 n, .slice a l.length cap] 25) := ⟨_, rfl⟩
  have HWa := Lib.hid hWa
  have hba : RowKit.Below w.heap.size w Wa := by rw [hWa]; exact (Below.refl _ _).alloc (Nat.le_refl _) _
  have xa : Box Wa w.heap.size 25 (.int .i64 n) (.slice a l.length cap) := by rw [hWa]; exact Box.new _ _ _ _
  have hrowa : IntRow Wa a l := hrow.below hba (Nat.le_refl _)
  have HL := Lib.hid hl
  clear hl hrow hWa
  cases hok : okB n l
  · have HO := Lib.hid hok
    have HE : Hid (frR n l = -1) := by show _ = _; unfold frR; rw [hok]; rfl
    clear hok
    go_enter Try.func51, Try.ntmps51
    go_wp2_with fail
    rw [← HWa.out]
    refine (specTourOk n a l cap Wa hrowa HL.out).mono ?_
    rintro e w1 ⟨rfl, hb1⟩
    rw [HO.out]
    have B1 := Lib.hid (hba.trans (hb1.mono hba.size))
    clear hb1
    go_wp2
    go_ret
    exact ⟨by rw [HE.out]; rfl, B1.out⟩
  have HO := Lib.hid hok
  have HE : Hid (frR n l = ((Rv.gm (bt l) (2 ^ l.length - 1) : Nat) : Int)) := by show _ = _; unfold frR; rw [hok]; rfl
  have hk := okB_iff.1 hok
  have HK := Lib.hid hk
  have hnl := hk.2.2.1
  have hl8 : l.length ≤ 8 := by have := hk.2.1; omega
  subst hnl
  clear hk hok
  go_enter Try.func51, Try.ntmps51
  go_wp2_with fail
  rw [← HWa.out]
  refine (specTourOk _ a l cap Wa hrowa HL.out).mono ?_
  rintro e w1 ⟨rfl, hb1⟩
  rw [HO.out]
  have X1 := Lib.hid (xa.below hb1 xa.lt)
  have R1 := Lib.hid (hrowa.below hb1 (Nat.le_refl _))
  have B1 := Lib.hid (hba.trans (hb1.mono hba.size))
  clear hb1 hba xa hrowa
  have c0 := X1.out.c0
  have c1 := X1.out.c1
  obtain ⟨N, hN⟩ : ∃ N, N = 2 ^ l.length := ⟨_, rfl⟩
  have hN256 : N ≤ 256 := by rw [hN]; exact pow_le _ hl8
  have hN1 : 1 ≤ N := by rw [hN]; exact Nat.one_le_two_pow
  obtain ⟨M, hM⟩ : ∃ M, M = N - 1 := ⟨_, rfl⟩
  have HMN : Hid ((N : Int) - 1 = (M : Int)) := by show _ = _; omega
  have hMi : (M : Int) < (N : Int) := by omega
  have hMN : M < N := by omega
  have HT := Lib.hid (l08Table_any l.length a l cap w1 rfl HK.out R1.out)
  rw [← hN] at HT
  have HALL : Hid (∀ W, Calls Try.prog 99 #[.agg #[.int .i64 (l.length : Int), .slice a l.length cap]] W fun e w' => e = .returned (.int .i64 (M : Int)) ∧ RowKit.Below W.heap.size W w') := fun W => by
    have := l02All_any a l.length cap l.length W hl8
    rw [← hN, HMN.out] at this
    exact this.mono fun e w' ⟨h1, h2⟩ => ⟨h1, h2⟩
  have HEM : Hid (2 ^ l.length - 1 = M) := by show _ = _; rw [hM, hN]
  rw [HEM.out] at HE
  clear hN hM
  go_wp2_with fail
  refine HT.out.mono ?_
  rintro e w2 ⟨⟨gb, cb, gw, cw, rfl, hob, how⟩, hb2⟩
  have x2 := X1.out.below hb2 X1.out.lt
  have d0 := x2.c0
  have d1 := x2.c1
  have HOW := Lib.hid hob
  have B2 := Lib.hid (B1.out.trans (hb2.mono B1.out.size))
  clear hb2 c0 c1 x2 hob how HT
  go_wp2_with fail
  refine (HALL.out w2).mono ?_
  rintro e w3 ⟨rfl, hb3⟩
  have B3 := Lib.hid (B2.out.trans (hb3.mono B2.out.size))
  have hc := tab_cell (own_below HOW.out hb3) hMN
  clear hb3 d0 d1 HOW
  go_wp2
  go_ret
  exact ⟨by rw [HE.out]; rfl, B3.out⟩
set_option maxRecDepth 100000 in
set_option maxHeartbeats 2000000 in
theorem specCountBestOrders (n : Int) (a : Option Addr) (l : List Int) (cap : Nat) (w : World) (hrow : IntRow w a l) (hl : l.length ≤ maxLen) :
    Calls Try.prog 56 #[.agg #[.int .i64 n, .slice a l.length cap]] w fun e w' => e = .returned (.int .i64 (cbR n l)) ∧ RowKit.Below w.heap.size w w' := by
  obtain ⟨Wa, hWa⟩ : ∃ Wa, Wa = w.alloc (.cells #[.int .i64 n, .slice a l.length cap] 25) := ⟨_, rfl⟩
  have HWa := Lib.hid hWa
  have hba : RowKit.Below w.heap.size w Wa := by rw [hWa]; exact (Below.refl _ _).alloc (Nat.le_refl _) _
  have xa : Box Wa w.heap.size 25 (.int .i64 n) (.slice a l.length cap) := by rw [hWa]; exact Box.new _ _ _ _
  have hrowa : IntRow Wa a l := hrow.below hba (Nat.le_refl _)
  have HL := Lib.hid hl
  clear hl hrow hWa
  cases hok : okB n l
  · have HO := Lib.hid hok
    have HE : Hid (cbR n l = -1) := by show _ = _; unfold cbR; rw [hok]; rfl
    clear hok
    go_enter Try.func56, Try.ntmps56
    go_wp2_with fail
    rw [← HWa.out]
    refine (specTourOk n a l cap Wa hrowa HL.out).mono ?_
    rintro e w1 ⟨rfl, hb1⟩
    rw [HO.out]
    have B1 := Lib.hid (hba.trans (hb1.mono hba.size))
    clear hb1
    go_wp2
    go_ret
    exact ⟨by rw [HE.out]; rfl, B1.out⟩
  have HO := Lib.hid hok
  have HE : Hid (cbR n l = ((Rv.gn (bt l) (2 ^ l.length - 1) : Nat) : Int)) := by show _ = _; unfold cbR; rw [hok]; rfl
  have hk := okB_iff.1 hok
  have HK := Lib.hid hk
  have hnl := hk.2.2.1
  have hl8 : l.length ≤ 8 := by have := hk.2.1; omega
  subst hnl
  clear hk hok
  go_enter Try.func56, Try.ntmps56
  go_wp2_with fail
  rw [← HWa.out]
  refine (specTourOk _ a l cap Wa hrowa HL.out).mono ?_
  rintro e w1 ⟨rfl, hb1⟩
  rw [HO.out]
  have X1 := Lib.hid (xa.below hb1 xa.lt)
  have R1 := Lib.hid (hrowa.below hb1 (Nat.le_refl _))
  have B1 := Lib.hid (hba.trans (hb1.mono hba.size))
  clear hb1 hba xa hrowa
  have c0 := X1.out.c0
  have c1 := X1.out.c1
  obtain ⟨N, hN⟩ : ∃ N, N = 2 ^ l.length := ⟨_, rfl⟩
  have hN256 : N ≤ 256 := by rw [hN]; exact pow_le _ hl8
  have hN1 : 1 ≤ N := by rw [hN]; exact Nat.one_le_two_pow
  obtain ⟨M, hM⟩ : ∃ M, M = N - 1 := ⟨_, rfl⟩
  have HMN : Hid ((N : Int) - 1 = (M : Int)) := by show _ = _; omega
  have hMi : (M : Int) < (N : Int) := by omega
  have hMN : M < N := by omega
  have HT := Lib.hid (l08Table_any l.length a l cap w1 rfl HK.out R1.out)
  rw [← hN] at HT
  have HALL : Hid (∀ W, Calls Try.prog 99 #[.agg #[.int .i64 (l.length : Int), .slice a l.length cap]] W fun e w' => e = .returned (.int .i64 (M : Int)) ∧ RowKit.Below W.heap.size W w') := fun W => by
    have := l02All_any a l.length cap l.length W hl8
    rw [← hN, HMN.out] at this
    exact this.mono fun e w' ⟨h1, h2⟩ => ⟨h1, h2⟩
  have HEM : Hid (2 ^ l.length - 1 = M) := by show _ = _; rw [hM, hN]
  rw [HEM.out] at HE
  clear hN hM
  go_wp2_with fail
  refine HT.out.mono ?_
  rintro e w2 ⟨⟨gb, cb, gw, cw, rfl, hob, how⟩, hb2⟩
  have x2 := X1.out.below hb2 X1.out.lt
  have d0 := x2.c0
  have d1 := x2.c1
  have HOW := Lib.hid how
  have B2 := Lib.hid (B1.out.trans (hb2.mono B1.out.size))
  clear hb2 c0 c1 x2 hob how HT
  go_wp2_with fail
  refine (HALL.out w2).mono ?_
  rintro e w3 ⟨rfl, hb3⟩
  have B3 := Lib.hid (B2.out.trans (hb3.mono B2.out.size))
  have hc := tab_cell (own_below HOW.out hb3) hMN
  clear hb3 d0 d1 HOW
  go_wp2
  go_ret
  exact ⟨by rw [HE.out]; rfl, B3.out⟩
end Go.Proofs.Yteegbkbphfmooaa
namespace Go.Proofs.Yteegbkbphfmooaa
open Go.ChangeShapes Go.WideShapes Go.ChangeAt Go.RowKit Go.Sort
set_option linter.unusedVariables false
namespace Rv
/-- Whether a player may be the first one of a best order of a set. -/
def fst? (f : Nat → Nat → Bool) (s a : Nat) : Bool := gm f (s - 2 ^ a) + (elems (s - 2 ^ a)).countP (fun b => f b a) == gm f s
def t1 (f : Nat → Nat → Bool) (s a : Nat) : Nat × Nat × Nat := (gm f (s - 2 ^ a) + (elems (s - 2 ^ a)).countP (fun b => f b a), gn f (s - 2 ^ a), a * 8 ^ (pc s - 1) + gv f (s - 2 ^ a))
theorem G_t1 (f : Nat → Nat → Bool) {s : Nat} (hs : s < 256) (h0 : 0 < pc s) : sm ((elems s).map fun a => some (t1 f s a)) = some (gm f s, gn f s, gv f s) := by
  have h := pt_all f hs h0
  rw [G_eq f hs] at h
  rw [← h]
  unfold pt
  rw [List.take_of_length_le (Nat.le_refl _)]
  rfl
theorem fil_t1 (f : Nat → Nat → Bool) (s a : Nat) : fil (gm f s) (some (t1 f s a)) = if fst? f s a then some (t1 f s a) else none := by
  unfold fil fst? t1
  simp only [beq_iff_eq]
theorem fst_some (f : Nat → Nat → Bool) {s : Nat} (hs : s < 256) (h0 : 0 < pc s) : ∃ a ∈ elems s, fst? f s a = true := by
  obtain ⟨h1, _⟩ := (sm_min _).2 _ (G_t1 f hs h0)
  refine Classical.byContradiction fun hno => ?_
  have h2 : sm (((elems s).map fun a => some (t1 f s a)).map (fil (gm f s))) = none := by
    rw [List.map_map]
    refine sm_none fun x hx => ?_
    obtain ⟨a, ha, rfl⟩ := List.mem_map.1 hx
    simp only [Function.comp, fil_t1]
    rw [if_neg (fun hh => hno ⟨a, ha, hh⟩)]
  have h1' : sm (((elems s).map fun a => some (t1 f s a)).map (fil (gm f s))) = some (gm f s, gn f s, gv f s) := h1
  rw [h2] at h1'
  cases h1'
theorem sm_low (r K : Nat) : ∀ (L : List (Option (Nat × Nat × Nat))), (∀ x ∈ L, ∀ t, x = some t → t.1 = r ∧ K ≤ t.2.2) → ∀ t, sm L = some t → t.1 = r ∧ K ≤ t.2.2
  | [], _, t, h => by cases h
  | x :: L, hx, t, h => by
    have ih := sm_low r K L (fun y hy => hx y (List.mem_cons_of_mem _ hy))
    have h0 := hx x (List.mem_cons_self ..)
    rw [sm_cons] at h
    cases x with
    | none => exact ih t h
    | some u =>
      cases hr : sm L with
      | none => rw [hr] at h; obtain rfl : u = t := Option.some.inj h; exact h0 u rfl
      | some v =>
        rw [hr] at h
        obtain rfl : cm u v = t := Option.some.inj h
        have h1 := h0 u rfl
        have h2 := ih v hr
        unfold cm
        rw [if_neg (by omega), if_neg (by omega)]
        exact ⟨h1.1, show K ≤ min _ _ by omega⟩
theorem elems_up (s : Nat) : (elems s).Pairwise (· < ·) := by
  unfold elems elTo
  exact List.Pairwise.filter _ List.pairwise_lt_range
theorem first_gv (f : Nat → Nat → Bool) {s j a : Nat} (hs : s < 256) (hj : j < (elems s).length) (ha : a = (elems s).getD j 0) (hf : fst? f s a = true) (hno : ∀ i, i < j → fst? f s ((elems s).getD i 0) = false) :
    gv f s = a * 8 ^ (pc s - 1) + gv f (s - 2 ^ a) := by
  have hmem : a ∈ elems s := by rw [ha, List.getD_eq_getElem?_getD, List.getElem?_eq_getElem hj]; exact List.getElem_mem hj
  have hae := Hw.mem_elems.1 hmem
  have hpt := pc_take hs hae.1 hae.2
  have h0 : 0 < pc s := by omega
  obtain ⟨h1, _⟩ := (sm_min _).2 _ (G_t1 f hs h0)
  have h1' : sm (((elems s).map fun a => some (t1 f s a)).map (fil (gm f s))) = some (gm f s, gn f s, gv f s) := h1
  have hdec : elems s = (elems s).take j ++ a :: (elems s).drop (j + 1) := by
    rw [ha, ← Rv.drop_cons 0 hj, List.take_append_drop]
  have hup := elems_up s
  rw [hdec] at hup
  have hrest : ∀ b ∈ (elems s).drop (j + 1), a < b := fun b hb => (List.pairwise_cons.1 (List.pairwise_append.1 hup).2.1).1 b hb
  rw [List.map_map, hdec, List.map_append, sm_append, List.map_cons, sm_cons] at h1'
  have e1 : sm (((elems s).take j).map ((fil (gm f s)) ∘ fun a => some (t1 f s a))) = none := by
    refine sm_none fun x hx => ?_
    obtain ⟨b, hb, rfl⟩ := List.mem_map.1 hx
    obtain ⟨i, hi, he⟩ := List.getElem_of_mem hb
    rw [List.length_take] at hi
    rw [List.getElem_take] at he
    have h3 := hno i (by omega)
    rw [List.getD_eq_getElem?_getD, List.getElem?_eq_getElem (show i < (elems s).length by omega)] at h3
    simp only [Option.getD_some] at h3
    rw [he] at h3
    simp only [Function.comp, fil_t1, h3]
    rfl
  have e2 : ((fil (gm f s)) ∘ fun a => some (t1 f s a)) a = some (t1 f s a) := by
    simp only [Function.comp, fil_t1, hf, if_true]
  rw [e1, e2, none_co] at h1'
  have hfa : (t1 f s a).1 = gm f s := by
    have := hf
    unfold fst? at this
    exact beq_iff_eq.1 this
  have hlow := sm_low (gm f s) ((a + 1) * 8 ^ (pc s - 1)) (((elems s).drop (j + 1)).map ((fil (gm f s)) ∘ fun a => some (t1 f s a))) (fun x hx t ht => by
    obtain ⟨b, hb, rfl⟩ := List.mem_map.1 hx
    simp only [Function.comp] at ht
    unfold fil at ht
    simp only at ht
    split at ht
    · rename_i h4
      obtain rfl := Option.some.inj ht
      refine ⟨h4, ?_⟩
      have h5 := Nat.mul_le_mul_right (8 ^ (pc s - 1)) (show a + 1 ≤ b from hrest b hb)
      show (a + 1) * 8 ^ (pc s - 1) ≤ b * 8 ^ (pc s - 1) + gv f (s - 2 ^ b)
      omega
    · cases ht)
  have hgl := gv_lt f (sub_lt (s := s) (a := a) hs)
  rw [show pc (s - 2 ^ a) = pc s - 1 by omega] at hgl
  have h6 : (a + 1) * 8 ^ (pc s - 1) = a * 8 ^ (pc s - 1) + 8 ^ (pc s - 1) := by rw [Nat.add_mul, Nat.one_mul]
  cases hr : sm (((elems s).drop (j + 1)).map ((fil (gm f s)) ∘ fun a => some (t1 f s a))) with
  | none =>
    rw [hr] at h1'
    have h7 : t1 f s a = (gm f s, gn f s, gv f s) := Option.some.inj h1'
    have h8 : (t1 f s a).2.2 = gv f s := by rw [h7]
    exact h8.symm
  | some v =>
    obtain ⟨h9, h10⟩ := hlow v hr
    rw [hr] at h1'
    have h7 : cm (t1 f s a) v = (gm f s, gn f s, gv f s) := Option.some.inj h1'
    unfold cm at h7
    rw [if_neg (by omega), if_neg (by omega)] at h7
    have h8 : min (t1 f s a).2.2 v.2.2 = gv f s := congrArg (fun t : Nat × Nat × Nat => t.2.2) h7
    have h11 : (t1 f s a).2.2 = a * 8 ^ (pc s - 1) + gv f (s - 2 ^ a) := rfl
    rw [h11] at h8
    omega
theorem dc_first {k a v : Nat} (ha : a < 8) (hv : v < 8 ^ k) : dc (k + 1) (a * 8 ^ k + v) = a :: dc k v := by
  have h := dc_vl (k + 1) (a :: dc k v) (by simp [dc_len]) (fun x hx => by
    rcases List.mem_cons.1 hx with rfl | hx
    · exact ha
    · exact dc_lt8 k v x hx)
  rw [vl_cons, dc_len, vl_dc k v hv] at h
  exact h
end Rv
end Go.Proofs.Yteegbkbphfmooaa
namespace Go.Proofs.Yteegbkbphfmooaa
open Go.ChangeShapes Go.WideShapes Go.ChangeAt Go.RowKit Go.Sort
set_option linter.unusedVariables false

theorem wrap_same (x : Int) : IntKind.i64.wrap x = RowKit.wrap64 x := by rw [IntKind.wrap_i64]; unfold RowKit.wrap64; rfl
def OrdR (m v : Nat) (w : World) (e : Ending) (w' : World) : Prop :=
  (∃ g c, e = .returned (.slice (some ⟨g, 0, none⟩) m c) ∧ w'.ownsRow w.heap.size 3 1 (.slice (some ⟨g, 0, none⟩) m c) m ((ni (Rv.dc m v)).map iv)) ∧ RowKit.Below w.heap.size w w'

set_option maxRecDepth 100000 in
set_option maxHeartbeats 8000000 in
theorem l08Best_any (m : Nat) (a : Option Addr) (l : List Int) (cap : Nat) (w : World) (hm : l.length = m) (hok : Ok m l) (hrow : IntRow w a l) :
    Calls Try.prog 100 #[.agg #[.int .i64 (m : Int), .slice a m cap]] w (OrdR m (Rv.gv (bt l) (2 ^ m - 1)) w) := by
  have h8 : m ≤ 8 := by have := hok.2.1; omega
  obtain ⟨Wa, hWa⟩ : ∃ Wa, Wa = w.alloc (.cells #[.int .i64 (m : Int), .slice a m cap] 25) := ⟨_, rfl⟩
  have HWa := Lib.hid hWa
  have hba : RowKit.Below w.heap.size w Wa := by rw [hWa]; exact (Below.refl _ _).alloc (Nat.le_refl _) _
  have xa : Box Wa w.heap.size 25 (.int .i64 (m : Int)) (.slice a m cap) := by rw [hWa]; exact Box.new _ _ _ _
  have R1 := Lib.hid (hrow.below hba (Nat.le_refl _))
  have X1 := Lib.hid xa
  have B1 := Lib.hid hba
  have HK := Lib.hid hok
  have HM := Lib.hid hm
  obtain ⟨f, hf⟩ : ∃ f, f = bt l := ⟨_, rfl⟩
  obtain ⟨N, hN⟩ : ∃ N, N = 2 ^ m := ⟨_, rfl⟩
  have hN256 : N ≤ 256 := by rw [hN]; exact pow_le m h8
  have hN1 : 1 ≤ N := by rw [hN]; exact Nat.one_le_two_pow
  obtain ⟨FU, hFU⟩ : ∃ FU, FU = N - 1 := ⟨_, rfl⟩
  have HFN : Hid ((N : Int) - 1 = (FU : Int)) := by show _ = _; omega
  have HPF : Hid (pc FU = m) := by show _ = _; rw [hFU, hN]; exact pc_top h8
  have HALL : Hid (∀ W, Calls Try.prog 99 #[.agg #[.int .i64 (m : Int), .slice a m cap]] W fun e w' => e = .returned (.int .i64 (FU : Int)) ∧ RowKit.Below W.heap.size W w') := fun W => by
    have := l02All_any a m cap m W h8
    rw [← hN, HFN.out] at this
    exact this.mono fun e w' ⟨h1, h2⟩ => ⟨h1, h2⟩
  have HT := Lib.hid (l08Table_any m a l cap Wa hm hok (hrow.below hba (Nat.le_refl _)))
  rw [← hf, ← hN] at HT
  rw [← hf, ← hN, ← hFU]
  have HF := Lib.hid hf
  have HN := Lib.hid hN
  have hFN : FU < N := by omega
  have hm1 : m ≤ 100 := by omega
  have c0 := xa.c0
  have c1 := xa.c1
  clear hWa hba xa hrow hok hm hf hN hFU
  go_enter Try.func100, Try.ntmps100
  go_wp2_with fail
  rw [← HWa.out]
  refine HT.out.mono ?_
  rintro e w2 ⟨⟨gb, cb, gw, cw, rfl, hob, how⟩, hb2⟩
  have OB := Lib.hid hob
  have HB2A := Lib.hid hb2
  have B2 := Lib.hid (B1.out.trans (hb2.mono B1.out.size))
  have x2 := X1.out.below hb2 X1.out.lt
  have X2 := Lib.hid x2
  have hgb := (hob.lt gb rfl).2
  obtain ⟨W3, hW3⟩ : ∃ W3, W3 = w2.alloc (.cells #[] 3) := ⟨_, rfl⟩
  have HW3 := Lib.hid hW3
  have hb3 : RowKit.Below w2.heap.size w2 W3 := by rw [hW3]; exact (Below.refl _ _).alloc (Nat.le_refl _) _
  have ho3 : W3.ownsRow w2.heap.size 3 1 (.slice (some ⟨w2.heap.size, 0, none⟩) 0 0) 0 (([] : List Int).map iv) := by rw [hW3]; exact own_empty w2 _ _ (Nat.le_refl _) rfl
  have HB3 := Lib.hid hb3
  have HO3 := Lib.hid ho3
  have y3 := x2.below hb3 x2.lt
  have d0 := y3.c0
  have d1 := y3.c1
  rw [hW3] at d0 d1
  clear hob how hb2 x2 y3 hW3 hb3 ho3 c0 c1 HT
  go_wp2_with fail
  rw [← HW3.out]
  refine (HALL.out W3).mono ?_
  rintro e w4 ⟨rfl, hb4⟩
  have B4 : Hid (RowKit.Below w2.heap.size w2 w4) := HB3.out.trans (hb4.mono HB3.out.size)
  have O4 : Hid (w4.ownsRow w2.heap.size 3 1 (.slice (some ⟨w2.heap.size, 0, none⟩) 0 0) 0 (([] : List Int).map iv)) := own_below HO3.out hb4
  have HCB : Hid (∀ W, RowKit.Below w2.heap.size w2 W → ∀ s, s < N → ∀ z, z = Rv.gm f s → W.cell? ⟨gb, s, none⟩ = some (.int .i64 (z : Int))) := fun W hW s hs z hz => by
    rw [hW.cell (p := ⟨gb, s, none⟩) hgb, hz]; exact tab_cell OB.out hs
  have HX3 : Hid (∀ W, RowKit.Below w2.heap.size w2 W → W.cell? ⟨w.heap.size, 0, none⟩ = some (.int .i64 (m : Int)) ∧ W.cell? ⟨w.heap.size, 1, none⟩ = some (.slice a m cap) ∧ IntRow W a l) := fun W hW => by
    have hB := B2.out.trans (hW.mono B2.out.size)
    have x2 := X2.out.below hW X2.out.lt
    exact ⟨x2.c0, x2.c1, R1.out.below (HB2A.out.trans (hW.mono HB2A.out.size)) (Nat.le_refl _)⟩
  have hst : Hid (Rv.dc (pc FU) (Rv.gv f FU) = Rv.dc m (Rv.gv f FU)) := by rw [HPF.out]; rfl
  clear hb4 d0 d1
  go_wp2
  go_loopw [5, 6] (fun vo vs wr => ∃ (s go co : Nat) (pre : List Nat), s < N ∧ vs = .int .i64 (s : Int) ∧ pre.length ≤ m ∧ vo = .slice (some ⟨go, 0, none⟩) pre.length co ∧ Hid (wr.ownsRow w2.heap.size 3 1 (.slice (some ⟨go, 0, none⟩) pre.length co) pre.length ((ni pre).map iv)) ∧ Hid (pre ++ Rv.dc (pc s) (Rv.gv f s) = Rv.dc m (Rv.gv f FU)) ∧ Hid (RowKit.Below w2.heap.size w2 wr)) (fun _ vs _ => (intOf vs).toNat)
  case atStart => exact ⟨FU, w2.heap.size, 0, [], hFN, rfl, Nat.zero_le _, rfl, O4, hst.out, B4⟩
  case round =>
    obtain ⟨s, go, co, pre, hsN, rfl, hpm, rfl, hpo, hpe, hbr⟩ := hrel
    clear O4 hst B4
    have hs256 : s < 256 := by omega
    by_cases hpos : 0 < s
    · have hsi : (s : Int) > 0 := by omega
      have hsi2 : (0 : Int) < (s : Int) := by omega
      have hpc : 0 < pc s := by
        have : ∀ s : Fin 256, 1 ≤ s.val → 0 < pc s.val := by decide +kernel
        exact this ⟨s, hs256⟩ hpos
      have HLI : Hid (∀ W, Calls Try.prog 135 #[.int .i64 (s : Int)] W fun e w' => (∃ g c, e = .returned (.slice (some ⟨g, 0, none⟩) (elems s).length c) ∧ w'.ownsRow W.heap.size 3 1 (.slice (some ⟨g, 0, none⟩) (elems s).length c) (elems s).length ((elems s).map nv)) ∧ RowKit.Below W.heap.size W w') := fun W => l02List_any s hs256 W
      obtain ⟨es, hes⟩ : ∃ es, es = elems s := ⟨_, rfl⟩
      rw [← hes] at HLI
      have HES := Lib.hid hes
      clear hes
      go_wp2_with fail
      refine (HLI.out wr).mono ?_
      rintro e w5 ⟨⟨g5, c5, rfl, ho5⟩, hb5⟩
      have B5 : Hid (RowKit.Below w2.heap.size w2 w5) := hbr.out.trans (hb5.mono hbr.out.size)
      have PO5 : Hid (w5.ownsRow w2.heap.size 3 1 (.slice (some ⟨go, 0, none⟩) pre.length co) pre.length ((ni pre).map iv)) := own_below hpo.out hb5
      have hg5 := (ho5.lt g5 rfl).2
      have HCE : Hid (∀ W, RowKit.Below w5.heap.size w5 W → ∀ j, j < es.length → ∀ z, z = es.getD j 0 → W.cell? ⟨g5, j, none⟩ = some (.int .i64 (z : Int))) := fun W hW j hj z hz => by
        rw [hW.cell (p := ⟨g5, j, none⟩) hg5, ho5.cellAt j (by omega), List.getElem?_map, hz, List.getD_eq_getElem?_getD, List.getElem?_eq_getElem hj]; rfl
      clear ho5 hb5 HLI hpo hbr
      go_wp2
      go_loopw [5, 6, 23] (fun vo vs i wr => ∃ j : Nat, j ≤ es.length ∧ i = .int .i64 (j : Int) ∧ vo = .slice (some ⟨go, 0, none⟩) pre.length co ∧ vs = .int .i64 (s : Int) ∧ Hid (∀ i, i < j → Rv.fst? f s (es.getD i 0) = false) ∧ Hid (RowKit.Below w5.heap.size w5 wr)) (fun _ _ i _ => es.length - (intOf i).toNat)
      case atStart => exact ⟨0, Nat.zero_le _, rfl, rfl, rfl, fun i hi => absurd hi (Nat.not_lt_zero _), Below.refl _ _⟩
      case round =>
        obtain ⟨j, hj, rfl, rfl, rfl, hno, hb⟩ := hrel
        by_cases hlt2 : j < es.length
        · have hes := HES.out
          obtain ⟨b, hbd⟩ : ∃ b, b = es.getD j 0 := ⟨_, rfl⟩
          have hbm : b ∈ elems s := by
            rw [← hes, hbd, List.getD_eq_getElem?_getD, List.getElem?_eq_getElem hlt2]; exact List.getElem_mem _
          obtain ⟨hb8, hbt⟩ := Hw.mem_elems.1 hbm
          have hsm : Hid (s < 2 ^ m) := by show s < 2 ^ m; rw [← HN.out]; exact hsN
          have hbmm : b < m := set_in hsm.out hbt
          obtain ⟨q, left, hqk, hwp, hleft, hsub, hlf, hle⟩ := sub_facts hs256 hb8 hbt
          have hl256 : left < 256 := Nat.lt_trans hleft hs256
          have hwv : Hid (Value.int .i64 (IntKind.i64.wrap (2 ^ b)) = Value.int .i64 (q : Int)) := by show _ = _; rw [wrap_same, hwp]
          have hwv2 : Hid (Value.int .i64 (RowKit.wrap64 (2 ^ b)) = Value.int .i64 (q : Int)) := by show _ = _; rw [hwp]
          clear hwp
          have hbl : b < l.length := by rw [HM.out]; exact hbmm
          obtain ⟨hw1, _, hw256⟩ := HK.out.ww hbl
          have hpcf := pc_first HK.out HM.out hbmm hl256 (fun b2 h2 => set_in (s := left) (Nat.lt_trans hleft hsm.out) h2) hlf
          rw [← HF.out] at hpcf
          have hB2 := B5.out.trans (hb.out.mono B5.out.size)
          obtain ⟨c0, c1, hrr⟩ := HX3.out wr hB2
          obtain ⟨ba, offa, rfl, hba2, hca⟩ := hrr.at hbl
          rw [hw1] at hca
          obtain ⟨wl, hwl⟩ : ∃ wl, wl = ww l b := ⟨_, rfl⟩
          rw [← hwl] at hca hw256 hpcf
          have hand : bits .andNot .i64 (left : Int) (wl : Int) = ((left ^^^ (left &&& wl) : Nat) : Int) := Rv.i64_andNotR _ _ (by omega) (by omega)
          obtain ⟨z, hz⟩ : ∃ z, z = left ^^^ (left &&& wl) := ⟨_, rfl⟩
          have hz256 : z < 256 := by rw [hz]; exact Nat.xor_lt_two_pow (n := 8) hl256 (Nat.lt_of_le_of_lt Nat.and_le_left hl256)
          rw [← hz] at hand hpcf
          obtain ⟨pz, hpz⟩ : ∃ pz, pz = pc z := ⟨_, rfl⟩
          have hpz8 : pz ≤ 8 := by rw [hpz]; exact pc_le z
          rw [← hpz] at hpcf
          obtain ⟨g1, hg1⟩ : ∃ g1, g1 = Rv.gm f left := ⟨_, rfl⟩
          obtain ⟨g2, hg2⟩ : ∃ g2, g2 = Rv.gm f s := ⟨_, rfl⟩
          have hg164 : g1 ≤ 64 := by rw [hg1]; exact (Rv.G_bound f hl256).1
          have hft : Rv.fst? f s b = (g1 + pz == g2) := by
            unfold Rv.fst?
            rw [← hle.out, ← hpcf, ← hg1, ← hg2]
          have e0 := HCE.out wr hb.out j hlt2 b hbd
          have e1 := HCB.out wr hB2 left (by omega) g1 hg1
          have e2 := HCB.out wr hB2 s hsN g2 hg2
          have DB : Hid (∀ W, Calls Try.prog 136 #[.int .i64 (z : Int)] W fun e w' => e = .returned (.int .i64 (pz : Int)) ∧ W = w') := fun W => by
            rw [hpz]; exact l02Bits_any z hz256 W
          have hji : (j : Int) < (es.length : Int) := by omega
          have hbi : (b : Int) < (m : Int) := by omega
          have hli : (left : Int) < (N : Int) := by omega
          have hsi3 : (s : Int) < (N : Int) := by omega
          have hb64 : b < 64 := by omega
          have hb0 : ¬ (b : Int) < 0 := by omega
          have HFT := Lib.hid hft
          have HBD := Lib.hid hbd
          have HLE := Lib.hid hle.out
          have HBM := Lib.hid hbm
          have hwv3 := hwv2.out
          clear hes hbd hbm hbt hle hg1 hg2 hlf hw1 hpcf hrr hwl hz hpz hsm hft
          have KS : Hid (wr.drew.cell? ⟨w.heap.size, 1, none⟩ = some (.slice (some ⟨ba, offa, none⟩) m cap) ∧ wr.drew.cell? ⟨gb, left, none⟩ = some (.int .i64 (g1 : Int)) ∧ wr.drew.cell? ⟨gb, s, none⟩ = some (.int .i64 (g2 : Int)) ∧ wr.drew.cell? ⟨ba, offa + b, none⟩ = some (.int .i64 (wl : Int))) := ⟨c1, e1, e2, hca⟩
          by_cases hx : g1 + pz = g2
          · have HX := Lib.hid hx
            have hxi : IntKind.i64.wrap ((g1 : Int) + (pz : Int)) = (g2 : Int) := by rw [IntKind.wrap_i64]; omega
            clear hx
            go_wp2
            go_region_held3 (fun V => V.cell? ⟨w.heap.size, 1, none⟩ = some (.slice (some ⟨ba, offa, none⟩) m cap) ∧ V.cell? ⟨gb, left, none⟩ = some (.int .i64 (g1 : Int)) ∧ V.cell? ⟨gb, s, none⟩ = some (.int .i64 (g2 : Int)) ∧ V.cell? ⟨ba, offa + b, none⟩ = some (.int .i64 (wl : Int)))
              (first | (exact KS.out))
              (first
                | (go_at_call 136
                   refine (DB.out _).mono ?_
                   rintro e w7 ⟨rfl, rfl⟩))
            obtain ⟨W8, hW8⟩ : ∃ W8, W8 = wr.drew := ⟨_, rfl⟩
            have hb8 : RowKit.Below w2.heap.size w2 W8 := by rw [hW8]; exact hB2.drew
            have po8 : W8.ownsRow w2.heap.size 3 1 (.slice (some ⟨go, 0, none⟩) pre.length co) pre.length ((ni pre).map iv) := by rw [hW8]; exact own_below PO5.out hb.out.drew
            rw [← hW8]
            have HB8 := Lib.hid hb8
            have PO8 := Lib.hid po8
            have OW8 : Hid ((W8.alloc (.cells #[.int .i64 (b : Int)] 3)).ownsRow w2.heap.size 3 1 (.slice (some ⟨go, 0, none⟩) pre.length co) pre.length ((ni pre).map iv)) := po8.alloc _
            have B9 := Lib.hid (hb8.alloc hb8.size (.cells #[.int .i64 (b : Int)] 3))
            have HCC : Hid ((W8.alloc (.cells #[.int .i64 (b : Int)] 3)).cell? ⟨W8.heap.size, 0, none⟩ = some (iv (b : Int))) := by
              have hh : (W8.alloc (.cells #[.int .i64 (b : Int)] 3)).heap[W8.heap.size]? = some (.cells #[.int .i64 (b : Int)] 3 (0, 0)) := by show (W8.heap.push _)[W8.heap.size]? = _; simp
              exact cell1 hh
            have hpl2 : pre.length + pc s = m := by
              have h1 := congrArg List.length hpe.out
              rw [List.length_append, Rv.dc_len, Rv.dc_len] at h1
              exact h1
            have hft2 : Rv.fst? f s b = true := by rw [HFT.out, HX.out]; exact beq_self_eq_true _
            have hdcs : Hid (Rv.dc (pc s) (Rv.gv f s) = b :: Rv.dc (pc left) (Rv.gv f left)) := by
              show _ = _
              have hes := HES.out
              have hj2 : j < (elems s).length := by rw [← hes]; exact hlt2
              have h1 := Rv.first_gv f hs256 hj2 (by rw [← hes]; exact HBD.out) hft2 (fun i hi => by rw [← hes]; exact hno.out i hi)
              obtain ⟨h3, h4⟩ := Hw.mem_elems.1 HBM.out
              have h2 := Rv.pc_take hs256 h3 h4
              have h5 := Rv.gv_lt f (Rv.sub_lt (s := s) (a := b) hs256)
              rw [h1, h2, Nat.add_sub_cancel, HLE.out]
              exact Rv.dc_first h3 h5
            have hpre : Hid ((pre ++ [b]) ++ Rv.dc (pc left) (Rv.gv f left) = Rv.dc m (Rv.gv f FU)) := by
              show _ = _
              rw [List.append_assoc, List.singleton_append, ← hdcs.out]; exact hpe.out
            clear hW8 hb8 po8 hxi KS e0 e1 e2 hca c0 c1 hand hwv3 hft2 hdcs
            go_wp2_with (at_builtin; refine list_appendV _ rfl _ _ rfl w2.heap.size pre.length _ (ni pre) rfl OW8.out ⟨W8.heap.size, 0, none⟩ 1 (b : Int) rfl HCC.out (by omega) B9.out.size ?_)
            intro g9 c9 w9 ho9 hb9
            have B10 := Lib.hid (B9.out.trans hb9)
            have hl9 : (pre ++ [b]).length = pre.length + 1 := by simp
            have o10 : w9.ownsRow w2.heap.size 3 1 (.slice (some ⟨g9, 0, none⟩) (pre ++ [b]).length c9) (pre ++ [b]).length ((ni (pre ++ [b])).map iv) := by
              have e : ni (pre ++ [b]) = ni pre ++ [(b : Int)] := by simp [ni]
              rw [hl9, e]; first | exact ho9 | simpa using ho9
            have O10 := Lib.hid o10
            rw [← hl9]
            clear ho9 hb9 OW8 B9 HCC o10
            go_wp2
            go_roundw
            case rel => exact ⟨left, g9, c9, pre ++ [b], by omega, rfl, by omega, rfl, O10, hpre, B10⟩
            case measure => simp [intOf]; omega
          · obtain ⟨x, hxx⟩ : ∃ x, x = g1 + pz := ⟨_, rfl⟩
            have hxi : IntKind.i64.wrap ((g1 : Int) + (pz : Int)) = (x : Int) := by rw [IntKind.wrap_i64]; omega
            have hne : ¬ (x : Int) = (g2 : Int) := by omega
            have hne2 : ((x : Int) == (g2 : Int)) = false := beq_false_of_ne hne
            have hne3 : ¬ x = g2 := by omega
            have hft2 : Rv.fst? f s b = false := by rw [HFT.out]; exact beq_false_of_ne hx
            have hno2 : Hid (∀ i, i < j + 1 → Rv.fst? f s (es.getD i 0) = false) := fun i hi => by
              rcases Nat.lt_or_ge i j with h | h
              · exact hno.out i h
              · obtain rfl : i = j := by omega
                rw [← HBD.out]; exact hft2
            have hbq : Hid (RowKit.Below w5.heap.size w5 wr.drew) := hb.out.drew
            clear hx hft2 hxx
            go_wp2
            go_region_held3 (fun V => V.cell? ⟨w.heap.size, 1, none⟩ = some (.slice (some ⟨ba, offa, none⟩) m cap) ∧ V.cell? ⟨gb, left, none⟩ = some (.int .i64 (g1 : Int)) ∧ V.cell? ⟨gb, s, none⟩ = some (.int .i64 (g2 : Int)) ∧ V.cell? ⟨ba, offa + b, none⟩ = some (.int .i64 (wl : Int)))
              (first | (exact KS.out))
              (first
                | (go_at_call 136
                   refine (DB.out _).mono ?_
                   rintro e w7 ⟨rfl, rfl⟩))
            have hel : es.length ≤ 8 := by rw [HES.out]; exact elTo_len s 8
            clear KS hne hne2 hne3 hxi e0 e1 e2 hca c0 c1 hand hwv3
            go_wp2
            go_roundw
            case rel => exact ⟨j + 1, by omega, by go_num, rfl, rfl, hno2, hbq⟩
            case measure => simp [intOf]; omega
        · exfalso
          have hes := HES.out
          obtain ⟨b, hb1, hb2⟩ := Rv.fst_some f hs256 hpc
          rw [← hes] at hb1
          obtain ⟨i, hi, he⟩ := List.getElem_of_mem hb1
          have h1 := hno.out i (by omega)
          rw [List.getD_eq_getElem?_getD, List.getElem?_eq_getElem hi, Option.getD_some, he, hb2] at h1
          cases h1
    · obtain rfl : s = 0 := by omega
      have he0 : pre = Rv.dc m (Rv.gv f FU) := by
        have h1 := hpe.out
        have h2 : Rv.dc (pc 0) (Rv.gv f 0) = [] := rfl
        rw [h2, List.append_nil] at h1
        exact h1
      have hpl : pre.length = m := by rw [he0, Rv.dc_len]
      have HE0 := Lib.hid he0
      have HPL := Lib.hid hpl
      clear he0 hpl
      go_wp2
      go_ret
      refine ⟨⟨go, co, ?_, ?_⟩, B2.out.trans (hbr.out.mono B2.out.size)⟩
      · rw [HPL.out]; rfl
      · have h1 := hpo.out
        rw [HPL.out, HE0.out] at h1
        exact h1.mono B2.out.size
end Go.Proofs.Yteegbkbphfmooaa
namespace Go.Proofs.Yteegbkbphfmooaa
open Go.ChangeShapes Go.WideShapes Go.ChangeAt Go.RowKit Go.Sort
set_option linter.unusedVariables false

/-- The best order's players. -/
def boL (l : List Int) : List Nat := Rv.dc l.length (Rv.gv (bt l) (2 ^ l.length - 1))
noncomputable def boR (n : Int) (l : List Int) : List Int := if okB n l then ni (boL l) else []
theorem boL_len (l : List Int) : (boL l).length = l.length := Rv.dc_len _ _
theorem boR_le (n : Int) (l : List Int) : (boR n l).length ≤ 8 := by
  unfold boR
  cases h : okB n l
  · simp
  · have hk := okB_iff.1 h
    simp only [if_true, ni_len, boL_len]
    have := hk.2.1
    have := hk.2.2.1
    omega
/-- What is returned. -/
def BoR (n : Int) (l : List Int) (w : World) (e : Ending) (w' : World) : Prop := (∃ a0 c0, e = .returned (.slice a0 (boR n l).length c0) ∧ w'.ownsRow w.heap.size 3 1 (.slice a0 (boR n l).length c0) (boR n l).length ((boR n l).map iv)) ∧ RowKit.Below w.heap.size w w'
set_option maxRecDepth 100000 in
set_option maxHeartbeats 2000000 in
theorem implBestOrder (n : Int) (a : Option Addr) (l : List Int) (cap : Nat) (w : World) (hrow : IntRow w a l) (hl : l.length ≤ maxLen) :
    Calls Try.prog 27 #[.agg #[.int .i64 n, .slice a l.length cap]] w fun e w' => (∃ a0 c0, e = .returned (.slice a0 (boR n l).length c0) ∧ w'.ownsRow w.heap.size 3 1 (.slice a0 (boR n l).length c0) (boR n l).length ((boR n l).map iv)) ∧ RowKit.Below w.heap.size w w' := by
  obtain ⟨Wa, hWa⟩ : ∃ Wa, Wa = w.alloc (.cells #[.int .i64 n, .slice a l.length cap] 25) := ⟨_, rfl⟩
  have HWa := Lib.hid hWa
  have hba : RowKit.Below w.heap.size w Wa := by rw [hWa]; exact (Below.refl _ _).alloc (Nat.le_refl _) _
  have xa : Box Wa w.heap.size 25 (.int .i64 n) (.slice a l.length cap) := by rw [hWa]; exact Box.new _ _ _ _
  have hrowa : IntRow Wa a l := hrow.below hba (Nat.le_refl _)
  have HL := Lib.hid hl
  clear hl hrow hWa
  cases hok : okB n l
  · have HO := Lib.hid hok
    have HE : Hid (boR n l = []) := by show _ = _; unfold boR; rw [hok]; rfl
    clear hok
    go_enter Try.func27, Try.ntmps27
    go_wp2_with fail
    rw [← HWa.out]
    refine (implTourOk n a l cap Wa hrowa HL.out).mono ?_
    rintro e w1 ⟨rfl, hb1⟩
    rw [HO.out]
    have B1 := Lib.hid (hba.trans (hb1.mono hba.size))
    clear hb1
    go_wp2
    go_ret
    exact ⟨⟨none, 0, by rw [HE.out]; rfl, by rw [HE.out]; exact World.ownsRow_nil _ _ _ _⟩, B1.out⟩
  have HO := Lib.hid hok
  have HE : Hid (boR n l = ni (boL l)) := by show _ = _; unfold boR; rw [hok]; rfl
  have HLE : Hid ((boR n l).length = l.length) := by show _ = _; rw [HE.out, ni_len, boL_len]
  have hk := okB_iff.1 hok
  have HK := Lib.hid hk
  have hnl := hk.2.2.1
  have hl8 : l.length ≤ 8 := by have := hk.2.1; omega
  subst hnl
  clear hk hok
  go_enter Try.func27, Try.ntmps27
  go_wp2_with fail
  rw [← HWa.out]
  refine (implTourOk _ a l cap Wa hrowa HL.out).mono ?_
  rintro e w1 ⟨rfl, hb1⟩
  rw [HO.out]
  have X1 := Lib.hid (xa.below hb1 xa.lt)
  have R1 := Lib.hid (hrowa.below hb1 (Nat.le_refl _))
  have B1 := Lib.hid (hba.trans (hb1.mono hba.size))
  clear hb1 hba xa hrowa
  have c0 := X1.out.c0
  have c1 := X1.out.c1
  go_wp2_with fail
  refine (bestOrders_any l.length a l cap w1 rfl HK.out R1.out).mono ?_
  rintro e w2 ⟨⟨a2, c2, rfl, hr2⟩, hb2⟩
  have B2 := Lib.hid (B1.out.trans (hb2.mono B1.out.size))
  have hr3 : ∀ o, (w2.alloc o).ownsRow w.heap.size 3 1 (.slice a2 l.length c2) l.length ((ni (boL l)).map iv) := fun o => (World.ownsRow.mono hr2 B1.out.size).alloc o
  have HR3 := Lib.hid hr3
  clear hb2 hr2 hr3 c0 c1
  go_wp2
  go_ret
  exact ⟨⟨a2, c2, by rw [HLE.out]; rfl, by rw [HLE.out, HE.out]; exact HR3.out _⟩, B2.out.alloc B2.out.size _⟩
set_option maxRecDepth 100000 in
set_option maxHeartbeats 2000000 in
theorem specBestOrder (n : Int) (a : Option Addr) (l : List Int) (cap : Nat) (w : World) (hrow : IntRow w a l) (hl : l.length ≤ maxLen) :
    Calls Try.prog 52 #[.agg #[.int .i64 n, .slice a l.length cap]] w fun e w' => (∃ a0 c0, e = .returned (.slice a0 (boR n l).length c0) ∧ w'.ownsRow w.heap.size 3 1 (.slice a0 (boR n l).length c0) (boR n l).length ((boR n l).map iv)) ∧ RowKit.Below w.heap.size w w' := by
  obtain ⟨Wa, hWa⟩ : ∃ Wa, Wa = w.alloc (.cells #[.int .i64 n, .slice a l.length cap] 25) := ⟨_, rfl⟩
  have HWa := Lib.hid hWa
  have hba : RowKit.Below w.heap.size w Wa := by rw [hWa]; exact (Below.refl _ _).alloc (Nat.le_refl _) _
  have xa : Box Wa w.heap.size 25 (.int .i64 n) (.slice a l.length cap) := by rw [hWa]; exact Box.new _ _ _ _
  have hrowa : IntRow Wa a l := hrow.below hba (Nat.le_refl _)
  have HL := Lib.hid hl
  clear hl hrow hWa
  cases hok : okB n l
  · have HO := Lib.hid hok
    have HE : Hid (boR n l = []) := by show _ = _; unfold boR; rw [hok]; rfl
    clear hok
    go_enter Try.func52, Try.ntmps52
    go_wp2_with fail
    rw [← HWa.out]
    refine (specTourOk n a l cap Wa hrowa HL.out).mono ?_
    rintro e w1 ⟨rfl, hb1⟩
    rw [HO.out]
    have B1 := Lib.hid (hba.trans (hb1.mono hba.size))
    clear hb1
    go_wp2
    go_ret
    exact ⟨⟨none, 0, by rw [HE.out]; rfl, by rw [HE.out]; exact World.ownsRow_nil _ _ _ _⟩, B1.out⟩
  have HO := Lib.hid hok
  have HE : Hid (boR n l = ni (boL l)) := by show _ = _; unfold boR; rw [hok]; rfl
  have HLE : Hid ((boR n l).length = l.length) := by show _ = _; rw [HE.out, ni_len, boL_len]
  have hk := okB_iff.1 hok
  have HK := Lib.hid hk
  have hnl := hk.2.2.1
  have hl8 : l.length ≤ 8 := by have := hk.2.1; omega
  subst hnl
  clear hk hok
  go_enter Try.func52, Try.ntmps52
  go_wp2_with fail
  rw [← HWa.out]
  refine (specTourOk _ a l cap Wa hrowa HL.out).mono ?_
  rintro e w1 ⟨rfl, hb1⟩
  rw [HO.out]
  have X1 := Lib.hid (xa.below hb1 xa.lt)
  have R1 := Lib.hid (hrowa.below hb1 (Nat.le_refl _))
  have B1 := Lib.hid (hba.trans (hb1.mono hba.size))
  clear hb1 hba xa hrowa
  have c0 := X1.out.c0
  have c1 := X1.out.c1
  go_wp2_with fail
  refine (l08Best_any l.length a l cap w1 rfl HK.out R1.out).mono ?_
  rintro e w2 ⟨⟨g2, c2, rfl, hr2⟩, hb2⟩
  have B2 := Lib.hid (B1.out.trans (hb2.mono B1.out.size))
  have HR3 := Lib.hid (World.ownsRow.mono hr2 B1.out.size)
  clear hb2 hr2 c0 c1
  go_wp2
  go_ret
  exact ⟨⟨some ⟨g2, 0, none⟩, c2, by rw [HLE.out]; rfl, by rw [HLE.out, HE.out]; exact HR3.out⟩, B2.out⟩
end Go.Proofs.Yteegbkbphfmooaa
namespace Go.Proofs.Yteegbkbphfmooaa
open Go.ChangeShapes Go.WideShapes Go.ChangeAt Go.RowKit Go.Sort
set_option linter.unusedVariables false

namespace Rv
theorem sm_third_in : ∀ (L : List (Option (Nat × Nat × Nat))) (t : Nat × Nat × Nat), sm L = some t → ∃ x ∈ L, ∃ u : Nat × Nat × Nat, x = some u ∧ u.2.2 = t.2.2
  | [], t, h => by cases h
  | x :: L, t, h => by
    rw [sm_cons] at h
    cases x with
    | none =>
      obtain ⟨y, hy, u, h1, h2⟩ := sm_third_in L t h
      exact ⟨y, List.mem_cons_of_mem _ hy, u, h1, h2⟩
    | some u =>
      cases hr : sm L with
      | none =>
        rw [hr] at h
        obtain rfl : u = t := Option.some.inj h
        exact ⟨some u, List.mem_cons_self .., u, rfl, rfl⟩
      | some v =>
        rw [hr] at h
        obtain rfl : cm u v = t := Option.some.inj h
        obtain ⟨y, hy, u2, h1, h2⟩ := sm_third_in L v hr
        have hu : ∃ x ∈ some u :: L, ∃ u2 : Nat × Nat × Nat, x = some u2 ∧ u2.2.2 = u.2.2 := ⟨some u, List.mem_cons_self .., u, rfl, rfl⟩
        have hv : ∃ x ∈ some u :: L, ∃ u2 : Nat × Nat × Nat, x = some u2 ∧ u2.2.2 = v.2.2 := ⟨y, List.mem_cons_of_mem _ hy, u2, h1, h2⟩
        unfold cm
        split
        · exact hu
        · split
          · exact hv
          · show ∃ x ∈ some u :: L, ∃ u2 : Nat × Nat × Nat, x = some u2 ∧ u2.2.2 = min u.2.2 v.2.2
            rcases Nat.le_total u.2.2 v.2.2 with h3 | h3
            · rw [Nat.min_eq_left h3]; exact hu
            · rw [Nat.min_eq_right h3]; exact hv
theorem best_ors (f : Nat → Nat → Bool) {s : Nat} (hs : s < 256) : dc (pc s) (gv f s) ∈ ors (pc s) s := by
  have h := G_eq f hs
  unfold G at h
  obtain ⟨x, hx, u, rfl, h2⟩ := sm_third_in _ _ h
  obtain ⟨l, hl, he⟩ := List.mem_map.1 hx
  obtain rfl := Option.some.inj he
  obtain ⟨h3, h4, h5⟩ := (mem_ors hs).1 hl
  have h6 : vl l = gv f s := h2
  rw [← h6, dc_vl (pc s) l h3 (fun x hx => (h5 x hx).1)]
  exact hl
theorem best_od (f : Nat → Nat → Bool) {m : Nat} (hm : m ≤ 8) : Od m (dc m (gv f (2 ^ m - 1))) := by
  have hs : 2 ^ m - 1 < 256 := by have := pow_le m hm; have := Nat.one_le_two_pow (n := m); omega
  have h := best_ors f hs
  have h2 := (mem_ors hs).1 h
  rw [pc_top hm] at h2
  obtain ⟨h3, h4, h5⟩ := h2
  refine ⟨h4, fun x hx => ?_, h3⟩
  have h6 := (h5 x hx).2
  rw [Nat.testBit_two_pow_sub_one] at h6
  exact of_decide_eq_true h6
end Rv
theorem od_perm {m : Nat} {o : List Nat} (h : Rv.Od m o) : permB m (ni o) = true := by
  refine permB_yes ⟨by rw [ni_len]; exact h.len, fun i hi => ?_⟩
  rw [ni_len] at hi
  have hil : i < m := by rw [← h.len]; exact hi
  rw [ni_at hi]
  have hlt := h.at hil
  refine ⟨by omega, by omega, ?_⟩
  unfold among
  rw [List.any_eq_false]
  intro z hz hzz
  have hz2 : z = ((o.getD i 0 : Nat) : Int) := by simpa using hzz
  obtain ⟨k, hk, he⟩ := List.getElem_of_mem hz
  rw [List.length_take, ni_len] at hk
  rw [List.getElem_take] at he
  have h1 : (ni o).getD k 0 = z := by rw [List.getD_eq_getElem?_getD, List.getElem?_eq_getElem (by rw [ni_len]; omega)]; exact he
  rw [ni_at (by omega), hz2] at h1
  have h2 : o.getD k 0 = o.getD i 0 := by omega
  rw [List.getD_eq_getElem?_getD, List.getD_eq_getElem?_getD, List.getElem?_eq_getElem (show k < o.length by omega), List.getElem?_eq_getElem hi] at h2
  have h3 := (List.getElem_inj (h₀ := by omega) (h₁ := hi) h.nd).1 h2
  omega
theorem boL_od {n : Int} {l : List Int} (h : Ok n l) : Rv.Od l.length (boL l) := Rv.best_od (bt l) (by have := h.2.1; have := h.2.2.1; omega)
/-- What FeedbackGames answers. -/
noncomputable def fgR (n : Int) (l : List Int) : List (List Int) := bkR n l (boR n l)
theorem fgR_small (n : Int) (l : List Int) : SmallSS (fgR n l) := bkR_small n l _
theorem fgR_no {n : Int} {l : List Int} (h : okB n l = false) : fgR n l = [] := by
  unfold fgR bkR renB
  rw [h]; rfl
theorem tn_ni (o : List Nat) : tn (ni o) = o := by
  unfold tn ni
  rw [List.map_map]
  conv => rhs; rw [← List.map_id o]
  rfl
theorem fgR_yes {n : Int} {l : List Int} (h : okB n l = true) : fgR n l = bkA l (boL l) l.length := by
  have hb : boR n l = ni (boL l) := by unfold boR; rw [h]; rfl
  unfold fgR bkR renB
  rw [hb, h, od_perm (boL_od (okB_iff.1 h)), tn_ni]; rfl
theorem own_capG {w : World} {B n c : Nat} {a : Option Addr} {xs : List Value} (h : w.ownsRow B 3 1 (.slice a n c) n xs) : n ≤ c ∧ c ≤ maxLen := by
  rcases h.2 with ⟨h0, hk0⟩ | ⟨g2, c2, cur, he, _, _, h1, h2, _⟩
  · simp only [Value.slice.injEq] at h0
    obtain ⟨rfl, rfl, rfl⟩ := h0
    exact ⟨Nat.le_refl _, Nat.zero_le _⟩
  · simp only [Value.slice.injEq, true_and] at he
    obtain ⟨rfl, rfl⟩ := he
    exact ⟨by omega, by omega⟩

set_option maxRecDepth 100000 in
set_option maxHeartbeats 4000000 in
theorem implFeedbackGames (n : Int) (a : Option Addr) (l : List Int) (cap : Nat) (w : World) (hrow : IntRow w a l) (hl : l.length ≤ maxLen) :
    Calls Try.prog 40 #[.agg #[.int .i64 n, .slice a l.length cap]] w (RetSS w (fgR n l)) := by
  obtain ⟨Wa, hWa⟩ : ∃ Wa, Wa = w.alloc (.cells #[.int .i64 n, .slice a l.length cap] 25) := ⟨_, rfl⟩
  have HWa := Lib.hid hWa
  have hba : RowKit.Below w.heap.size w Wa := by rw [hWa]; exact (Below.refl _ _).alloc (Nat.le_refl _) _
  have xa : Box Wa w.heap.size 25 (.int .i64 n) (.slice a l.length cap) := by rw [hWa]; exact Box.new _ _ _ _
  have R1 := Lib.hid (hrow.below hba (Nat.le_refl _))
  have HL := Lib.hid hl
  have HBA := Lib.hid hba
  have XA := Lib.hid xa
  obtain ⟨R, hR⟩ : ∃ R, R = boR n l := ⟨_, rfl⟩
  have hR8 : R.length ≤ 8 := by rw [hR]; exact boR_le n l
  obtain ⟨G, hG⟩ : ∃ G, G = fgR n l := ⟨_, rfl⟩
  rw [← hG]
  have hRm : Hid (R.length ≤ maxLen) := by show R.length ≤ maxLen; unfold maxLen; omega
  have DB : Hid (∀ W, IntRow W a l → Calls Try.prog 27 #[.agg #[.int .i64 n, .slice a l.length cap]] W fun e w' => (∃ a0 c0, e = .returned (.slice a0 R.length c0) ∧ w'.ownsRow W.heap.size 3 1 (.slice a0 R.length c0) R.length (R.map iv)) ∧ RowKit.Below W.heap.size W w') := fun W h => by
    rw [hR]; exact implBestOrder n a l cap W h HL.out
  have DG : Hid (∀ W an cn, IntRow W a l → IntRow W an R → R.length ≤ cn → cn ≤ maxLen → Calls Try.prog 33 #[.agg #[.int .i64 n, .slice a l.length cap], .slice an R.length cn] W (RetSS W G)) := fun W an cn h1 h2 h3 h4 => by
    have := implBackGames n a l cap an R cn W h1 HL.out h2 hRm.out h3 h4
    rw [hG]; unfold fgR; rw [← hR]; exact this
  have KEEP : Hid (∀ V, RowKit.Below Wa.heap.size Wa V → (V.cell? ⟨w.heap.size, 0, none⟩ = some (.int .i64 n) ∧ V.cell? ⟨w.heap.size, 1, none⟩ = some (.slice a l.length cap))) := fun V hb => by
    have t := XA.out.below hb XA.out.lt
    exact ⟨t.c0, t.c1⟩
  have BD : Hid (RowKit.Below Wa.heap.size Wa Wa.drew) := (Below.refl _ _).drew
  clear hWa hba xa hrow hl hR hR8 hG
  go_enter Try.func40, Try.ntmps40
  go_wp2
  rw [← HWa.out]
  go_region_held3 (fun V => V.cell? ⟨w.heap.size, 0, none⟩ = some (.int .i64 n) ∧ V.cell? ⟨w.heap.size, 1, none⟩ = some (.slice a l.length cap))
    (first | (exact KEEP.out _ B3.out) | (exact KEEP.out _ B2.out) | (exact KEEP.out _ BD.out))
    (first
      | (go_at_call 27
         refine (DB.out _ (R1.out.below BD.out (Nat.le_refl _))).mono ?_
         rintro e w2 ⟨⟨a0, ca0, rfl, ho2⟩, hb2⟩
         have B2 := Lib.hid (BD.out.trans hb2)
         have DG2 := Lib.hid (DG.out w2 a0 ca0 (R1.out.below (BD.out.trans hb2) (Nat.le_refl _)) (own_int ho2) (own_capG ho2).1 (own_capG ho2).2)
         clear ho2 hb2)
      | (go_at_call 33
         refine DG2.out.mono ?_
         rintro e w3 ⟨⟨ao, co, gs, rfl, hss⟩, hb3⟩
         have B3 := Lib.hid (B2.out.trans (hb3.mono B2.out.size))
         have HSS := Lib.hid (hss.mono B2.out.size)
         clear hss hb3))
  go_wp2
  go_ret
  exact ⟨⟨ao, co, gs, rfl, HSS.out.mono HBA.out.size⟩, HBA.out.trans (B3.out.mono HBA.out.size)⟩

set_option maxRecDepth 100000 in
set_option maxHeartbeats 4000000 in
theorem specFeedbackGames (n : Int) (a : Option Addr) (l : List Int) (cap : Nat) (w : World) (hrow : IntRow w a l) (hl : l.length ≤ maxLen) :
    Calls Try.prog 65 #[.agg #[.int .i64 n, .slice a l.length cap]] w (RetSS w (fgR n l)) := by
  obtain ⟨Wa, hWa⟩ : ∃ Wa, Wa = w.alloc (.cells #[.int .i64 n, .slice a l.length cap] 25) := ⟨_, rfl⟩
  have HWa := Lib.hid hWa
  have hba : RowKit.Below w.heap.size w Wa := by rw [hWa]; exact (Below.refl _ _).alloc (Nat.le_refl _) _
  have xa : Box Wa w.heap.size 25 (.int .i64 n) (.slice a l.length cap) := by rw [hWa]; exact Box.new _ _ _ _
  have hrowa : IntRow Wa a l := hrow.below hba (Nat.le_refl _)
  have HL := Lib.hid hl
  clear hl hrow hWa
  cases hok : okB n l
  · have HO := Lib.hid hok
    have HE : Hid (fgR n l = []) := fgR_no hok
    clear hok
    go_enter Try.func65, Try.ntmps65
    go_wp2_with fail
    rw [← HWa.out]
    refine (specTourOk n a l cap Wa hrowa HL.out).mono ?_
    rintro e w1 ⟨rfl, hb1⟩
    rw [HO.out]
    have B1 := Lib.hid (hba.trans (hb1.mono hba.size))
    clear hb1
    go_wp2
    go_ret
    exact ⟨⟨none, 0, [], by rw [HE.out]; rfl, by rw [HE.out]; exact OwnSS.nil _ _⟩, B1.out⟩
  have HO := Lib.hid hok
  have HE : Hid (fgR n l = bkA l (boL l) l.length) := fgR_yes hok
  have hk := okB_iff.1 hok
  have HK := Lib.hid hk
  have hod := boL_od hk
  have hnl := hk.2.2.1
  subst hnl
  obtain ⟨o, ho⟩ : ∃ o, o = boL l := ⟨_, rfl⟩
  have HOE := Lib.hid ho
  rw [← ho] at hod HE
  have HOD := Lib.hid hod
  have DB : Hid (∀ W, IntRow W a l → Calls Try.prog 100 #[.agg #[.int .i64 (l.length : Int), .slice a l.length cap]] W fun e w' => (∃ g c, e = .returned (.slice (some ⟨g, 0, none⟩) l.length c) ∧ w'.ownsRow W.heap.size 3 1 (.slice (some ⟨g, 0, none⟩) l.length c) l.length ((ni o).map iv)) ∧ RowKit.Below W.heap.size W w') := fun W h => by
    rw [ho]; exact l08Best_any l.length a l cap W rfl HK.out h
  have DG : Hid (∀ W an cn, IntRow W a l → IntRow W an (ni o) → Calls Try.prog 102 #[.agg #[.int .i64 (l.length : Int), .slice a l.length cap], .slice an l.length cn] W (RetSS W (bkA l o l.length))) := fun W an cn h1 h2 =>
    l08Back_any l.length a l cap an o cn W rfl HK.out h1 HOD.out h2
  clear hk hok hod ho
  go_enter Try.func65, Try.ntmps65
  go_wp2_with fail
  rw [← HWa.out]
  refine (specTourOk _ a l cap Wa hrowa HL.out).mono ?_
  rintro e w1 ⟨rfl, hb1⟩
  rw [HO.out]
  have X1 := Lib.hid (xa.below hb1 xa.lt)
  have R1 := Lib.hid (hrowa.below hb1 (Nat.le_refl _))
  have B1 := Lib.hid (hba.trans (hb1.mono hba.size))
  have KEEP : Hid (∀ V, RowKit.Below w1.heap.size w1 V → (V.cell? ⟨w.heap.size, 0, none⟩ = some (.int .i64 (l.length : Int)) ∧ V.cell? ⟨w.heap.size, 1, none⟩ = some (.slice a l.length cap))) := fun V hb => by
    have t := X1.out.below hb X1.out.lt
    exact ⟨t.c0, t.c1⟩
  have BD : Hid (RowKit.Below w1.heap.size w1 w1.drew) := (Below.refl _ _).drew
  clear hb1 hba xa hrowa
  go_wp2
  go_region_held3 (fun V => V.cell? ⟨w.heap.size, 0, none⟩ = some (.int .i64 (l.length : Int)) ∧ V.cell? ⟨w.heap.size, 1, none⟩ = some (.slice a l.length cap))
    (first | (exact KEEP.out _ B3.out) | (exact KEEP.out _ B2.out) | (exact KEEP.out _ BD.out))
    (first
      | (go_at_call 100
         refine (DB.out _ (R1.out.below BD.out (Nat.le_refl _))).mono ?_
         rintro e w2 ⟨⟨g0, ca0, rfl, ho2⟩, hb2⟩
         have B2 := Lib.hid (BD.out.trans hb2)
         have O2 := Lib.hid ho2
         clear ho2 hb2)
      | (go_at_call 102
         refine (DG.out _ _ _ (R1.out.below B2.out (Nat.le_refl _)) (ord_own HOD.out.len O2.out)).mono ?_
         rintro e w3 ⟨⟨ao, co, gs, rfl, hss⟩, hb3⟩
         have B3 := Lib.hid (B2.out.trans (hb3.mono B2.out.size))
         have HSS := Lib.hid (hss.mono B2.out.size)
         clear hss hb3))
  go_wp2
  go_ret
  exact ⟨⟨ao, co, gs, by rw [HE.out]; rfl, by rw [HE.out]; exact HSS.out.mono B1.out.size⟩, B1.out.trans (B3.out.mono B1.out.size)⟩
end Go.Proofs.Yteegbkbphfmooaa
