/-
  'CountSymmetries' and 'AreLike' of the model. No conditions but the bounds that Go gives a slice.
-/
import Derived.Test.YteiadhfjpohmdaaXt
import Derived.Test.YteiadhfjpohmdaaXs
import Derived.Test.YteiadhfjpohmdaaZ
import Derived.Deep.RegionHeld3
namespace Go.Proofs.Yteiadhfjpohmdaa
open Go.ChangeShapes Go.WideShapes Go.ChangeAt Go.RowKit
set_option linter.unusedVariables false

theorem cntS_perm (l : List Int) {A B : List (List Nat)} (h : A.Perm B) : cntS l A = cntS l B := h.countP_eq _
theorem mdl_in {m i : Nat} (hi : i < Rn.fct m) : Rn.nmL m (Rn.turnN m) i ∈ Rn.mdl m := List.mem_of_getElem? (Rn.mdl_at hi)
theorem own_intU {w : World} {B m c : Nat} {a : Option Addr} {L : List Int} (hm : L.length = m) (h : w.ownsRow B 3 1 (.slice a m c) m (L.map iv)) : IntRow w a L := by subst hm; exact own_int h
theorem fieldU (n : Int) (s : Value) (W : World) : (Instr.field 27 (.agg #[.int .i64 n, s]) 1).run Try.prog W = .ok s W := by kernel_rfl
theorem same_lenU {w : World} {B m g : Nat} {L : List Int} (hL : L.length = m) (h : w.ownsRow B 3 1 (.slice (some ⟨g, 0, none⟩) m m) m (L.map iv)) : IntRow w (some ⟨g, 0, none⟩) L := by
  subst hL; exact IntRow.of_own h
/-- The model's renaming by an order. -/
theorem l02Rename_at {m : Nat} {a : Option Addr} {l : List Int} {cap : Nat} {b : Option Addr} {o : List Nat} {c : Nat} {W : World} (hm : m = l.length) (hok : Ok (m : Int) l) (ho : Rn.isO m o = true) (h1 : IntRow W a l) (h2 : IntRow W b (o.map Int.ofNat)) :
    Calls Try.prog 88 #[.agg #[.int .i64 (m : Int), .slice a m cap], .slice b m c] W fun e w' => (∃ g, e = .returned (.agg #[.int .i64 (m : Int), .slice (some ⟨g, 0, none⟩) m m]) ∧ IntRow w' (some ⟨g, 0, none⟩) (rnL l o)) ∧ Below W.heap.size W w' := by
  subst hm
  have hol : (o.map Int.ofNat).length = l.length := by rw [List.length_map]; exact Rn.isO_len ho
  have := l02Rename_any a l cap b (o.map Int.ofNat) c W h1 h2 hok (Rn.isO_perm ho)
  rw [hol] at this
  refine this.mono ?_
  rintro e w' ⟨⟨g, he, ho⟩, hb⟩
  rw [nv_iv] at ho
  exact ⟨⟨g, he, same_lenU (rnL_len l o) ho⟩, hb⟩
theorem l04Same_at {m mu : Nat} {a b : Option Addr} {x y : List Int} {ca cb : Nat} {W : World} (hx : x.length = m) (hy : y.length = mu) (hm : m ≤ 8) (hmu : mu ≤ 8) (h1 : IntRow W a x) (h2 : IntRow W b y) :
    Calls Try.prog 87 #[.slice a m ca, .slice b mu cb] W fun e w' => e = .returned (.bool (eqX x y)) ∧ W = w' := by
  subst hx; subst hy
  exact l04Same_any a b x y ca cb W h1 h2 (by unfold maxLen; omega) (by unfold maxLen; omega)

set_option maxRecDepth 100000 in
set_option maxHeartbeats 2000000 in
theorem specCountSymmetries (n : Int) (a : Option Addr) (l : List Int) (cap : Nat) (w : World) (hrow : IntRow w a l) (hl : l.length ≤ maxLen) :
    Calls Try.prog 30 #[.agg #[.int .i64 n, .slice a l.length cap]] w fun e w' => e = .returned (.int .i64 (csR n l)) ∧ Below w.heap.size w w' := by
  obtain ⟨Wa, hWa⟩ : ∃ Wa, Wa = w.alloc (.cells #[.int .i64 n, .slice a l.length cap] 27) := ⟨_, rfl⟩
  have HWa := Lib.hid hWa
  have hba : Below w.heap.size w Wa := by rw [hWa]; exact (Below.refl _ _).alloc (Nat.le_refl _) _
  have xa : Box Wa w.heap.size 27 (.int .i64 n) (.slice a l.length cap) := by rw [hWa]; exact Box.new _ _ _ _
  have hrowa : IntRow Wa a l := hrow.below hba (Nat.le_refl _)
  have HT := Lib.hid (specTourOk n a l cap Wa hrowa hl)
  clear hl hrow hWa
  cases hok : okB n l
  · rw [hok] at HT
    have HE : Hid (csR n l = 0) := by show _ = _; unfold csR hanB; rw [hok]; rfl
    clear hok
    go_enter Try.func30, Try.ntmps30
    go_wp2_with fail
    rw [← HWa.out]
    refine HT.out.mono ?_
    rintro e w1 ⟨rfl, hb1⟩
    have B1 := Lib.hid (hba.trans (hb1.mono hba.size))
    clear hb1
    go_wp2
    go_ret
    exact ⟨by rw [HE.out]; rfl, B1.out⟩
  rw [hok] at HT
  have hk := okB_iff.1 hok
  obtain rfl : n = (l.length : Int) := hk.2.2.1.symm
  obtain ⟨m, hm⟩ : ∃ m, m = l.length := ⟨_, rfl⟩
  have HM := Lib.hid hm
  by_cases h6 : (m : Int) ≤ 6
  case neg =>
    have HE : Hid (csR (l.length : Int) l = 0) := by show _ = _; unfold csR hanB; rw [← hm, decide_eq_false h6]; simp
    rw [← hm] at HT HE xa HWa ⊢
    have h6' : (6 : Int) < (m : Int) := by omega
    clear hok hk hm h6
    go_enter Try.func30, Try.ntmps30
    go_wp2_with fail
    rw [← HWa.out]
    refine HT.out.mono ?_
    rintro e w1 ⟨rfl, hb1⟩
    have c0 := (xa.below hb1 xa.lt).c0
    have B1 := Lib.hid (hba.trans (hb1.mono hba.size))
    clear hb1
    go_wp2
    go_ret
    exact ⟨by rw [HE.out]; rfl, B1.out⟩
  have HE : Hid (csR (l.length : Int) l = (cntS l (Rn.allO l.length) : Int)) := by show _ = _; unfold csR hanB; rw [hok, ← hm, decide_eq_true h6]; rfl
  rw [← hm] at hk HE HT xa HWa ⊢
  have hm6 : m ≤ 6 := by omega
  have hm1 : 1 ≤ m := by have := hk.1; omega
  have HK := Lib.hid hk
  have h6' : ¬ ((6 : Int) < (m : Int)) := by omega
  clear hok hk hm h6
  go_enter Try.func30, Try.ntmps30
  go_wp2_with fail
  rw [← HWa.out]
  refine HT.out.mono ?_
  rintro e w1 ⟨rfl, hb1⟩
  have c0 := (xa.below hb1 xa.lt).c0
  have XA := Lib.hid (xa.below hb1 xa.lt)
  have HR1 := Lib.hid (hrowa.below hb1 (Nat.le_refl _))
  have B1 := Lib.hid (hba.trans (hb1.mono hba.size))
  clear hb1 xa hrowa hba
  go_wp2
  clear c0
  obtain ⟨F, hF⟩ : ∃ F, F = Rn.fct m := ⟨_, rfl⟩
  have hF7 : F ≤ 720 := by rw [hF]; exact Rn.fct_le hm6
  have HF := Lib.hid hF
  have HCT : Hid (∀ W, Calls Try.prog 92 #[.int .i64 (m : Int)] W fun e w' => e = .returned (.int .i64 (F : Int)) ∧ Below W.heap.size W w') := by rw [hF]; exact fun W => l11Count_any m hm1 hm6 W
  clear hF
  go_loopw [3, 4] (fun c i wr => ∃ j q : Nat, j ≤ F ∧ q ≤ j ∧ i = .int .i64 (j : Int) ∧ c = .int .i64 (q : Int) ∧ Hid (q = cntS l ((Rn.mdl m).take j)) ∧ Hid (Below w1.heap.size w1 wr)) (fun _ i _ => F - (intOf i).toNat)
  case atStart => exact ⟨0, 0, Nat.zero_le _, Nat.le_refl _, rfl, rfl, rfl, Below.refl _ _⟩
  case round =>
    obtain ⟨j, q, hj, hqj, rfl, rfl, hq, hbr⟩ := hrel
    have c0 := (XA.out.below hbr.out XA.out.lt).c0
    go_wp2_with fail
    refine (HCT.out wr).mono ?_
    rintro e w5 ⟨rfl, hb5⟩
    have B5 := Lib.hid (hbr.out.trans (hb5.mono hbr.out.size))
    clear hb5 hbr c0
    by_cases hlt : j < F
    · have hji : (j : Int) < (F : Int) := by omega
      obtain ⟨o, ho⟩ : ∃ o, o = Rn.nmL m (Rn.turnN m) j := ⟨_, rfl⟩
      have hoi : Rn.isO m o = true := by rw [ho]; exact Rn.mdl_is hm6 (mdl_in (by rw [← HF.out]; exact hlt))
      have HOI := Lib.hid hoi
      have HNM : Hid (∀ W, Calls Try.prog 93 #[.int .i64 (m : Int), .int .i64 (j : Int)] W fun e w' => (∃ g c, e = .returned (.slice (some ⟨g, 0, none⟩) m c) ∧ w'.ownsRow W.heap.size 3 1 (.slice (some ⟨g, 0, none⟩) m c) m ((o.map Int.ofNat).map iv)) ∧ Below W.heap.size W w') := by rw [ho]; exact fun W => l11Names_any m j hm1 hm6 (by omega) W
      have htk : (Rn.mdl m).take (j + 1) = (Rn.mdl m).take j ++ [o] := by rw [ho]; exact take_snoc _ _ _ (Rn.mdl_at (by rw [← HF.out]; exact hlt))
      have hsn : cntS l ((Rn.mdl m).take (j + 1)) = cntS l ((Rn.mdl m).take j) + (if eqX (rnL l o) l then 1 else 0) := by rw [htk]; exact cntS_snoc l _ o
      rw [← hq.out] at hsn
      have BD : Hid (Below w1.heap.size w1 w5.drew) := B5.out.drew
      have BDD : Hid (Below w5.heap.size w5 w5.drew) := (Below.refl _ w5).drew
      have KEEP : Hid (∀ V, Below w5.heap.size w5 V → (V.cell? ⟨w.heap.size, 0, none⟩ = some (.int .i64 (m : Int)) ∧ V.cell? ⟨w.heap.size, 1, none⟩ = some (.slice a m cap))) := fun V hb => by
        have x := XA.out.below (B5.out.trans (hb.mono B5.out.size)) XA.out.lt
        exact ⟨x.c0, x.c1⟩
      have HRW : Hid (∀ V, Below w5.heap.size w5 V → IntRow V a l) := fun V hb => HR1.out.below (B5.out.trans (hb.mono B5.out.size)) (Nat.le_refl _)
      have hfd := fun (s : Value) (W : World) => fieldU (m : Int) s W
      clear BD
      have BD := BDD
      clear BDD ho hoi htk hq
      cases hb : eqX (rnL l o) l
      · rw [hb] at hsn
        have HN : Hid (q = cntS l ((Rn.mdl m).take (j + 1))) := hsn.symm
        clear hsn
        go_wp2
        go_region_held3 (fun V => V.cell? ⟨w.heap.size, 0, none⟩ = some (.int .i64 (m : Int)) ∧ V.cell? ⟨w.heap.size, 1, none⟩ = some (.slice a m cap))
          (first | (exact KEEP.out _ B8.out) | (exact KEEP.out _ B7.out) | (exact KEEP.out _ B6.out) | (exact KEEP.out _ BD.out))
          (first
            | (go_at_call 93
               with_reducible refine (HNM.out _).mono ?_
               rintro e w6 ⟨⟨g6, c6, rfl, ho6⟩, hb6⟩
               have B6 := Lib.hid (BD.out.trans hb6)
               have R6 : Hid (IntRow w6 (some ⟨g6, 0, none⟩) (o.map Int.ofNat)) := own_intU (by rw [List.length_map]; exact Rn.isO_len HOI.out) ho6
               clear hb6 ho6)
            | (go_at_call 88
               refine (l02Rename_at HM.out HK.out HOI.out (HRW.out _ B6.out) R6.out).mono ?_
               rintro e w7 ⟨⟨g7, rfl, hr7⟩, hb7⟩
               have B7 := Lib.hid (B6.out.trans (hb7.mono B6.out.size))
               have R7 := Lib.hid hr7
               clear hb7 hr7)
            | (go_at_call 87
               refine (l04Same_at ((rnL_len l o).trans HM.out.symm) HM.out.symm (by omega) (by omega) R7.out (HRW.out _ B7.out)).mono ?_
               rintro e w8 ⟨rfl, rfl⟩
               rw [hb]
               have B8 := B7))
        all_goals
          have B9 := Lib.hid (B5.out.trans (B8.out.mono B5.out.size))
          simp [go_sem]
          go_wp2
          go_roundw
          case rel => exact ⟨j + 1, q, by omega, by omega, by go_num, rfl, HN.out, B9.out⟩
          case measure => simp [intOf] <;> omega
      · rw [hb] at hsn
        have HN : Hid (q + 1 = cntS l ((Rn.mdl m).take (j + 1))) := hsn.symm
        clear hsn
        go_wp2
        go_region_held3 (fun V => V.cell? ⟨w.heap.size, 0, none⟩ = some (.int .i64 (m : Int)) ∧ V.cell? ⟨w.heap.size, 1, none⟩ = some (.slice a m cap))
          (first | (exact KEEP.out _ B8.out) | (exact KEEP.out _ B7.out) | (exact KEEP.out _ B6.out) | (exact KEEP.out _ BD.out))
          (first
            | (go_at_call 93
               with_reducible refine (HNM.out _).mono ?_
               rintro e w6 ⟨⟨g6, c6, rfl, ho6⟩, hb6⟩
               have B6 := Lib.hid (BD.out.trans hb6)
               have R6 : Hid (IntRow w6 (some ⟨g6, 0, none⟩) (o.map Int.ofNat)) := own_intU (by rw [List.length_map]; exact Rn.isO_len HOI.out) ho6
               clear hb6 ho6)
            | (go_at_call 88
               refine (l02Rename_at HM.out HK.out HOI.out (HRW.out _ B6.out) R6.out).mono ?_
               rintro e w7 ⟨⟨g7, rfl, hr7⟩, hb7⟩
               have B7 := Lib.hid (B6.out.trans (hb7.mono B6.out.size))
               have R7 := Lib.hid hr7
               clear hb7 hr7)
            | (go_at_call 87
               refine (l04Same_at ((rnL_len l o).trans HM.out.symm) HM.out.symm (by omega) (by omega) R7.out (HRW.out _ B7.out)).mono ?_
               rintro e w8 ⟨rfl, rfl⟩
               rw [hb]
               have B8 := B7))
        all_goals
          have B9 := Lib.hid (B5.out.trans (B8.out.mono B5.out.size))
          simp [go_sem]
          go_wp2
          go_roundw
          case rel => exact ⟨j + 1, q + 1, by omega, by omega, by go_num, by go_num, HN.out, B9.out⟩
          case measure => simp [intOf] <;> omega
    · obtain rfl : j = F := by omega
      have HV : Hid (csR (m : Int) l = (q : Int)) := by
        show _ = _
        rw [HE.out, hq.out, HF.out, ← Rn.mdl_len m, List.take_length, cntS_perm l (Rn.mdl_perm hm6)]
      go_wp2
      go_ret
      exact ⟨by rw [HV.out]; rfl, B1.out.trans (B5.out.mono B1.out.size)⟩

end Go.Proofs.Yteiadhfjpohmdaa
