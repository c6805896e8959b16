/-
  'AreLike' of the model. No conditions but the bounds that Go gives a slice.
-/
import Derived.Test.YteiadhfjpohmdaaXu
namespace Go.Proofs.Yteiadhfjpohmdaa
open Go.ChangeShapes Go.WideShapes Go.ChangeAt Go.RowKit
set_option linter.unusedVariables false

theorem eqX_len {x y : List Int} (h : x.length ≠ y.length) : eqX x y = false := by
  cases hb : eqX x y
  · rfl
  · exact absurd (congrArg List.length (of_decide_eq_true hb)) h

set_option maxRecDepth 100000 in
set_option maxHeartbeats 2000000 in
theorem specAreLike (n : Int) (a : Option Addr) (l : List Int) (cap : Nat) (nu : Int) (au : Option Addr) (lu : List Int) (cu : Nat) (w : World) (hrow : IntRow w a l) (hrowu : IntRow w au lu) (hl : l.length ≤ maxLen) (hlu : lu.length ≤ maxLen) :
    Calls Try.prog 34 #[.agg #[.int .i64 n, .slice a l.length cap], .agg #[.int .i64 nu, .slice au lu.length cu]] w fun e w' => e = .returned (.bool (alR n l nu lu)) ∧ Below w.heap.size w w' := by
  obtain ⟨Wb, hWb⟩ : ∃ Wb, Wb = w.alloc (.cells #[.int .i64 n, .slice a l.length cap] 27) := ⟨_, rfl⟩
  obtain ⟨Wa, hWa⟩ : ∃ Wa, Wa = Wb.alloc (.cells #[.int .i64 nu, .slice au lu.length cu] 27) := ⟨_, rfl⟩
  have sb : Wb.heap.size = w.heap.size + 1 := by rw [hWb]; simp
  have bb : Below w.heap.size w Wb := by rw [hWb]; exact (Below.refl _ _).alloc (Nat.le_refl _) _
  have ba : Below Wb.heap.size Wb Wa := by rw [hWa]; exact (Below.refl _ _).alloc (Nat.le_refl _) _
  have xt0 : Box Wb w.heap.size 27 (.int .i64 n) (.slice a l.length cap) := by rw [hWb]; exact Box.new _ _ _ _
  have xu : Box Wa (w.heap.size + 1) 27 (.int .i64 nu) (.slice au lu.length cu) := by rw [hWa, ← sb]; exact Box.new _ _ _ _
  have xt := xt0.below ba xt0.lt
  have bw : Below w.heap.size w Wa := bb.trans (ba.mono bb.size)
  have HWa : Hid (Wa = (w.alloc (.cells #[.int .i64 n, .slice a l.length cap] 27)).alloc (.cells #[.int .i64 nu, .slice au lu.length cu] 27)) := by show _ = _; rw [hWa, hWb]
  have HROW := Lib.hid hrow
  have HROWU := Lib.hid hrowu
  have HLU := Lib.hid hlu
  have HT := Lib.hid (specTourOk n a l cap Wa (hrow.below bw (Nat.le_refl _)) hl)
  have HNU : Hid (∀ W, Below w.heap.size w W → Calls Try.prog 86 #[.agg #[.int .i64 nu, .slice au lu.length cu]] W fun e w' => e = .returned (.bool (okB nu lu)) ∧ Below W.heap.size W w') := fun W hb => specTourOk nu au lu cu W (HROWU.out.below hb (Nat.le_refl _)) HLU.out
  have XT := Lib.hid xt
  have XU := Lib.hid xu
  have BW := Lib.hid bw
  clear hWa hWb sb bb ba xt0 xt xu bw hrow hrowu hl hlu
  cases hok : okB n l
  · rw [hok] at HT
    have HE : Hid (alR n l nu lu = false) := by show _ = _; unfold alR hanB; rw [hok]; rfl
    clear hok
    go_enter Try.func34, Try.ntmps34
    go_wp2_with fail
    rw [← HWa.out]
    refine HT.out.mono ?_
    rintro e w1 ⟨rfl, hb1⟩
    have B1 := Lib.hid (BW.out.trans (hb1.mono BW.out.size))
    clear hb1
    go_wp2
    go_ret
    exact ⟨by rw [HE.out]; rfl, B1.out⟩
  rw [hok] at HT
  cases hoku : okB nu lu
  · rw [hoku] at HNU
    have HE : Hid (alR n l nu lu = false) := by show _ = _; unfold alR hanB; rw [hoku]; simp
    clear hok hoku
    go_enter Try.func34, Try.ntmps34
    go_wp2_with fail
    rw [← HWa.out]
    refine HT.out.mono ?_
    rintro e w1 ⟨rfl, hb1⟩
    have B1 := Lib.hid (BW.out.trans (hb1.mono BW.out.size))
    have c0 := (XU.out.below hb1 XU.out.lt).c0
    have c1 := (XU.out.below hb1 XU.out.lt).c1
    go_wp2_with fail
    refine (HNU.out w1 B1.out).mono ?_
    rintro e w2 ⟨rfl, hb2⟩
    have B2 := Lib.hid (B1.out.trans (hb2.mono B1.out.size))
    have XT2 := Lib.hid ((XT.out.below hb1 XT.out.lt).below hb2 (XT.out.below hb1 XT.out.lt).lt)
    have XU2 := Lib.hid ((XU.out.below hb1 XU.out.lt).below hb2 (XU.out.below hb1 XU.out.lt).lt)
    clear c0 c1 hb1 hb2
    go_wp2
    go_ret
    exact ⟨by rw [HE.out]; rfl, B2.out⟩
  rw [hoku] at HNU
  have hk := okB_iff.1 hok
  have hku := okB_iff.1 hoku
  obtain rfl : n = (l.length : Int) := hk.2.2.1.symm
  obtain rfl : nu = (lu.length : Int) := hku.2.2.1.symm
  by_cases hmm : l.length = lu.length
  case neg =>
    have HE : Hid (alR (l.length : Int) l (lu.length : Int) lu = false) := by
      show _ = _
      unfold alR
      rw [show ((Rn.allO l.length).any fun o => eqX (rnL l o) lu) = false from by
        rw [List.any_eq_false]
        intro o _
        rw [eqX_len (by rw [rnL_len]; exact hmm)]; simp]
      simp
    obtain ⟨m, hm⟩ : ∃ m, m = l.length := ⟨_, rfl⟩
    obtain ⟨mu, hmu⟩ : ∃ mu, mu = lu.length := ⟨_, rfl⟩
    rw [← hm, ← hmu] at hmm
    rw [← hm, ← hmu] at HE HWa ⊢
    rw [← hm] at HT XT
    rw [← hmu] at HNU XU
    have hne : ((m : Int) != (mu : Int)) = true := by rw [bne_iff_ne]; omega
    clear hok hoku hk hku hm hmu
    go_enter Try.func34, Try.ntmps34
    go_wp2_with fail
    rw [← HWa.out]
    refine HT.out.mono ?_
    rintro e w1 ⟨rfl, hb1⟩
    have B1 := Lib.hid (BW.out.trans (hb1.mono BW.out.size))
    have c0 := (XU.out.below hb1 XU.out.lt).c0
    have c1 := (XU.out.below hb1 XU.out.lt).c1
    go_wp2_with fail
    refine (HNU.out w1 B1.out).mono ?_
    rintro e w2 ⟨rfl, hb2⟩
    have B2 := Lib.hid (B1.out.trans (hb2.mono B1.out.size))
    have XT2 := Lib.hid ((XT.out.below hb1 XT.out.lt).below hb2 (XT.out.below hb1 XT.out.lt).lt)
    have XU2 := Lib.hid ((XU.out.below hb1 XU.out.lt).below hb2 (XU.out.below hb1 XU.out.lt).lt)
    clear c0 c1 hb1 hb2
    have c0 := XU2.out.c0
    have d0 := XT2.out.c0
    go_wp2
    go_ret
    exact ⟨by rw [HE.out]; rfl, B2.out⟩
  obtain ⟨m, hm⟩ : ∃ m, m = l.length := ⟨_, rfl⟩
  have hmu : m = lu.length := hm.trans hmm
  by_cases h6 : (m : Int) ≤ 6
  case neg =>
    have HE : Hid (alR (l.length : Int) l (lu.length : Int) lu = false) := by show _ = _; unfold alR hanB; rw [← hm, decide_eq_false h6]; simp
    rw [← hm, ← hmu] at HE HWa ⊢
    rw [← hm] at HT XT
    rw [← hmu] at HNU XU
    have h6' : (6 : Int) < (m : Int) := by omega
    have hne : ((m : Int) != (m : Int)) = false := by simp
    clear hok hoku hk hku hm hmu hmm h6
    go_enter Try.func34, Try.ntmps34
    go_wp2_with fail
    rw [← HWa.out]
    refine HT.out.mono ?_
    rintro e w1 ⟨rfl, hb1⟩
    have B1 := Lib.hid (BW.out.trans (hb1.mono BW.out.size))
    have c0 := (XU.out.below hb1 XU.out.lt).c0
    have c1 := (XU.out.below hb1 XU.out.lt).c1
    go_wp2_with fail
    refine (HNU.out w1 B1.out).mono ?_
    rintro e w2 ⟨rfl, hb2⟩
    have B2 := Lib.hid (B1.out.trans (hb2.mono B1.out.size))
    have XT2 := Lib.hid ((XT.out.below hb1 XT.out.lt).below hb2 (XT.out.below hb1 XT.out.lt).lt)
    have XU2 := Lib.hid ((XU.out.below hb1 XU.out.lt).below hb2 (XU.out.below hb1 XU.out.lt).lt)
    clear c0 c1 hb1 hb2
    have c0 := XU2.out.c0
    have d0 := XT2.out.c0
    go_wp2
    go_ret
    exact ⟨by rw [HE.out]; rfl, B2.out⟩
  have HE : Hid (alR (l.length : Int) l (lu.length : Int) lu = (Rn.allO l.length).any fun o => eqX (rnL l o) lu) := by show _ = _; unfold alR hanB; rw [hok, hoku, ← hmu, ← hm, decide_eq_true h6]; rfl
  have HM := Lib.hid hm
  have HMU := Lib.hid hmu
  rw [← hm] at hk
  rw [← hmu] at hku
  rw [← hm, ← hmu] at HE HWa ⊢
  rw [← hm] at HT XT
  rw [← hmu] at HNU XU
  have hm6 : m ≤ 6 := by omega
  have hm1 : 1 ≤ m := by have := hk.1; omega
  have HK := Lib.hid hk
  have h6' : ¬ ((6 : Int) < (m : Int)) := by omega
  have hne : ((m : Int) != (m : Int)) = false := by simp
  clear hok hoku hk hku hm hmu hmm h6
  go_enter Try.func34, Try.ntmps34
  go_wp2_with fail
  rw [← HWa.out]
  refine HT.out.mono ?_
  rintro e w1 ⟨rfl, hb1⟩
  have B1 := Lib.hid (BW.out.trans (hb1.mono BW.out.size))
  have c0 := (XU.out.below hb1 XU.out.lt).c0
  have c1 := (XU.out.below hb1 XU.out.lt).c1
  go_wp2_with fail
  refine (HNU.out w1 B1.out).mono ?_
  rintro e w2 ⟨rfl, hb2⟩
  have B2 := Lib.hid (B1.out.trans (hb2.mono B1.out.size))
  have XT2 := Lib.hid ((XT.out.below hb1 XT.out.lt).below hb2 (XT.out.below hb1 XT.out.lt).lt)
  have XU2 := Lib.hid ((XU.out.below hb1 XU.out.lt).below hb2 (XU.out.below hb1 XU.out.lt).lt)
  clear c0 c1 hb1 hb2
  have c0 := XU2.out.c0
  have d0 := XT2.out.c0
  go_wp2
  clear c0 d0
  obtain ⟨F, hF⟩ : ∃ F, F = Rn.fct m := ⟨_, rfl⟩
  have hF7 : F ≤ 720 := by rw [hF]; exact Rn.fct_le hm6
  have HF := Lib.hid hF
  have HCT : Hid (∀ W, Calls Try.prog 92 #[.int .i64 (m : Int)] W fun e w' => e = .returned (.int .i64 (F : Int)) ∧ Below W.heap.size W w') := by rw [hF]; exact fun W => l11Count_any m hm1 hm6 W
  clear hF
  go_loopw [5] (fun i wr => ∃ j : Nat, j ≤ F ∧ i = .int .i64 (j : Int) ∧ Hid (∀ o, o ∈ (Rn.mdl m).take j → eqX (rnL l o) lu = false) ∧ Hid (Below w2.heap.size w2 wr)) (fun i _ => F - (intOf i).toNat)
  case atStart => exact ⟨0, Nat.zero_le _, rfl, (fun o ho => by simp at ho), Below.refl _ _⟩
  case round =>
    obtain ⟨j, hj, rfl, hq, hbr⟩ := hrel
    have c0 := (XT2.out.below hbr.out XT2.out.lt).c0
    go_wp2_with fail
    refine (HCT.out wr).mono ?_
    rintro e w5 ⟨rfl, hb5⟩
    have B5 := Lib.hid (hbr.out.trans (hb5.mono hbr.out.size))
    clear hb5 hbr c0
    by_cases hlt : j < F
    · have hji : (j : Int) < (F : Int) := by omega
      obtain ⟨o, ho⟩ : ∃ o, o = Rn.nmL m (Rn.turnN m) j := ⟨_, rfl⟩
      have hin : o ∈ Rn.mdl m := by rw [ho]; exact mdl_in (by rw [← HF.out]; exact hlt)
      have hoi : Rn.isO m o = true := Rn.mdl_is hm6 hin
      have HOI := Lib.hid hoi
      have HIN := Lib.hid hin
      have HNM : Hid (∀ W, Calls Try.prog 93 #[.int .i64 (m : Int), .int .i64 (j : Int)] W fun e w' => (∃ g c, e = .returned (.slice (some ⟨g, 0, none⟩) m c) ∧ w'.ownsRow W.heap.size 3 1 (.slice (some ⟨g, 0, none⟩) m c) m ((o.map Int.ofNat).map iv)) ∧ Below W.heap.size W w') := by rw [ho]; exact fun W => l11Names_any m j hm1 hm6 (by omega) W
      have htk : (Rn.mdl m).take (j + 1) = (Rn.mdl m).take j ++ [o] := by rw [ho]; exact take_snoc _ _ _ (Rn.mdl_at (by rw [← HF.out]; exact hlt))
      have HTK := Lib.hid htk
      have BD : Hid (Below w5.heap.size w5 w5.drew) := (Below.refl _ w5).drew
      have KEEP : Hid (∀ V, Below w5.heap.size w5 V → (V.cell? ⟨w.heap.size, 0, none⟩ = some (.int .i64 (m : Int)) ∧ V.cell? ⟨w.heap.size, 1, none⟩ = some (.slice a m cap) ∧ V.cell? ⟨w.heap.size + 1, 1, none⟩ = some (.slice au m cu))) := fun V hb => by
        have bV := B5.out.trans (hb.mono B5.out.size)
        have x := XT2.out.below bV XT2.out.lt
        exact ⟨x.c0, x.c1, (XU2.out.below bV XU2.out.lt).c1⟩
      have HRW : Hid (∀ V, Below w5.heap.size w5 V → IntRow V a l) := fun V hb => HROW.out.below (B2.out.trans ((B5.out.trans (hb.mono B5.out.size)).mono B2.out.size)) (Nat.le_refl _)
      have HRWU : Hid (∀ V, Below w5.heap.size w5 V → IntRow V au lu) := fun V hb => HROWU.out.below (B2.out.trans ((B5.out.trans (hb.mono B5.out.size)).mono B2.out.size)) (Nat.le_refl _)
      have hfd := fun (s : Value) (W : World) => fieldU (m : Int) s W
      clear ho hoi hin htk
      cases hb : eqX (rnL l o) lu
      · have HB := Lib.hid hb
        go_wp2
        go_region_held3 (fun V => V.cell? ⟨w.heap.size, 0, none⟩ = some (.int .i64 (m : Int)) ∧ V.cell? ⟨w.heap.size, 1, none⟩ = some (.slice a m cap) ∧ V.cell? ⟨w.heap.size + 1, 1, none⟩ = some (.slice au m cu))
          (first | (exact KEEP.out _ B8.out) | (exact KEEP.out _ B7.out) | (exact KEEP.out _ B6.out) | (exact KEEP.out _ BD.out))
          (first
            | (go_at_call 93
               with_reducible refine (HNM.out _).mono ?_
               rintro e w6 ⟨⟨g6, c6, rfl, ho6⟩, hb6⟩
               have B6 := Lib.hid (BD.out.trans hb6)
               have R6 : Hid (IntRow w6 (some ⟨g6, 0, none⟩) (o.map Int.ofNat)) := own_intU (by rw [List.length_map]; exact Rn.isO_len HOI.out) ho6
               clear hb6 ho6)
            | (go_at_call 88
               refine (l02Rename_at HM.out HK.out HOI.out (HRW.out _ B6.out) R6.out).mono ?_
               rintro e w7 ⟨⟨g7, rfl, hr7⟩, hb7⟩
               have B7 := Lib.hid (B6.out.trans (hb7.mono B6.out.size))
               have R7 := Lib.hid hr7
               clear hb7 hr7)
            | (go_at_call 87
               refine (l04Same_at ((rnL_len l o).trans HM.out.symm) HMU.out.symm (by omega) (by omega) R7.out (HRWU.out _ B7.out)).mono ?_
               rintro e w8 ⟨rfl, rfl⟩
               rw [hb]
               have B8 := B7))
        all_goals
          have B9 := Lib.hid (B5.out.trans (B8.out.mono B5.out.size))
          simp [go_sem]
          go_wp2
          go_roundw
          case rel =>
            refine ⟨j + 1, by omega, by go_num, ?_, B9.out⟩
            intro z hz
            rw [HTK.out, List.mem_append] at hz
            rcases hz with hz | hz
            · exact hq.out z hz
            · have : z = o := by simpa using hz
              rw [this]; exact HB.out
          case measure => simp [intOf] <;> omega
      · have HV : Hid (alR (m : Int) l (m : Int) lu = true) := by
          show _ = _
          rw [HE.out, List.any_eq_true]
          exact ⟨o, (Rn.mdl_perm hm6).mem_iff.1 HIN.out, hb⟩
        go_wp2
        go_region_held3 (fun V => V.cell? ⟨w.heap.size, 0, none⟩ = some (.int .i64 (m : Int)) ∧ V.cell? ⟨w.heap.size, 1, none⟩ = some (.slice a m cap) ∧ V.cell? ⟨w.heap.size + 1, 1, none⟩ = some (.slice au m cu))
          (first | (exact KEEP.out _ B8.out) | (exact KEEP.out _ B7.out) | (exact KEEP.out _ B6.out) | (exact KEEP.out _ BD.out))
          (first
            | (go_at_call 93
               with_reducible refine (HNM.out _).mono ?_
               rintro e w6 ⟨⟨g6, c6, rfl, ho6⟩, hb6⟩
               have B6 := Lib.hid (BD.out.trans hb6)
               have R6 : Hid (IntRow w6 (some ⟨g6, 0, none⟩) (o.map Int.ofNat)) := own_intU (by rw [List.length_map]; exact Rn.isO_len HOI.out) ho6
               clear hb6 ho6)
            | (go_at_call 88
               refine (l02Rename_at HM.out HK.out HOI.out (HRW.out _ B6.out) R6.out).mono ?_
               rintro e w7 ⟨⟨g7, rfl, hr7⟩, hb7⟩
               have B7 := Lib.hid (B6.out.trans (hb7.mono B6.out.size))
               have R7 := Lib.hid hr7
               clear hb7 hr7)
            | (go_at_call 87
               refine (l04Same_at ((rnL_len l o).trans HM.out.symm) HMU.out.symm (by omega) (by omega) R7.out (HRWU.out _ B7.out)).mono ?_
               rintro e w8 ⟨rfl, rfl⟩
               rw [hb]
               have B8 := B7))
        all_goals
          have B9 := Lib.hid (B2.out.trans ((B5.out.trans (B8.out.mono B5.out.size)).mono B2.out.size))
          simp [go_sem]
          go_wp2
          go_ret
          exact ⟨by rw [HV.out]; rfl, B9.out⟩
    · obtain rfl : j = F := by omega
      have HV : Hid (alR (m : Int) l (m : Int) lu = false) := by
        show _ = _
        rw [HE.out, List.any_eq_false]
        intro o ho
        rw [hq.out o (by rw [HF.out, ← Rn.mdl_len m, List.take_length]; exact (Rn.mdl_perm hm6).mem_iff.2 ho)]; simp
      go_wp2
      go_ret
      exact ⟨by rw [HV.out]; rfl, B2.out.trans (B5.out.mono B2.out.size)⟩

end Go.Proofs.Yteiadhfjpohmdaa
