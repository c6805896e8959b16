/-
  Both 'IsRegular'. No conditions but the bounds that Go gives a slice.
-/
import Derived.Test.Ytnlbijmkehijiaa3V
namespace Go.Proofs.Ytnlbijmkehijiaa
open Go.ChangeShapes Go.WideShapes Go.ChangeAt Go.RowKit
set_option linter.unusedVariables false

theorem max_any (a : Option Addr) (cap : Nat) (l : List Int) (w : World) (h0 : 0 < l.length) (hl : l.length ≤ 1048576) (hrow : IntRow w a l) :
    Calls Try.prog 60 #[.slice a l.length cap] w fun e w' => e = .returned (.int .i64 (Lib.maxOf l)) ∧ w = w' := by
  rcases hrow with hn | ⟨b, off, rfl, _, hc⟩
  · subst hn; simp at h0
  have h := Try.slices_Max_int b off l.length cap l w h0 (Nat.le_refl _) (by omega) hc
  rw [List.take_length] at h
  exact h.mono fun e w' ⟨he, hw⟩ => ⟨he, hw.symm⟩
theorem max_srt (L : List Int) (h : 0 < L.length) : Lib.maxOf L = (Tmpm.srt L).getD (L.length - 1) 0 :=
  Int.le_antisymm ((maxOf_le L h _).2 ((Tmpm.srt_last L h _).1 (Int.le_refl _))) ((Tmpm.srt_last L h _).2 ((maxOf_le L h _).1 (Int.le_refl _)))
theorem min_srt (L : List Int) (h : 0 < L.length) : Lib.minOf L = (Tmpm.srt L).getD 0 0 :=
  Int.le_antisymm ((Tmpm.srt_head L h _).2 ((minOf_ge L h _).1 (Int.le_refl _))) ((minOf_ge L h _).2 ((Tmpm.srt_head L h _).1 (Int.le_refl _)))
theorem srt_bd (S : List Nat) (hv : ∀ s ∈ S, s ≤ 8) (i : Nat) (hi : i < S.length) : 0 ≤ (Tmpm.srt (S.map Int.ofNat)).getD i 0 ∧ (Tmpm.srt (S.map Int.ofNat)).getD i 0 ≤ 8 := by
  have hl : i < (Tmpm.srt (S.map Int.ofNat)).length := by rw [Tmpm.srt_len, List.length_map]; exact hi
  rw [List.getD_eq_getElem?_getD, List.getElem?_eq_getElem hl]
  have hm := (Tmpm.srt_perm _).mem_iff.1 (List.getElem_mem hl)
  obtain ⟨s, hs, he⟩ := List.mem_map.1 hm
  show 0 ≤ (Tmpm.srt (S.map Int.ofNat))[i] ∧ (Tmpm.srt (S.map Int.ofNat))[i] ≤ 8
  rw [← he]
  have := hv s hs
  exact ⟨Int.natCast_nonneg s, by show (s : Int) ≤ 8; omega⟩

noncomputable def regB (n : Int) (l : List Int) : Bool := okB n l && decide ((Tmpm.srt ((scoresL l).map Int.ofNat)).getD (l.length - 1) 0 - (Tmpm.srt ((scoresL l).map Int.ofNat)).getD 0 0 ≤ 1)

set_option maxHeartbeats 400000 in
theorem implReg (n : Int) (a : Option Addr) (l : List Int) (cap : Nat) (w : World) (hrow : IntRow w a l) (hl : l.length ≤ maxLen) :
    Calls Try.prog 34 #[.agg #[.int .i64 n, .slice a l.length cap]] w fun e w' => e = .returned (.bool (regB n l)) ∧ Below w.heap.size w w' := by
  obtain ⟨Wa, hWa⟩ : ∃ Wa, Wa = w.alloc (.cells #[.int .i64 n, .slice a l.length cap] 27) := ⟨_, rfl⟩
  have HWa := Lib.hid hWa
  have hba : Below w.heap.size w Wa := by rw [hWa]; exact (Below.refl _ _).alloc (Nat.le_refl _) _
  have xa : Box Wa w.heap.size 27 (.int .i64 n) (.slice a l.length cap) := by rw [hWa]; exact Box.new _ _ _ _
  have hrowa : IntRow Wa a l := hrow.below hba (Nat.le_refl _)
  have HL := Lib.hid hl
  clear hl hrow hWa
  cases hok : okB n l
  · have HO := Lib.hid hok
    have HE : Hid (regB n l = false) := by show _ = _; unfold regB; rw [hok]; rfl
    clear hok
    go_enter Try.func34, Try.ntmps34
    go_wp2_with fail
    rw [← HWa.out]
    refine (implTourOk n a l cap Wa hrowa HL.out).mono ?_
    rintro e w1 ⟨rfl, hb1⟩
    rw [HO.out]
    go_wp2
    go_ret
    exact ⟨by rw [HE.out]; rfl, hba.trans (hb1.mono hba.size)⟩
  · have HO := Lib.hid hok
    have hk := okB_iff.1 hok
    have h8 : l.length ≤ 8 := by have := hk.2.1; have := hk.2.2.1; omega
    have h1 : 0 < l.length := by have := hk.1; have := hk.2.2.1; omega
    have hlen := scoresL_len l
    have hv := scoresL_le8 l
    have HE0 : Hid (regB n l = decide ((Tmpm.srt ((scoresL l).map Int.ofNat)).getD (l.length - 1) 0 - (Tmpm.srt ((scoresL l).map Int.ofNat)).getD 0 0 ≤ 1)) := by show _ = _; unfold regB; rw [hok]; rfl
    have hSC := fun (W : World) (hR : IntRow W a l) => implScores n a l cap W hR HL.out hok
    obtain ⟨S, hSe⟩ : ∃ S, S = scoresL l := ⟨_, rfl⟩
    rw [← hSe] at hlen hSC hv
    have HS : Hid (∀ (W : World), IntRow W a l → Calls Try.prog 43 #[.agg #[.int .i64 n, .slice a l.length cap]] W fun e w' => (∃ a1 c1, e = .returned (.slice a1 S.length c1) ∧ IntRow w' a1 (S.map Int.ofNat) ∧ w'.ownsRow W.heap.size 3 1 (.slice a1 S.length c1) S.length (S.map nv)) ∧ Below W.heap.size W w') := hSC
    have hs0 : 0 < (S.map Int.ofNat).length := by rw [List.length_map]; omega
    have hs20 : (S.map Int.ofNat).length ≤ 1048576 := by rw [List.length_map]; omega
    obtain ⟨M, hM⟩ : ∃ M, M = Lib.maxOf (S.map Int.ofNat) := ⟨_, rfl⟩
    obtain ⟨m, hm⟩ : ∃ m, m = Lib.minOf (S.map Int.ofNat) := ⟨_, rfl⟩
    have hbM := srt_bd S hv (S.length - 1) (by omega)
    have hbm := srt_bd S hv 0 (by omega)
    have hMs := max_srt (S.map Int.ofNat) hs0
    have hms := min_srt (S.map Int.ofNat) hs0
    have hmax := fun (W : World) (a1 : Option Addr) (c1 : Nat) (hi : IntRow W a1 (S.map Int.ofNat)) => max_any a1 c1 (S.map Int.ofNat) W hs0 hs20 hi
    have hmin := fun (W : World) (a1 : Option Addr) (c1 : Nat) (hi : IntRow W a1 (S.map Int.ofNat)) => min_any a1 c1 (S.map Int.ofNat) W hs0 hs20 hi
    rw [List.length_map] at hmax hmin hMs
    rw [← hMs, ← hM] at hbM
    rw [← hms, ← hm] at hbm
    have HE : Hid (regB n l = decide (M - m ≤ 1)) := by
      show _ = _
      rw [HE0.out, hM, hm, hMs, hms, ← hSe, ← hlen]
    rw [← hM] at hmax
    rw [← hm] at hmin
    have HMax : Hid (∀ (W : World) (a1 : Option Addr) (c1 : Nat), IntRow W a1 (S.map Int.ofNat) → Calls Try.prog 60 #[.slice a1 S.length c1] W fun e w' => e = .returned (.int .i64 M) ∧ W = w') := hmax
    have HMin : Hid (∀ (W : World) (a1 : Option Addr) (c1 : Nat), IntRow W a1 (S.map Int.ofNat) → Calls Try.prog 47 #[.slice a1 S.length c1] W fun e w' => e = .returned (.int .i64 m) ∧ W = w') := hmin
    obtain ⟨b1, b2⟩ := hbM
    obtain ⟨b3, b4⟩ := hbm
    clear hok hk hlen hSe hSC hmax hmin hM hm hMs hms hs0 hs20 hv HE0
    go_enter Try.func34, Try.ntmps34
    go_wp2_with fail
    rw [← HWa.out]
    refine (implTourOk n a l cap Wa hrowa HL.out).mono ?_
    rintro e w1 ⟨rfl, hb1⟩
    rw [HO.out]
    have xa1 := xa.below hb1 xa.lt
    have hrow1 := hrowa.below hb1 (Nat.le_refl _)
    have c0 := xa1.c0
    have c1 := xa1.c1
    have hB1 := hba.trans (hb1.mono hba.size)
    clear xa xa1 hrowa hba hb1
    go_wp2_with fail
    refine (HS.out _ hrow1).mono ?_
    rintro e w2 ⟨⟨a2, cp2, rfl, hr2, _⟩, hb2⟩
    have hB2 := hB1.trans (hb2.mono hB1.size)
    clear c0 c1 hrow1 hB1 hb2
    go_wp2_with fail
    refine (HMax.out w2 a2 cp2 hr2).mono ?_
    rintro e w3 ⟨rfl, rfl⟩
    go_wp2_with fail
    refine (HMin.out _ a2 cp2 hr2).mono ?_
    rintro e w4 ⟨rfl, rfl⟩
    go_wp2
    go_ret
    exact ⟨by rw [HE.out]; rfl, hB2⟩

set_option maxHeartbeats 400000 in
theorem specReg (n : Int) (a : Option Addr) (l : List Int) (cap : Nat) (w : World) (hrow : IntRow w a l) (hl : l.length ≤ maxLen) :
    Calls Try.prog 33 #[.agg #[.int .i64 n, .slice a l.length cap]] w fun e w' => e = .returned (.bool (regB n l)) ∧ Below w.heap.size w w' := by
  obtain ⟨Wa, hWa⟩ : ∃ Wa, Wa = w.alloc (.cells #[.int .i64 n, .slice a l.length cap] 27) := ⟨_, rfl⟩
  have HWa := Lib.hid hWa
  have hba : Below w.heap.size w Wa := by rw [hWa]; exact (Below.refl _ _).alloc (Nat.le_refl _) _
  have xa : Box Wa w.heap.size 27 (.int .i64 n) (.slice a l.length cap) := by rw [hWa]; exact Box.new _ _ _ _
  have hrowa : IntRow Wa a l := hrow.below hba (Nat.le_refl _)
  have HL := Lib.hid hl
  clear hl hrow hWa
  cases hok : okB n l
  · have HO := Lib.hid hok
    have HE : Hid (regB n l = false) := by show _ = _; unfold regB; rw [hok]; rfl
    clear hok
    go_enter Try.func33, Try.ntmps33
    go_wp2_with fail
    rw [← HWa.out]
    refine (specTourOk n a l cap Wa hrowa HL.out).mono ?_
    rintro e w1 ⟨rfl, hb1⟩
    rw [HO.out]
    go_wp2
    go_ret
    exact ⟨by rw [HE.out]; rfl, hba.trans (hb1.mono hba.size)⟩
  · have HO := Lib.hid hok
    have hk := okB_iff.1 hok
    have h8 : l.length ≤ 8 := by have := hk.2.1; have := hk.2.2.1; omega
    have h1 : 0 < l.length := by have := hk.1; have := hk.2.2.1; omega
    have hlen := scoresL_len l
    have hv := scoresL_le8 l
    have hsq : seqL n l = Tmpm.srt ((scoresL l).map Int.ofNat) := by unfold seqL; rw [hok]; rfl
    have hsl : (seqL n l).length = l.length := by rw [hsq, Tmpm.srt_len, List.length_map, hlen]
    obtain ⟨R, hR⟩ : ∃ R, R = seqL n l := ⟨_, rfl⟩
    rw [← hR] at hsl
    have hbM := srt_bd (scoresL l) hv (l.length - 1) (by omega)
    have hbm := srt_bd (scoresL l) hv 0 (by omega)
    rw [← hsq, ← hR] at hbM hbm
    obtain ⟨M, hM⟩ : ∃ M, M = R.getD (l.length - 1) 0 := ⟨_, rfl⟩
    obtain ⟨m, hm⟩ : ∃ m, m = R.getD 0 0 := ⟨_, rfl⟩
    have HE : Hid (regB n l = decide (M - m ≤ 1)) := by
      show _ = _; unfold regB; rw [hok, hM, hm, hR, hsq]; rfl
    have hC : Hid (∀ (W : World), IntRow W a l → Calls Try.prog 13 #[.agg #[.int .i64 n, .slice a l.length cap]] W fun e w' => (∃ a0 c0, e = .returned (.slice a0 l.length c0) ∧ IntRow w' a0 R) ∧ Below W.heap.size W w') := by
      intro W hi
      refine (specSequence n a l cap W hi HL.out).mono ?_
      rintro e w' ⟨⟨a0, c0, rfl, ho⟩, hb⟩
      rw [← hR] at ho
      have hi := own_int ho
      rw [← hR, hsl]
      exact ⟨⟨a0, c0, rfl, hi⟩, hb⟩
    rw [← hM] at hbM
    rw [← hm] at hbm
    obtain ⟨b1, b2⟩ := hbM
    obtain ⟨b3, b4⟩ := hbm
    have HM := Lib.hid hM
    have Hm := Lib.hid hm
    have HRl := Lib.hid hsl
    clear hok hk hlen hsq hR hM hm hv hsl
    go_enter Try.func33, Try.ntmps33
    go_wp2_with fail
    rw [← HWa.out]
    refine (specTourOk n a l cap Wa hrowa HL.out).mono ?_
    rintro e w1 ⟨rfl, hb1⟩
    rw [HO.out]
    have xa1 := xa.below hb1 xa.lt
    have hrow1 := hrowa.below hb1 (Nat.le_refl _)
    have c0 := xa1.c0
    have c1 := xa1.c1
    have hB1 := hba.trans (hb1.mono hba.size)
    clear xa xa1 hrowa hba hb1
    go_wp2_with fail
    refine (hC.out _ hrow1).mono ?_
    rintro e w2 ⟨⟨a2, cp2, rfl, hr2⟩, hb2⟩
    have hB2 := hB1.trans (hb2.mono hB1.size)
    clear c0 c1 hrow1 hB1 hb2
    obtain ⟨b, off, rfl, _, hcM⟩ := hr2.at (k := l.length - 1) (by rw [HRl.out]; omega)
    obtain ⟨b', off', he, _, hcm⟩ := hr2.at (k := 0) (by rw [HRl.out]; omega)
    obtain ⟨rfl, rfl⟩ : b = b' ∧ off = off' := by simpa using he
    rw [← HM.out] at hcM
    rw [← Hm.out, Nat.add_zero] at hcm
    have hsub : IntKind.i64.wrap ((l.length : Int) - 1) = (l.length : Int) - 1 := IntWalk.i64_in _ (by omega)
    have hsb0 : (0 : Int) ≤ (l.length : Int) - 1 ∧ (l.length : Int) - 1 < (l.length : Int) := by omega
    have hpos : (0 : Int) < (l.length : Int) := by omega
    have hton : ((l.length : Int) - 1).toNat = l.length - 1 := by omega
    have hmm : IntKind.i64.wrap (M - m) = M - m := IntWalk.i64_in _ (by omega)
    clear hr2 he
    go_wp2
    go_quiet (fail)
    clear hton hmm hsub
    go_wp2
    go_ret
    exact ⟨by rw [HE.out]; rfl, below_drewN hB2 _⟩
end Go.Proofs.Ytnlbijmkehijiaa
