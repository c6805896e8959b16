/-
  The model's 'CountTriangles', and both 'SumOfSquares'. No conditions but the bounds that Go gives a slice.
-/
import Derived.Test.Ytnlbijmkehijiaa3C
namespace Go.Proofs.Ytnlbijmkehijiaa
open Go.ChangeShapes Go.WideShapes Go.ChangeAt Go.RowKit
set_option linter.unusedVariables false

theorem c3_wrap (N : Nat) (h : N ≤ 8) : wrap64 ((wrap64 (wrap64 ((N : Int) * ((N : Int) - 1)) * ((N : Int) - 2))).tdiv 6) = (c3 N : Int) := by
  have : ∀ n : Fin 9, wrap64 ((wrap64 (wrap64 ((n.val : Int) * ((n.val : Int) - 1)) * ((n.val : Int) - 2))).tdiv 6) = (c3 n.val : Int) := by decide +kernel
  exact this ⟨N, by omega⟩
theorem pr_wrap (s : Nat) (h : s ≤ 9) : wrap64 ((wrap64 ((s : Int) * ((s : Int) - 1))).tdiv 2) = (Tmpm.prN s : Int) := by
  have : ∀ n : Fin 10, wrap64 ((wrap64 ((n.val : Int) * ((n.val : Int) - 1))).tdiv 2) = (Tmpm.prN n.val : Int) := by decide +kernel
  exact this ⟨s, by omega⟩
theorem sq_wrap (s : Nat) (h : s ≤ 9) : wrap64 ((s : Int) * (s : Int)) = ((s * s : Nat) : Int) := by
  have : ∀ n : Fin 10, wrap64 ((n.val : Int) * (n.val : Int)) = ((n.val * n.val : Nat) : Int) := by decide +kernel
  exact this ⟨s, by omega⟩
theorem sq_le (s : Nat) (h : s ≤ 9) : s * s ≤ 81 := Nat.mul_le_mul h h

set_option maxHeartbeats 400000 in
theorem specTri (n : Int) (a : Option Addr) (l : List Int) (cap : Nat) (w : World) (hrow : IntRow w a l) (hl : l.length ≤ maxLen) :
    Calls Try.prog 29 #[.agg #[.int .i64 n, .slice a l.length cap]] w fun e w' => e = .returned (.int .i64 (triR n l)) ∧ Below w.heap.size w w' := by
  obtain ⟨Wa, hWa⟩ : ∃ Wa, Wa = w.alloc (.cells #[.int .i64 n, .slice a l.length cap] 27) := ⟨_, rfl⟩
  have HWa := Lib.hid hWa
  have hba : Below w.heap.size w Wa := by rw [hWa]; exact (Below.refl _ _).alloc (Nat.le_refl _) _
  have xa : Box Wa w.heap.size 27 (.int .i64 n) (.slice a l.length cap) := by rw [hWa]; exact Box.new _ _ _ _
  have hrowa : IntRow Wa a l := hrow.below hba (Nat.le_refl _)
  have HL := Lib.hid hl
  clear hl hrow hWa
  cases hok : okB n l
  · have HO := Lib.hid hok
    have HE : Hid (triR n l = -1) := by show _ = _; unfold triR; rw [hok]; rfl
    clear hok
    go_enter Try.func29, Try.ntmps29
    go_wp2_with fail
    rw [← HWa.out]
    refine (specTourOk n a l cap Wa hrowa HL.out).mono ?_
    rintro e w1 ⟨rfl, hb1⟩
    rw [HO.out]
    go_wp2
    go_ret
    exact ⟨by rw [HE.out]; rfl, hba.trans (hb1.mono hba.size)⟩
  · have HO := Lib.hid hok
    have hk := okB_iff.1 hok
    have HK := Lib.hid hk
    have h8 : l.length ≤ 8 := by have := hk.2.1; have := hk.2.2.1; omega
    have h1 : 0 < l.length := by have := hk.1; have := hk.2.2.1; omega
    obtain rfl : n = (l.length : Int) := hk.2.2.1.symm
    have hlen := scoresL_len l
    have hv := scoresL_le l
    have HE : Hid (triR l.length l = triK l.length (scoresL l) (scoresL l).length) := by show _ = _; unfold triR; rw [hok]; rfl
    have hSC := fun (W : World) (hR : IntRow W a l) => specScores l.length a l cap W hR HL.out HK.out
    obtain ⟨S, hSe⟩ : ∃ S, S = scoresL l := ⟨_, rfl⟩
    obtain ⟨T, hT⟩ : ∃ T, T = triK l.length (scoresL l) (scoresL l).length := ⟨_, rfl⟩
    have HE2 : Hid (triR l.length l = T) := by show _ = _; rw [HE.out, hT]
    rw [← hSe] at hT hlen hSC hv
    have HS : Hid (∀ (W : World), IntRow W a l → Calls Try.prog 42 #[.agg #[.int .i64 (l.length : Int), .slice a l.length cap]] W fun e w' => (∃ a1 c1, e = .returned (.slice a1 S.length c1) ∧ IntRow w' a1 (S.map Int.ofNat)) ∧ Below W.heap.size W w') := hSC
    obtain ⟨N, hN⟩ : ∃ N, N = l.length := ⟨_, rfl⟩
    have hq3 := c3_wrap l.length h8
    have hT0 : Hid ((c3 l.length : Int) = triK l.length S 0) := by show _ = _; unfold triK; simp
    have HV : Hid (∀ s ∈ S, s ≤ 9) := hv
    have HT := Lib.hid hT
    have hS8 : S.length ≤ 8 := by omega
    have hc3 := c3_le l.length h8
    clear hok hk hlen hT hSC hSe HE hv hN
    go_enter Try.func29, Try.ntmps29
    go_wp2_with fail
    rw [← HWa.out]
    refine (specTourOk _ a l cap Wa hrowa HL.out).mono ?_
    rintro e w1 ⟨rfl, hb1⟩
    rw [HO.out]
    have xa1 := xa.below hb1 xa.lt
    have hrow1 := hrowa.below hb1 (Nat.le_refl _)
    have c0 := xa1.c0
    have c1 := xa1.c1
    have hB1 := hba.trans (hb1.mono hba.size)
    clear xa xa1 hrowa hba hb1
    go_wp2_with fail
    refine (HS.out _ hrow1).mono ?_
    rintro e w2 ⟨⟨a2, cp2, rfl, hr2⟩, hb2⟩
    have hB2 := hB1.trans (hb2.mono hB1.size)
    clear c0 c1 hrow1 hB1 hb2
    go_wp2
    go_loopw [3, 23] (fun t i wr => ∃ k : Nat, k ≤ S.length ∧ i = .int .i64 k ∧ t = .int .i64 (triK l.length S k) ∧ wr = w2) (fun _ i _ => S.length - (intOf i).toNat)
    case atStart => exact ⟨0, Nat.zero_le _, rfl, by rw [← hT0.out], rfl⟩
    case round =>
      clear hq3
      obtain ⟨k, hk, rfl, rfl, rfl⟩ := hrel
      obtain ⟨hb1, hb2⟩ := triK_bd l.length S h8 HV.out k hk
      by_cases hlt : k < S.length
      · have hsn := triK_succ l.length S k hlt
        obtain ⟨b, off, rfl, hbb, hcx⟩ := hr2.at (k := k) (by rw [List.length_map]; exact hlt)
        rw [getD_map] at hcx
        have hs9 : S.getD k 0 ≤ 9 := by rw [List.getD_eq_getElem?_getD, List.getElem?_eq_getElem hlt]; exact HV.out _ (List.getElem_mem _)
        obtain ⟨s, hs⟩ : ∃ s, s = S.getD k 0 := ⟨_, rfl⟩
        rw [← hs] at hcx hsn hs9
        have hp := Tmpm.prN_vals s hs9
        have hpw := pr_wrap s hs9
        obtain ⟨p, hpe⟩ : ∃ p, p = Tmpm.prN s := ⟨_, rfl⟩
        rw [← hpe] at hp hsn hpw
        obtain ⟨t, ht⟩ : ∃ t, t = triK l.length S k := ⟨_, rfl⟩
        rw [← ht] at hb1 hb2 hsn ⊢
        have HSn := Lib.hid hsn
        have hki : (k : Int) < (S.length : Int) := by omega
        have hmx : S.length ≤ 9223372036854775807 := by omega
        clear hs hsn hpe ht
        go_wp2
        go_roundw
        case rel => exact ⟨k + 1, by omega, by go_num, by rw [HSn.out], trivial⟩
        case measure => simp [intOf]; omega
      · obtain rfl : k = S.length := by omega
        rw [← HT.out]
        go_wp2
        go_ret
        exact ⟨by rw [HE2.out]; rfl, hB2⟩

/-- Sums of squares. -/
def sqK (S : List Nat) (k : Nat) : Nat := ((S.take k).map fun s => s * s).sum
theorem sqK_succ (S : List Nat) (k : Nat) (h : k < S.length) : sqK S (k + 1) = sqK S k + S.getD k 0 * S.getD k 0 := by
  unfold sqK
  rw [take_snocD S k h, List.map_append, List.sum_append]
  simp
theorem sqK_bd (S : List Nat) (hv : ∀ s ∈ S, s ≤ 9) (k : Nat) (hk : k ≤ S.length) : sqK S k ≤ 81 * k := by
  induction k with
  | zero => unfold sqK; simp
  | succ k ih =>
    have a := ih (by omega)
    rw [sqK_succ S k (by omega)]
    have hs : S.getD k 0 ≤ 9 := by rw [List.getD_eq_getElem?_getD, List.getElem?_eq_getElem (by omega)]; exact hv _ (List.getElem_mem _)
    have := sq_le _ hs
    omega
theorem sqK_pad (S : List Nat) (h : S.length ≤ 8) : sqK (padN S) 8 = sqK S S.length := by
  unfold sqK
  have e1 : (padN S).take 8 = padN S := List.take_of_length_le (by rw [padN_len S h]; omega)
  rw [e1, List.take_of_length_le (Nat.le_refl _)]
  unfold padN
  rw [List.map_append, List.sum_append, List.map_replicate]
  have : ∀ k : Nat, (List.replicate k (0 * 0 : Nat)).sum = 0 := by
    intro k
    induction k with
    | zero => rfl
    | succ k ih => rw [List.replicate_succ, List.sum_cons, ih]
  rw [this]; rfl
/-- What both 'SumOfSquares' answer. -/
noncomputable def sqR (n : Int) (l : List Int) : Int := if okB n l then (sqK (scoresL l) (scoresL l).length : Int) else -1

set_option maxHeartbeats 400000 in
theorem specSq (n : Int) (a : Option Addr) (l : List Int) (cap : Nat) (w : World) (hrow : IntRow w a l) (hl : l.length ≤ maxLen) :
    Calls Try.prog 37 #[.agg #[.int .i64 n, .slice a l.length cap]] w fun e w' => e = .returned (.int .i64 (sqR n l)) ∧ Below w.heap.size w w' := by
  obtain ⟨Wa, hWa⟩ : ∃ Wa, Wa = w.alloc (.cells #[.int .i64 n, .slice a l.length cap] 27) := ⟨_, rfl⟩
  have HWa := Lib.hid hWa
  have hba : Below w.heap.size w Wa := by rw [hWa]; exact (Below.refl _ _).alloc (Nat.le_refl _) _
  have xa : Box Wa w.heap.size 27 (.int .i64 n) (.slice a l.length cap) := by rw [hWa]; exact Box.new _ _ _ _
  have hrowa : IntRow Wa a l := hrow.below hba (Nat.le_refl _)
  have HL := Lib.hid hl
  clear hl hrow hWa
  cases hok : okB n l
  · have HO := Lib.hid hok
    have HE : Hid (sqR n l = -1) := by show _ = _; unfold sqR; rw [hok]; rfl
    clear hok
    go_enter Try.func37, Try.ntmps37
    go_wp2_with fail
    rw [← HWa.out]
    refine (specTourOk n a l cap Wa hrowa HL.out).mono ?_
    rintro e w1 ⟨rfl, hb1⟩
    rw [HO.out]
    go_wp2
    go_ret
    exact ⟨by rw [HE.out]; rfl, hba.trans (hb1.mono hba.size)⟩
  · have HO := Lib.hid hok
    have hk := okB_iff.1 hok
    have HK := Lib.hid hk
    have h8 : l.length ≤ 8 := by have := hk.2.1; have := hk.2.2.1; omega
    obtain rfl : n = (l.length : Int) := hk.2.2.1.symm
    have hlen := scoresL_len l
    have hv := scoresL_le l
    obtain ⟨T, hT⟩ : ∃ T, T = sqK (scoresL l) (scoresL l).length := ⟨_, rfl⟩
    have HE : Hid (sqR l.length l = (T : Int)) := by show _ = _; unfold sqR; rw [hok, hT]; rfl
    have hSC := fun (W : World) (hR : IntRow W a l) => specScores l.length a l cap W hR HL.out HK.out
    obtain ⟨S, hSe⟩ : ∃ S, S = scoresL l := ⟨_, rfl⟩
    rw [← hSe] at hT hlen hSC hv
    have HS : Hid (∀ (W : World), IntRow W a l → Calls Try.prog 42 #[.agg #[.int .i64 (l.length : Int), .slice a l.length cap]] W fun e w' => (∃ a1 c1, e = .returned (.slice a1 S.length c1) ∧ IntRow w' a1 (S.map Int.ofNat)) ∧ Below W.heap.size W w') := hSC
    have HV : Hid (∀ s ∈ S, s ≤ 9) := hv
    have HT := Lib.hid hT
    have hS8 : S.length ≤ 8 := by omega
    clear hok hk hlen hT hSC hSe hv
    go_enter Try.func37, Try.ntmps37
    go_wp2_with fail
    rw [← HWa.out]
    refine (specTourOk _ a l cap Wa hrowa HL.out).mono ?_
    rintro e w1 ⟨rfl, hb1⟩
    rw [HO.out]
    have xa1 := xa.below hb1 xa.lt
    have hrow1 := hrowa.below hb1 (Nat.le_refl _)
    have c0 := xa1.c0
    have c1 := xa1.c1
    have hB1 := hba.trans (hb1.mono hba.size)
    clear xa xa1 hrowa hba hb1
    go_wp2_with fail
    refine (HS.out _ hrow1).mono ?_
    rintro e w2 ⟨⟨a2, cp2, rfl, hr2⟩, hb2⟩
    have hB2 := hB1.trans (hb2.mono hB1.size)
    clear c0 c1 hrow1 hB1 hb2
    go_wp2
    go_loopw [3, 12] (fun t i wr => ∃ k : Nat, k ≤ S.length ∧ i = .int .i64 k ∧ t = .int .i64 (sqK S k : Nat) ∧ wr = w2) (fun _ i _ => S.length - (intOf i).toNat)
    case atStart => exact ⟨0, Nat.zero_le _, rfl, rfl, rfl⟩
    case round =>
      obtain ⟨k, hk, rfl, rfl, rfl⟩ := hrel
      have hb1 := sqK_bd S HV.out k hk
      by_cases hlt : k < S.length
      · have hsn := sqK_succ S k hlt
        obtain ⟨b, off, rfl, hbb, hcx⟩ := hr2.at (k := k) (by rw [List.length_map]; exact hlt)
        rw [getD_map] at hcx
        have hs9 : S.getD k 0 ≤ 9 := by rw [List.getD_eq_getElem?_getD, List.getElem?_eq_getElem hlt]; exact HV.out _ (List.getElem_mem _)
        obtain ⟨s, hs⟩ : ∃ s, s = S.getD k 0 := ⟨_, rfl⟩
        rw [← hs] at hcx hsn hs9
        have hp := sq_le s hs9
        have hpw := sq_wrap s hs9
        obtain ⟨p, hpe⟩ : ∃ p, p = s * s := ⟨_, rfl⟩
        rw [← hpe] at hp hsn hpw
        obtain ⟨t, ht⟩ : ∃ t, t = sqK S k := ⟨_, rfl⟩
        rw [← ht] at hb1 hsn ⊢
        have HSn := Lib.hid hsn
        have hki : (k : Int) < (S.length : Int) := by omega
        have hmx : S.length ≤ 9223372036854775807 := by omega
        clear hs hsn hpe ht
        go_wp2
        go_roundw
        case rel => exact ⟨k + 1, by omega, by go_num, by rw [HSn.out]; go_num, trivial⟩
        case measure => simp [intOf]; omega
      · obtain rfl : k = S.length := by omega
        rw [← HT.out]
        go_wp2
        go_ret
        exact ⟨by rw [HE.out]; rfl, hB2⟩

set_option maxHeartbeats 400000 in
theorem implSq (n : Int) (a : Option Addr) (l : List Int) (cap : Nat) (w : World) (hrow : IntRow w a l) (hl : l.length ≤ maxLen) :
    Calls Try.prog 38 #[.agg #[.int .i64 n, .slice a l.length cap]] w fun e w' => e = .returned (.int .i64 (sqR n l)) ∧ Below w.heap.size w w' := by
  obtain ⟨Wa, hWa⟩ : ∃ Wa, Wa = w.alloc (.cells #[.int .i64 n, .slice a l.length cap] 27) := ⟨_, rfl⟩
  have HWa := Lib.hid hWa
  have hba : Below w.heap.size w Wa := by rw [hWa]; exact (Below.refl _ _).alloc (Nat.le_refl _) _
  have xa : Box Wa w.heap.size 27 (.int .i64 n) (.slice a l.length cap) := by rw [hWa]; exact Box.new _ _ _ _
  have hrowa : IntRow Wa a l := hrow.below hba (Nat.le_refl _)
  have HL := Lib.hid hl
  clear hl hrow hWa
  cases hok : okB n l
  · have HO := Lib.hid hok
    have HE : Hid (sqR n l = -1) := by show _ = _; unfold sqR; rw [hok]; rfl
    clear hok
    go_enter Try.func38, Try.ntmps38
    go_wp2_with fail
    rw [← HWa.out]
    refine (implTourOk n a l cap Wa hrowa HL.out).mono ?_
    rintro e w1 ⟨rfl, hb1⟩
    rw [HO.out]
    go_wp2
    go_ret
    exact ⟨by rw [HE.out]; rfl, hba.trans (hb1.mono hba.size)⟩
  · have HO := Lib.hid hok
    have hk := okB_iff.1 hok
    have h8 : l.length ≤ 8 := by have := hk.2.1; have := hk.2.2.1; omega
    have h1 : 0 < l.length := by have := hk.1; have := hk.2.2.1; omega
    obtain rfl : n = (l.length : Int) := hk.2.2.1.symm
    have hlen := scoresL_len l
    have hv := scoresL_le l
    obtain ⟨T, hT⟩ : ∃ T, T = sqK (padN (scoresL l)) 8 := ⟨_, rfl⟩
    have HE : Hid (sqR l.length l = (T : Int)) := by show _ = _; unfold sqR; rw [hok, hT, sqK_pad _ (by rw [hlen]; exact h8)]; rfl
    have hSC := fun (W : World) (hR : IntRow W a l) => implScores l.length a l cap W hR HL.out hok
    obtain ⟨S, hSe⟩ : ∃ S, S = scoresL l := ⟨_, rfl⟩
    rw [← hSe] at hT hlen hSC hv
    have HS : Hid (∀ (W : World), IntRow W a l → Calls Try.prog 43 #[.agg #[.int .i64 (l.length : Int), .slice a l.length cap]] W fun e w' => (∃ a1 c1, e = .returned (.slice a1 S.length c1) ∧ IntRow w' a1 (S.map Int.ofNat) ∧ w'.ownsRow W.heap.size 3 1 (.slice a1 S.length c1) S.length (S.map nv)) ∧ Below W.heap.size W w') := hSC
    have hs1 : 0 < S.length := by omega
    have hS8 : S.length ≤ 8 := by omega
    have HV : Hid (∀ s ∈ padN S, s ≤ 9) := padN_le S hv
    have H8 : Hid ((padN S).length = 8) := padN_len S hS8
    have HM : Hid (((padN S).map Int.ofNat).length = 8) := by show _ = _; rw [List.length_map]; exact H8.out
    have HT := Lib.hid hT
    clear hok hk hlen hT hSC hSe hv
    go_enter Try.func38, Try.ntmps38
    go_wp2_with fail
    rw [← HWa.out]
    refine (implTourOk _ a l cap Wa hrowa HL.out).mono ?_
    rintro e w1 ⟨rfl, hb1⟩
    rw [HO.out]
    have xa1 := xa.below hb1 xa.lt
    have hrow1 := hrowa.below hb1 (Nat.le_refl _)
    have c0 := xa1.c0
    have c1 := xa1.c1
    have hB1 := hba.trans (hb1.mono hba.size)
    clear xa xa1 hrowa hba hb1
    go_wp2_with fail
    refine (HS.out _ hrow1).mono ?_
    rintro e w2 ⟨⟨a2, cp2, rfl, hr2, _⟩, hb2⟩
    have hB2 := hB1.trans (hb2.mono hB1.size)
    clear c0 c1 hrow1 hB1 hb2
    go_wp2_with fail
    refine (rowOfN _ _ S _ hs1 hS8 hr2).mono ?_
    rintro e w3 ⟨rfl, hb3⟩
    have hB3 := hB2.trans (hb3.mono hB2.size)
    clear hb3 hB2 hr2
    go_wp2
    go_loopw [3, 12] (fun t i wr => ∃ k : Nat, k ≤ 8 ∧ i = .int .i64 k ∧ t = .int .i64 (sqK (padN S) k : Nat) ∧ wr = w3) (fun _ i _ => 8 - (intOf i).toNat)
    case atStart => exact ⟨0, Nat.zero_le _, rfl, rfl, rfl⟩
    case round =>
      obtain ⟨k, hk, rfl, rfl, rfl⟩ := hrel
      have hb1 := sqK_bd (padN S) HV.out k (by rw [H8.out]; exact hk)
      by_cases hlt : k < 8
      · have hlt2 : k < (padN S).length := by rw [H8.out]; exact hlt
        have hsn := sqK_succ (padN S) k hlt2
        have hix := index_row _ HM.out k hlt
        rw [getD_map] at hix
        have hs9 : (padN S).getD k 0 ≤ 9 := by rw [List.getD_eq_getElem?_getD, List.getElem?_eq_getElem hlt2]; exact HV.out _ (List.getElem_mem _)
        obtain ⟨s, hs⟩ : ∃ s, s = (padN S).getD k 0 := ⟨_, rfl⟩
        rw [← hs] at hix hsn hs9
        have hp := sq_le s hs9
        have hpw := sq_wrap s hs9
        obtain ⟨p, hpe⟩ : ∃ p, p = s * s := ⟨_, rfl⟩
        rw [← hpe] at hp hsn hpw
        obtain ⟨t, ht⟩ : ∃ t, t = sqK (padN S) k := ⟨_, rfl⟩
        rw [← ht] at hb1 hsn ⊢
        have HSn := Lib.hid hsn
        clear hs hsn hpe ht hlt2
        go_wp2
        go_roundw
        case rel => exact ⟨k + 1, by omega, by go_num, by rw [HSn.out]; go_num, trivial⟩
        case measure => simp [intOf]; omega
      · obtain rfl : k = 8 := by omega
        rw [← HT.out]
        go_wp2
        go_ret
        exact ⟨by rw [HE.out]; rfl, hB3⟩
end Go.Proofs.Ytnlbijmkehijiaa
