/-
  'CountTriangles' of the program and of the model: all triples less the pairs below each score. No conditions but the bounds that Go gives a slice.
-/
import Derived.Test.Ytgjogbihadiojaa3B
namespace Go.Proofs.Ytgjogbihadiojaa
open Go.ChangeShapes Go.WideShapes Go.ChangeAt Go.RowKit
set_option linter.unusedVariables false

def padN (S : List Nat) : List Nat := S ++ List.replicate (8 - S.length) 0
theorem padN_len (S : List Nat) (h : S.length ≤ 8) : (padN S).length = 8 := by simp [padN]; omega
theorem pad_padN (S : List Nat) : pad (S.map Int.ofNat) = (padN S).map Int.ofNat := by simp [pad, padN]
theorem padN_le (S : List Nat) (h : ∀ s ∈ S, s ≤ 9) : ∀ s ∈ padN S, s ≤ 9 := by
  intro s hs
  rcases List.mem_append.1 hs with h' | h'
  · exact h s h'
  · rw [List.eq_of_mem_replicate h']; omega
theorem scoresL_le (l : List Int) : ∀ s ∈ scoresL l, s ≤ 9 := by
  intro s hs
  obtain ⟨x, _, rfl⟩ := List.mem_map.1 hs
  have := pc_le x.toNat
  omega
theorem scoresL_le8 (l : List Int) : ∀ s ∈ scoresL l, s ≤ 8 := by
  intro s hs
  obtain ⟨x, _, rfl⟩ := List.mem_map.1 hs
  exact pc_le x.toNat
theorem sum_zeros (k : Nat) : ((List.replicate k 0).map Tmpm.prN).sum = 0 := by
  rw [List.map_replicate]
  induction k with
  | zero => rfl
  | succ k ih => rw [List.replicate_succ, List.sum_cons, ih]; rfl
theorem triK_pad (N : Nat) (S : List Nat) (h : S.length ≤ 8) : triK N (padN S) 8 = triK N S S.length := by
  unfold triK
  have e1 : (padN S).take 8 = padN S := List.take_of_length_le (by rw [padN_len S h]; omega)
  rw [e1, List.take_of_length_le (Nat.le_refl _)]
  unfold padN
  rw [List.map_append, List.sum_append, sum_zeros]
  rfl

/-- What both 'CountTriangles' answer. -/
noncomputable def triR (n : Int) (l : List Int) : Int := if okB n l then triK l.length (scoresL l) (scoresL l).length else -1

/-- The scores of a valid tour, in a new row that can be read. -/
theorem implScores (n : Int) (a : Option Addr) (l : List Int) (cap : Nat) (w : World) (hrow : IntRow w a l) (hl : l.length ≤ maxLen) (hok : okB n l = true) :
    Calls Try.prog 71 #[.agg #[.int .i64 n, .slice a l.length cap]] w fun e w' => (∃ a1 c1, e = .returned (.slice a1 (scoresL l).length c1) ∧ IntRow w' a1 ((scoresL l).map Int.ofNat) ∧ w'.ownsRow w.heap.size 3 1 (.slice a1 (scoresL l).length c1) (scoresL l).length ((scoresL l).map nv)) ∧ Below w.heap.size w w' := by
  refine (implScoresOf n a l cap w hrow hl).mono ?_
  rintro e w' ⟨⟨v, rfl, ho⟩, hb⟩
  have hr : resS n l = scoresL l := by unfold resS; rw [hok]; rfl
  rw [hr] at ho
  have ho2 := ho
  rw [nv_iv, show (scoresL l).length = ((scoresL l).map Int.ofNat).length by rw [List.length_map]] at ho2
  obtain ⟨a1, c1, rfl, hi, _⟩ := own_read ho2
  rw [List.length_map] at ho ⊢
  exact ⟨⟨a1, c1, rfl, hi, ho⟩, hb⟩
theorem rowOfN (a : Option Addr) (cap : Nat) (S : List Nat) (w : World) (h0 : 0 < S.length) (h8 : S.length ≤ 8) (hrow : IntRow w a (S.map Int.ofNat)) :
    Calls Try.prog 141 #[.slice a S.length cap] w fun e w' => e = .returned (.agg (rv ((padN S).map Int.ofNat))) ∧ Below w.heap.size w w' := by
  have h := rowOf_any a cap (S.map Int.ofNat) w (by rw [List.length_map]; exact h0) (by rw [List.length_map]; exact h8) hrow
  rw [pad_padN, List.length_map] at h
  exact h

theorem specScores (n : Int) (a : Option Addr) (l : List Int) (cap : Nat) (w : World) (hrow : IntRow w a l) (hl : l.length ≤ maxLen) (hok : Ok n l) :
    Calls Try.prog 102 #[.agg #[.int .i64 n, .slice a l.length cap]] w fun e w' => (∃ a1 c1, e = .returned (.slice a1 (scoresL l).length c1) ∧ IntRow w' a1 ((scoresL l).map Int.ofNat)) ∧ Below w.heap.size w w' := by
  refine (l02Scores_any n a l cap w hrow hl hok).mono ?_
  rintro e w' ⟨⟨v, rfl, ho⟩, hb⟩
  rw [nv_iv, show (scoresL l).length = ((scoresL l).map Int.ofNat).length by rw [List.length_map]] at ho
  obtain ⟨a1, c1, rfl, hi, _⟩ := own_read ho
  rw [List.length_map]
  exact ⟨⟨a1, c1, rfl, hi⟩, hb⟩

set_option maxHeartbeats 400000 in
theorem implTri (n : Int) (a : Option Addr) (l : List Int) (cap : Nat) (w : World) (hrow : IntRow w a l) (hl : l.length ≤ maxLen) :
    Calls Try.prog 127 #[.agg #[.int .i64 n, .slice a l.length cap]] w fun e w' => e = .returned (.int .i64 (triR n l)) ∧ Below w.heap.size w w' := by
  obtain ⟨Wa, hWa⟩ : ∃ Wa, Wa = w.alloc (.cells #[.int .i64 n, .slice a l.length cap] 25) := ⟨_, rfl⟩
  have HWa := Lib.hid hWa
  have hba : Below w.heap.size w Wa := by rw [hWa]; exact (Below.refl _ _).alloc (Nat.le_refl _) _
  have xa : Box Wa w.heap.size 25 (.int .i64 n) (.slice a l.length cap) := by rw [hWa]; exact Box.new _ _ _ _
  have hrowa : IntRow Wa a l := hrow.below hba (Nat.le_refl _)
  have HL := Lib.hid hl
  have hl2 := hl
  clear hl hrow hWa
  cases hok : okB n l
  · have HO := Lib.hid hok
    have HE : Hid (triR n l = -1) := by show _ = _; unfold triR; rw [hok]; rfl
    clear hok
    go_enter Try.func127, Try.ntmps127
    go_wp2_with fail
    rw [← HWa.out]
    refine (implTourOk n a l cap Wa hrowa HL.out).mono ?_
    rintro e w1 ⟨rfl, hb1⟩
    rw [HO.out]
    go_wp2
    go_ret
    exact ⟨by rw [HE.out]; rfl, hba.trans (hb1.mono hba.size)⟩
  · have HO := Lib.hid hok
    have hk := okB_iff.1 hok
    have h8 : l.length ≤ 8 := by have := hk.2.1; have := hk.2.2.1; omega
    have h1 : 0 < l.length := by have := hk.1; have := hk.2.2.1; omega
    obtain rfl : n = (l.length : Int) := hk.2.2.1.symm
    have hlen := scoresL_len l
    obtain ⟨T, hT⟩ : ∃ T, T = triK l.length (padN (scoresL l)) 8 := ⟨_, rfl⟩
    have HE : Hid (triR l.length l = T) := by show _ = _; unfold triR; rw [hok, hT, triK_pad _ _ (by rw [hlen]; exact h8)]; rfl
    have hp8 : Hid ((padN (scoresL l)).length = 8) := padN_len _ (by rw [hlen]; exact h8)
    have hp9 : Hid (∀ s ∈ padN (scoresL l), s ≤ 9) := padN_le _ (scoresL_le l)
    have hs1 : 0 < (scoresL l).length := by rw [hlen]; exact h1
    have hs8 : (scoresL l).length ≤ 8 := by rw [hlen]; exact h8
    have hS := fun (W : World) (hR : IntRow W a l) => implScores l.length a l cap W hR hl2 hok
    obtain ⟨S, hSe⟩ : ∃ S, S = scoresL l := ⟨_, rfl⟩
    rw [← hSe] at hT hp8 hp9 hs1 hs8 hS
    have HS : Hid (∀ (W : World), IntRow W a l → Calls Try.prog 71 #[.agg #[.int .i64 (l.length : Int), .slice a l.length cap]] W fun e w' => (∃ a1 c1, e = .returned (.slice a1 S.length c1) ∧ IntRow w' a1 (S.map Int.ofNat) ∧ w'.ownsRow W.heap.size 3 1 (.slice a1 S.length c1) S.length (S.map nv)) ∧ Below W.heap.size W w') := hS
    have HT := Lib.hid hT
    clear hok hk hlen hT hS hSe hl2
    go_enter Try.func127, Try.ntmps127
    go_wp2_with fail
    rw [← HWa.out]
    refine (implTourOk _ a l cap Wa hrowa HL.out).mono ?_
    rintro e w1 ⟨rfl, hb1⟩
    rw [HO.out]
    have xa1 := xa.below hb1 xa.lt
    have hrow1 := hrowa.below hb1 (Nat.le_refl _)
    have c0 := xa1.c0
    have c1 := xa1.c1
    have hB1 := hba.trans (hb1.mono hba.size)
    have XX := Lib.hid xa1
    have hrd : IntRow w1.drew a l := hrow1.below ((Below.refl _ w1).drew) (Nat.le_refl _)
    clear xa xa1 hrowa hba hb1
    go_wp2
    go_region_with (first
      | (go_at_call 71; refine (HS.out w1.drew hrd).mono ?_; rintro e w2 ⟨⟨a2, cp2, rfl, hr2, _⟩, hbq⟩; have hb2 : Below w1.heap.size w1 w2 := (Below.refl _ w1).drew.trans hbq; have c0 := (XX.out.below hb2 XX.out.lt).c0; clear hbq)
      | (go_at_call 141; refine (rowOfN _ _ S _ hs1 hs8 hr2).mono ?_; rintro e w3 ⟨rfl, hb3⟩; have c0 := ((XX.out.below hb2 XX.out.lt).below hb3 (Nat.lt_of_lt_of_le XX.out.lt hb2.size)).c0)
      | (go_at_call 142; refine (countTriangles_any _ (padN S) _ h8 hp8.out hp9.out).mono ?_; rintro e w4 ⟨rfl, hb4⟩; rw [← HT.out]))
    all_goals
      go_wp2
      go_ret
      refine ⟨by rw [HE.out]; rfl, ?_⟩
      have b2 := hB1.trans (hb2.mono hB1.size)
      have b3 := b2.trans (hb3.mono b2.size)
      exact b3.trans (hb4.mono b3.size)
end Go.Proofs.Ytgjogbihadiojaa
