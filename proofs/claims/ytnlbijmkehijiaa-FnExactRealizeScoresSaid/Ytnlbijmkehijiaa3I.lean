/-
  'slices.IsSorted', 'Min', 'Max' on a slice that can be read; both 'IsLandau'. No conditions but the bounds that Go gives a slice.
-/
import Derived.Test.Ytnlbijmkehijiaa3F
import Derived.Test.YtnlbijmkehijiaaShelf
namespace Go.Proofs.Ytnlbijmkehijiaa
open Go.ChangeShapes Go.WideShapes Go.ChangeAt Go.RowKit
set_option linter.unusedVariables false

theorem foldl_min (zs : List Int) : ∀ a m : Int, m ≤ zs.foldl min a ↔ m ≤ a ∧ ∀ z ∈ zs, m ≤ z := by
  induction zs with
  | nil => intro a m; simp
  | cons z zs ih => intro a m; rw [List.foldl_cons, ih, Int.le_min, and_assoc]; simp only [List.mem_cons, forall_eq_or_imp]
theorem foldl_max (zs : List Int) : ∀ a m : Int, zs.foldl max a ≤ m ↔ a ≤ m ∧ ∀ z ∈ zs, z ≤ m := by
  induction zs with
  | nil => intro a m; simp
  | cons z zs ih => intro a m; rw [List.foldl_cons, ih, Int.max_le, and_assoc]; simp only [List.mem_cons, forall_eq_or_imp]
theorem minOf_ge (zs : List Int) (h : 0 < zs.length) (m : Int) : m ≤ Lib.minOf zs ↔ ∀ z ∈ zs, m ≤ z := by
  unfold Lib.minOf
  rw [foldl_min]
  cases zs with
  | nil => simp at h
  | cons z zs => simp
theorem maxOf_le (zs : List Int) (h : 0 < zs.length) (m : Int) : Lib.maxOf zs ≤ m ↔ ∀ z ∈ zs, z ≤ m := by
  unfold Lib.maxOf
  rw [foldl_max]
  cases zs with
  | nil => simp at h
  | cons z zs => simp

/-- Whether a list does not fall, as the library asks it. -/
def srtB (l : List Int) : Bool := Lib.downOK (fun x y => decide (x < y)) l.toArray (l.length - 1)
theorem bang (l : List Int) (i : Nat) (h : i < l.length) : l.toArray[i]! = l.getD i 0 := by
  rw [getElem!_pos l.toArray i (by simpa using h), List.getD_eq_getElem?_getD, List.getElem?_eq_getElem h]; rfl
theorem srtB_iff (l : List Int) (h0 : 0 < l.length) : srtB l = true ↔ ∀ i, i < l.length → l.getD (i - 1) 0 ≤ l.getD i 0 := by
  unfold srtB
  rw [Lib.downOK_iff]
  constructor
  · intro h i hi
    by_cases hz : i = 0
    · subst hz; exact Int.le_refl _
    · have := h (i - 1) (by omega)
      rw [bang l _ (by omega), bang l _ (by omega), show i - 1 + 1 = i by omega] at this
      simpa using this
  · intro h i hi
    have := h (i + 1) (by omega)
    rw [bang l _ (by omega), bang l _ (by omega)]
    simpa using this
theorem isSorted_any (a : Option Addr) (cap : Nat) (l : List Int) (w : World) (h0 : 0 < l.length) (hl : l.length ≤ 1048576) (hrow : IntRow w a l) :
    Calls Try.prog 46 #[.slice a l.length cap] w fun e w' => e = .returned (.bool (srtB l)) ∧ Below w.heap.size w w' := by
  rcases hrow with hn | ⟨b, off, rfl, _, hc⟩
  · subst hn; simp at h0
  have h := Try.slices_IsSorted_int b off cap l.toArray w (by intro i hi; have hi' : i < l.length := by simpa using hi
                                                              rw [bang l i hi']; exact hc i hi') (by simp; omega)
  rw [List.size_toArray] at h
  refine h.mono ?_
  rintro e w' ⟨rfl, q, rfl⟩
  exact ⟨rfl, below_drewN (Below.refl _ _) _⟩
theorem min_any (a : Option Addr) (cap : Nat) (l : List Int) (w : World) (h0 : 0 < l.length) (hl : l.length ≤ 1048576) (hrow : IntRow w a l) :
    Calls Try.prog 47 #[.slice a l.length cap] w fun e w' => e = .returned (.int .i64 (Lib.minOf l)) ∧ w = w' := by
  rcases hrow with hn | ⟨b, off, rfl, _, hc⟩
  · subst hn; simp at h0
  have h := Try.slices_Min_int b off l.length cap l w h0 (Nat.le_refl _) (by omega) hc
  rw [List.take_length] at h
  exact h.mono fun e w' ⟨he, hw⟩ => ⟨he, hw.symm⟩

set_option maxHeartbeats 400000 in
theorem implLandau (a : Option Addr) (l : List Int) (cap : Nat) (w : World) (hrow : IntRow w a l) (hl : l.length ≤ maxLen) :
    Calls Try.prog 23 #[.slice a l.length cap] w fun e w' => e = .returned (.bool (Tmpm.landB l)) ∧ Below w.heap.size w w' := by
  have HL := Lib.hid hl
  clear hl
  cases hg : Tmpm.goodB l
  · have HE : Hid (Tmpm.landB l = false) := by
      show _ = _
      cases hb : Tmpm.landB l
      · rfl
      · have := Tmpm.landB_good hb; rw [hg] at this; cases this
    have hC : Hid (Calls Try.prog 28 #[.slice a l.length cap] w fun e w' => (∃ a0 c0, e = .returned (.slice a0 0 c0)) ∧ Below w.heap.size w w') := by
      show Calls _ _ _ _ _
      refine (implSlack a l cap w hrow HL.out).mono ?_
      rintro e w' ⟨⟨a0, c0, rfl, _⟩, hb⟩
      rw [len_int hg]
      exact ⟨⟨a0, c0, rfl⟩, hb⟩
    clear hg
    go_enter Try.func23, Try.ntmps23
    go_wp2_with fail
    refine hC.out.mono ?_
    rintro e w1 ⟨⟨a0, c0, rfl⟩, hb1⟩
    go_wp2
    go_ret
    exact ⟨by rw [HE.out]; rfl, hb1⟩
  · obtain ⟨h1, h8, _⟩ := (Tmpm.goodB_iff l).1 hg
    have hls := Tmpm.landB_slack l hg
    have hC : Hid (Calls Try.prog 28 #[.slice a l.length cap] w fun e w' => (∃ a0 c0, e = .returned (.slice a0 l.length c0) ∧ IntRow w' a0 (Tmpm.slacks l)) ∧ Below w.heap.size w w') := by
      show Calls _ _ _ _ _
      refine (implSlack a l cap w hrow HL.out).mono ?_
      rintro e w' ⟨⟨a0, c0, rfl, ho⟩, hb⟩
      rw [len_good hg] at ho
      have hi := own_int ho
      rw [len_good hg, Tmpm.slacks_len]
      exact ⟨⟨a0, c0, rfl, hi⟩, hb⟩
    have h0 : ((l.length : Int) == 0) = false := by rw [beq_eq_false_iff_ne]; omega
    have hmn : Hid (0 ≤ Lib.minOf (Tmpm.slacks l) ↔ ∀ i, i < l.length → 0 ≤ Tmpm.slk l i) := by
      show _ ↔ _
      rw [minOf_ge _ (by rw [Tmpm.slacks_len]; exact h1)]
      constructor
      · intro h i hi; exact h _ (List.mem_map.2 ⟨i, List.mem_range.2 hi, rfl⟩)
      · intro h z hz; obtain ⟨i, hi, rfl⟩ := List.mem_map.1 hz; exact h i (List.mem_range.1 hi)
    have hsl := Lib.hid (Tmpm.slacks_len l)
    obtain ⟨M, hM⟩ : ∃ M, M = Lib.minOf (Tmpm.slacks l) := ⟨_, rfl⟩
    have hmin := fun (W : World) (a0 : Option Addr) (c0 : Nat) (hi : IntRow W a0 (Tmpm.slacks l)) => min_any a0 c0 (Tmpm.slacks l) W (by rw [hsl.out]; exact h1) (by rw [hsl.out]; omega) hi
    rw [hsl.out, ← hM] at hmin
    rw [← hM] at hmn
    have HMin : Hid (∀ (W : World) (a0 : Option Addr) (c0 : Nat), IntRow W a0 (Tmpm.slacks l) → Calls Try.prog 47 #[.slice a0 l.length c0] W fun e w' => e = .returned (.int .i64 M) ∧ W = w') := hmin
    have HLS := Lib.hid hls
    have hs := srtB_iff l h1
    have HS := Lib.hid hs
    clear hg hM hmin hls hs
    cases hb : srtB l
    · have HE : Hid (Tmpm.landB l = false) := by
        show _ = _
        cases hlb : Tmpm.landB l
        · rfl
        · have h2 := (HLS.out.1 hlb).1
          have h3 := HS.out.2 h2
          rw [hb] at h3; cases h3
      have HB := Lib.hid hb
      clear hb
      go_enter Try.func23, Try.ntmps23
      go_wp2_with fail
      refine hC.out.mono ?_
      rintro e w1 ⟨⟨a0, c0, rfl, hi⟩, hb1⟩
      have hrow1 := hrow.below hb1 (Nat.le_refl _)
      go_wp2_with fail
      refine (isSorted_any a cap l w1 h1 (by omega) hrow1).mono ?_
      rintro e w2 ⟨rfl, hb2⟩
      rw [HB.out]
      go_wp2
      go_ret
      exact ⟨by rw [HE.out]; rfl, hb1.trans (hb2.mono hb1.size)⟩
    · have HB := Lib.hid hb
      have HH := Lib.hid (HS.out.1 hb)
      clear hb
      by_cases hM0 : 0 ≤ M
      · obtain ⟨z, hz⟩ : ∃ z, z = Tmpm.slk l (l.length - 1) := ⟨_, rfl⟩
        have HE : Hid (Tmpm.landB l = (z == 0)) := by
          show _ = _
          rw [Bool.eq_iff_iff, HLS.out, beq_iff_eq, ← hz]
          exact ⟨fun h => h.2.2, fun h => ⟨HH.out, hmn.out.1 hM0, h⟩⟩
        have hgd := Tmpm.slacks_getD l (l.length - 1) (by omega)
        rw [← hz] at hgd
        have HGD := Lib.hid hgd
        clear hz hgd
        go_enter Try.func23, Try.ntmps23
        go_wp2_with fail
        refine hC.out.mono ?_
        rintro e w1 ⟨⟨a0, c0, rfl, hi⟩, hb1⟩
        have hrow1 := hrow.below hb1 (Nat.le_refl _)
        go_wp2_with fail
        refine (isSorted_any a cap l w1 h1 (by omega) hrow1).mono ?_
        rintro e w2 ⟨rfl, hb2⟩
        rw [HB.out]
        have hi2 := hi.below hb2 (Nat.le_refl _)
        obtain ⟨b, off, rfl, hbb, hcz⟩ := hi2.at (k := l.length - 1) (by rw [hsl.out]; omega)
        rw [HGD.out] at hcz
        have hB := hb1.trans (hb2.mono hb1.size)
        clear hb1 hb2 hrow1 hi
        go_wp2_with fail
        refine (HMin.out w2 _ c0 hi2).mono ?_
        rintro e w3 ⟨rfl, rfl⟩
        go_wp2
        go_ret
        exact ⟨by rw [HE.out]; rfl, hB⟩
      · have HE : Hid (Tmpm.landB l = false) := by
          show _ = _
          cases hlb : Tmpm.landB l
          · rfl
          · exact absurd (hmn.out.2 (HLS.out.1 hlb).2.1) hM0
        go_enter Try.func23, Try.ntmps23
        go_wp2_with fail
        refine hC.out.mono ?_
        rintro e w1 ⟨⟨a0, c0, rfl, hi⟩, hb1⟩
        have hrow1 := hrow.below hb1 (Nat.le_refl _)
        go_wp2_with fail
        refine (isSorted_any a cap l w1 h1 (by omega) hrow1).mono ?_
        rintro e w2 ⟨rfl, hb2⟩
        rw [HB.out]
        have hi2 := hi.below hb2 (Nat.le_refl _)
        have hB := hb1.trans (hb2.mono hb1.size)
        clear hb1 hb2 hrow1 hi
        go_wp2_with fail
        refine (HMin.out w2 _ c0 hi2).mono ?_
        rintro e w3 ⟨rfl, rfl⟩
        go_wp2
        go_ret
        exact ⟨by rw [HE.out]; rfl, hB⟩
end Go.Proofs.Ytnlbijmkehijiaa
