/-
  'deleteWorse': of each set's beginnings only those with the fewest reversals are left. No conditions else.
-/
import Derived.Test.YteegbkbphfmooaaQB
namespace Go.Proofs.Yteegbkbphfmooaa
open Go.ChangeShapes Go.WideShapes Go.ChangeAt Go.RowKit Go.Sort
set_option linter.unusedVariables false

theorem Rg.congr {W : World} {b r n : Nat} {M M' : Nat → Nat → Option Value} {L L' : Nat → Nat → Bool} {cnt : Nat} (h : Rg W b r n M L cnt) (hM : ∀ s q, s < 256 → q ≤ 200 → M' s q = M s q) (hL : ∀ s q, s < 256 → q ≤ 200 → L' s q = L s q) : Rg W b r n M' L' cnt := by
  obtain ⟨D, left, h1, hv, h2, h3⟩ := h
  exact ⟨D, left, h1, hv.congr hM, fun s q hs hq => by rw [h2 s q hs hq, hL s q hs hq], h3⟩
/-- Whether a set has an entry with fewer reversals. -/
def low (M : Nat → Nat → Option Value) (s q : Nat) : Bool := (List.range q).any fun j => (M s j).isSome
theorem low_zero (M : Nat → Nat → Option Value) (s : Nat) : low M s 0 = false := rfl
theorem low_next (M : Nat → Nat → Option Value) (s q : Nat) : low M s (q + 1) = (low M s q || (M s q).isSome) := by
  unfold low
  rw [List.range_succ, List.any_append]; simp
theorem low_iff {M : Nat → Nat → Option Value} {s q : Nat} : low M s q = true ↔ ∃ j, j < q ∧ (M s j).isSome = true := by
  unfold low
  rw [List.any_eq_true]
  constructor
  · rintro ⟨j, hj, h⟩; exact ⟨j, List.mem_range.1 hj, h⟩
  · rintro ⟨j, hj, h⟩; exact ⟨j, List.mem_range.2 hj, h⟩
/-- What is left in the end. -/
def dw (M : Nat → Nat → Option Value) (s q : Nat) : Option Value := if low M s q then none else M s q
/-- What is there while the entries of 'L' are still to come. -/
def cur (M : Nat → Nat → Option Value) (L : Nat → Nat → Bool) (s q : Nat) : Option Value := if L s q then M s q else dw M s q
/-- The least entry of a set is never struck. -/
theorem least_in {M : Nat → Nat → Option Value} {s : Nat} : ∀ q, (M s q).isSome = true → ∃ j, j ≤ q ∧ (M s j).isSome = true ∧ low M s j = false := by
  intro q
  induction q using Nat.strongRecOn with
  | _ q ih =>
    intro h
    cases hl : low M s q
    · exact ⟨q, Nat.le_refl _, h, hl⟩
    · obtain ⟨j, hj, hs⟩ := low_iff.1 hl
      obtain ⟨i, hi, h1, h2⟩ := ih j hj hs
      exact ⟨i, by omega, h1, h2⟩
theorem low_cur {M : Nat → Nat → Option Value} {L : Nat → Nat → Bool} (s q : Nat) : low (cur M L) s q = low M s q := by
  rw [Bool.eq_iff_iff, low_iff, low_iff]
  constructor
  · rintro ⟨j, hj, h⟩
    refine ⟨j, hj, ?_⟩
    unfold cur dw at h
    split at h
    · exact h
    · split at h
      · cases h
      · exact h
  · rintro ⟨j, hj, h⟩
    obtain ⟨i, hi, h1, h2⟩ := least_in j h
    refine ⟨i, by omega, ?_⟩
    unfold cur dw
    split
    · exact h1
    · rw [h2]; exact h1
/-- What is there within a round: the entry (s, q) is struck as soon as an entry with fewer has been met. -/
def inr' (C : Nat → Nat → Option Value) (s q j : Nat) (s2 q2 : Nat) : Option Value := if s2 = s ∧ q2 = q ∧ low C s j = true then none else C s2 q2

theorem inr'_zero (C : Nat → Nat → Option Value) (s q s2 q2 : Nat) : inr' C s q 0 s2 q2 = C s2 q2 := by unfold inr'; rw [low_zero]; simp
theorem inr'_at {C : Nat → Nat → Option Value} {s q j : Nat} (h : j < q) : inr' C s q j s j = C s j := by unfold inr'; rw [if_neg (by omega)]
theorem inr'_stay {C : Nat → Nat → Option Value} {s q j : Nat} (h : (C s j).isSome = false) (s2 q2 : Nat) : inr' C s q (j + 1) s2 q2 = inr' C s q j s2 q2 := by unfold inr'; rw [low_next, h, Bool.or_false]
theorem inr'_go {C : Nat → Nat → Option Value} {s q j : Nat} (h : (C s j).isSome = true) (s2 q2 : Nat) : inr' C s q (j + 1) s2 q2 = if s2 = s ∧ q2 = q then none else inr' C s q j s2 q2 := by
  unfold inr'
  rw [low_next, h, Bool.or_true]
  by_cases e : s2 = s ∧ q2 = q
  · rw [if_pos e, if_pos ⟨e.1, e.2, rfl⟩]
  · rw [if_neg e, if_neg (fun hh => e ⟨hh.1, hh.2.1⟩), if_neg (fun hh => e ⟨hh.1, hh.2.1⟩)]
theorem inr'_end {M : Nat → Nat → Option Value} {L : Nat → Nat → Bool} {s q : Nat} (hL : L s q = true) (s2 q2 : Nat) : cur M (fun a b => L a b && !decide (a = s ∧ b = q)) s2 q2 = inr' (cur M L) s q q s2 q2 := by
  unfold inr'
  by_cases e : s2 = s ∧ q2 = q
  · obtain ⟨rfl, rfl⟩ := e
    rw [low_cur]
    unfold cur dw
    simp [hL]
  · rw [if_neg (fun hh => e ⟨hh.1, hh.2.1⟩)]
    unfold cur
    simp [e]
/-- What a key's copy in a box of its own is. -/
theorem box_kept {W W' : World} {g : Nat} {t : TypeId} {v0 v1 : Value} {row : Option Nat} (h : Box W g t v0 v1) (hg : W.grownBy W' row) (hne : some g ≠ row) : Box W' g t v0 v1 := (hg.block g h.lt hne).trans h

set_option maxRecDepth 100000 in
set_option maxHeartbeats 4000000 in
theorem deleteWorse_any (b n : Nat) (D : DataW Value) (M : Nat → Nat → Option Value) (w : World) (hown : w.ownsMap Try.prog 108 RV b n D) (hv : Vw D M) (hM : ∀ s q v, s < 256 → q ≤ 200 → M s q = some v → ∃ a m c z, v = .agg #[.slice a m c, .int .i64 z]) :
    Calls Try.prog 125 #[.map (some b)] w fun e w' => (∃ v, e = .returned v) ∧ (∃ D', w'.ownsMap Try.prog 108 RV b n D' ∧ Vw D' (dw M)) ∧ w.grownBy w' (some b) := by
  have HOWN := Lib.hid hown
  have HV := Lib.hid hv
  have HM := Lib.hid hM
  have hbw : b < w.heap.size := hown.lt
  clear hown hv hM
  go_enter Try.func125, Try.ntmps125
  go_wp2_with (first | (at_range; refine wpList_range_Rg _ rfl _ rfl b n M rfl HOWN.out HV.out ?_; intro w1 cnt0 hrg hg1 hsz1) | go_in)
  go_frame
  have HRG := Lib.hid hrg
  have HG1 := Lib.hid hg1
  clear hrg hg1 hsz1
  go_loopw [8] (fun _ wr => ∃ L cnt, Hid (Rg wr b w.heap.size n (cur M L) L cnt) ∧ Hid (∀ s q, s < 256 → q ≤ 200 → L s q = true → (M s q).isSome = true) ∧ Hid (w.grownBy wr (some b))) (fun _ wr => wr.rangeLeft b w.heap.size)
  case atStart =>
    refine ⟨_, cnt0, HRG.out.congr (L' := fun s q => (M s q).isSome) (fun s q _ _ => ?_) (fun s q _ _ => rfl), fun s q _ _ h => h, HG1.out.but _⟩
    unfold cur dw
    cases hm : M s q with
    | none => simp [hm]
    | some v => simp [hm]
  case round =>
    obtain ⟨L, cnt, hrg, hLs, hgr⟩ := hrel
    clear HRG HG1
    have hml : wr.rangeLeft b w.heap.size = cnt := hrg.out.left_eq
    go_wp2_with (first | (at_next; refine wpList_next_Rg _ rfl _ rfl b w.heap.size n _ L cnt rfl hrg.out ?_ ?_) | go_in)
    · intro hl
      have hl := Lib.hid hl
      clear hml
      go_wp2
      go_end0
      obtain ⟨D', h1, h2⟩ := hrg.out.owns
      refine ⟨⟨_, rfl⟩, ⟨D', h1, h2.congr fun s q hs hq => ?_⟩, hgr.out⟩
      unfold cur
      rw [hl.out s q hs hq]; rfl
    · intro s q v W1 cnt1 hs hq hms hL hrg1 hlt hg1 hsz1 hen
      unfold KV at hen ⊢
      have HRG1 := Lib.hid hrg1
      have HG1 := Lib.hid (hgr.out.andThen hg1 (fun j hj => by cases hj; exact Or.inl (Nat.le_refl _)))
      obtain ⟨L1, hL1⟩ : ∃ L1 : Nat → Nat → Bool, L1 = fun a b => L a b && !decide (a = s ∧ b = q) := ⟨_, rfl⟩
      have HL1 := Lib.hid hL1
      obtain ⟨W2, hW2⟩ : ∃ W2, W2 = W1.alloc (.cells #[.int .i64 (s : Int), .int .i64 (q : Int)] 108) := ⟨_, rfl⟩
      have HW2 := Lib.hid hW2
      have hx : Box W2 W1.heap.size 108 (.int .i64 (s : Int)) (.int .i64 (q : Int)) := by rw [hW2]; exact Box.new _ _ _ _
      have hg2 : W1.grownBy W2 none := by rw [hW2]; exact World.grownBy_alloc _ _ _
      have hwr : w.heap.size ≤ wr.heap.size := hgr.out.size
      have HRG2 : Hid (Rg W2 b w.heap.size n (inr' (cur M L) s q 0) L1 cnt1) := (hrg1.congr (fun s2 q2 _ _ => inr'_zero _ _ _ _ _) (fun s2 q2 _ _ => by rw [hL1]; simp)).kept hg2 (by simp) (by simp)
      have HG2 := Lib.hid (HG1.out.andThen hg2 (fun j hj => by cases hj))
      have HX2 := Lib.hid hx
      have HS := Lib.hid hs
      have HQ := Lib.hid hq
      have HL := Lib.hid hL
      have HMS := Lib.hid hms
      have hrr : w.heap.size < W1.heap.size := by have := hrg1.ne; omega
      have hbb : b < W1.heap.size := by omega
      clear hrg1 hg1 hs hL hms hrg hgr hL1 HRG1 HG1 hW2 hx hg2 hsz1 hwr
      go_wp2
      rw [← HW2.out]
      go_loopw [14] (fun i wi => ∃ (j cnt2 : Nat), j ≤ q ∧ cnt2 ≤ cnt1 ∧ i = .int .i64 (j : Int) ∧ Hid (Rg wi b w.heap.size n (inr' (cur M L) s q j) L1 cnt2) ∧ Hid (w.grownBy wi (some b)) ∧ Hid (Box wi W1.heap.size 108 (.int .i64 (s : Int)) (.int .i64 (q : Int)))) (fun i _ => q - (intOf i).toNat)
      case atStart => exact ⟨0, cnt1, Nat.zero_le _, Nat.le_refl _, rfl, HRG2, HG2, HX2⟩
      case round =>
        clear HRG2 HG2 HX2 HW2
        obtain ⟨j, cnt2, hj, hc2, rfl, hrg, hgr, hx⟩ := hrel
        by_cases hlt2 : j < q
        · have hji : (j : Int) < (q : Int) := by omega
          have c0 := hx.out.c0
          have c1 := hx.out.c1
          obtain ⟨D2, hown2, hv2⟩ := hrg.out.owns
          have hlk := look_ok hown2 hv2 HS.out (show j ≤ 200 by omega)
          rw [inr'_at hlt2] at hlk
          clear hown2 hv2 D2
          obtain ⟨xa, xm, xc, xz, hxy⟩ : ∃ xa xm xc xz, (cur M L s j).getD zeroG = .agg #[.slice xa xm xc, .int .i64 xz] := by
            cases hc : cur M L s j with
            | none => exact ⟨_, _, _, _, rfl⟩
            | some u =>
              have : M s j = some u := by
                unfold cur dw at hc
                split at hc
                · exact hc
                · split at hc
                  · cases hc
                  · exact hc
              obtain ⟨x1, x2, x3, x4, h⟩ := HM.out s j u HS.out (by omega) this
              exact ⟨x1, x2, x3, x4, h⟩
          rw [hxy] at hlk
          unfold KV at hlk
          clear hxy
          obtain ⟨W4, hW4⟩ : ∃ W4, W4 = wr.alloc (.cells #[.slice xa xm xc, .int .i64 xz] 73) := ⟨_, rfl⟩
          have HW4 := Lib.hid hW4
          have hg4 : wr.grownBy W4 none := by rw [hW4]; exact World.grownBy_alloc _ _ _
          have HRG4 := Lib.hid (hrg.out.kept hg4 (by simp) (by simp))
          have HG4 := Lib.hid (hgr.out.andThen hg4 (fun j hj => by cases hj))
          have HX4 := Lib.hid (box_kept hx.out hg4 (by simp))
          clear hW4 hg4 hrg hgr
          cases hsome : (cur M L s j).isSome
          · rw [hsome] at hlk
            have HSM := Lib.hid hsome
            clear hsome hx
            go_wp2
            rw [← HW4.out]
            go_roundw
            case rel => exact ⟨j + 1, cnt2, by omega, hc2, by go_num, HRG4.out.congr (fun s2 q2 _ _ => inr'_stay HSM.out s2 q2) (fun _ _ _ _ => rfl), HG4, HX4⟩
            case measure => simp [intOf]; omega
          · rw [hsome] at hlk
            have HSM := Lib.hid hsome
            have c04 := HX4.out.c0
            have c14 := HX4.out.c1
            have HRG5 := HRG4
            rw [HW4.out] at c04 c14 HRG5
            clear hsome hx
            go_wp2_with (first | (at_delete; refine wpList_delete_Rg _ rfl _ _ rfl b w.heap.size n _ L1 cnt2 rfl HRG5.out s q HS.out HQ.out rfl ?_; intro W5 cnt3 hrg5 hle hg5 hsz5) | go_in)
            have HG5 := Lib.hid (HG4.out.andThen (HW4.out ▸ hg5) (fun j hj => by cases hj; exact Or.inr rfl))
            have HX5 := Lib.hid (box_kept HX4.out (HW4.out ▸ hg5) (by intro e; cases e; omega))
            have HRG6 : Hid (Rg W5 b w.heap.size n (inr' (cur M L) s q (j + 1)) L1 cnt3) := hrg5.congr (fun s2 q2 _ _ => inr'_go HSM.out s2 q2) (fun s2 q2 _ _ => by rw [HL1.out]; by_cases e : s2 = s ∧ q2 = q <;> simp [e])
            clear hrg5 hg5
            go_roundw
            case rel => exact ⟨j + 1, cnt3, by omega, by omega, by go_num, HRG6, HG5, HX5⟩
            case measure => simp [intOf]; omega
        · obtain rfl : j = q := by omega
          have hml1 : wr.rangeLeft b w.heap.size = cnt2 := hrg.out.left_eq
          go_wp2
          go_roundw
          case rel => exact ⟨L1, cnt2, hrg.out.congr (fun s2 q2 _ _ => by rw [HL1.out]; exact inr'_end HL.out s2 q2) (fun _ _ _ _ => rfl), fun s2 q2 h1 h2 h3 => hLs.out s2 q2 h1 h2 (by rw [HL1.out] at h3; simp only [Bool.and_eq_true] at h3; exact h3.1), hgr⟩
          case measure => rw [hml1, hml]; omega
end Go.Proofs.Yteegbkbphfmooaa
