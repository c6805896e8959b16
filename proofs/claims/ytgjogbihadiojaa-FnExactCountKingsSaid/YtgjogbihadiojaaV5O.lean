/-
  Plain facts on valid tours, last: their texts, their parts, lists of names, the tour that a number tells. No program; no conditions.
-/
import Derived.Test.YtgjogbihadiojaaV5N
namespace Go.Proofs.Ytgjogbihadiojaa
open Go.ChangeShapes Go.WideShapes Go.ChangeAt Go.RowKit
set_option linter.unusedVariables false

/-! Texts. -/
theorem fmtR_L {l : List Int} (h : OkL l) : fmtR (l.length : Int) l = fmtTo l l.length [] := by unfold fmtR; rw [if_pos (okB_L h)]
theorem text_L {l : List Int} (h : OkL l) : IsText (fmtR (l.length : Int) l) l := ⟨h, fmtR_L h⟩
theorem rows_K (l : List Int) (h1 : 1 ≤ l.length) (h8 : l.length ≤ 8) : 2 * (rowsTo l l.length).length = l.length * (l.length - 1) := by
  have r : ∀ m, (rowsTo l (m + 1)).length = (rowsTo l m).length + (l.length - (m + 1)) := by
    intro m; rw [rowsTo_succ, List.length_append, rowBits_len]
  have r0 : (rowsTo l 0).length = 0 := by rw [rowsTo_zero]; rfl
  have r1 : (rowsTo l 1).length = (rowsTo l 0).length + (l.length - 1) := r 0
  have r2 : (rowsTo l 2).length = (rowsTo l 1).length + (l.length - 2) := r 1
  have r3 : (rowsTo l 3).length = (rowsTo l 2).length + (l.length - 3) := r 2
  have r4 : (rowsTo l 4).length = (rowsTo l 3).length + (l.length - 4) := r 3
  have r5 : (rowsTo l 5).length = (rowsTo l 4).length + (l.length - 5) := r 4
  have r6 : (rowsTo l 6).length = (rowsTo l 5).length + (l.length - 6) := r 5
  have r7 : (rowsTo l 7).length = (rowsTo l 6).length + (l.length - 7) := r 6
  have r8 : (rowsTo l 8).length = (rowsTo l 7).length + (l.length - 8) := r 7
  clear r
  have : l.length = 1 ∨ l.length = 2 ∨ l.length = 3 ∨ l.length = 4 ∨ l.length = 5 ∨ l.length = 6 ∨ l.length = 7 ∨ l.length = 8 := by omega
  rcases this with h | h | h | h | h | h | h | h <;> (rw [h] at r1 r2 r3 r4 r5 r6 r7 r8 ⊢; omega)
theorem fmtR_len {l : List Int} (h : OkL l) : ∃ K : Nat, 2 * K = l.length * (l.length - 1) ∧ (fmtR (l.length : Int) l).length = 2 + K := by
  refine ⟨(rowsTo l l.length).length, rows_K l h.le.1 h.le.2, ?_⟩
  rw [text_eq (text_L h)]; simp; omega

/-! Parts. -/
theorem elems_pc (x : Nat) (hx : x < 256) : (elems x).length = pc x := by
  rw [pc_count x hx, List.countP_eq_length_filter]; rfl
theorem parted {l : List Int} (h : OkL l) {s : Nat} (h1 : 1 ≤ s) (h2 : s < 2 ^ l.length) : ptB (l.length : Int) l (s : Int) = true ∧ ptN (l.length : Int) l (s : Int) = (pc s : Int) := by
  have h8 : s < 256 := Nat.lt_of_lt_of_le h2 (pow_le _ h.le.2)
  have e1 : ((s : Int) == 0) = false := by rw [beq_eq_false_iff_ne]; omega
  have e2 : inSet (s : Int) l.length = true := by simp only [inSet, Bool.and_eq_true, decide_eq_true_eq]; omega
  have hb : ptB (l.length : Int) l (s : Int) = true := by unfold ptB; rw [okB_L h, e1, e2]; rfl
  refine ⟨hb, ?_⟩
  unfold ptN
  rw [if_pos hb, Int.toNat_natCast, elems_pc s h8]

/-! Lists of names. -/
def Names (k : Nat) (L : List Int) : Prop := L.length = k ∧ (∀ x ∈ L, 0 ≤ x ∧ x < (k : Int)) ∧ L.Nodup
theorem Names.nil : Names 0 [] := ⟨rfl, by simp, List.nodup_nil⟩
theorem Names.put {k : Nat} {L : List Int} (h : Names k L) (p : Nat) : Names (k + 1) (L.take p ++ [(k : Int)] ++ L.drop p) := by
  have hp : (L.take p ++ [(k : Int)] ++ L.drop p).Perm ((k : Int) :: L) := by
    have := List.perm_middle (a := (k : Int)) (l₁ := L.take p) (l₂ := L.drop p)
    rw [List.take_append_drop] at this
    simpa using this
  refine ⟨?_, ?_, ?_⟩
  · rw [hp.length_eq]; simp [h.1]
  · intro x hx
    rcases List.mem_cons.1 (hp.mem_iff.1 hx) with rfl | h1
    · omega
    · have := h.2.1 x h1; omega
  · rw [hp.nodup_iff, List.nodup_cons]
    exact ⟨fun hm => by have := (h.2.1 _ hm).2; omega, h.2.2⟩
theorem Names.perm {k : Nat} {L : List Int} (h : Names k L) : permB k L = true := by
  rw [permB_iff]
  refine ⟨h.1, fun i hi => ?_⟩
  rw [h.1] at hi
  have hi' : i < L.length := by have := h.1; omega
  have hm := h.2.1 L[i] (List.getElem_mem hi')
  rw [List.getD_eq_getElem?_getD, List.getElem?_eq_getElem hi', Option.getD_some]
  refine ⟨hm.1, hm.2, ?_⟩
  unfold among
  rw [List.any_eq_false]
  intro z hz
  obtain ⟨j, hj, rfl⟩ := List.mem_take_iff_getElem.1 hz
  have hj2 : j < i := by omega
  simp only [beq_iff_eq]
  intro e
  have e2 : L[j] = L[i] := by rw [e]; omega
  exact (List.pairwise_iff_getElem.1 h.2.2 j i (by omega) hi' hj2) e2

/-! The tour that a number tells. -/
def idx (N i j : Nat) : Nat := (pre2 (List.replicate N 0) i j).length
def tourBits (N b i j : Nat) : Bool := if i < j then b.testBit (idx N i j) else if j < i then !b.testBit (idx N j i) else false
def tourL (N b : Nat) : List Nat := (List.range N).map fun i => numb (tourBits N b i) N
theorem numb_bit (f : Nat → Bool) (k j : Nat) : (numb f k).testBit j = (decide (j < k) && f j) := by
  induction k with
  | zero => simp [numb]
  | succ k ih =>
    simp only [numb]
    by_cases hf : f k = true
    · rw [if_pos hf, ← numb_or, Nat.testBit_or, ih, Nat.testBit_two_pow]
      by_cases e : k = j
      · subst e; simp [hf]
      · have : decide (j < k + 1) = decide (j < k) := by rw [decide_eq_decide]; omega
        rw [this]; simp [e]
    · rw [if_neg hf, Nat.add_zero, ih]
      by_cases e : k = j
      · subst e
        have : f k = false := by cases h : f k; rfl; exact absurd h hf
        simp [this]
      · have : decide (j < k + 1) = decide (j < k) := by rw [decide_eq_decide]; omega
        rw [this]
theorem tourL_len (N b : Nat) : (tourL N b).length = N := by simp [tourL]
theorem tourL_bit (N b i j : Nat) (hi : i < N) (hj : j < N) : ((tourL N b).getD i 0).testBit j = tourBits N b i j := by
  rw [List.getD_eq_getElem?_getD, show (tourL N b)[i]? = some (numb (tourBits N b i) N) by simp [tourL, hi], Option.getD_some, numb_bit]
  simp [hj]
theorem tourL_ok (N b : Nat) (h1 : 1 ≤ N) (h8 : N ≤ 8) : OkL ((tourL N b).map Int.ofNat) := by
  refine mkOk (by rw [tourL_len]; exact h1) (by rw [tourL_len]; exact h8) ?_ ?_ ?_
  · intro i hi
    rw [tourL_len] at hi ⊢
    rw [List.getD_eq_getElem?_getD, show (tourL N b)[i]? = some (numb (tourBits N b i) N) by simp [tourL, hi], Option.getD_some]
    exact numb_lt _ _
  · intro i hi
    rw [tourL_len] at hi
    rw [tourL_bit N b i i hi hi]
    unfold tourBits
    rw [if_neg (by omega), if_neg (by omega)]
  · intro i j hi hj hne
    rw [tourL_len] at hi hj
    rw [tourL_bit N b i j hi hj, tourL_bit N b j i hj hi]
    unfold tourBits
    rcases Nat.lt_trichotomy i j with h | h | h
    · rw [if_pos h, if_neg (by omega), if_pos h]; simp
    · exact absurd h hne
    · rw [if_neg (by omega), if_pos h, if_pos h]
/-- What the model's loop over pairs tells of the tour. -/
theorem tourL_text (N b : Nat) (h1 : 1 ≤ N) (h8 : N ≤ 8) : ∀ l, IsText (fmtR (((tourL N b).map Int.ofNat).length : Int) ((tourL N b).map Int.ofNat)) l → N = l.length ∧ ∀ i j, i + 1 ≤ j → j < l.length → b.testBit (pre2 l i j).length = bt l i j := by
  intro l hl
  have hk := tourL_ok N b h1 h8
  have e := text_inj (text_L hk) hl
  have hN : N = l.length := by rw [← e]; simp [tourL_len]
  refine ⟨hN, fun i j hij hj => ?_⟩
  have hbt : bt l i j = tourBits N b i j := by rw [← e, bt_ofNat]; exact tourL_bit N b i j (by omega) (by omega)
  rw [hbt]
  unfold tourBits idx
  rw [if_pos (by omega), pre2_len (l := l) (l' := List.replicate N 0) (by simp [hN])]
end Go.Proofs.Ytgjogbihadiojaa
