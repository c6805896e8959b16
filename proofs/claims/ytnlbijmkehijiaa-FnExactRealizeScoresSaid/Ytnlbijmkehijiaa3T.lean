/-
  Sorting by insertion gives the library's sorted list. No program.
-/
import Derived.WalkKit
namespace Go.Proofs.Ytnlbijmkehijiaa.Tmpm
open List

/-- Where x goes in: as far left as a greater number stands before it. -/
def posI (out : List Int) (x : Int) : Nat → Nat
  | 0 => 0
  | k + 1 => if x < out.getD k 0 then posI out x k else k + 1
def insI (out : List Int) (x : Int) : List Int := out.take (posI out x out.length) ++ x :: out.drop (posI out x out.length)
def sortI (L : List Int) : List Int := L.foldl insI []
def srt (L : List Int) : List Int := L.mergeSort fun x y => decide (x ≤ y)

theorem posI_le (out : List Int) (x : Int) : ∀ k, posI out x k ≤ k := by
  intro k
  induction k with
  | zero => exact Nat.le_refl _
  | succ k ih => rw [posI]; split <;> omega
theorem posI_gt (out : List Int) (x : Int) : ∀ k j, posI out x k ≤ j → j < k → x < out.getD j 0 := by
  intro k
  induction k with
  | zero => intro j _ h; omega
  | succ k ih =>
    intro j h1 h2
    rw [posI] at h1
    split at h1
    · rename_i hx
      by_cases e : j = k
      · subst e; exact hx
      · exact ih j h1 (by omega)
    · omega
theorem posI_at (out : List Int) (x : Int) : ∀ k, 0 < posI out x k → out.getD (posI out x k - 1) 0 ≤ x := by
  intro k
  induction k with
  | zero => intro h; simp [posI] at h
  | succ k ih =>
    intro h
    rw [posI] at h ⊢
    split at h
    · rename_i hx; rw [if_pos hx]; exact ih h
    · rename_i hx; rw [if_neg hx, Nat.add_sub_cancel]; omega
theorem insI_perm (out : List Int) (x : Int) : insI out x ~ x :: out := by
  unfold insI
  refine List.perm_middle.trans ?_
  rw [List.take_append_drop]
theorem insI_len (out : List Int) (x : Int) : (insI out x).length = out.length + 1 := (insI_perm out x).length_eq
theorem getD_mem_take (out : List Int) (k : Nat) (a : Int) (h : a ∈ out.take k) : ∃ i, i < k ∧ i < out.length ∧ out.getD i 0 = a := by
  obtain ⟨i, hi, rfl⟩ := List.getElem_of_mem h
  rw [List.length_take] at hi
  refine ⟨i, by omega, by omega, ?_⟩
  rw [List.getD_eq_getElem?_getD, List.getElem?_eq_getElem (by omega), List.getElem_take]
  rfl
theorem getD_mem_drop (out : List Int) (k : Nat) (a : Int) (h : a ∈ out.drop k) : ∃ i, k ≤ i ∧ i < out.length ∧ out.getD i 0 = a := by
  obtain ⟨i, hi, rfl⟩ := List.getElem_of_mem h
  rw [List.length_drop] at hi
  refine ⟨k + i, by omega, by omega, ?_⟩
  rw [List.getD_eq_getElem?_getD, List.getElem?_eq_getElem (by omega), List.getElem_drop]
  rfl
theorem sorted_getD {out : List Int} (h : out.Pairwise (· ≤ ·)) (i j : Nat) (hij : i ≤ j) (hj : j < out.length) : out.getD i 0 ≤ out.getD j 0 := by
  rw [List.getD_eq_getElem?_getD, List.getD_eq_getElem?_getD, List.getElem?_eq_getElem (by omega), List.getElem?_eq_getElem hj]
  show out[i] ≤ out[j]
  by_cases e : i = j
  · subst e; exact Int.le_refl _
  · exact (List.pairwise_iff_getElem.1 h) i j (by omega) hj (by omega)
theorem insI_sorted {out : List Int} (x : Int) (h : out.Pairwise (· ≤ ·)) : (insI out x).Pairwise (· ≤ ·) := by
  unfold insI
  have hp := posI_le out x out.length
  have h2 : (out.take (posI out x out.length) ++ out.drop (posI out x out.length)).Pairwise (· ≤ ·) := by rw [List.take_append_drop]; exact h
  obtain ⟨a, b, c⟩ := List.pairwise_append.1 h2
  refine List.pairwise_append.2 ⟨a, List.pairwise_cons.2 ⟨fun y hy => ?_, b⟩, fun y hy z hz => ?_⟩
  · obtain ⟨i, hi, hl, rfl⟩ := getD_mem_drop _ _ _ hy
    have := posI_gt out x out.length i hi hl
    omega
  · rcases List.mem_cons.1 hz with rfl | hz
    · obtain ⟨i, hi, hl, rfl⟩ := getD_mem_take _ _ _ hy
      have h3 := posI_at out z out.length (by omega)
      have h4 := sorted_getD h i (posI out z out.length - 1) (by omega) (by omega)
      omega
    · exact c y hy z hz
theorem sortI_gen (L : List Int) : ∀ out : List Int, out.Pairwise (· ≤ ·) → (L.foldl insI out).Pairwise (· ≤ ·) ∧ L.foldl insI out ~ L ++ out := by
  induction L with
  | nil => intro out h; exact ⟨h, List.Perm.refl _⟩
  | cons x L ih =>
    intro out h
    obtain ⟨a, b⟩ := ih (insI out x) (insI_sorted x h)
    refine ⟨a, b.trans ?_⟩
    refine (List.Perm.append_left L (insI_perm out x)).trans ?_
    exact List.perm_middle
theorem srt_sorted (L : List Int) : (srt L).Pairwise (· ≤ ·) := by
  have h := List.pairwise_mergeSort (le := fun x y : Int => decide (x ≤ y)) (fun a b c h1 h2 => by simp at h1 h2 ⊢; omega) (fun a b => by simp; omega) L
  exact h.imp (fun h => by simpa using h)
theorem srt_perm (L : List Int) : srt L ~ L := List.mergeSort_perm L _
theorem sortI_eq (L : List Int) : sortI L = srt L := by
  obtain ⟨a, b⟩ := sortI_gen L [] List.Pairwise.nil
  rw [List.append_nil] at b
  exact List.Perm.eq_of_pairwise (fun x y _ _ h1 h2 => Int.le_antisymm h1 h2) a (srt_sorted L) (b.trans (srt_perm L).symm)
theorem sortI_take (L : List Int) (k : Nat) (h : k < L.length) : sortI (L.take (k + 1)) = insI (sortI (L.take k)) (L.getD k 0) := by
  unfold sortI
  rw [List.take_succ_eq_append_getElem h, List.foldl_append, List.getD_eq_getElem?_getD, List.getElem?_eq_getElem h]
  rfl
theorem sortI_len (L : List Int) : (sortI L).length = L.length := by rw [sortI_eq]; exact (srt_perm L).length_eq
theorem srt_len (L : List Int) : (srt L).length = L.length := (srt_perm L).length_eq
/-- The same least and the same greatest number, sorted or not. -/
theorem srt_head (L : List Int) (h : 0 < L.length) (m : Int) : m ≤ (srt L).getD 0 0 ↔ ∀ z ∈ L, m ≤ z := by
  have hl := srt_len L
  constructor
  · intro hm z hz
    have hz2 := (srt_perm L).mem_iff.2 hz
    obtain ⟨i, hi, rfl⟩ := List.getElem_of_mem hz2
    have := sorted_getD (srt_sorted L) 0 i (Nat.zero_le _) hi
    rw [show (srt L).getD i 0 = (srt L)[i] by rw [List.getD_eq_getElem?_getD, List.getElem?_eq_getElem hi]; rfl] at this
    exact Int.le_trans hm this
  · intro hm
    apply hm
    have h0 : 0 < (srt L).length := by omega
    rw [List.getD_eq_getElem?_getD, List.getElem?_eq_getElem h0]
    exact (srt_perm L).mem_iff.1 (List.getElem_mem h0)
theorem srt_last (L : List Int) (h : 0 < L.length) (m : Int) : (srt L).getD (L.length - 1) 0 ≤ m ↔ ∀ z ∈ L, z ≤ m := by
  have hl := srt_len L
  constructor
  · intro hm z hz
    have hz2 := (srt_perm L).mem_iff.2 hz
    obtain ⟨i, hi, rfl⟩ := List.getElem_of_mem hz2
    have := sorted_getD (srt_sorted L) i (L.length - 1) (by omega) (by omega)
    rw [show (srt L).getD i 0 = (srt L)[i] by rw [List.getD_eq_getElem?_getD, List.getElem?_eq_getElem hi]; rfl] at this
    exact Int.le_trans this hm
  · intro hm
    apply hm
    have h0 : L.length - 1 < (srt L).length := by omega
    rw [List.getD_eq_getElem?_getD, List.getElem?_eq_getElem h0]
    exact (srt_perm L).mem_iff.1 (List.getElem_mem h0)
end Go.Proofs.Ytnlbijmkehijiaa.Tmpm
