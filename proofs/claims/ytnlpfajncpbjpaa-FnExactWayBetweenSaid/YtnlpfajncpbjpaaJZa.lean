/-
  How far from a player: the row as it stands within a round. Plain mathematics. No conditions but those named.
-/
import Derived.Test.YtnlpfajncpbjpaaJO
namespace Go.Proofs.Ytnlpfajncpbjpaa
open Go.ChangeShapes Go.WideShapes Go.ChangeAt Go.RowKit
set_option linter.unusedVariables false
namespace Hw
section
variable {f : Nat → Nat} {b m : Nat}
/-- The number of one player while those whom they beat are looked through. -/
def cur (f : Nat → Nat) (b r a j : Nat) : Int := if 0 ≤ lev f b r a then lev f b r a else if ((elems (f a)).take j).any (fun x => lev f b r x == (r : Int)) = true then (r : Int) + 1 else -1
def midv (f : Nat → Nat) (b r a j x : Nat) : Int := if x < a then lev f b (r + 1) x else if x = a then cur f b r a j else lev f b r x
def mid (f : Nat → Nat) (b m r a j : Nat) : List Int := (List.range m).map (midv f b r a j)
theorem mid_len (r a j : Nat) : (mid f b m r a j).length = m := by simp [mid]
theorem mid_get {r a j x : Nat} (hx : x < m) : (mid f b m r a j)[x]? = some (midv f b r a j x) := by
  unfold mid
  rw [List.getElem?_map, List.getElem?_range hx]; rfl
theorem cur_zero (r a : Nat) : cur f b r a 0 = lev f b r a := by
  unfold cur
  have := lev_range (f := f) (b := b) r a
  split
  · rfl
  · simp; omega
theorem cur_all (r a : Nat) : cur f b r a (elems (f a)).length = lev f b (r + 1) a := by
  unfold cur
  rw [List.take_length]; rfl
theorem cur_range (r a j : Nat) : -1 ≤ cur f b r a j ∧ cur f b r a j ≤ (r : Int) + 1 := by
  have := lev_range (f := f) (b := b) r a
  unfold cur
  split
  · omega
  · split <;> omega
theorem midv_range (r a j x : Nat) : -1 ≤ midv f b r a j x ∧ midv f b r a j x ≤ (r : Int) + 1 := by
  have h1 := lev_range (f := f) (b := b) r x
  have h2 := lev_range (f := f) (b := b) (r + 1) x
  have h3 := cur_range (f := f) (b := b) r a j
  unfold midv
  split
  · omega
  · split
    · exact h3
    · omega
theorem mid_player (r a : Nat) : mid f b m r a (elems (f a)).length = mid f b m r (a + 1) 0 := by
  unfold mid
  refine List.map_congr_left fun x hx => ?_
  unfold midv
  by_cases h1 : x < a
  · rw [if_pos h1, if_pos (by omega)]
  · rw [if_neg h1]
    by_cases h2 : x = a
    · rw [if_pos h2, if_pos (by omega), cur_all, h2]
    · rw [if_neg h2, if_neg (by omega)]
      by_cases h3 : x = a + 1
      · rw [if_pos h3, cur_zero, h3]
      · rw [if_neg h3]
theorem mid_start (r : Nat) : mid f b m r 0 0 = (List.range m).map (lev f b r) := by
  unfold mid
  refine List.map_congr_left fun x hx => ?_
  unfold midv
  rw [if_neg (Nat.not_lt_zero _)]
  by_cases h2 : x = 0
  · rw [if_pos h2, cur_zero, h2]
  · rw [if_neg h2]
theorem mid_round (r : Nat) : mid f b m r m 0 = mid f b m (r + 1) 0 0 := by
  rw [mid_start]
  unfold mid
  refine List.map_congr_left fun x hx => ?_
  unfold midv
  rw [if_pos (List.mem_range.1 hx)]
theorem mid_first (hb : b < m) : mid f b m 0 0 0 = (List.replicate m (-1 : Int)).set b 0 := by
  rw [mid_start]
  apply List.ext_getElem
  · simp
  · intro k h1 h2
    rw [List.getElem_map, List.getElem_range, List.getElem_set]
    show (if k = b then (0 : Int) else -1) = _
    by_cases h : k = b
    · rw [if_pos h, if_pos h.symm]
    · rw [if_neg h, if_neg (fun e => h e.symm)]; simp
theorem any_take_succ {α : Type} (p : α → Bool) : ∀ (E : List α) (j : Nat) (c : α), E[j]? = some c → (E.take (j + 1)).any p = ((E.take j).any p || p c) := by
  intro E j c h
  rw [List.take_add_one, h, List.any_append]
  simp
theorem lev_same {r c : Nat} : (lev f b (r + 1) c = (r : Int)) ↔ lev f b r c = (r : Int) := by
  by_cases h0 : 0 ≤ lev f b r c
  · rw [lev_stay h0]
  · constructor
    · intro h
      have := (lev_at (i := r) h).2
      omega
    · intro h; omega
theorem midv_is {r a j c : Nat} (h0 : lev f b r a < 0) (h1 : ((elems (f a)).take j).any (fun x => lev f b r x == (r : Int)) = false) : (midv f b r a j c = (r : Int)) ↔ lev f b r c = (r : Int) := by
  unfold midv
  by_cases hc : c < a
  · rw [if_pos hc]; exact lev_same
  · rw [if_neg hc]
    by_cases hc2 : c = a
    · rw [if_pos hc2]
      have : cur f b r a j = -1 := by unfold cur; rw [if_neg (by omega), h1]; rfl
      rw [this, hc2]
      omega
    · rw [if_neg hc2]
theorem midv_self (r a j : Nat) : midv f b r a j a = cur f b r a j := by unfold midv; rw [if_neg (Nat.lt_irrefl _), if_pos rfl]
theorem cur_neg {r a j : Nat} (h : cur f b r a j < 0) : lev f b r a < 0 ∧ ((elems (f a)).take j).any (fun x => lev f b r x == (r : Int)) = false := by
  unfold cur at h
  split at h
  · omega
  · split at h
    · omega
    · rename_i h1 h2
      exact ⟨by omega, by simpa using h2⟩
theorem mid_cur {r a j j2 : Nat} (h : cur f b r a j2 = cur f b r a j) : mid f b m r a j2 = mid f b m r a j := by
  unfold mid
  refine List.map_congr_left fun x hx => ?_
  unfold midv
  rw [h]
theorem mid_yes {r a j c : Nat} (ha : a < m) (hj : (elems (f a))[j]? = some c) (h1 : midv f b r a j a < 0) (h2 : midv f b r a j c = (r : Int)) : (mid f b m r a j).set a ((r : Int) + 1) = mid f b m r a (j + 1) := by
  rw [midv_self] at h1
  obtain ⟨h3, h4⟩ := cur_neg h1
  have h5 := (midv_is h3 h4).1 h2
  have h6 : cur f b r a (j + 1) = (r : Int) + 1 := by
    unfold cur
    rw [if_neg (by omega), any_take_succ _ _ _ _ hj, h4, h5]
    simp
  apply List.ext_getElem?
  intro k
  rw [List.getElem?_set, mid_len]
  by_cases hk : a = k
  · subst hk
    rw [if_pos rfl, if_pos ha, mid_get ha, midv_self, h6]
  · rw [if_neg hk]
    unfold mid
    rw [List.getElem?_map, List.getElem?_map]
    by_cases hkm : k < m
    · rw [List.getElem?_range hkm]
      simp only [Option.map_some]
      unfold midv
      rw [if_neg (c := k = a) (fun e => hk e.symm), if_neg (c := k = a) (fun e => hk e.symm)]
    · rw [List.getElem?_eq_none (by simp; omega)]; rfl
theorem mid_no1 {r a j : Nat} (h1 : ¬ midv f b r a j a < 0) : mid f b m r a (j + 1) = mid f b m r a j := by
  rw [midv_self] at h1
  refine mid_cur ?_
  unfold cur at h1 ⊢
  by_cases h0 : 0 ≤ lev f b r a
  · rw [if_pos h0, if_pos h0]
  · rw [if_neg h0] at h1 ⊢
    rw [if_neg h0]
    by_cases h2 : ((elems (f a)).take j).any (fun x => lev f b r x == (r : Int)) = true
    · rw [if_pos h2, if_pos]
      rw [List.any_eq_true] at h2 ⊢
      obtain ⟨x, hx, hp⟩ := h2
      exact ⟨x, (List.take_subset_take_left _ (Nat.le_succ j)) hx, hp⟩
    · rw [if_neg h2] at h1; omega
theorem mid_no2 {r a j c : Nat} (hj : (elems (f a))[j]? = some c) (h1 : midv f b r a j a < 0) (h2 : ¬ midv f b r a j c = (r : Int)) : mid f b m r a (j + 1) = mid f b m r a j := by
  rw [midv_self] at h1
  obtain ⟨h3, h4⟩ := cur_neg h1
  refine mid_cur ?_
  have h5 : (lev f b r c == (r : Int)) = false := by
    rw [beq_eq_false_iff_ne]
    exact fun h => h2 ((midv_is h3 h4).2 h)
  unfold cur
  have h6 : ¬ 0 ≤ lev f b r a := by omega
  rw [if_neg h6, if_neg h6, any_take_succ _ _ _ _ hj, h4, h5]
  simp
end
end Hw
end Go.Proofs.Ytnlpfajncpbjpaa
