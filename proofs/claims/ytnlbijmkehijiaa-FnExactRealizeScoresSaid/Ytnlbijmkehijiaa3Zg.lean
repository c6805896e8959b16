/-
  Plain facts on a round of the model's RealizeScores. No program.
-/
import Derived.Test.Ytnlbijmkehijiaa3Z
namespace Go.Proofs.Ytnlbijmkehijiaa.Tmpm
open List
set_option linter.unusedVariables false

theorem ext_getD {α : Type} (d : α) {l l' : List α} (hl : l.length = l'.length) (h : ∀ i, i < l.length → l.getD i d = l'.getD i d) : l = l' := by
  apply List.ext_getElem hl
  intro i h1 h2
  have := h i h1
  rw [List.getD_eq_getElem?_getD, List.getD_eq_getElem?_getD, List.getElem?_eq_getElem h1, List.getElem?_eq_getElem h2] at this
  exact this
/-- A row of which those in D below x are turned. -/
def mid {α : Type} (d : α) (f : α → α) (D : List Nat) (L : List α) (x : Nat) : List α := (List.range L.length).map fun i => if i < x ∧ i ∈ D then f (L.getD i d) else L.getD i d
section
variable {α : Type} {d : α} {f : α → α} {D : List Nat} {L : List α}
theorem mid_len (x : Nat) : (mid d f D L x).length = L.length := by simp [mid]
theorem mid_at (x i : Nat) (h : i < L.length) : (mid d f D L x).getD i d = if i < x ∧ i ∈ D then f (L.getD i d) else L.getD i d := by
  unfold mid
  rw [List.getD_eq_getElem?_getD, List.getElem?_map, List.getElem?_range h]
  rfl
theorem mid_zero : mid d f D L 0 = L := ext_getD d (mid_len 0) (fun i hi => by rw [mid_len] at hi; rw [mid_at 0 i hi, if_neg (by omega)])
theorem mid_here (x : Nat) (h : x < L.length) : (mid d f D L x).getD x d = L.getD x d := by rw [mid_at x x h, if_neg (by omega)]
theorem mid_yes (x : Nat) (h : x < L.length) (hx : x ∈ D) : (mid d f D L x).set x (f (L.getD x d)) = mid d f D L (x + 1) := by
  refine ext_getD d (by rw [List.length_set, mid_len, mid_len]) (fun i hi => ?_)
  rw [List.length_set, mid_len] at hi
  rw [getD_set _ _ _ _ _ (by rw [mid_len]; exact h), mid_at _ _ hi, mid_at _ _ hi]
  by_cases e : x = i
  · subst e; rw [if_pos rfl, if_pos ⟨by omega, hx⟩]
  · rw [if_neg e]
    have : (i < x ∧ i ∈ D) = (i < x + 1 ∧ i ∈ D) := by apply propext; constructor <;> rintro ⟨h1, h2⟩ <;> exact ⟨by omega, h2⟩
    simp only [this]
theorem mid_no (x : Nat) (hx : x ∉ D) : mid d f D L x = mid d f D L (x + 1) := by
  refine ext_getD d (by rw [mid_len, mid_len]) (fun i hi => ?_)
  rw [mid_len] at hi
  rw [mid_at _ _ hi, mid_at _ _ hi]
  have : (i < x ∧ i ∈ D) = (i < x + 1 ∧ i ∈ D) := by
    apply propext
    constructor
    · rintro ⟨h1, h2⟩; exact ⟨by omega, h2⟩
    · rintro ⟨h1, h2⟩
      refine ⟨?_, h2⟩
      rcases Nat.lt_or_ge i x with h3 | h3
      · exact h3
      · exact absurd (by rw [show x = i by omega]; exact h2) hx
  simp only [this]
end
theorem innr_a_hi {a s n : Nat} {T : List Nat} {L : List Int} {W : List Nat} (ha : a ∉ T) (hlt : ∀ x ∈ T, x < n) (hW : W.length = n) (i : Nat) (hi : s + i ≤ T.length) : (innr a s T L W (s + i)).2.getD a 0 = (innr a s T L W s).2.getD a 0 := by
  induction i with
  | zero => rfl
  | succ i ih =>
    have hiT : s + i < T.length := by omega
    have hb : T.getD (s + i) 0 = T[s + i] := by rw [List.getD_eq_getElem?_getD, List.getElem?_eq_getElem hiT]; rfl
    rw [show s + (i + 1) = (s + i) + 1 by omega, innr, if_neg (by omega), getD_set _ _ _ _ _ (by rw [innr_len2, hW, hb]; exact hlt _ (List.getElem_mem hiT)), hb, if_neg (fun e => ha (by rw [← e]; exact List.getElem_mem hiT))]
    exact ih (by omega)
theorem midL_all {a s n : Nat} {T : List Nat} {L : List Int} {W : List Nat} (hT : T.Nodup) (hlt : ∀ x ∈ T, x < n) (hL : L.length = n) : mid 0 (· - 1) (T.drop s) L n = (innr a s T L W T.length).1 := by
  refine ext_getD 0 (by rw [mid_len, innr_len1]) (fun i hi => ?_)
  rw [mid_len] at hi
  rw [mid_at _ _ hi, innr_at1 hT hlt hL i _ (Nat.le_refl _), List.take_length]
  have : (i < n ∧ i ∈ T.drop s) = (i ∈ T.drop s) := by apply propext; exact ⟨fun h => h.2, fun h => ⟨by omega, h⟩⟩
  simp only [this]
theorem midY_all {a s n : Nat} {T : List Nat} {L : List Int} {W : List Nat} (hT : T.Nodup) (ha : a ∉ T) (han : a < n) (hlt : ∀ x ∈ T, x < n) (hW : W.length = n) (hs : s ≤ T.length) : mid 0 (· ||| 2 ^ a) (T.drop s) (innr a s T L W s).2 n = (innr a s T L W T.length).2 := by
  refine ext_getD 0 (by rw [mid_len, innr_len2, innr_len2]) (fun i hi => ?_)
  rw [mid_len] at hi
  rw [mid_at _ _ hi]
  rw [innr_len2, hW] at hi
  by_cases e : i = a
  · subst e
    rw [if_neg (fun h => ha (List.mem_of_mem_drop h.2))]
    have := innr_a_hi (s := s) (L := L) ha hlt hW (T.length - s) (by omega)
    rw [show s + (T.length - s) = T.length by omega] at this
    exact this.symm
  · rw [innr_at2 hT ha han hlt hW i e s hs, innr_at2 hT ha han hlt hW i e T.length (Nat.le_refl _), List.take_length]
    have h0 : i ∉ (T.take s).drop s := by
      have : (T.take s).drop s = [] := by rw [List.drop_eq_nil_iff, List.length_take]; omega
      rw [this]; simp
    rw [if_neg h0]
    have : (i < n ∧ i ∈ T.drop s) = (i ∈ T.drop s) := by apply propext; exact ⟨fun h => h.2, fun h => ⟨by omega, h⟩⟩
    simp only [this]
theorem dnL_perm {n : Nat} {P Q : List Nat} (h : Q ~ P) : dnL n P = dnL n Q := by
  unfold dnL
  apply List.map_congr_left
  intro x _
  have : P.contains x = Q.contains x := by
    rw [Bool.eq_iff_iff, List.contains_iff_mem, List.contains_iff_mem]; exact h.mem_iff.symm
  rw [this]
theorem dnL_all (n : Nat) : dnL n (List.range n) = List.replicate n false := by
  refine ext_getD false (by simp [dnL]) (fun i hi => ?_)
  rw [dnL_len] at hi
  rw [dnL_at _ _ _ hi, List.getD_eq_getElem?_getD, List.getElem?_replicate, if_pos hi]
  simp [hi]
theorem innr_lo2 {a s n : Nat} {T : List Nat} {L : List Int} {W : List Nat} (hT : T.Nodup) (ha : a ∉ T) (han : a < n) (hlt : ∀ x ∈ T, x < n) (hW : W.length = n) (x : Nat) (hx : x ∈ T) : (innr a s T L W s).2.getD x 0 = W.getD x 0 ∨ T.length < s := by
  rcases Nat.lt_or_ge T.length s with h | h
  · exact .inr h
  · refine .inl ?_
    rw [innr_at2 hT ha han hlt hW x (fun e => ha (e ▸ hx)) s h]
    have : (T.take s).drop s = [] := by rw [List.drop_eq_nil_iff, List.length_take]; omega
    rw [this]; simp
end Go.Proofs.Ytnlbijmkehijiaa.Tmpm
