/-
  A row of rows whose last row is made longer; what the model's groups hold. No conditions.
-/
import Derived.Test.YtmeojedfokahmaaGE
namespace Go.Proofs.Ytmeojedfokahmaa
open Go.ChangeShapes Go.WideShapes Go.ChangeAt Go.RowKit Go.Sort
set_option linter.unusedVariables false

theorem getD_snoc_l {α : Type} (L : List α) (x d : α) {i : Nat} (h : i < L.length) : (L ++ [x]).getD i d = L.getD i d := by
  rw [List.getD_eq_getElem?_getD, List.getD_eq_getElem?_getD, List.getElem?_append_left h]
theorem getD_snoc_r {α : Type} (L : List α) (x d : α) {i : Nat} (h : i = L.length) : (L ++ [x]).getD i d = x := by
  rw [List.getD_eq_getElem?_getD, h, List.getElem?_append_right (Nat.le_refl _)]; simp

theorem OwnSS.more {W W1 W2 : World} {B G c gl cl g2 c2 : Nat} {gs : List (Nat × Nat)} {Ls : List (List Int)} {T T2 : List Int}
    (h : OwnSS W B (some ⟨G, 0, none⟩) c (gs ++ [(gl, cl)]) (Ls ++ [T])) (hg1 : W.grownBy W1 none) (hg2 : W1.grownBy W2 (some gl))
    (ho : W2.ownsRow B 3 1 (.slice (some ⟨g2, 0, none⟩) T2.length c2) T2.length (T2.map iv)) (hT2 : 0 < T2.length)
    (hne : ∀ j, j < Ls.length → 0 < (Ls.getD j []).length ∧ (Ls.getD j []).getD 0 0 ≠ T2.getD 0 0) :
    OwnSS (W2.setCell ⟨G, Ls.length, none⟩ (.slice (some ⟨g2, 0, none⟩) T2.length c2)) B (some ⟨G, 0, none⟩) c (gs ++ [(g2, c2)]) (Ls ++ [T2]) ∧ W2.grownBy (W2.setCell ⟨G, Ls.length, none⟩ (.slice (some ⟨g2, 0, none⟩) T2.length c2)) (some G) := by
  have hl1 : (Ls ++ [T]).length = Ls.length + 1 := by simp
  have hl2 : (Ls ++ [T2]).length = Ls.length + 1 := by simp
  have hgl : gs.length = Ls.length := by have := h.len; simp at this; exact this
  have hlast : (gs ++ [(gl, cl)]).getD Ls.length (0, 0) = (gl, cl) := getD_snoc_r _ _ _ hgl.symm
  have hGgl : G ≠ gl := by
    have := h.apart Ls.length (by rw [hl1]; omega)
    rw [hlast] at this
    intro e
    exact this (by simp [blk, e])
  have o1 := own_grE h.out hg1 (fun k _ e => by cases e)
  have o2 := own_grE o1 hg2 (fun k hk e => by cases e; exact hGgl (by simpa [blk] using hk))
  have hsvl : (svs (gs ++ [(gl, cl)]) (Ls ++ [T])) = svs gs Ls ++ [sv (gl, cl) T] := svs_snoc hgl _ _
  have hst := o2.stored Ls.length (sv (g2, c2) T2)
  have hset : (svs (gs ++ [(gl, cl)]) (Ls ++ [T])).set Ls.length (sv (g2, c2) T2) = svs (gs ++ [(g2, c2)]) (Ls ++ [T2]) := by
    rw [hsvl, svs_snoc hgl, List.set_append_right _ _ (by rw [svs_len hgl]; exact Nat.le_refl _), svs_len hgl, Nat.sub_self]
    rfl
  rw [hset] at hst
  have hsvv : sv (g2, c2) T2 = .slice (some ⟨g2, 0, none⟩) T2.length c2 := rfl
  rw [hsvv] at hst
  have in2 : ∀ i, i < Ls.length → W2.ownsRow B 3 1 (sv (gs.getD i (0, 0)) (Ls.getD i [])) (Ls.getD i []).length ((Ls.getD i []).map iv) ∧ G ≠ (gs.getD i (0, 0)).1 := by
    intro i hi
    have h1 := h.inn i (by rw [hl1]; omega)
    have h2 := h.nd i Ls.length (by rw [hl1]; omega) (by rw [hl1]; omega) (by omega)
    have h3 := h.apart i (by rw [hl1]; omega)
    rw [getD_snoc_l gs _ _ (by omega), getD_snoc_l Ls _ _ hi] at h1
    rw [hlast, getD_snoc_l gs _ _ (by omega)] at h2
    rw [getD_snoc_l gs _ _ (by omega)] at h3
    refine ⟨own_grE (own_grE h1 hg1 (fun k _ e => by cases e)) hg2 (fun k hk e => by cases e; exact h2 (by simpa [blk] using hk)), fun e => h3 (by simp [blk, e])⟩
  have hc0 : W2.cell? ⟨g2, 0, none⟩ = some (iv (T2.getD 0 0)) := cell_own ho hT2
  have hG2 : g2 ≠ G := by
    rintro rfl
    have h1 : W2.cell? ⟨g2, 0, none⟩ = (svs (gs ++ [(gl, cl)]) (Ls ++ [T]))[0]? := o2.cellAt 0 (by rw [hl1]; omega)
    rw [hc0, svs_at h.len 0 (by rw [hl1]; omega)] at h1
    simp [iv, sv] at h1
  refine ⟨⟨by simp [hgl], ?_, fun i hi => ?_, fun i j hi hj hij => ?_⟩, hst.2⟩
  · have := hst.1
    rw [hl1] at this
    rw [hl2]
    exact this
  · rw [hl2] at hi
    rcases Nat.lt_or_ge i Ls.length with hil | hil
    · rw [getD_snoc_l gs _ _ (by omega), getD_snoc_l Ls _ _ hil]
      exact own_grE (in2 i hil).1 hst.2 (fun k hk e => by cases e; exact (in2 i hil).2 (by simpa [blk] using hk.symm))
    · obtain rfl : i = Ls.length := by omega
      rw [getD_snoc_r gs _ _ hgl.symm, getD_snoc_r Ls _ _ rfl]
      exact own_grE ho hst.2 (fun k hk e => by cases e; exact hG2 (by simpa [blk] using hk))
  · rw [hl2] at hi hj
    have key : ∀ i, i < Ls.length → (gs.getD i (0, 0)).1 ≠ g2 := fun i hil e => by
      obtain ⟨hp, hh⟩ := hne i hil
      have h1 : W2.cell? ⟨(gs.getD i (0, 0)).1, 0, none⟩ = some (iv ((Ls.getD i []).getD 0 0)) := cell_own (in2 i hil).1 hp
      rw [e, hc0] at h1
      simp only [iv, Option.some.injEq, Value.int.injEq, true_and] at h1
      exact hh h1.symm
    rcases Nat.lt_or_ge i Ls.length with hil | hil
    · rw [getD_snoc_l gs _ _ (by omega)]
      rcases Nat.lt_or_ge j Ls.length with hjl | hjl
      · rw [getD_snoc_l gs _ _ (by omega)]
        have := h.nd i j (by rw [hl1]; omega) (by rw [hl1]; omega) hij
        rw [getD_snoc_l gs _ _ (by omega), getD_snoc_l gs _ _ (by omega)] at this
        exact this
      · obtain rfl : j = Ls.length := by omega
        rw [getD_snoc_r gs _ _ hgl.symm]; exact key i hil
    · obtain rfl : i = Ls.length := by omega
      rw [getD_snoc_r gs _ _ hgl.symm, getD_snoc_l gs _ _ (by omega)]
      exact fun e => key j (by omega) e.symm

/-! The model's groups of the first indices. -/
def grp (l : List Int) (O : List Nat) (k : Nat) : List (List Nat) := (O.take k).foldl (stepM l) []
theorem grp_succ (l : List Int) (O : List Nat) {k : Nat} (h : k < O.length) : grp l O (k + 1) = stepM l (grp l O k) (O.getD k 0) := by
  unfold grp
  rw [List.take_add_one, List.foldl_append, List.getD_eq_getElem?_getD, List.getElem?_eq_getElem h]
  rfl
theorem grp_all {l : List Int} {O : List Nat} : grp l O O.length = lvlF l O := by
  unfold grp
  rw [List.take_length, fold_lvl l O.length O [] (Nat.le_refl _) (fun x r _ => .inl rfl), List.nil_append]
theorem grp_flat (l : List Int) (O : List Nat) : ∀ k, k ≤ O.length → (grp l O k).flatten = O.take k ∧ ∀ T ∈ grp l O k, T ≠ []
  | 0, _ => by simp [grp]
  | k + 1, h => by
    obtain ⟨h1, h2⟩ := grp_flat l O k (by omega)
    rw [grp_succ l O (by omega)]
    have hO : O.take (k + 1) = O.take k ++ [O.getD k 0] := by
      rw [List.take_add_one, List.getD_eq_getElem?_getD, List.getElem?_eq_getElem (by omega : k < O.length)]; rfl
    generalize grp l O k = out at h1 h2 ⊢
    rw [hO, ← h1]
    unfold stepM
    split
    · rename_i hc
      obtain ⟨I, T, rfl⟩ : ∃ I T, out = I ++ [T] := ⟨out.dropLast, out.getLast hc.1, (List.dropLast_concat_getLast hc.1).symm⟩
      refine ⟨by simp, ?_⟩
      intro U hU
      simp only [List.dropLast_concat, List.getLastD_concat, List.mem_append, List.mem_singleton] at hU
      rcases hU with hU | rfl
      · exact h2 U (List.mem_append_left _ hU)
      · simp
    · refine ⟨by simp, ?_⟩
      intro U hU
      rcases List.mem_append.1 hU with hU | hU
      · exact h2 U hU
      · rw [List.mem_singleton] at hU; rw [hU]; simp
/-- The heads of the groups differ. -/
theorem heads_differ {Ls : List (List Nat)} {T : List Nat} (hn : (Ls ++ [T]).flatten.Nodup) (he : ∀ U ∈ Ls ++ [T], U ≠ []) {j : Nat} (hj : j < Ls.length) : 0 < (Ls.getD j []).length ∧ (Ls.getD j []).getD 0 0 ≠ T.getD 0 0 := by
  have hm : Ls.getD j [] ∈ Ls := by
    rw [List.getD_eq_getElem?_getD, List.getElem?_eq_getElem hj]; exact List.getElem_mem _
  have h1 := he _ (List.mem_append_left _ hm)
  have h2 := he T (by simp)
  generalize Ls.getD j [] = U at hm h1 ⊢
  refine ⟨List.length_pos_iff.2 h1, ?_⟩
  rw [List.flatten_append, List.nodup_append] at hn
  obtain ⟨_, _, h3⟩ := hn
  cases U with
  | nil => exact absurd rfl h1
  | cons u U =>
    cases T with
    | nil => exact absurd rfl h2
    | cons t T =>
      exact h3 u (List.mem_flatten.2 ⟨u :: U, hm, by simp⟩) t (by simp)
end Go.Proofs.Ytmeojedfokahmaa
