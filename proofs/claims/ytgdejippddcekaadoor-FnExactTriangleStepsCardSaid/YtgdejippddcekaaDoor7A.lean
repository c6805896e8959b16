/-
  A search by breadth: what has been found, in order, with its distance; what holds of it (mathematics). No conditions but those named.
-/
import Derived.Lib.Hide
namespace Go.Proofs.YtgdejippddcekaaDoor
set_option linter.unusedVariables false

namespace Bf
variable {α : Type} [DecidableEq α]
abbrev Fd (α : Type) := List (α × Nat)
def stp (d : Nat) (D : Fd α) (x : α) : Fd α := if x ∈ D.map Prod.fst then D else D ++ [(x, d + 1)]
def run (d : Nat) (L : List α) (D : Fd α) : Fd α := L.foldl (stp d) D
def row (nb : α → List α) (D : Fd α) (i : Nat) : Fd α :=
  match D[i]? with
  | none => D
  | some p => run p.2 (nb p.1) D
def upto (nb : α → List α) (u : α) : Nat → Fd α
  | 0 => [(u, 0)]
  | k + 1 => row nb (upto nb u k) k

theorem stp_mem {d : Nat} {D : Fd α} {x : α} {p : α × Nat} (h : p ∈ D) : p ∈ stp d D x := by
  unfold stp; split
  · exact h
  · exact List.mem_append_left _ h
theorem run_mem {d : Nat} {L : List α} {D : Fd α} {p : α × Nat} (h : p ∈ D) : p ∈ run d L D := by
  unfold run
  induction L generalizing D with
  | nil => exact h
  | cons x L ih => exact ih (stp_mem h)
theorem run_cons (d : Nat) (x : α) (L : List α) (D : Fd α) : run d (x :: L) D = run d L (stp d D x) := rfl
theorem run_snoc (d : Nat) (x : α) (L : List α) (D : Fd α) : run d (L ++ [x]) D = stp d (run d L D) x := by simp [run]
/-- What a run adds: new ones at distance d + 1, behind all that were there. -/
theorem run_split (d : Nat) (L : List α) (D : Fd α) : ∃ A : Fd α, run d L D = D ++ A ∧ (∀ p ∈ A, p.2 = d + 1 ∧ p.1 ∈ L) := by
  induction L generalizing D with
  | nil => exact ⟨[], by simp [run], by simp⟩
  | cons x L ih =>
    rw [run_cons]
    obtain ⟨A, h1, h2⟩ := ih (stp d D x)
    unfold stp at h1 ⊢
    rw [h1]
    split
    · exact ⟨A, rfl, fun p hp => ⟨(h2 p hp).1, by simp [(h2 p hp).2]⟩⟩
    · refine ⟨(x, d + 1) :: A, by simp, fun p hp => ?_⟩
      rcases List.mem_cons.1 hp with rfl | hp
      · exact ⟨rfl, by simp⟩
      · exact ⟨(h2 p hp).1, by simp [(h2 p hp).2]⟩
theorem run_in {d : Nat} {L : List α} {D : Fd α} {x : α} (hx : x ∈ L) : x ∈ (run d L D).map Prod.fst := by
  induction L generalizing D with
  | nil => cases hx
  | cons y L ih =>
    rw [run_cons]
    rcases List.mem_cons.1 hx with rfl | h
    · have : x ∈ (stp d D x).map Prod.fst := by
        unfold stp; split
        · assumption
        · simp
      obtain ⟨p, hp, e⟩ := List.mem_map.1 this
      exact List.mem_map.2 ⟨p, run_mem hp, e⟩
    · exact ih h
theorem stp_nodup {d : Nat} {D : Fd α} {x : α} (h : (D.map Prod.fst).Nodup) : ((stp d D x).map Prod.fst).Nodup := by
  unfold stp; split
  · exact h
  · rename_i hx
    rw [List.map_append, List.nodup_append]
    refine ⟨h, by simp, ?_⟩
    intro a ha b hb
    simp only [List.map_cons, List.map_nil, List.mem_singleton] at hb
    rintro rfl
    rw [hb] at ha
    exact hx ha
theorem run_nodup {d : Nat} {L : List α} {D : Fd α} (h : (D.map Prod.fst).Nodup) : ((run d L D).map Prod.fst).Nodup := by
  induction L generalizing D with
  | nil => exact h
  | cons x L ih => rw [run_cons]; exact ih (stp_nodup h)

/-- What holds when k rows are done. -/
structure Inv (nb : α → List α) (u : α) (k : Nat) (D : Fd α) : Prop where
  first : D[0]? = some (u, 0)
  nodup : (D.map Prod.fst).Nodup
  sorted : ∀ i j (hi : i < D.length) (hj : j < D.length), i ≤ j → D[i].2 ≤ D[j].2
  near : ∀ i (hi : i < D.length) j (hj : j < D.length), k ≤ i + 1 → D[j].2 ≤ D[i].2 + 1
  done : ∀ i (hi : i < D.length), i < k → ∀ y ∈ nb D[i].1, ∃ d, (y, d) ∈ D ∧ d ≤ D[i].2 + 1
  back : ∀ y d, (y, d) ∈ D → 0 < d → ∃ p, (p, d - 1) ∈ D ∧ y ∈ nb p

omit [DecidableEq α] in
theorem inv_zero (nb : α → List α) (u : α) : Inv nb u 0 [(u, 0)] := by
  refine ⟨rfl, by simp, ?_, ?_, ?_, ?_⟩
  · intro i j hi hj _; simp at hi hj; subst hi hj; simp
  · intro i hi j hj _; simp at hi hj; subst hi hj; simp
  · intro i hi h; omega
  · intro y d h hd; simp at h; omega
theorem inv_row {nb : α → List α} {u : α} {k : Nat} {D : Fd α} (h : Inv nb u k D) (hk : k < D.length) : Inv nb u (k + 1) (row nb D k) := by
  have e : row nb D k = run D[k].2 (nb D[k].1) D := by unfold row; rw [List.getElem?_eq_getElem hk]
  rw [e]
  have hin : ∀ y ∈ nb D[k].1, y ∈ (run D[k].2 (nb D[k].1) D).map Prod.fst := fun y hy => run_in hy
  have hnd := run_nodup (d := D[k].2) (L := nb D[k].1) h.nodup
  obtain ⟨A, hA, hA2⟩ := run_split D[k].2 (nb D[k].1) D
  rw [hA] at hin hnd ⊢
  have hd : ∀ i (hi : i < (D ++ A).length), (i < D.length ∧ ∃ hi2 : i < D.length, (D ++ A)[i] = D[i]) ∨ (D.length ≤ i ∧ (D ++ A)[i].2 = D[k].2 + 1 ∧ (D ++ A)[i].1 ∈ nb D[k].1) := by
    intro i hi
    rcases Nat.lt_or_ge i D.length with h1 | h1
    · exact .inl ⟨h1, h1, List.getElem_append_left h1⟩
    · refine .inr ⟨h1, ?_⟩
      rw [List.getElem_append_right h1]
      exact hA2 _ (List.getElem_mem _)
  have hup : ∀ i (hi : i < D.length), D[i].2 ≤ D[k].2 + 1 := fun i hi => h.near k hk i hi (by omega)
  refine ⟨?_, hnd, ?_, ?_, ?_, ?_⟩
  · rw [List.getElem?_append_left (by omega)]; exact h.first
  · intro i j hi hj hij
    rcases hd i hi with ⟨h1, h1', e1⟩ | ⟨h1, e1, _⟩ <;> rcases hd j hj with ⟨h2, h2', e2⟩ | ⟨h2, e2, _⟩
    · rw [e1, e2]; exact h.sorted i j h1' h2' hij
    · rw [e1, e2]; exact hup i h1'
    · omega
    · rw [e1, e2]; exact Nat.le_refl _
  · intro i hi j hj hki
    rcases hd i hi with ⟨h1, h1', e1⟩ | ⟨h1, e1, _⟩ <;> rcases hd j hj with ⟨h2, h2', e2⟩ | ⟨h2, e2, _⟩
    · rw [e1, e2]; exact h.near i h1' j h2' (by omega)
    · rw [e1, e2]; have := h.sorted k i hk h1' (by omega); omega
    · rw [e1, e2]; have := hup j h2'; omega
    · rw [e1, e2]; omega
  · intro i hi hik y hy
    rcases Nat.lt_or_ge i k with h1 | h1
    · have hiD : i < D.length := by omega
      rw [List.getElem_append_left hiD] at hy ⊢
      obtain ⟨d, hd1, hd2⟩ := h.done i hiD h1 y hy
      exact ⟨d, List.mem_append_left _ hd1, hd2⟩
    · obtain rfl : i = k := by omega
      rw [List.getElem_append_left hk] at hy ⊢
      obtain ⟨p, hp, rfl⟩ := List.mem_map.1 (hin y hy)
      refine ⟨p.2, hp, ?_⟩
      rcases List.mem_append.1 hp with h2 | h2
      · obtain ⟨j, hj, rfl⟩ := List.mem_iff_getElem.1 h2
        exact hup j hj
      · exact Nat.le_of_eq (hA2 p h2).1
  · intro y d hyd hd0
    rcases List.mem_append.1 hyd with h2 | h2
    · obtain ⟨p, hp, hy⟩ := h.back y d h2 hd0
      exact ⟨p, List.mem_append_left _ hp, hy⟩
    · obtain ⟨e1, e2⟩ := hA2 _ h2
      simp only at e1 e2
      refine ⟨D[k].1, List.mem_append_left _ ?_, e2⟩
      rw [show d - 1 = D[k].2 from by omega]
      exact List.getElem_mem hk
theorem inv_upto (nb : α → List α) (u : α) (k : Nat) (h : ∀ j, j < k → j < (upto nb u j).length) : Inv nb u k (upto nb u k) := by
  induction k with
  | zero => exact inv_zero nb u
  | succ k ih => exact inv_row (ih (fun j hj => h j (by omega))) (h k (by omega))

/-- The distance of what has been found. -/
def dst (D : Fd α) (x : α) : Option Nat := (D.find? fun p => p.1 == x).map Prod.snd
theorem dst_some {D : Fd α} (hn : (D.map Prod.fst).Nodup) {x : α} {d : Nat} : dst D x = some d ↔ (x, d) ∈ D := by
  unfold dst
  induction D with
  | nil => simp
  | cons p D ih =>
    rw [List.map_cons, List.nodup_cons] at hn
    by_cases h : p.1 = x
    · have : (p.1 == x) = true := by simpa using h
      rw [show List.find? (fun q : α × Nat => q.1 == x) (p :: D) = some p from by simp [this]]
      constructor
      · intro e; simp at e; rw [← h, ← e]; exact List.mem_cons_self
      · intro hm
        rcases List.mem_cons.1 hm with e | hm
        · rw [← e]; rfl
        · exact absurd (List.mem_map.2 ⟨_, hm, h.symm⟩) hn.1
    · have : (p.1 == x) = false := by simpa using h
      rw [show List.find? (fun q : α × Nat => q.1 == x) (p :: D) = List.find? (fun q : α × Nat => q.1 == x) D from by simp [this], ih hn.2]
      constructor
      · exact fun hm => List.mem_cons_of_mem _ hm
      · intro hm
        rcases List.mem_cons.1 hm with e | hm
        · rw [← e] at h; exact absurd rfl h
        · exact hm
theorem dst_none {D : Fd α} {x : α} : dst D x = none ↔ x ∉ D.map Prod.fst := by
  unfold dst
  rw [Option.map_eq_none_iff, List.find?_eq_none]
  constructor
  · intro h hm
    obtain ⟨p, hp, e⟩ := List.mem_map.1 hm
    exact h p hp (by simpa using e)
  · intro h p hp e
    exact h (List.mem_map.2 ⟨p, hp, by simpa using e⟩)

/-- When all rows are done. -/
structure Fin (nb : α → List α) (u : α) (D : Fd α) : Prop where
  nodup : (D.map Prod.fst).Nodup
  zero : (u, 0) ∈ D
  next : ∀ x d, (x, d) ∈ D → ∀ y ∈ nb x, ∃ e, (y, e) ∈ D ∧ e ≤ d + 1
  back : ∀ y d, (y, d) ∈ D → 0 < d → ∃ p, (p, d - 1) ∈ D ∧ y ∈ nb p
omit [DecidableEq α] in
theorem fin_of {nb : α → List α} {u : α} {k : Nat} {D : Fd α} (h : Inv nb u k D) (hk : D.length ≤ k) : Fin nb u D := by
  refine ⟨h.nodup, List.mem_of_getElem? h.first, fun x d hx y hy => ?_, h.back⟩
  obtain ⟨i, hi, e⟩ := List.mem_iff_getElem.1 hx
  have h1 : D[i].1 = x := by rw [e]
  have h2 : D[i].2 = d := by rw [e]
  obtain ⟨d2, hd, hle⟩ := h.done i hi (by omega) y (by rw [h1]; exact hy)
  exact ⟨d2, hd, by omega⟩
/-- Among neighbors, distances differ by one at most; and a step nearer is there. -/
theorem Fin.near {nb : α → List α} {u : α} {D : Fd α} (h : Fin nb u D) (V : α → Prop) (hV : ∀ x d, (x, d) ∈ D → V x) (hs : ∀ x, V x → ∀ y ∈ nb x, x ∈ nb y) {x y : α} {d e : Nat} (hx : (x, d) ∈ D) (hy : (y, e) ∈ D) (hxy : y ∈ nb x) : d ≤ e + 1 := by
  obtain ⟨d2, h1, h2⟩ := h.next y e hy x (hs x (hV x d hx) y hxy)
  have e1 := (dst_some h.nodup).2 hx
  have e2 := (dst_some h.nodup).2 h1
  rw [e1] at e2
  simp only [Option.some.injEq] at e2
  omega
omit [DecidableEq α] in
theorem Fin.step {nb : α → List α} {u : α} {D : Fd α} (h : Fin nb u D) (V : α → Prop) (hV : ∀ x d, (x, d) ∈ D → V x) (hs : ∀ x, V x → ∀ y ∈ nb x, x ∈ nb y) {x : α} {d : Nat} (hx : (x, d + 1) ∈ D) : ∃ p ∈ nb x, (p, d) ∈ D := by
  obtain ⟨p, h1, h2⟩ := h.back x (d + 1) hx (by omega)
  exact ⟨p, hs p (hV p _ h1) x h2, h1⟩
/-- Whatever is closed under neighbors and has the first has all. -/
theorem upto_all {nb : α → List α} {u : α} (V : α → Prop) (hu : V u) (hn : ∀ x, V x → ∀ y ∈ nb x, V y) (k : Nat) : ∀ p ∈ upto nb u k, V p.1 := by
  induction k with
  | zero => intro p hp; simp [upto] at hp; rw [hp]; exact hu
  | succ k ih =>
    intro p hp
    unfold upto row at hp
    split at hp
    · exact ih p hp
    · rename_i q hq
      obtain ⟨A, hA, hA2⟩ := run_split q.2 (nb q.1) (upto nb u k)
      rw [hA] at hp
      rcases List.mem_append.1 hp with h | h
      · exact ih p h
      · exact hn q.1 (ih q (List.mem_of_getElem? hq)) _ (hA2 p h).2
end Bf
end Go.Proofs.YtgdejippddcekaaDoor
