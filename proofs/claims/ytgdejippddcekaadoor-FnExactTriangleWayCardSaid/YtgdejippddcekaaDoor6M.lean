/-
  The triangles as the iterator gives them, game by game, are all triangles in their order (mathematics). Condition: the tour is valid.
-/
import Derived.Test.YtgdejippddcekaaDoor6B
import Derived.Test.YtgdejippddcekaaDoorWc
namespace Go.Proofs.YtgdejippddcekaaDoor
open Go.ChangeShapes Go.WideShapes Go.ChangeAt Go.RowKit
set_option linter.unusedVariables false

theorem flatMap_filter {α β : Type} (p : α → Bool) (f : α → List β) (L : List α) : (L.filter p).flatMap f = L.flatMap fun b => if p b then f b else [] := by
  induction L with
  | nil => rfl
  | cons x L ih =>
    by_cases h : p x <;> simp [h, ih]
/-- Those whom b beats, in order. -/
def losN (l : List Int) (b : Nat) : List Nat := (List.range l.length).filter fun c => bt l b c
theorem losers_losN (l : List Int) (b : Nat) : (losers l.length l b).map Fin.val = losN l b := by
  unfold losers losN
  rw [← show (List.finRange l.length).map Fin.val = List.range l.length from List.ext_getElem (by simp) (by intro i h1 h2; simp), List.filter_map]
  rfl
def triP (l : List Int) (a b c : Nat) : Bool := decide (a < min b c) && bt l c a
/-- The triangles of one game. -/
def triG (l : List Int) (a b : Nat) : List (List Int) := ((losN l b).filter (triP l a b)).map (t3 a b)
/-- .. and those of its first j thirds. -/
def triJ (l : List Int) (a b j : Nat) : List (List Int) := (((losN l b).take j).filter (triP l a b)).map (t3 a b)
theorem triJ_zero (l : List Int) (a b : Nat) : triJ l a b 0 = [] := rfl
theorem triJ_all (l : List Int) (a b : Nat) : triJ l a b (losN l b).length = triG l a b := by unfold triJ triG; rw [List.take_length]
theorem triJ_yes (l : List Int) (a b j c : Nat) (hc : (losN l b)[j]? = some c) (h : triP l a b c = true) : triJ l a b (j + 1) = triJ l a b j ++ [t3 a b c] := by
  unfold triJ
  rw [take_snoc _ j c hc, List.filter_append, List.map_append]
  simp [h]
theorem triJ_no (l : List Int) (a b j c : Nat) (hc : (losN l b)[j]? = some c) (h : triP l a b c = false) : triJ l a b (j + 1) = triJ l a b j := by
  unfold triJ
  rw [take_snoc _ j c hc, List.filter_append, List.map_append]
  simp [h]
theorem triJ_split (l : List Int) (a b j : Nat) : ∃ rest, triG l a b = triJ l a b j ++ rest := by
  refine ⟨(((losN l b).drop j).filter (triP l a b)).map (t3 a b), ?_⟩
  unfold triG triJ
  rw [← List.map_append, ← List.filter_append, List.take_append_drop]
/-- The triangles of the first games. -/
def triN {m : Nat} (l : List Int) (pre : List (Pl m)) : List (List Int) := pre.flatMap fun x => triG l x.1.val x.2.val
theorem triN_snoc {m : Nat} (l : List Int) (pre : List (Pl m)) (x : Pl m) : triN l (pre ++ [x]) = triN l pre ++ triG l x.1.val x.2.val := by
  simp [triN, List.flatMap_append]
theorem Ok.self {n : Int} {l : List Int} (h : Ok n l) {b : Nat} (hb : b < l.length) : bt l b b = false := (h.2.2.2 b hb).2.1
theorem triG_eq {n : Int} {l : List Int} (h : Ok n l) (a b : Nat) (hb : b < l.length) : (if bt l a b then triG l a b else []) = if a < b then triC l a b l.length else [] := by
  by_cases hab : a < b
  · rw [if_pos hab]
    unfold triC
    by_cases h1 : bt l a b
    · rw [if_pos h1]
      unfold triG losN
      rw [List.filter_filter]
      congr 1
      apply List.filter_congr
      intro c hc
      unfold triP trB
      rw [h1]
      by_cases hcb : c = b
      · subst hcb
        rw [h.self hb]; simp
      · have e1 : (c == b) = false := by simpa using hcb
        have e2 : decide (a < min b c) = decide (a < c) := by
          rw [decide_eq_decide]; omega
        rw [e1, e2]
        cases bt l b c <;> cases bt l c a <;> simp
    · rw [if_neg h1]
      symm
      rw [List.map_eq_nil_iff, List.filter_eq_nil_iff]
      intro c _
      simp [trB, h1]
  · rw [if_neg hab]
    have : triG l a b = [] := by
      unfold triG
      rw [List.map_eq_nil_iff, List.filter_eq_nil_iff]
      intro c _
      unfold triP
      rw [show decide (a < min b c) = false from by rw [decide_eq_false_iff_not]; omega]
      simp
    rw [this]; split <;> rfl
theorem flatMap_congr2 {α β : Type} {L : List α} {f g : α → List β} (h : ∀ x ∈ L, f x = g x) : L.flatMap f = L.flatMap g := by
  induction L with
  | nil => rfl
  | cons x L ih => simp only [List.flatMap_cons]; rw [h x (by simp), ih (fun y hy => h y (by simp [hy]))]
theorem fin_range {β : Type} (m : Nat) (f : Nat → List β) : (List.finRange m).flatMap (fun a => f a.val) = (List.range m).flatMap f := by
  rw [← show (List.finRange m).map Fin.val = List.range m from List.ext_getElem (by simp) (by intro i h1 h2; simp), List.flatMap_map]
/-- All games: all triangles. -/
theorem triN_all {n : Int} {l : List Int} (h : Ok n l) : triN l (gamesL l.length l) = triL l := by
  unfold triN gamesL gamesTo triL triA
  rw [List.take_of_length_le (by simp), List.flatMap_assoc, ← fin_range l.length (fun x => triB l x l.length)]
  apply flatMap_congr2
  intro a _
  unfold rowG losers
  rw [List.flatMap_map, flatMap_filter]
  unfold triB
  rw [← fin_range l.length]
  apply flatMap_congr2
  intro b _
  have := triG_eq h a.val b.val b.isLt
  simpa using this
theorem triN_split {n : Int} {l : List Int} (h : Ok n l) {pre : List (Pl l.length)} {x : Pl l.length} {rest : List (Pl l.length)} (he : gamesL l.length l = pre ++ x :: rest) (j : Nat) : ∃ more, triL l = triN l pre ++ triJ l x.1.val x.2.val j ++ more := by
  obtain ⟨r1, h1⟩ := triJ_split l x.1.val x.2.val j
  refine ⟨r1 ++ triN l rest, ?_⟩
  rw [← triN_all h, he]
  simp only [triN, List.flatMap_append, List.flatMap_cons]
  rw [h1]
  simp
end Go.Proofs.YtgdejippddcekaaDoor
