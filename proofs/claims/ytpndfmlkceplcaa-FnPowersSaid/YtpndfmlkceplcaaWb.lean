/-
  The laws' own functions on slices of slices: equal, marked, held. Conditions: at most 4096 rows of at most 4096 numbers.
-/
import Derived.Test.YtpndfmlkceplcaaWa
namespace Go.Proofs.Ytpndfmlkceplcaa
open Go.ChangeShapes Go.WideShapes Go.ChangeAt Go.RowKit
set_option linter.unusedVariables false

def sumLs (Ls : List (List Int)) : Nat := (Ls.map List.length).sum
theorem sumLs_succ (Ls : List (List Int)) (i : Nat) (h : i < Ls.length) : sumLs (Ls.take (i + 1)) = sumLs (Ls.take i) + (Ls.getD i []).length := by
  unfold sumLs
  rw [List.take_succ_eq_append_getElem h, List.map_append, List.sum_append, List.getD_eq_getElem?_getD, List.getElem?_eq_getElem h]
  simp
theorem sumLs_le (Ls : List (List Int)) (i : Nat) : sumLs (Ls.take i) ≤ sumLs Ls := by
  conv => rhs; rw [← List.take_append_drop i Ls]
  unfold sumLs
  rw [List.map_append, List.sum_append]
  omega
/-- The rows of which the first i are marked, from k on. -/
def mkSS (k : Nat) (Ls : List (List Int)) (i : Nat) : List (List Int) := (List.range Ls.length).map fun j => if j < i then marks (k + sumLs (Ls.take j)) (Ls.getD j []).length else Ls.getD j []
theorem mkSS_len (k : Nat) (Ls : List (List Int)) (i : Nat) : (mkSS k Ls i).length = Ls.length := by simp [mkSS]
theorem mkSS_at (k : Nat) (Ls : List (List Int)) (i j : Nat) (h : j < Ls.length) : (mkSS k Ls i).getD j [] = if j < i then marks (k + sumLs (Ls.take j)) (Ls.getD j []).length else Ls.getD j [] := by
  unfold mkSS
  rw [List.getD_eq_getElem?_getD, List.getElem?_map, List.getElem?_range h]
  rfl
theorem mkSS_rowlen (k : Nat) (Ls : List (List Int)) (i j : Nat) (h : j < Ls.length) : ((mkSS k Ls i).getD j []).length = (Ls.getD j []).length := by
  rw [mkSS_at k Ls i j h]; split <;> simp [marks_len]
theorem mkSS_zero (k : Nat) (Ls : List (List Int)) : mkSS k Ls 0 = Ls := by
  apply List.ext_getElem (mkSS_len _ _ _)
  intro j h1 h2
  have := mkSS_at k Ls 0 j h2
  rw [if_neg (by omega), List.getD_eq_getElem?_getD, List.getD_eq_getElem?_getD, List.getElem?_eq_getElem h1, List.getElem?_eq_getElem h2] at this
  exact this
theorem mkSS_set (k : Nat) (Ls : List (List Int)) (i : Nat) (h : i < Ls.length) : (mkSS k Ls i).set i (marks (k + sumLs (Ls.take i)) (Ls.getD i []).length) = mkSS k Ls (i + 1) := by
  apply List.ext_getElem (by rw [List.length_set, mkSS_len, mkSS_len])
  intro j h1 h2
  rw [mkSS_len] at h2
  rw [List.getElem_set]
  have a1 := mkSS_at k Ls i j h2
  have a2 := mkSS_at k Ls (i + 1) j h2
  rw [List.getD_eq_getElem?_getD, List.getElem?_eq_getElem (by rw [mkSS_len]; exact h2)] at a1 a2
  simp only [Option.getD_some] at a1 a2
  rw [a2]
  by_cases e : i = j
  · subst e; rw [if_pos rfl, if_pos (by omega)]
  · rw [if_neg e, a1]
    by_cases hj : j < i
    · rw [if_pos hj, if_pos (by omega)]
    · rw [if_neg hj, if_neg (by omega)]
theorem svs_congr {gs : List (Nat × Nat)} {Ls Ms : List (List Int)} (hl : Ls.length = Ms.length) (h : ∀ j, j < Ls.length → (Ls.getD j []).length = (Ms.getD j []).length) : svs gs Ls = svs gs Ms := by
  unfold svs
  apply List.ext_getElem (by simp [hl])
  intro i h1 h2
  rw [List.length_zipWith] at h1
  rw [List.getElem_zipWith, List.getElem_zipWith]
  have := h i (by omega)
  rw [List.getD_eq_getElem?_getD, List.getD_eq_getElem?_getD, List.getElem?_eq_getElem (by omega), List.getElem?_eq_getElem (by omega)] at this
  unfold sv
  simp only [Option.getD_some] at this
  rw [this]
theorem OwnSS.markRow {W W' : World} {B : Nat} {a : Option Addr} {c : Nat} {gs : List (Nat × Nat)} {Ls : List (List Int)} (h : OwnSS W B a c gs Ls) (i : Nat) (hi : i < Ls.length) {X : List Int} (hX : X.length = (Ls.getD i []).length)
    (ho : W'.ownsRow B 3 1 (sv (gs.getD i (0, 0)) (Ls.getD i [])) (Ls.getD i []).length (X.map iv)) (hg : W.grownBy W' (some (gs.getD i (0, 0)).1)) : OwnSS W' B a c gs (Ls.set i X) := by
  have hlen : (Ls.set i X).length = Ls.length := List.length_set
  have gd : ∀ j, j < Ls.length → (Ls.set i X).getD j [] = if i = j then X else Ls.getD j [] := fun j hj => by
    rw [List.getD_eq_getElem?_getD, List.getElem?_set, List.getD_eq_getElem?_getD]
    split
    · rfl
    · rfl
  have hsv : svs gs (Ls.set i X) = svs gs Ls := svs_congr hlen (fun j hj => by
    rw [hlen] at hj
    rw [gd j hj]
    split
    · rename_i e; rw [← e]; exact hX
    · rfl)
  refine ⟨by rw [hlen]; exact h.len, ?_, fun j hj => ?_, fun j k hj hk hjk => h.nd j k (by rw [hlen] at hj; exact hj) (by rw [hlen] at hk; exact hk) hjk⟩
  · rw [hlen, hsv]
    exact own_grE h.out hg (fun k hk e => h.apart i hi (by rw [hk]; exact e.symm))
  · rw [hlen] at hj
    rw [gd j hj]
    by_cases e : i = j
    · subst e
      rw [if_pos rfl]
      unfold sv at ho ⊢
      rw [hX]; exact ho
    · rw [if_neg e]
      exact own_grE (h.inn j hj) hg (fun k hk e2 => h.nd j i hj hi (fun e3 => e e3.symm) (by
        have e4 : (gs.getD j (0, 0)).1 = k := by simpa [blk] using hk
        have e5 : (gs.getD i (0, 0)).1 = k := by simpa using e2
        rw [e4, e5]))

/-- What a call returns that makes a slice of slices. -/
def RetSS (w : World) (R : List (List Int)) (e : Ending) (w' : World) : Prop := (∃ a0 c0 gs, e = .returned (.slice a0 R.length c0) ∧ OwnSS w' w.heap.size a0 c0 gs R) ∧ Below w.heap.size w w'
end Go.Proofs.Ytpndfmlkceplcaa
