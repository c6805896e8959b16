/-
  Plain facts on lists of scores: sums, pairs, slacks, Landau's conditions. No program.
-/
import Derived.WalkKit
namespace Go.Proofs.Yteiadhfjpohmdaa.Tmpm

/-- Pairs of n players. -/
def prN (n : Nat) : Nat := n * (n - 1) / 2
def sumTo (l : List Int) (k : Nat) : Int := (l.take k).sum
theorem sumTo_zero (l : List Int) : sumTo l 0 = 0 := rfl
theorem sumTo_succ (l : List Int) (k : Nat) (h : k < l.length) : sumTo l (k + 1) = sumTo l k + l.getD k 0 := by
  unfold sumTo
  rw [List.take_succ_eq_append_getElem h, List.sum_append, List.getD_eq_getElem?_getD, List.getElem?_eq_getElem h]
  simp
theorem prN_vals (n : Nat) (h : n ≤ 9) : prN n ≤ 36 := by
  have : ∀ n : Fin 10, prN n.val ≤ 36 := by decide
  exact this ⟨n, by omega⟩
theorem prN_succ (n : Nat) (h : n ≤ 9) : prN (n + 1) = prN n + n := by
  have : ∀ n : Fin 10, prN (n.val + 1) = prN n.val + n.val := by decide
  exact this ⟨n, by omega⟩

/-- Landau's conditions. -/
def lanAt (l : List Int) (i : Nat) : Bool := decide (0 ≤ l.getD i 0) && decide (l.getD (i - 1) 0 ≤ l.getD i 0) && decide ((prN (i + 1) : Int) ≤ sumTo l (i + 1))
def landB (l : List Int) : Bool := decide (1 ≤ l.length) && decide (l.length ≤ 8) && (List.range l.length).all (lanAt l) && (sumTo l l.length == (prN l.length : Int))
structure Landau (l : List Int) : Prop where
  h1 : 1 ≤ l.length
  h8 : l.length ≤ 8
  h0 : ∀ i, i < l.length → 0 ≤ l.getD i 0
  hm : ∀ i, i < l.length → l.getD (i - 1) 0 ≤ l.getD i 0
  hs : ∀ i, i < l.length → (prN (i + 1) : Int) ≤ sumTo l (i + 1)
  he : sumTo l l.length = (prN l.length : Int)
theorem landB_iff (l : List Int) : landB l = true ↔ Landau l := by
  unfold landB lanAt
  simp only [Bool.and_eq_true, decide_eq_true_eq, List.all_eq_true, List.mem_range, beq_iff_eq]
  constructor
  · rintro ⟨⟨⟨h1, h8⟩, h⟩, he⟩
    exact ⟨h1, h8, fun i hi => (h i hi).1.1, fun i hi => (h i hi).1.2, fun i hi => (h i hi).2, he⟩
  · rintro ⟨h1, h8, h0, hm, hs, he⟩
    exact ⟨⟨⟨h1, h8⟩, fun i hi => ⟨⟨h0 i hi, hm i hi⟩, hs i hi⟩⟩, he⟩
theorem landB_false {l : List Int} (h : ¬ Landau l) : landB l = false := by
  cases hb : landB l
  · rfl
  · exact absurd ((landB_iff l).1 hb) h
theorem Landau.last {l : List Int} (h : Landau l) : l.getD (l.length - 1) 0 ≤ (l.length : Int) - 1 := by
  have h1 := h.h1
  have h8 := h.h8
  have hk : l.length - 1 < l.length := by omega
  have e := sumTo_succ l (l.length - 1) hk
  have e1 : l.length - 1 + 1 = l.length := by omega
  rw [e1, h.he] at e
  have ep := prN_succ (l.length - 1) (by omega)
  rw [e1] at ep
  have hp : (prN (l.length - 1) : Int) ≤ sumTo l (l.length - 1) := by
    by_cases hz : l.length - 1 = 0
    · rw [hz, sumTo_zero]; decide
    · have := h.hs (l.length - 2) (by omega)
      rw [show l.length - 2 + 1 = l.length - 1 by omega] at this
      exact this
  rw [ep] at e
  omega
theorem Landau.mono {l : List Int} (h : Landau l) : ∀ (d i : Nat), i + d < l.length → l.getD i 0 ≤ l.getD (i + d) 0 := by
  intro d
  induction d with
  | zero => intro i _; exact Int.le_refl _
  | succ d ih =>
    intro i hi
    have a := ih i (by omega)
    have b := h.hm (i + (d + 1)) hi
    rw [show i + (d + 1) - 1 = i + d by omega] at b
    exact Int.le_trans a b
theorem Landau.le {l : List Int} (h : Landau l) (i : Nat) (hi : i < l.length) : l.getD i 0 ≤ (l.length : Int) - 1 := by
  have a := h.mono (l.length - 1 - i) i (by omega)
  rw [show i + (l.length - 1 - i) = l.length - 1 by omega] at a
  exact Int.le_trans a h.last

/-- A list whose slacks are told. -/
def goodB (l : List Int) : Bool := decide (1 ≤ l.length) && decide (l.length ≤ 8) && (List.range l.length).all fun i => decide (0 ≤ l.getD i 0) && decide (l.getD i 0 ≤ 1000)
theorem goodB_iff (l : List Int) : goodB l = true ↔ 1 ≤ l.length ∧ l.length ≤ 8 ∧ ∀ i, i < l.length → 0 ≤ l.getD i 0 ∧ l.getD i 0 ≤ 1000 := by
  unfold goodB
  simp only [Bool.and_eq_true, decide_eq_true_eq, List.all_eq_true, List.mem_range]
  exact ⟨fun ⟨⟨a, b⟩, c⟩ => ⟨a, b, c⟩, fun ⟨a, b, c⟩ => ⟨⟨a, b⟩, c⟩⟩
theorem goodB_false {l : List Int} (h : ¬ (1 ≤ l.length ∧ l.length ≤ 8 ∧ ∀ i, i < l.length → 0 ≤ l.getD i 0 ∧ l.getD i 0 ≤ 1000)) : goodB l = false := by
  cases hb : goodB l
  · rfl
  · exact absurd ((goodB_iff l).1 hb) h
def slk (l : List Int) (i : Nat) : Int := sumTo l (i + 1) - (prN (i + 1) : Int)
def slacks (l : List Int) : List Int := (List.range l.length).map (slk l)
theorem slacks_len (l : List Int) : (slacks l).length = l.length := by simp [slacks]
theorem slacks_at (l : List Int) (k : Nat) (h : k < l.length) : (slacks l)[k]? = some (slk l k) := by
  unfold slacks; simp [h]
theorem slacks_getD (l : List Int) (k : Nat) (h : k < l.length) : (slacks l).getD k 0 = slk l k := by
  rw [List.getD_eq_getElem?_getD, slacks_at l k h]; rfl
/-- What both 'SlackOf' return. -/
def slackR (l : List Int) : List Int := if goodB l then slacks l else []

/-- The one way to Landau's conditions and the other one. -/
theorem landB_slack (l : List Int) (hg : goodB l = true) : (landB l = true) ↔ (∀ i, i < l.length → l.getD (i - 1) 0 ≤ l.getD i 0) ∧ (∀ i, i < l.length → 0 ≤ slk l i) ∧ slk l (l.length - 1) = 0 := by
  obtain ⟨h1, h8, hx⟩ := (goodB_iff l).1 hg
  rw [landB_iff]
  have e1 : l.length - 1 + 1 = l.length := by omega
  constructor
  · intro h
    refine ⟨h.hm, fun i hi => ?_, ?_⟩
    · have := h.hs i hi; unfold slk; omega
    · unfold slk; rw [e1, h.he]; omega
  · rintro ⟨hm, hs, he⟩
    refine ⟨h1, h8, fun i hi => (hx i hi).1, hm, fun i hi => ?_, ?_⟩
    · have := hs i hi; unfold slk at this; omega
    · unfold slk at he; rw [e1] at he; omega
theorem landB_good {l : List Int} (h : landB l = true) : goodB l = true := by
  have hl := (landB_iff l).1 h
  rw [goodB_iff]
  refine ⟨hl.h1, hl.h8, fun i hi => ⟨hl.h0 i hi, ?_⟩⟩
  have := hl.le i hi
  have := hl.h8
  omega
end Go.Proofs.Yteiadhfjpohmdaa.Tmpm
