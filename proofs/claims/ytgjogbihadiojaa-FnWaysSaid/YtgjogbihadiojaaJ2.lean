/-
  Counting ways, the first one, cycles: plain mathematics. No program, no conditions.
-/
import Derived.Test.YtgjogbihadiojaaJ1
namespace Go.Proofs.Ytgjogbihadiojaa
open Go.ChangeShapes Go.WideShapes Go.ChangeAt Go.RowKit
set_option linter.unusedVariables false
namespace Hw

theorem nx_len (f : Nat → Nat) (p : List Nat) : (nx f p).length ≤ 8 := by
  unfold nx
  exact Nat.le_trans (List.length_filter_le _ _) (elTo_len _ 8)
theorem flat_len {α β : Type} (g : α → List β) (B : Nat) : ∀ (L : List α), (∀ x ∈ L, (g x).length ≤ B) → (L.flatMap g).length ≤ L.length * B := by
  intro L
  induction L with
  | nil => intro _; simp
  | cons x L ih =>
    intro h
    rw [List.flatMap_cons, List.length_append, List.length_cons, Nat.add_mul, Nat.one_mul]
    have h1 := h x (by simp)
    have h2 := ih fun y hy => h y (by simp [hy])
    omega
/-- There are not too many. -/
theorem ext_len (f : Nat → Nat) (k : Int) : ∀ (n : Nat) (p : List Nat), (ext f k n p).length ≤ 8 ^ n := by
  intro n
  induction n with
  | zero => intro p; unfold ext; split <;> simp
  | succ n ih =>
    intro p
    unfold ext
    split
    · simpa using Nat.one_le_pow (n + 1) 8 (by decide)
    · refine Nat.le_trans (flat_len _ (8 ^ n) _ fun b _ => ih _) ?_
      rw [Nat.pow_succ, Nat.mul_comm]
      exact Nat.mul_le_mul (Nat.le_refl _) (nx_len f p)
theorem ways_len (f : Nat → Nat) (k : Int) (a : Nat) : (ways f k a).length ≤ 2097152 := ext_len f k 7 [a]

/-- What is left beside a way. -/
def Lf (m : Nat) (p : List Nat) (s : Nat) : Prop := ∀ x, s.testBit x = (decide (x < m) && !p.contains x)
theorem Lf.lt {m : Nat} {p : List Nat} {s : Nat} (h : Lf m p s) (hm : m ≤ 8) : s < 256 :=
  lt256 fun x hx => by rw [h x, Bool.and_eq_true, decide_eq_true_iff] at hx; omega
theorem Lf.all (m : Nat) : Lf m [] (2 ^ m - 1) := by
  intro x
  rw [Nat.testBit_two_pow_sub_one]; simp
theorem Lf.has {m : Nat} {p : List Nat} {s b : Nat} (h : Lf m p s) : s.testBit b = true ↔ b < m ∧ b ∉ p := by
  rw [h b, Bool.and_eq_true, decide_eq_true_iff]; simp
/-- One more is taken away. -/
theorem Lf.snoc {m : Nat} {p : List Nat} {s b : Nat} (h : Lf m p s) (hm : m ≤ 8) (hb : b < m) (hbp : b ∉ p) : Lf m (p ++ [b]) (s - 2 ^ b) ∧ 2 ^ b ≤ s := by
  have hbit : s.testBit b = true := h.has.2 ⟨hb, hbp⟩
  obtain ⟨e, hle⟩ := sub_bit (h.lt hm) (by omega) hbit
  refine ⟨fun x => ?_, hle⟩
  rw [e, Nat.testBit_xor, h x, pow_bit, Bool.eq_iff_iff]
  by_cases hx : b = x
  · subst hx; simp [hb, hbp]
  · have : ¬ x = b := fun e => hx e.symm
    simp [hx, this]
theorem Lf.zero {m : Nat} {p : List Nat} {s : Nat} (h : Lf m p s) (hnd : p.Nodup) (hp : ∀ x ∈ p, x < m) : s = 0 ↔ p.length = m := by
  constructor
  · intro e
    subst e
    rcases Nat.lt_or_ge p.length m with h1 | h1
    · exfalso
      have hsub : List.range m ⊆ p := fun x hx => by
        rcases Classical.em (x ∈ p) with h2 | h2
        · exact h2
        · have := h.has.2 ⟨List.mem_range.1 hx, h2⟩
          simp at this
      have := (List.nodup_range (n := m)).length_le_of_subset hsub
      simp at this; omega
    · have := way_len hnd hp; omega
  · intro e
    refine eq_of_bits fun x => ?_
    rw [Nat.zero_testBit]
    cases hb : s.testBit x
    · rfl
    · obtain ⟨h1, h2⟩ := h.has.1 hb
      exact absurd (way_all hnd hp e h1) h2
/-- The next ones of a way, out of what is left. -/
theorem Lf.next {m : Nat} {f : Nat → Nat} {p : List Nat} {s : Nat} (h : Lf m p s) (hf : f (p.getLastD 0) < 2 ^ m) : elems (s &&& f (p.getLastD 0)) = nx f p := by
  unfold nx elems elTo
  rw [List.filter_filter]
  apply List.filter_congr
  intro b _
  rw [Nat.testBit_and, h b]
  cases hb : (f (p.getLastD 0)).testBit b
  · simp
  · have : b < m := by
      rcases Nat.lt_or_ge b m with h1 | h1
      · exact h1
      · rw [Nat.testBit_lt_two_pow (Nat.lt_of_lt_of_le hf (Nat.pow_le_pow_right (by decide) h1))] at hb; cases hb
    simp [this]

/-- All ways through all players. -/
def full (f : Nat → Nat) (m : Nat) : List (List Nat) := (List.range m).flatMap (ways f (m : Int))
/-- A way whose last one beats the first one. -/
def cyc (f : Nat → Nat) (w : List Nat) : Bool := decide (3 ≤ w.length) && (f (w.getLastD 0)).testBit (w.getD 0 0)
theorem ext_first {f : Nat → Nat} {k : Int} {n : Nat} {p w : List Nat} (hw : w ∈ ext f k n p) (hp : p ≠ []) : w.getD 0 0 = p.getD 0 0 := by
  have : ∀ (n : Nat) (p : List Nat), p ≠ [] → w ∈ ext f k n p → ∃ q, w = p ++ q := by
    intro n
    induction n with
    | zero =>
      intro p _ h
      unfold ext at h
      split at h
      · exact ⟨[], by simpa using h⟩
      · simp at h
    | succ n ih =>
      intro p hp h
      unfold ext at h
      split at h
      · exact ⟨[], by simpa using h⟩
      · obtain ⟨b, hb, h⟩ := List.mem_flatMap.1 h
        obtain ⟨q, rfl⟩ := ih _ (by simp) h
        exact ⟨b :: q, by simp⟩
  obtain ⟨q, rfl⟩ := this n p hp hw
  rcases p with _ | ⟨x, p⟩
  · exact absurd rfl hp
  · rfl
theorem find_flat {α β : Type} (g : α → List β) (P : β → Bool) : ∀ (L : List α), (L.flatMap g).find? P = L.findSome? fun x => (g x).find? P := by
  intro L
  induction L with
  | nil => rfl
  | cons x L ih =>
    rw [List.flatMap_cons, List.find?_append, ih, List.findSome?_cons]
    cases (g x).find? P <;> rfl
theorem count_flat {α β : Type} (g : α → List β) (P : β → Bool) : ∀ (L : List α), (L.flatMap g).countP P = (L.map fun x => (g x).countP P).sum := by
  intro L
  induction L with
  | nil => rfl
  | cons x L ih => rw [List.flatMap_cons, List.countP_append, ih]; rfl
/-- The first way of all that go on: the first next one with which there is any. -/
theorem first_next {f : Nat → Nat} {k : Int} {n : Nat} {p : List Nat} {i c : Nat} (hk : (p.length : Int) ≠ k) (hi : (nx f p)[i]? = some c) (hc : ext f k n (p ++ [c]) ≠ []) (hno : ∀ j x, j < i → (nx f p)[j]? = some x → ext f k n (p ++ [x]) = []) :
    (ext f k (n + 1) p).head? = (ext f k n (p ++ [c])).head? := by
  rw [ext_on hk]
  have : ∀ (L : List Nat) (i : Nat), L[i]? = some c → (∀ j x, j < i → L[j]? = some x → ext f k n (p ++ [x]) = []) → (L.flatMap fun b => ext f k n (p ++ [b])).head? = (ext f k n (p ++ [c])).head? := by
    intro L
    induction L with
    | nil => intro i h; simp at h
    | cons y L ih =>
      intro i h1 h2
      rw [List.flatMap_cons]
      rcases i with _ | i
      · obtain rfl : y = c := by simpa using h1
        rw [List.head?_append]
        cases hh : (ext f k n (p ++ [y])).head?
        · rw [List.head?_eq_none_iff] at hh; exact absurd hh hc
        · rfl
      · have e := h2 0 y (by omega) (by simp)
        rw [e, List.nil_append]
        exact ih i (by simpa using h1) fun j x hj hx => h2 (j + 1) x (by omega) (by simpa using hx)
  exact this _ i hi hno
theorem some_next {f : Nat → Nat} {k : Int} {n : Nat} {p : List Nat} (hk : (p.length : Int) ≠ k) (h : ext f k (n + 1) p ≠ []) : ∃ c ∈ nx f p, ext f k n (p ++ [c]) ≠ [] := by
  rw [ext_on hk] at h
  obtain ⟨w, hw⟩ := List.exists_mem_of_ne_nil _ h
  obtain ⟨c, hc, hw⟩ := List.mem_flatMap.1 hw
  exact ⟨c, hc, List.ne_nil_of_mem hw⟩
end Hw
end Go.Proofs.Ytgjogbihadiojaa
