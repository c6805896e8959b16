/-
  Connections: which lists are one, and the rows of their tours; mathematics. No conditions.
-/
import Derived.Test.YteiadhfjpohmdaaXa
namespace Go.Proofs.Yteiadhfjpohmdaa
set_option linter.unusedVariables false
namespace Ct

def oddS (n : Int) : Bool := n == 1 || n == 3 || n == 5 || n == 7
/-- Ascending from above b, below n. -/
def ascF (n b : Int) : List Int → Bool
  | [] => true
  | x :: xs => decide (b < x) && decide (x < n) && ascF n x xs
def prv (l : List Int) : Nat → Int
  | 0 => 0
  | j + 1 => l.getD j 0
/-- The first i elements as a set. -/
def mk (l : List Int) : Nat → Nat
  | 0 => 0
  | i + 1 => mk l i ||| 2 ^ (l.getD i 0).toNat
/-- The same by a sum. -/
def sumK (l : List Int) : Nat → Nat
  | 0 => 0
  | i + 1 => sumK l i + 2 ^ (l.getD i 0).toNat
def symT (n s k : Nat) : Bool := (List.range k).all fun j => j == 0 || (s.testBit j != s.testBit (n - j))
def conB (n : Int) (l : List Int) : Bool := oddS n && (ascF n 0 l && symT n.toNat (mk l l.length) n.toNat)
def prS (n : Int) (l : List Int) (i : Nat) : Bool := (sumK l i).testBit (n - l.getD i 0).toNat
def prT (n : Int) (l : List Int) (k : Nat) : Bool := (List.range k).all fun i => !prS n l i
/-- A row of the tour, by its first j wins. -/
def rowO (n : Int) (l : List Int) (a : Nat) : Nat → Nat
  | 0 => 0
  | j + 1 => rowO n l a j ||| 2 ^ (((a : Int) + l.getD j 0) % n).toNat
def rowP (n : Int) (l : List Int) (a : Nat) : Nat → Nat
  | 0 => 0
  | j + 1 => rowP n l a j + 2 ^ (((a : Int) + l.getD j 0) % n).toNat
def rotL (n : Int) (l : List Int) : List Nat := (List.range n.toNat).map fun a => rowO n l a l.length

/-- All ascending lists of at most f numbers behind b. -/
def gen : Nat → Int → List (List Int)
  | 0, _ => [[]]
  | f + 1, b => gen f (b + 1) ++ (gen f (b + 1)).map fun xs => (b + 1) :: xs
theorem nil_gen : ∀ f b, [] ∈ gen f b
  | 0, b => by simp [gen]
  | f + 1, b => by
    unfold gen
    exact List.mem_append_left _ (nil_gen f (b + 1))
theorem ascF_weak {n b c : Int} (h : c ≤ b) : ∀ {l : List Int}, ascF n b l = true → ascF n c l = true
  | [], _ => rfl
  | x :: xs, h2 => by
    unfold ascF at h2 ⊢
    simp only [Bool.and_eq_true, decide_eq_true_eq] at h2 ⊢
    exact ⟨⟨by omega, h2.1.2⟩, h2.2⟩
theorem mem_gen (n : Int) : ∀ (f : Nat) (b : Int) (l : List Int), ascF n b l = true → n ≤ b + f + 1 → l ∈ gen f b
  | f, b, [], _, _ => nil_gen f b
  | 0, b, x :: xs, h, hn => by
    unfold ascF at h
    simp only [Bool.and_eq_true, decide_eq_true_eq] at h
    omega
  | f + 1, b, x :: xs, h, hn => by
    have h0 := h
    unfold ascF at h
    simp only [Bool.and_eq_true, decide_eq_true_eq] at h
    unfold gen
    by_cases e : x = b + 1
    · subst e
      exact List.mem_append_right _ (List.mem_map.2 ⟨xs, mem_gen n f (b + 1) xs h.2 (by omega), rfl⟩)
    · refine List.mem_append_left _ (mem_gen n f (b + 1) (x :: xs) ?_ (by omega))
      unfold ascF
      simp only [Bool.and_eq_true, decide_eq_true_eq]
      exact ⟨⟨by omega, h.1.2⟩, h.2⟩
theorem ascF_iff (n : Int) : ∀ (l : List Int) (b : Int), ascF n b l = true ↔ ∀ j, j < l.length → (if j = 0 then b else l.getD (j - 1) 0) < l.getD j 0 ∧ l.getD j 0 < n
  | [], b => by simp [ascF]
  | x :: xs, b => by
    unfold ascF
    simp only [Bool.and_eq_true, decide_eq_true_eq]
    rw [ascF_iff n xs x]
    constructor
    · rintro ⟨⟨h1, h2⟩, h3⟩ j hj
      cases j with
      | zero => exact ⟨h1, h2⟩
      | succ j =>
        have := h3 j (by simpa using hj)
        cases j with
        | zero => simpa using this
        | succ j => simpa using this
    · intro h
      refine ⟨h 0 (by simp), fun j hj => ?_⟩
      have := h (j + 1) (by simpa using hj)
      cases j with
      | zero => simpa using this
      | succ j => simpa using this
theorem asc_iff (n : Int) (l : List Int) : ascF n 0 l = true ↔ ∀ j, j < l.length → prv l j < l.getD j 0 ∧ l.getD j 0 < n := by
  rw [ascF_iff]
  constructor
  · intro h j hj
    have := h j hj
    cases j with
    | zero => exact this
    | succ j => exact this
  · intro h j hj
    have := h j hj
    cases j with
    | zero => exact this
    | succ j => exact this

/-- What is known of an ascending list, all at once. -/
def chk (n : Int) (l : List Int) : Bool :=
  decide (l.length ≤ 6) && ((List.range (l.length + 1)).all fun i => mk l i == sumK l i && decide (mk l i < 128)) &&
  (symT n.toNat (mk l l.length) n.toNat == (l.length == n.toNat / 2 && prT n l l.length)) &&
  ((List.range n.toNat).all fun a => (List.range (l.length + 1)).all fun j => (rowO n l a j == rowP n l a j) && decide (rowO n l a j < 2 ^ n.toNat))
theorem chk_all (n : Int) (hn : oddS n = true) (l : List Int) (h : ascF n 0 l = true) : chk n l = true := by
  have k1 : ((gen 6 0).filter (ascF 1 0)).all (chk 1) = true := by decide +kernel
  have k3 : ((gen 6 0).filter (ascF 3 0)).all (chk 3) = true := by decide +kernel
  have k5 : ((gen 6 0).filter (ascF 5 0)).all (chk 5) = true := by decide +kernel
  have k7 : ((gen 6 0).filter (ascF 7 0)).all (chk 7) = true := by decide +kernel
  unfold oddS at hn
  simp only [Bool.or_eq_true, beq_iff_eq] at hn
  have hm : l ∈ gen 6 0 := mem_gen n 6 0 l h (by omega)
  rcases hn with ((rfl | rfl) | rfl) | rfl
  · exact List.all_eq_true.1 k1 l (List.mem_filter.2 ⟨hm, h⟩)
  · exact List.all_eq_true.1 k3 l (List.mem_filter.2 ⟨hm, h⟩)
  · exact List.all_eq_true.1 k5 l (List.mem_filter.2 ⟨hm, h⟩)
  · exact List.all_eq_true.1 k7 l (List.mem_filter.2 ⟨hm, h⟩)
section
variable {n : Int} {l : List Int} (hn : oddS n = true) (h : ascF n 0 l = true)
include hn h
theorem asc_len : l.length ≤ 6 := by
  have := chk_all n hn l h
  simp only [chk, Bool.and_eq_true, decide_eq_true_eq] at this
  exact this.1.1.1
theorem asc_mk {i : Nat} (hi : i ≤ l.length) : mk l i = sumK l i ∧ mk l i < 128 := by
  have := chk_all n hn l h
  simp only [chk, Bool.and_eq_true, decide_eq_true_eq, List.all_eq_true, beq_iff_eq] at this
  exact this.1.1.2 i (List.mem_range.2 (by omega))
theorem asc_sym : symT n.toNat (mk l l.length) n.toNat = (l.length == n.toNat / 2 && prT n l l.length) := by
  have := chk_all n hn l h
  simp only [chk, Bool.and_eq_true, decide_eq_true_eq, List.all_eq_true, beq_iff_eq] at this
  exact this.1.2
theorem asc_row {a j : Nat} (ha : a < n.toNat) (hj : j ≤ l.length) : rowO n l a j = rowP n l a j ∧ rowO n l a j < 2 ^ n.toNat := by
  have := chk_all n hn l h
  simp only [chk, Bool.and_eq_true, decide_eq_true_eq, List.all_eq_true, beq_iff_eq] at this
  exact this.2 a (List.mem_range.2 ha) j (List.mem_range.2 (by omega))
end
theorem con_parts {n : Int} {l : List Int} (h : conB n l = true) : oddS n = true ∧ ascF n 0 l = true ∧ symT n.toNat (mk l l.length) n.toNat = true := by
  simp only [conB, Bool.and_eq_true] at h; exact h
theorem con_odd {n : Int} {l : List Int} (h : oddS n = false) : conB n l = false := by simp [conB, h]
theorem con_not {n : Int} {l : List Int} {j : Nat} (hj : j < l.length) (h : l.getD j 0 ≤ prv l j ∨ n ≤ l.getD j 0) : conB n l = false := by
  cases hc : conB n l
  · rfl
  · have := (asc_iff n l).1 (con_parts hc).2.1 j hj
    omega
theorem con_asc {n : Int} {l : List Int} (hn : oddS n = true) (h : ascF n 0 l = true) : conB n l = symT n.toNat (mk l l.length) n.toNat := by simp [conB, hn, h]
theorem symT_at {n s k j : Nat} (hj : j < k) (h0 : 1 ≤ j) (h : s.testBit j = s.testBit (n - j)) : symT n s k = false := by
  unfold symT
  rw [List.all_eq_false]
  refine ⟨j, List.mem_range.2 hj, ?_⟩
  have : ¬ j = 0 := by omega
  simp [this, h]
theorem symT_snoc {n s k : Nat} : symT n s (k + 1) = (symT n s k && (k == 0 || (s.testBit k != s.testBit (n - k)))) := by
  unfold symT; rw [List.range_succ, List.all_append]; simp
theorem prT_snoc {n : Int} {l : List Int} {k : Nat} : prT n l (k + 1) = (prT n l k && !prS n l k) := by
  unfold prT; rw [List.range_succ, List.all_append]; simp
theorem prT_at {n : Int} {l : List Int} {i k : Nat} (hi : i < k) (h : prS n l i = true) : prT n l k = false := by
  unfold prT
  rw [List.all_eq_false]
  exact ⟨i, List.mem_range.2 hi, by simp [h]⟩
/-- As the model says it. -/
theorem con_len {n : Int} {l : List Int} (h : l.length ≠ n.toNat / 2) : conB n l = false := by
  cases hc : conB n l
  · rfl
  · obtain ⟨h1, h2, h3⟩ := con_parts hc
    rw [asc_sym h1 h2] at h3
    simp only [Bool.and_eq_true, beq_iff_eq] at h3
    exact absurd h3.1 h
theorem con_pair {n : Int} {l : List Int} {i : Nat} (hi : i < l.length) (h : prS n l i = true) : conB n l = false := by
  cases hc : conB n l
  · rfl
  · obtain ⟨h1, h2, h3⟩ := con_parts hc
    rw [asc_sym h1 h2, prT_at hi h] at h3
    simp at h3
theorem con_yes {n : Int} {l : List Int} (hn : oddS n = true) (h : ascF n 0 l = true) (hl : l.length = n.toNat / 2) (hp : prT n l l.length = true) : conB n l = true := by
  rw [con_asc hn h, asc_sym hn h, hp, hl]; simp
theorem odd_size {n : Int} (h : oddS n = true) : 1 ≤ n ∧ n ≤ 7 ∧ n % 2 = 1 := by
  unfold oddS at h
  simp only [Bool.or_eq_true, beq_iff_eq] at h
  omega
theorem odd_not {n : Int} (h : ¬ (1 ≤ n ∧ n ≤ 8 ∧ n % 2 = 1)) : oddS n = false := by
  unfold oddS
  simp only [Bool.or_eq_false_iff, beq_eq_false_iff_ne]
  omega
theorem odd_is {n : Int} (h : 1 ≤ n ∧ n ≤ 8 ∧ n % 2 = 1) : oddS n = true := by
  unfold oddS
  simp only [Bool.or_eq_true, beq_iff_eq]
  omega
end Ct
end Go.Proofs.Yteiadhfjpohmdaa
