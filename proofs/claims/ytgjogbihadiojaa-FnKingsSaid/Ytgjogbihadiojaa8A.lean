/-
  Triangles and scores (mathematics): of all triples, those with a player who beats the other two, and the triangles. No conditions.
-/
import Derived.Test.Ytgjogbihadiojaa3M
namespace Go.Proofs.Ytgjogbihadiojaa.Tr8
set_option linter.unusedVariables false

def su (f : Nat → Nat) : Nat → Nat
  | 0 => 0
  | m + 1 => su f m + f m
theorem su_congr {f g : Nat → Nat} : ∀ {m : Nat}, (∀ i, i < m → f i = g i) → su f m = su g m
  | 0, _ => rfl
  | m + 1, h => by
    simp only [su]
    rw [su_congr (fun i hi => h i (by omega)), h m (by omega)]
theorem su_add (f g : Nat → Nat) : ∀ m, su f m + su g m = su (fun i => f i + g i) m
  | 0 => rfl
  | m + 1 => by
    have := su_add f g m
    simp only [su]; omega
theorem su_one : ∀ m, su (fun _ => 1) m = m
  | 0 => rfl
  | m + 1 => by simp only [su, su_one m]
theorem su_zero {f : Nat → Nat} : ∀ {m : Nat}, su f m = 0 ↔ ∀ i, i < m → f i = 0
  | 0 => by simp [su]
  | m + 1 => by
    simp only [su, Nat.add_eq_zero_iff, su_zero (m := m)]
    constructor
    · rintro ⟨h1, h2⟩ i hi
      rcases Nat.lt_or_ge i m with h | h
      · exact h1 i h
      · have : i = m := by omega
        rw [this]; exact h2
    · exact fun h => ⟨fun i hi => h i (by omega), h m (by omega)⟩
theorem su_if (c : Bool) (f : Nat → Nat) (m : Nat) : su (fun i => if c then f i else 0) m = if c then su f m else 0 := by
  cases c
  · simp only [Bool.false_eq_true, if_false]; exact su_zero.2 fun _ _ => rfl
  · simp only [if_true]

def v (c : Bool) : Nat := if c then 1 else 0
/-- How many of the first m. -/
def sc (p : Nat → Bool) : Nat → Nat := su fun i => v (p i)
/-- Pairs of s players. -/
def pr : Nat → Nat := su fun i => i
theorem pr_add (s : Nat) (c : Bool) : pr (s + v c) = pr s + if c then s else 0 := by
  cases c
  · rfl
  · rfl
def cy (b : Nat → Nat → Bool) (i j k : Nat) : Nat := v ((b i j && (b j k && b k i)) || (b i k && (b k j && b j i)))
def Tn (b : Nat → Nat → Bool) (N : Nat) : Nat := su (fun k => su (fun j => su (fun i => cy b i j k) j) k) N
def Sn (b : Nat → Nat → Bool) (N : Nat) : Nat := su (fun x => pr (sc (b x) N)) N

structure Va (b : Nat → Nat → Bool) (N : Nat) : Prop where
  self : ∀ i, i < N → b i i = false
  other : ∀ i j, i < N → j < N → i ≠ j → b i j = !b j i
theorem Va.less {b : Nat → Nat → Bool} {N M : Nat} (h : Va b N) (hM : M ≤ N) : Va b M := ⟨fun i hi => h.self i (by omega), fun i j hi hj => h.other i j (by omega) (by omega)⟩

theorem one_of {b : Nat → Nat → Bool} {N i m n : Nat} (h : Va b N) (hi : i < m) (hm : m < n) (hn : n < N) :
    cy b i m n + (v (b i n && b i m) + (v (b m n && b m i) + v (b n m && b n i))) = 1 := by
  have h1 := h.other m i (by omega) (by omega) (by omega)
  have h2 := h.other n i (by omega) (by omega) (by omega)
  have h3 := h.other n m (by omega) (by omega) (by omega)
  unfold cy
  rw [h1, h2, h3]
  cases b i m <;> cases b i n <;> cases b m n <;> rfl

theorem su_v (c : Bool) (p : Nat → Bool) (m : Nat) : su (fun i => v (c && p i)) m = if c then sc p m else 0 := by
  rw [show (fun i => v (c && p i)) = fun i => if c then v (p i) else 0 from funext fun i => by cases c <;> rfl]
  exact su_if c _ m

theorem inner {b : Nat → Nat → Bool} {n : Nat} (h : Va b (n + 1)) : ∀ m, m ≤ n →
    su (fun j => su (fun i => cy b i j n) j) m + (su (fun x => if b x n then sc (b x) m else 0) m + pr (sc (b n) m)) = pr m
  | 0, _ => rfl
  | m + 1, hm => by
    have ih := inner h m (by omega)
    have e1 : su (fun x => if b x n then sc (b x) (m + 1) else 0) (m + 1) = su (fun x => if b x n then sc (b x) m else 0) m + su (fun x => v (b x n && b x m)) m + if b m n then sc (b m) m else 0 := by
      rw [su_add]
      show su _ m + _ = _
      congr 1
      · apply su_congr
        intro x hx
        cases b x n
        · rfl
        · rfl
      · have : sc (b m) (m + 1) = sc (b m) m := by
          show su _ m + v (b m m) = _
          rw [h.self m (by omega)]; rfl
        show (if b m n then sc (b m) (m + 1) else 0) = _
        rw [this]
    have e2 : pr (sc (b n) (m + 1)) = pr (sc (b n) m) + if b n m then sc (b n) m else 0 := pr_add _ _
    have e3 : su (fun i => cy b i m n) m + (su (fun x => v (b x n && b x m)) m + ((if b m n then sc (b m) m else 0) + if b n m then sc (b n) m else 0)) = m := by
      rw [← su_v, ← su_v, su_add, su_add, su_add]
      conv => rhs; rw [← su_one m]
      apply su_congr
      intro i hi
      exact one_of h hi (by omega) (by omega)
    have e4 : pr (m + 1) = pr m + m := rfl
    have e5 : su (fun j => su (fun i => cy b i j n) j) (m + 1) = su (fun j => su (fun i => cy b i j n) j) m + su (fun i => cy b i m n) m := rfl
    rw [e1, e2, e4, e5]
    omega

theorem total {b : Nat → Nat → Bool} : ∀ {N : Nat}, Va b N → Tn b N + Sn b N = su pr N
  | 0, _ => rfl
  | N + 1, h => by
    have ih := total (h.less (Nat.le_succ N))
    have hi := inner h N (Nat.le_refl _)
    have e1 : Tn b (N + 1) = Tn b N + su (fun j => su (fun i => cy b i j N) j) N := rfl
    have e2 : Sn b (N + 1) = Sn b N + su (fun x => if b x N then sc (b x) N else 0) N + pr (sc (b N) N) := by
      unfold Sn
      show su _ N + _ = _
      rw [su_add]
      congr 1
      · apply su_congr
        intro x hx
        exact pr_add (sc (b x) N) (b x N)
      · show pr (sc (b N) N + v (b N N)) = _
        rw [h.self N (by omega)]; rfl
    have e3 : su pr (N + 1) = su pr N + pr N := rfl
    rw [e1, e2, e3]
    omega

theorem Tn_zero {b : Nat → Nat → Bool} {N : Nat} : Tn b N = 0 ↔ ∀ i j k, i < j → j < k → k < N → cy b i j k = 0 := by
  unfold Tn
  rw [su_zero]
  constructor
  · intro h i j k hij hjk hk
    exact su_zero.1 (su_zero.1 (h k hk) j hjk) i hij
  · intro h k hk
    exact su_zero.2 fun j hj => su_zero.2 fun i hi => h i j k hi hj hk

theorem cy_zero {b : Nat → Nat → Bool} {i j k : Nat} : cy b i j k = 0 ↔ (b i j && (b j k && b k i)) = false ∧ (b i k && (b k j && b j i)) = false := by
  unfold cy v
  cases (b i j && (b j k && b k i)) <;> cases (b i k && (b k j && b j i)) <;> simp

theorem pr_prN (s : Nat) (h : s < 10) : pr s = Tmpm.prN s := by
  have : ∀ s : Fin 10, pr s.val = Tmpm.prN s.val := by decide +kernel
  exact this ⟨s, h⟩
theorem su_pr (N : Nat) (h : N < 10) : su pr N = N * (N - 1) * (N - 2) / 6 := by
  have : ∀ s : Fin 10, su pr s.val = s.val * (s.val - 1) * (s.val - 2) / 6 := by decide +kernel
  exact this ⟨N, h⟩
theorem sum_su (L : List Nat) : ∀ k, k ≤ L.length → (L.take k).sum = su (fun i => L.getD i 0) k
  | 0, _ => rfl
  | k + 1, h => by
    have ih := sum_su L k (by omega)
    rw [List.take_succ_eq_append_getElem (by omega), List.sum_append, ih]
    show _ = su _ k + L.getD k 0
    congr 1
    rw [List.getD_eq_getElem?_getD, List.getElem?_eq_getElem (by omega)]
    simp
theorem len_sc (p : Nat → Bool) : ∀ m, ((List.range m).filter p).length = sc p m
  | 0 => rfl
  | m + 1 => by
    rw [List.range_succ, List.filter_append, List.length_append, len_sc p m]
    show _ = su _ m + v (p m)
    congr 1
    simp only [List.filter_cons, List.filter_nil, v]
    cases p m <;> rfl
end Go.Proofs.Ytgjogbihadiojaa.Tr8
