/-
  The tours that the program counts, and those that the model counts: as many have k kings (mathematics; a count of all tours of up to 5 players). No program.
-/
import Derived.Test.YtgjogbihadiojaaU2
import Derived.Test.Ytgjogbihadiojaa3M
import Derived.Test.YtgjogbihadiojaaVO
namespace Go.Proofs.Ytgjogbihadiojaa
open Go.ChangeShapes Go.WideShapes Go.ChangeAt Go.RowKit
set_option linter.unusedVariables false

/-- One more win. -/
def addW (ys : List Nat) (i j : Nat) : List Nat := ys.set i (ys.getD i 0 ||| 2 ^ j)
/-- The games of player a against the first b ones, and what is left of the code. -/
def innP (a : Nat) : Nat → List Nat × Nat → List Nat × Nat
  | 0, s => s
  | b + 1, s => (if (innP a b s).2 % 2 = 1 then addW (innP a b s).1 a b else addW (innP a b s).1 b a, (innP a b s).2 / 2)
/-- The games of the first a players. -/
def outP : Nat → List Nat × Nat → List Nat × Nat
  | 0, s => s
  | a + 1, s => innP a a (outP a s)
/-- The program's tour of a code. -/
def tourP (n c : Nat) : List Nat := (outP n (List.replicate n 0, c)).1
theorem addW_len (ys : List Nat) (i j : Nat) : (addW ys i j).length = ys.length := by simp [addW]
theorem innP_len (a : Nat) : ∀ b s, (innP a b s).1.length = s.1.length
  | 0, s => rfl
  | b + 1, s => by
    simp only [innP]
    split <;> rw [addW_len, innP_len a b s]
theorem outP_len : ∀ a s, (outP a s).1.length = s.1.length
  | 0, s => rfl
  | a + 1, s => by simp only [outP]; rw [innP_len, outP_len a s]
theorem addW_lt {ys : List Nat} (h : ∀ y ∈ ys, y < 256) (i : Nat) {j : Nat} (hj : j < 8) : ∀ y ∈ addW ys i j, y < 256 := by
  intro y hy
  rcases List.mem_or_eq_of_mem_set hy with h1 | h1
  · exact h y h1
  · rw [h1]
    have h2 : ys.getD i 0 < 256 := by
      rw [List.getD_eq_getElem?_getD]
      rcases Nat.lt_or_ge i ys.length with hi | hi
      · rw [List.getElem?_eq_getElem hi]; exact h _ (List.getElem_mem _)
      · rw [List.getElem?_eq_none hi]; decide
    exact Nat.or_lt_two_pow (n := 8) h2 (Nat.pow_lt_pow_right (by decide) hj)
theorem innP_lt {a : Nat} (ha : a < 8) : ∀ b, b ≤ 8 → ∀ s : List Nat × Nat, (∀ y ∈ s.1, y < 256) → ∀ y ∈ (innP a b s).1, y < 256
  | 0, _, s, h => h
  | b + 1, hb, s, h => by
    have ih := innP_lt ha b (by omega) s h
    simp only [innP]
    split
    · exact addW_lt ih _ (by omega)
    · exact addW_lt ih _ ha
theorem outP_lt : ∀ a, a ≤ 8 → ∀ s : List Nat × Nat, (∀ y ∈ s.1, y < 256) → ∀ y ∈ (outP a s).1, y < 256
  | 0, _, s, h => h
  | a + 1, ha, s, h => innP_lt (by omega) a (by omega) _ (outP_lt a (by omega) s h)
theorem innP_le (a : Nat) : ∀ b s, (innP a b s).2 ≤ s.2
  | 0, s => Nat.le_refl _
  | b + 1, s => by
    have := innP_le a b s
    simp only [innP]; omega
theorem outP_le : ∀ a s, (outP a s).2 ≤ s.2
  | 0, s => Nat.le_refl _
  | a + 1, s => Nat.le_trans (innP_le a a _) (outP_le a s)
/-- Whether the rows are a valid tour's. -/
def okC (n : Nat) (ys : List Nat) : Bool := (List.range n).all fun a => decide (ys.getD a 0 < 2 ^ n) && (!(ys.getD a 0).testBit a && (List.range a).all fun b => (ys.getD a 0).testBit b != (ys.getD b 0).testBit a)
theorem okC_ok {n : Nat} {ys : List Nat} (h1 : 1 ≤ n) (h8 : n ≤ 8) (hl : ys.length = n) (h : okC n ys = true) : Ok (n : Int) (ys.map Int.ofNat) := by
  have hlen : (ys.map Int.ofNat).length = n := by rw [List.length_map, hl]
  have hg : ∀ k, (ys.map Int.ofNat).getD k 0 = ((ys.getD k 0 : Nat) : Int) := fun k => by
    rw [List.getD_eq_getElem?_getD, List.getD_eq_getElem?_getD, List.getElem?_map]
    cases ys[k]? <;> rfl
  refine ⟨by omega, by omega, by rw [hlen], fun a ha => ?_⟩
  rw [hlen] at ha
  unfold okC at h
  rw [List.all_eq_true] at h
  have h2 := h a (by simpa using ha)
  simp only [Bool.and_eq_true, decide_eq_true_eq, Bool.not_eq_true', List.all_eq_true, List.mem_range, bne_iff_ne, ne_eq] at h2
  refine ⟨?_, ?_, fun b hb => ?_⟩
  · rw [hg, hlen]
    unfold inSet
    simp only [Bool.and_eq_true, decide_eq_true_eq]
    omega
  · rw [hg, bi_nat]; exact h2.2.1
  · rw [hg, hg, bi_nat, bi_nat]; exact h2.2.2 b hb
/-- A count by halves. -/
def bc (p : Nat → Bool) : Nat → Nat → Nat
  | 0, lo => if p lo then 1 else 0
  | d + 1, lo => bc p d lo + bc p d (lo + 2 ^ d)
theorem bc_cn (p : Nat → Bool) : ∀ d lo, Kk.cn p (lo + 2 ^ d) = Kk.cn p lo + bc p d lo
  | 0, lo => rfl
  | d + 1, lo => by
    rw [Nat.pow_succ, Nat.mul_two, ← Nat.add_assoc, bc_cn p d (lo + 2 ^ d), bc_cn p d lo]
    simp only [bc]; omega
/-- A test by halves. -/
def ba (p : Nat → Bool) : Nat → Nat → Bool
  | 0, lo => p lo
  | d + 1, lo => ba p d lo && ba p d (lo + 2 ^ d)
theorem ba_all (p : Nat → Bool) : ∀ d lo, ba p d lo = true → ∀ x, lo ≤ x → x < lo + 2 ^ d → p x = true
  | 0, lo, h, x, h1, h2 => by
    obtain rfl : x = lo := by simp at h2; omega
    exact h
  | d + 1, lo, h, x, h1, h2 => by
    simp only [ba, Bool.and_eq_true] at h
    rw [Nat.pow_succ] at h2
    rcases Nat.lt_or_ge x (lo + 2 ^ d) with h3 | h3
    · exact ba_all p d lo h.1 x h1 h3
    · exact ba_all p d (lo + 2 ^ d) h.2 x h3 (by omega)
theorem tourP_ok5 : ((List.range 6).all fun n => ba (fun c => okC n (tourP n c)) (Tmpm.prN n) 0) = true := by decide +kernel
theorem tourP_ok {n c : Nat} (h1 : 1 ≤ n) (h5 : n ≤ 5) (hc : c < 2 ^ Tmpm.prN n) : Ok (n : Int) ((tourP n c).map Int.ofNat) := by
  have h := tourP_ok5
  rw [List.all_eq_true] at h
  have h2 := h n (by simp; omega)
  have h3 := ba_all _ _ _ h2 c (Nat.zero_le _) (by omega)
  refine okC_ok h1 (by omega) ?_ h3
  unfold tourP
  rw [outP_len]; simp
/-- How many kings. -/
def kc (n : Nat) (ys : List Nat) : Nat := Kk.cn (Kk.kingN (fun a => ys.getD a 0) n) n
/-- Which game a place tells. -/
def idxF (N i j : Nat) : Nat := i * N - i * (i + 1) / 2 + (j - i - 1)
theorem idx_F : ∀ N : Fin 6, ∀ i : Fin 6, ∀ j : Fin 6, i.val < j.val → j.val < N.val → idx N.val i.val j.val = idxF N.val i.val j.val := by decide +kernel
def bitsF (N b i j : Nat) : Bool := if i < j then b.testBit (idxF N i j) else if j < i then !b.testBit (idxF N j i) else false
def tourF (N b : Nat) : List Nat := (List.range N).map fun i => numb (bitsF N b i) N
theorem numb_congr {f g : Nat → Bool} : ∀ k, (∀ j, j < k → f j = g j) → numb f k = numb g k
  | 0, _ => rfl
  | k + 1, h => by simp only [numb]; rw [numb_congr k (fun j hj => h j (by omega)), h k (by omega)]
theorem tourL_F (N b : Nat) (h : N ≤ 5) : tourL N b = tourF N b := by
  unfold tourL tourF
  apply List.map_congr_left
  intro i hi
  rw [List.mem_range] at hi
  apply numb_congr
  intro j hj
  unfold tourBits bitsF
  by_cases h1 : i < j
  · rw [if_pos h1, if_pos h1, show idx N i j = idxF N i j from idx_F ⟨N, by omega⟩ ⟨i, by omega⟩ ⟨j, by omega⟩ h1 hj]
  · rw [if_neg h1, if_neg h1]
    by_cases h2 : j < i
    · rw [if_pos h2, if_pos h2, show idx N j i = idxF N j i from idx_F ⟨N, by omega⟩ ⟨j, by omega⟩ ⟨i, by omega⟩ h2 hi]
    · rw [if_neg h2, if_neg h2]
/-- How many of the tours have k kings. -/
def cntK (t : Nat → Nat → List Nat) (n k : Nat) : Nat := Kk.cn (fun c => kc n (t n c) == k) (2 ^ Tmpm.prN n)
set_option maxRecDepth 100000 in
theorem same5 : ((List.range 6).all fun n => (List.range 6).all fun k => bc (fun c => kc n (tourP n c) == k) (Tmpm.prN n) 0 == bc (fun c => kc n (tourF n c) == k) (Tmpm.prN n) 0) = true := by decide +kernel
theorem cnt_same {n k : Nat} (h5 : n ≤ 5) (hk : k ≤ n) : cntK tourP n k = cntK tourL n k := by
  have h := same5
  rw [List.all_eq_true] at h
  have h2 := h n (by simp; omega)
  rw [List.all_eq_true] at h2
  have h3 := h2 k (by simp; omega)
  have h4 : bc (fun c => kc n (tourP n c) == k) (Tmpm.prN n) 0 = bc (fun c => kc n (tourF n c) == k) (Tmpm.prN n) 0 := by simpa using h3
  have e1 := bc_cn (fun c => kc n (tourP n c) == k) (Tmpm.prN n) 0
  have e2 := bc_cn (fun c => kc n (tourF n c) == k) (Tmpm.prN n) 0
  rw [Nat.zero_add] at e1 e2
  have e3 : (fun c => kc n (tourL n c) == k) = (fun c => kc n (tourF n c) == k) := by funext c; rw [tourL_F n c h5]
  show Kk.cn (fun c => kc n (tourP n c) == k) (2 ^ Tmpm.prN n) = Kk.cn (fun c => kc n (tourL n c) == k) (2 ^ Tmpm.prN n)
  rw [e3, e1, e2, h4]
  simp [Kk.cn]
theorem ww_map (ys : List Nat) : ww (ys.map Int.ofNat) = fun a => ys.getD a 0 := by
  funext a
  unfold ww
  rw [List.getD_eq_getElem?_getD, List.getD_eq_getElem?_getD, List.getElem?_map]
  cases ys[a]? <;> rfl
theorem pc_kings {f : Nat → Nat} {m : Nat} (hm : m ≤ 8) : pc (Kk.kings f m) = Kk.cn (Kk.kingN f m) m := by
  rw [Kk.pc_cn (Kk.kings f m) m hm (Rc.nb_lt _ _)]
  have : ∀ k, k ≤ m → Kk.cn (Kk.kings f m).testBit k = Kk.cn (Kk.kingN f m) k := by
    intro k
    induction k with
    | zero => exact fun _ => rfl
    | succ k ih =>
      intro hk
      simp only [Kk.cn]
      rw [ih (by omega), show (Kk.kings f m).testBit k = Kk.kingN f m k by unfold Kk.kings; rw [Rc.nb_bit]; simp [show k < m by omega]]
  exact this m (Nat.le_refl _)
end Go.Proofs.Ytgjogbihadiojaa
