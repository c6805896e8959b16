/-
  Both 'PartTour'. No conditions but the bounds that Go gives a slice.
-/
import Derived.Test.YteiadhfjpohmdaaL
import Derived.Test.YteiadhfjpohmdaaM
import Derived.Test.YteiadhfjpohmdaaN
namespace Go.Proofs.Yteiadhfjpohmdaa
open Go.ChangeShapes Go.WideShapes Go.ChangeAt Go.RowKit
set_option linter.unusedVariables false

/-- The number whose digits f names. -/
def numb (f : Nat → Bool) : Nat → Nat
  | 0 => 0
  | k + 1 => numb f k + if f k then 2 ^ k else 0
theorem numb_lt (f : Nat → Bool) : ∀ k, numb f k < 2 ^ k
  | 0 => by simp [numb]
  | k + 1 => by
    have := numb_lt f k
    simp only [numb, Nat.pow_succ]
    split <;> omega
theorem numb_or (f : Nat → Bool) (k : Nat) : numb f k ||| 2 ^ k = numb f k + 2 ^ k := by
  have h := Nat.two_pow_add_eq_or_of_lt (numb_lt f k) 1
  rw [Nat.mul_one] at h
  rw [Nat.or_comm, ← h, Nat.add_comm]
theorem numb_le (f : Nat → Bool) (k : Nat) (hk : k ≤ 8) : numb f k < 256 := Nat.lt_of_lt_of_le (numb_lt f k) (pow_le k hk)

def partF (l : List Int) (es : List Nat) (i k : Nat) : Bool := bt l (es.getD i 0) (es.getD k 0)
def partL (l : List Int) (es : List Nat) : List Nat := (List.range es.length).map fun i => numb (partF l es i) es.length
theorem partL_len (l : List Int) (es : List Nat) : (partL l es).length = es.length := by simp [partL]
theorem partL_at (l : List Int) (es : List Nat) (i : Nat) (hi : i < es.length) : (partL l es)[i]? = some (numb (partF l es i) es.length) := by simp [partL, hi]
/-- The rows while they are filled. -/
def stB (l : List Int) (es : List Nat) (i k : Nat) : List Nat := (partL l es).take i ++ numb (partF l es i) k :: List.replicate (es.length - i - 1) 0
def stA (l : List Int) (es : List Nat) (i : Nat) : List Nat := (partL l es).take i ++ List.replicate (es.length - i) 0
theorem stA_zero (l : List Int) (es : List Nat) : stA l es 0 = List.replicate es.length 0 := by simp [stA]
theorem stA_all (l : List Int) (es : List Nat) : stA l es es.length = partL l es := by
  unfold stA; rw [← partL_len l es]; simp
theorem stB_zero (l : List Int) (es : List Nat) (i : Nat) (hi : i < es.length) : stB l es i 0 = stA l es i := by
  unfold stA stB
  rw [show es.length - i = (es.length - i - 1) + 1 by omega, List.replicate_succ]
  rfl
theorem stB_end (l : List Int) (es : List Nat) (i : Nat) (hi : i < es.length) : stB l es i es.length = stA l es (i + 1) := by
  unfold stA stB
  rw [take_snoc _ _ _ (partL_at l es i hi), List.append_assoc, show es.length - (i + 1) = es.length - i - 1 by omega]
  rfl
theorem stB_len (l : List Int) (es : List Nat) (i k : Nat) (hi : i < es.length) : (stB l es i k).length = es.length := by
  simp only [stB, List.length_append, List.length_take, partL_len, List.length_cons, List.length_replicate]; omega
theorem stB_at (l : List Int) (es : List Nat) (i k : Nat) (hi : i < es.length) : (stB l es i k).getD i 0 = numb (partF l es i) k := by
  unfold stB
  rw [List.getD_eq_getElem?_getD, List.getElem?_append_right (by simp [partL_len]; omega)]
  have : i - ((partL l es).take i).length = 0 := by simp [partL_len]; omega
  rw [this]; rfl
theorem stB_set (l : List Int) (es : List Nat) (i k : Nat) (hi : i < es.length) (hf : partF l es i k = true) : (stB l es i k).set i ((stB l es i k).getD i 0 ||| 2 ^ k) = stB l es i (k + 1) := by
  rw [stB_at l es i k hi, numb_or]
  unfold stB
  rw [List.set_append, if_neg (by simp [partL_len]; omega)]
  have : i - ((partL l es).take i).length = 0 := by simp [partL_len]; omega
  rw [this, List.set_cons_zero]
  simp [numb, hf]
theorem stB_no (l : List Int) (es : List Nat) (i k : Nat) (hf : partF l es i k = false) : stB l es i (k + 1) = stB l es i k := by unfold stB; simp [numb, hf]
theorem stB_lt (l : List Int) (es : List Nat) (i k : Nat) (he : es.length ≤ 8) (hk : k ≤ 8) : ∀ y ∈ stB l es i k, y < 256 := by
  intro y hy
  unfold stB at hy
  rcases List.mem_append.1 hy with h | h
  · obtain ⟨j, _, rfl⟩ := List.mem_map.1 (List.mem_of_mem_take h)
    exact numb_le _ _ he
  · rcases List.mem_cons.1 h with rfl | h
    · exact numb_le _ _ hk
    · rw [(List.mem_replicate.1 h).2]; decide
theorem elems_bit (x i : Nat) (hi : i < (elems x).length) : x.testBit ((elems x).getD i 0) = true := by
  rw [List.getD_eq_getElem?_getD, List.getElem?_eq_getElem hi]
  have := List.getElem_mem hi
  exact (List.mem_filter.1 this).2
theorem elems_in (x i m : Nat) (hx : x < 2 ^ m) (hi : i < (elems x).length) : (elems x).getD i 0 < m := by
  have h := elems_bit x i hi
  rcases Nat.lt_or_ge ((elems x).getD i 0) m with h' | h'
  · exact h'
  · rw [Nat.testBit_lt_two_pow (Nat.lt_of_lt_of_le hx (Nat.pow_le_pow_right (by decide) h'))] at h; cases h

noncomputable def ptB (n : Int) (l : List Int) (p : Int) : Bool := okB n l && (!(p == 0) && inSet p l.length)
noncomputable def ptR (n : Int) (l : List Int) (p : Int) : List Int := if ptB n l p then (partL l (elems p.toNat)).map Int.ofNat else []
noncomputable def ptN (n : Int) (l : List Int) (p : Int) : Int := if ptB n l p then ((elems p.toNat).length : Int) else 0

end Go.Proofs.Yteiadhfjpohmdaa
