/-
  Indices by falling elements: the model's order by insertion, and that there is just one such order. No conditions.
-/
import Derived.Test.YtpndfmlkceplcaaGu
namespace Go.Proofs.Ytpndfmlkceplcaa
open Go.Sort
set_option linter.unusedVariables false

/-- Whether an index stands before another one: the greater element, or an equal one and the lesser index. -/
def leI (l : List Int) (x y : Nat) : Prop := l.getD y 0 < l.getD x 0 ∨ (l.getD y 0 = l.getD x 0 ∧ x ≤ y)
theorem leI_anti {l : List Int} {x y : Nat} (h1 : leI l x y) (h2 : leI l y x) : x = y := by unfold leI at *; omega
/-- Where a new index goes: behind those whose element is not less. -/
def posO (l : List Int) (out : List Nat) (x : Int) : Nat → Nat
  | 0 => 0
  | k + 1 => if l.getD (out.getD k 0) 0 < x then posO l out x k else k + 1
theorem posO_le (l : List Int) (out : List Nat) (x : Int) : ∀ k, posO l out x k ≤ k
  | 0 => Nat.le_refl _
  | k + 1 => by rw [posO]; split; exact Nat.le_succ_of_le (posO_le l out x k); exact Nat.le_refl _
theorem posO_over (l : List Int) (out : List Nat) (x : Int) : ∀ k i, posO l out x k ≤ i → i < k → l.getD (out.getD i 0) 0 < x
  | 0, i, _, h => by omega
  | k + 1, i, h1, h2 => by
    rw [posO] at h1
    split at h1
    · rename_i h
      by_cases c : i = k
      · rw [c]; exact h
      · exact posO_over l out x k i h1 (by omega)
    · omega
theorem posO_stop (l : List Int) (out : List Nat) (x : Int) : ∀ k, 0 < posO l out x k → ¬ l.getD (out.getD (posO l out x k - 1) 0) 0 < x
  | 0, h => by simp [posO] at h
  | k + 1, h => by
    rw [posO] at h ⊢
    by_cases c : l.getD (out.getD k 0) 0 < x
    · rw [if_pos c] at h ⊢; exact posO_stop l out x k h
    · rw [if_neg c]; simpa using c

/-- The indices below one in order. -/
def ordTo (l : List Int) : Nat → List Nat
  | 0 => []
  | k + 1 => (ordTo l k).take (posO l (ordTo l k) (l.getD k 0) (ordTo l k).length) ++ (k :: (ordTo l k).drop (posO l (ordTo l k) (l.getD k 0) (ordTo l k).length))
theorem ordTo_perm (l : List Int) : ∀ k, (ordTo l k).Perm (List.range k)
  | 0 => List.Perm.refl _
  | k + 1 => by
    rw [ordTo, List.range_succ]
    refine List.perm_middle.trans ?_
    rw [List.take_append_drop]
    exact ((ordTo_perm l k).cons k).trans (List.perm_append_singleton k _).symm
theorem ordTo_len (l : List Int) (k : Nat) : (ordTo l k).length = k := by simpa using (ordTo_perm l k).length_eq
theorem ordTo_lt (l : List Int) (k : Nat) : ∀ x ∈ ordTo l k, x < k := fun x hx => by simpa using (ordTo_perm l k).mem_iff.1 hx
theorem ordTo_sorted (l : List Int) : ∀ k, (ordTo l k).Pairwise (leI l)
  | 0 => List.Pairwise.nil
  | k + 1 => by
    have ih := ordTo_sorted l k
    obtain ⟨O, hO⟩ : ∃ O, O = ordTo l k := ⟨_, rfl⟩
    obtain ⟨p, hp⟩ : ∃ p, p = posO l O (l.getD k 0) O.length := ⟨_, rfl⟩
    have hlt : ∀ x ∈ O, x < k := by rw [hO]; exact ordTo_lt l k
    rw [ordTo, ← hO, ← hp]
    rw [← hO] at ih
    have hple : p ≤ O.length := by rw [hp]; exact posO_le _ _ _ _
    have hsplit : O.take p ++ O.drop p = O := List.take_append_drop _ _
    have hover : ∀ b ∈ O.drop p, l.getD b 0 < l.getD k 0 := by
      intro b hb
      obtain ⟨i, hi, rfl⟩ := List.mem_iff_getElem.1 hb
      rw [List.length_drop] at hi
      have := posO_over l O (l.getD k 0) O.length (p + i) (by rw [← hp]; omega) (by omega)
      rw [List.getElem_drop]
      rw [List.getD_eq_getElem?_getD (l := O), List.getElem?_eq_getElem (by omega)] at this
      exact this
    have hstay : ∀ a ∈ O.take p, ¬ l.getD a 0 < l.getD k 0 := by
      intro a ha
      obtain ⟨i, hi, rfl⟩ := List.mem_iff_getElem.1 ha
      rw [List.length_take] at hi
      rw [List.getElem_take]
      have hpp : 0 < p := by omega
      have h1 := posO_stop l O (l.getD k 0) O.length (by rw [← hp]; exact hpp)
      rw [← hp, List.getD_eq_getElem?_getD (l := O), List.getElem?_eq_getElem (by omega)] at h1
      by_cases c : i = p - 1
      · subst c; exact h1
      · have h2 : leI l O[i] O[p - 1] := List.pairwise_iff_getElem.1 ih i (p - 1) (by omega) (by omega) (by omega)
        unfold leI at h2
        have h1' : ¬ l.getD O[p - 1] 0 < l.getD k 0 := h1
        omega
    rw [← hsplit] at ih
    obtain ⟨i1, i2, i3⟩ := List.pairwise_append.1 ih
    refine List.pairwise_append.2 ⟨i1, List.pairwise_cons.2 ⟨fun b hb => .inl (hover b hb), i2⟩, ?_⟩
    intro a ha b hb
    rcases List.mem_cons.1 hb with rfl | hb
    · have h1 := hstay a ha
      have h2 := hlt a (List.mem_of_mem_take ha)
      unfold leI
      omega
    · exact i3 a ha b hb
/-- What both 'OrderBy' give. -/
def ordL (l : List Int) : List Nat := ordTo l l.length
theorem ordL_len (l : List Int) : (ordL l).length = l.length := ordTo_len l _
theorem ordL_unique (l : List Int) (Q : List Nat) (hp : Q.Perm (List.range l.length)) (hs : Q.Pairwise (leI l)) : Q = ordL l :=
  List.Perm.eq_of_pairwise (fun _ _ _ _ h1 h2 => leI_anti h1 h2) hs (ordTo_sorted l _) (hp.trans (ordTo_perm l _).symm)

/-! The question of the library's sort. -/
def cmpG (x y : Int) : Int := if x < y then -1 else if y < x then 1 else 0
/-- 'cmp(i, k)': the elements the other way round. -/
def cfO (l : List Int) (x y : Nat) : Int := cmpG (l.getD (y % l.length) 0) (l.getD (x % l.length) 0)
def ltO (l : List Int) (x y : Nat) : Bool := decide (l.getD (y % l.length) 0 < l.getD (x % l.length) 0 ∨ (l.getD (y % l.length) 0 = l.getD (x % l.length) 0 ∧ x % l.length < y % l.length))
theorem cfO_lt (l : List Int) (x y : Nat) : ltOf (cfO l) x y = decide (l.getD (y % l.length) 0 < l.getD (x % l.length) 0) := by
  unfold ltOf cfO cmpG
  generalize l.getD (x % l.length) 0 = u
  generalize l.getD (y % l.length) 0 = v
  have e : ((if v < u then (-1 : Int) else if u < v then 1 else 0) < 0) = (v < u) := by
    apply propext
    (repeat' split) <;> omega
  simp only [e]
theorem ltO_swo (l : List Int) : SWO (ltO l) where
  irrefl x := by unfold ltO; simp
  trans x y z h1 h2 := by unfold ltO at *; simp only [decide_eq_true_eq] at *; omega
  ntrans x y z h1 h2 := by unfold ltO at *; simp only [decide_eq_false_iff_not] at *; omega
theorem range_at (n i : Nat) (h : i < n) : (Array.range n)[i]! = i := by
  rw [getElem!_pos _ i (by simpa using h)]; simp
theorem start_agrees (l : List Int) : ∀ p q, p < q → q < (Array.range l.length).size → ltOf (cfO l) (Array.range l.length)[q]! (Array.range l.length)[p]! = ltO l (Array.range l.length)[q]! (Array.range l.length)[p]! := by
  intro p q h1 h2
  rw [Array.size_range] at h2
  rw [range_at _ q h2, range_at _ p (by omega), cfO_lt]
  unfold ltO
  rw [Nat.mod_eq_of_lt h2, Nat.mod_eq_of_lt (by omega : p < l.length)]
  simp only [decide_eq_decide]
  omega
/-- A sorted permutation of the indices is the model's order. -/
theorem order_of (l : List Int) (d' : Array Nat) (hp : PermIn 0 (Array.range l.length).size (Array.range l.length) d') (hu : Gm.Up (leO (ltO l)) d' 0 (Array.range l.length).size) : d'.toList = ordL l := by
  rw [Array.size_range] at hp hu
  have hsz : d'.size = l.length := by have := hp.1; rwa [Array.size_range] at this
  have hperm : d'.toList.Perm (List.range l.length) := by
    have h := hp.2.2
    have e1 : d'.extract 0 l.length = d' := by rw [← hsz]; exact Array.extract_size
    have e2 : (Array.range l.length).extract 0 l.length = Array.range l.length := by
      have : (Array.range l.length).extract 0 (Array.range l.length).size = Array.range l.length := Array.extract_size
      rwa [Array.size_range] at this
    rw [e1, e2] at h
    simpa using h
  refine ordL_unique l _ hperm (List.pairwise_iff_getElem.2 fun i j hi hj hij => ?_)
  have hi' : i < l.length := by rw [Array.length_toList] at hi; omega
  have hj' : j < l.length := by rw [Array.length_toList] at hj; omega
  have h := hu i j (Nat.zero_le _) hij hj'
  rw [getElem!_pos d' i (by omega), getElem!_pos d' j (by omega)] at h
  have m1 : d'[i] < l.length := by have := hperm.mem_iff.1 (List.getElem_mem hi); simpa using this
  have m2 : d'[j] < l.length := by have := hperm.mem_iff.1 (List.getElem_mem hj); simpa using this
  unfold leO ltO at h
  rw [decide_eq_false_iff_not, Nat.mod_eq_of_lt m1, Nat.mod_eq_of_lt m2] at h
  rw [Array.getElem_toList, Array.getElem_toList]
  unfold leI
  omega
end Go.Proofs.Ytpndfmlkceplcaa
