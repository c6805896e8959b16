/-
  The part of a valid tour is a valid tour (mathematics).
-/
import Derived.Test.Ytcipffimjaancaa8H
import Derived.Test.Ytcipffimjaancaa8C
import Derived.Test.YtcipffimjaancaaS8
namespace Go.Proofs.Ytcipffimjaancaa
open Go.ChangeShapes Go.WideShapes Go.ChangeAt Go.RowKit
set_option linter.unusedVariables false

abbrev OkL8 (l : List Int) : Prop := Ok (l.length : Int) l
theorem bt_nat8 {l : List Int} {i x : Nat} (j : Nat) (hx : l.getD i 0 = (x : Int)) : bt l i j = x.testBit j := by unfold bt; rw [hx, bi_nat]
theorem getD_map_ofNat8 (ys : List Nat) (i : Nat) : (ys.map Int.ofNat).getD i 0 = ((ys.getD i 0 : Nat) : Int) := by
  rw [List.getD_eq_getElem?_getD, List.getD_eq_getElem?_getD, List.getElem?_map]
  cases ys[i]? <;> rfl
theorem bt_ofNat8 (ys : List Nat) (i j : Nat) : bt (ys.map Int.ofNat) i j = (ys.getD i 0).testBit j := bt_nat8 j (getD_map_ofNat8 ys i)
theorem mkOk8 {ys : List Nat} (h1 : 1 ≤ ys.length) (h8 : ys.length ≤ 8) (hx : ∀ i, i < ys.length → ys.getD i 0 < 2 ^ ys.length)
    (hs : ∀ i, i < ys.length → (ys.getD i 0).testBit i = false) (ho : ∀ i j, i < ys.length → j < ys.length → i ≠ j → (ys.getD i 0).testBit j = !(ys.getD j 0).testBit i) : OkL8 (ys.map Int.ofNat) := by
  have hl : (ys.map Int.ofNat).length = ys.length := by simp
  refine ⟨by omega, by omega, rfl, ?_⟩
  intro a ha
  rw [hl] at ha
  refine ⟨?_, ?_, ?_⟩
  · rw [getD_map_ofNat8, hl]
    have := hx a ha
    simp only [inSet, Bool.and_eq_true, decide_eq_true_eq]
    omega
  · exact (bt_ofNat8 ys a a).trans (hs a ha)
  · intro b hb
    have e := ho a b ha (by omega) (by omega)
    have e1 := bt_ofNat8 ys a b
    have e2 := bt_ofNat8 ys b a
    unfold bt at e1 e2
    rw [e1, e2, e]
    cases (ys.getD b 0).testBit a <;> decide

theorem numb_nb (f : Nat → Bool) : ∀ k, numb f k = Rc.nb f k
  | 0 => rfl
  | k + 1 => by simp only [numb, Rc.nb, numb_nb f k]
theorem elems_nodup (x : Nat) : (elems x).Nodup := by unfold elems elTo; exact List.nodup_range.filter _
theorem elems_inj {x i j : Nat} (hi : i < (elems x).length) (hj : j < (elems x).length) (he : (elems x).getD i 0 = (elems x).getD j 0) : i = j := by
  rw [List.getD_eq_getElem?_getD, List.getD_eq_getElem?_getD, List.getElem?_eq_getElem hi, List.getElem?_eq_getElem hj] at he
  have hp := List.pairwise_iff_getElem.1 (elems_nodup x)
  rcases Nat.lt_trichotomy i j with h | h | h
  · exact absurd he (hp i j hi hj h)
  · exact h
  · exact absurd he.symm (hp j i hj hi h)
/-- The part of a valid tour. -/
theorem part_ok {n : Int} {l : List Int} (h : Ok n l) {x : Nat} (h1 : 1 ≤ x) (h2 : x < 2 ^ l.length) : Ok ((elems x).length : Int) ((partL l (elems x)).map Int.ofNat) := by
  have h8 : l.length ≤ 8 := by have := h.2.1; have := h.2.2.1; omega
  have hlen : (partL l (elems x)).length = (elems x).length := partL_len l (elems x)
  have hpos : 1 ≤ (elems x).length := by
    rcases Nat.eq_zero_or_pos (elems x).length with h0 | h0
    · exfalso
      have hnil := List.length_eq_zero_iff.1 h0
      have : x = 0 := by
        apply Nat.eq_of_testBit_eq
        intro k
        rw [Nat.zero_testBit]
        cases hb : x.testBit k
        · rfl
        · have hk : k < l.length := Rc.bit_lt h2 hb
          have : k ∈ elems x := by unfold elems elTo; exact List.mem_filter.2 ⟨List.mem_range.2 (by omega), hb⟩
          rw [hnil] at this; cases this
      omega
    · exact h0
  have hle : (elems x).length ≤ 8 := elTo_len x 8
  have hat : ∀ i, i < (elems x).length → (partL l (elems x)).getD i 0 = numb (partF l (elems x) i) (elems x).length := fun i hi => by
    rw [List.getD_eq_getElem?_getD, partL_at l (elems x) i hi]; rfl
  have hin : ∀ i, i < (elems x).length → (elems x).getD i 0 < l.length := fun i hi => elems_in x i _ h2 hi
  have hb : ∀ i j, i < (elems x).length → j < (elems x).length → ((partL l (elems x)).getD i 0).testBit j = bt l ((elems x).getD i 0) ((elems x).getD j 0) := by
    intro i j hi hj
    rw [hat i hi, numb_nb, Rc.nb_bit, decide_eq_true hj, Bool.true_and]
    rfl
  have key := mkOk8 (ys := partL l (elems x)) (by omega) (by omega) (fun i hi => by
    rw [hlen] at hi ⊢
    rw [hat i hi]; exact numb_lt _ _) (fun i hi => by
    rw [hlen] at hi
    rw [hb i i hi hi]; exact h.self8 (hin i hi)) (fun i j hi hj hne => by
    rw [hlen] at hi hj
    rw [hb i j hi hj, hb j i hj hi]
    exact h.other8 (hin i hi) (hin j hj) (fun e => hne (elems_inj hi hj e)))
  have e : (((partL l (elems x)).map Int.ofNat).length : Int) = ((elems x).length : Int) := by rw [List.length_map, hlen]
  rw [← e]; exact key
end Go.Proofs.Ytcipffimjaancaa
