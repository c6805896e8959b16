/-
  A flipped game of a valid tour: the tour stays valid, and only this game's result is another one. No conditions else.
-/
import Derived.Test.YteegbkbphfmooaaH
namespace Go.Proofs.Yteegbkbphfmooaa
open Go.ChangeShapes Go.WideShapes Go.ChangeAt Go.RowKit
set_option linter.unusedVariables false

theorem map_ofNat_getDq (ws : List Nat) (k : Nat) : (ws.map Int.ofNat).getD k 0 = ((ws.getD k 0 : Nat) : Int) := by
  rw [List.getD_eq_getElem?_getD, List.getElem?_map, List.getD_eq_getElem?_getD]
  cases ws[k]? <;> rfl
theorem map_toNatq (ws : List Nat) : (ws.map Int.ofNat).map Int.toNat = ws := by
  rw [List.map_map]
  have : (Int.toNat ∘ Int.ofNat) = id := by funext x; rfl
  rw [this, List.map_id]
theorem flipAt_getDq (ys : List Nat) (i j k : Nat) (hi : i < ys.length) : (flipAt ys i j).getD k 0 = if i = k then ys.getD i 0 ^^^ 2 ^ j else ys.getD k 0 := by
  unfold flipAt
  rw [List.getD_eq_getElem?_getD, List.getElem?_set]
  split
  · rename_i e; subst e; rfl
  · rw [← List.getD_eq_getElem?_getD]
/-- The numbers of a flipped tour. -/
theorem flipL_getDq (ws : List Nat) (i j k : Nat) (hi : i < ws.length) (hj : j < ws.length) (hij : i ≠ j) :
    (flipL (ws.map Int.ofNat) i j).getD k 0 = (((if k = i then ws.getD i 0 ^^^ 2 ^ j else if k = j then ws.getD j 0 ^^^ 2 ^ i else ws.getD k 0) : Nat) : Int) := by
  unfold flipL
  rw [map_toNatq, map_ofNat_getDq, flipAt_getDq _ _ _ _ (by rw [flipAt_len]; exact hj), flipAt_getDq _ _ _ _ hi, flipAt_getDq _ _ _ _ hi, if_neg hij]
  congr 1
  by_cases h1 : k = i
  · subst h1
    rw [if_neg (fun e => hij e.symm), if_pos rfl, if_pos rfl]
  · rw [if_neg h1]
    by_cases h2 : k = j
    · subst h2; rw [if_pos rfl, if_pos rfl]
    · rw [if_neg (fun e => h2 e.symm), if_neg (fun e => h1 e.symm), if_neg h2]
theorem flipL_lenq (l : List Int) (i j : Nat) : (flipL l i j).length = l.length := by
  unfold flipL
  rw [List.length_map, flipAt_len, flipAt_len, List.length_map]
/-- Only the game between the two is another one. -/
theorem bt_flipq {n : Int} {l : List Int} (h : Ok n l) {i j : Nat} (hi : i < l.length) (hj : j < l.length) (hij : i ≠ j) (p q : Nat) :
    bt (flipL l i j) p q = (bt l p q ^^ ((p == i && q == j) || (p == j && q == i))) := by
  obtain ⟨ws, rfl, _⟩ := h.nats
  rw [List.length_map] at hi hj
  unfold bt
  rw [flipL_getDq ws i j p hi hj hij, map_ofNat_getDq, bi_nat, bi_nat]
  by_cases h1 : p = i
  · subst h1
    rw [if_pos rfl, Nat.testBit_xor, Nat.testBit_two_pow]
    have e1 : (p == p) = true := by simp
    have e2 : (p == j) = false := by rw [beq_eq_false_iff_ne]; exact hij
    rw [e1, e2, Bool.false_and, Bool.or_false, Bool.true_and]
    congr 1
    by_cases e : j = q
    · simp [e]
    · have : (q == j) = false := by rw [beq_eq_false_iff_ne]; exact fun h => e h.symm
      simp [e, this]
  · rw [if_neg h1]
    have e1 : (p == i) = false := by rw [beq_eq_false_iff_ne]; exact h1
    rw [e1, Bool.false_and, Bool.false_or]
    by_cases h2 : p = j
    · subst h2
      rw [if_pos rfl, Nat.testBit_xor, Nat.testBit_two_pow]
      have e2 : (p == p) = true := by simp
      rw [e2, Bool.true_and]
      congr 1
      by_cases e : i = q
      · simp [e]
      · have : (q == i) = false := by rw [beq_eq_false_iff_ne]; exact fun h => e h.symm
        simp [e, this]
    · rw [if_neg h2]
      have e2 : (p == j) = false := by rw [beq_eq_false_iff_ne]; exact h2
      rw [e2, Bool.false_and, Bool.xor_false]
theorem pow_lt_len {l : List Int} (j : Nat) (hj : j < l.length) : 2 ^ j < 2 ^ l.length := Nat.pow_lt_pow_right (by decide) hj
theorem flip_okq {n : Int} {l : List Int} (h : Ok n l) {i j : Nat} (hi : i < l.length) (hj : j < l.length) (hij : i ≠ j) : Ok n (flipL l i j) := by
  have hlen := flipL_lenq l i j
  refine ⟨h.1, h.2.1, by rw [hlen]; exact h.2.2.1, fun a ha => ?_⟩
  rw [hlen] at ha
  have hb := fun p q => bt_flipq h hi hj hij p q
  obtain ⟨r1, r2, r3⟩ := h.2.2.2 a ha
  refine ⟨?_, ?_, fun b hba => ?_⟩
  · obtain ⟨ws, e, hlt⟩ := h.nats
    rw [hlen]
    have hwl : l.length = ws.length := by rw [e]; simp
    have hget : ∀ k, k < ws.length → ws.getD k 0 < 2 ^ l.length := fun k hk => by
      rw [List.getD_eq_getElem?_getD, List.getElem?_eq_getElem hk]; exact (hlt _ (List.getElem_mem hk)).1
    have hval : ∃ v : Nat, (flipL l i j).getD a 0 = (v : Int) ∧ v < 2 ^ l.length := by
      have e2 : (flipL l i j).getD a 0 = (((if a = i then ws.getD i 0 ^^^ 2 ^ j else if a = j then ws.getD j 0 ^^^ 2 ^ i else ws.getD a 0) : Nat) : Int) := by
        rw [e]; exact flipL_getDq ws i j a (by omega) (by omega) hij
      refine ⟨_, e2, ?_⟩
      split
      · exact Nat.xor_lt_two_pow (hget i (by omega)) (pow_lt_len j hj)
      · split
        · exact Nat.xor_lt_two_pow (hget j (by omega)) (pow_lt_len i hi)
        · exact hget a (by omega)
    obtain ⟨v, hv, hv2⟩ := hval
    rw [hv]
    unfold inSet
    simp only [Bool.and_eq_true, decide_eq_true_eq]
    generalize 2 ^ l.length = P at hv2 ⊢
    omega
  · have h1 := hb a a
    unfold bt at h1
    rw [h1, r2]
    by_cases e1 : a = i
    · have : (a == j) = false := by rw [beq_eq_false_iff_ne]; omega
      rw [this, Bool.and_false, Bool.false_and]; rfl
    · have : (a == i) = false := by rw [beq_eq_false_iff_ne]; exact e1
      rw [this, Bool.and_false, Bool.false_and]; rfl
  · have h1 := hb a b
    have h2 := hb b a
    unfold bt at h1 h2
    rw [h1, h2]
    have h3 := r3 b hba
    have h4 : ((a == i && b == j) || (a == j && b == i)) = ((b == i && a == j) || (b == j && a == i)) := by
      cases (a == i) <;> cases (b == j) <;> cases (a == j) <;> cases (b == i) <;> rfl
    rw [h4]
    intro h5
    apply h3
    revert h5
    generalize ((b == i && a == j) || (b == j && a == i)) = t
    generalize bi (l.getD a 0) b = u
    generalize bi (l.getD b 0) a = v
    cases t <;> cases u <;> cases v <;> simp
end Go.Proofs.Yteegbkbphfmooaa
