/-
  What a tour's text tells of the tour: results one after the other. No program but for the tests' words.
-/
import Derived.Test.YtgjogbihadiojaaV4A
namespace Go.Proofs.Ytgjogbihadiojaa
open Go.ChangeShapes Go.WideShapes Go.ChangeAt Go.RowKit
set_option linter.unusedVariables false

theorem modS (x k : Nat) (hx : x < 256) (hk : k < 8) : x % 2 ^ (k + 1) = if x.testBit k then x % 2 ^ k ||| 2 ^ k else x % 2 ^ k := by
  have : ∀ (x : Fin 256) (k : Fin 8), x.val % 2 ^ (k.val + 1) = if x.val.testBit k.val then x.val % 2 ^ k.val ||| 2 ^ k.val else x.val % 2 ^ k.val := by decide +kernel
  exact this ⟨x, hx⟩ ⟨k, hk⟩
theorem or_add (x k : Nat) (hx : x < 256) (hk : k < 8) : x % 2 ^ k ||| 2 ^ k = x % 2 ^ k + 2 ^ k := by
  have : ∀ (x : Fin 256) (k : Fin 8), x.val % 2 ^ k.val ||| 2 ^ k.val = x.val % 2 ^ k.val + 2 ^ k.val := by decide +kernel
  exact this ⟨x, hx⟩ ⟨k, hk⟩
def xv (l : List Int) (p : Nat) : Nat := (l.getD p 0).toNat
section
variable {n : Int} {l : List Int}
theorem Ok.xv (h : Ok n l) {p : Nat} (hp : p < l.length) : l.getD p 0 = (Go.Proofs.Ytgjogbihadiojaa.xv l p : Nat) ∧ Go.Proofs.Ytgjogbihadiojaa.xv l p < 2 ^ l.length ∧ Go.Proofs.Ytgjogbihadiojaa.xv l p < 256 := by
  obtain ⟨x, hx, h1, h2⟩ := h.nat hp
  unfold Go.Proofs.Ytgjogbihadiojaa.xv
  rw [hx]; exact ⟨rfl, h1, h2⟩
theorem Ok.bit (h : Ok n l) {p q : Nat} (hp : p < l.length) : bt l p q = (Go.Proofs.Ytgjogbihadiojaa.xv l p).testBit q := by
  unfold bt; rw [(h.xv hp).1, bi_nat]
theorem Ok.selfX (h : Ok n l) {p : Nat} (hp : p < l.length) : (Go.Proofs.Ytgjogbihadiojaa.xv l p).testBit p = false := by
  rw [← h.bit hp]; exact (h.2.2.2 p hp).2.1
theorem Ok.otherX (h : Ok n l) {p q : Nat} (hp : p < l.length) (hq : q < l.length) (hne : p ≠ q) : (Go.Proofs.Ytgjogbihadiojaa.xv l q).testBit p = !(Go.Proofs.Ytgjogbihadiojaa.xv l p).testBit q := by
  rw [← h.bit hp, ← h.bit hq]
  rcases Nat.lt_or_ge q p with hlt | hge
  · have := (h.2.2.2 p hp).2.2 q hlt
    unfold bt
    revert this
    cases bi (l.getD p 0) q <;> cases bi (l.getD q 0) p <;> simp
  · have := (h.2.2.2 q hq).2.2 p (by omega)
    unfold bt
    revert this
    cases bi (l.getD p 0) q <;> cases bi (l.getD q 0) p <;> simp
end
/-- What is known of player p when the pairs before (i, j) have been told. -/
def tellP (l : List Int) (i j p : Nat) : Nat := if p < i then xv l p else if p = i then xv l p % 2 ^ j else if p < j then xv l p % 2 ^ (i + 1) else xv l p % 2 ^ i
def tellL (l : List Int) (i j : Nat) : List Nat := (List.range l.length).map (tellP l i j)
theorem tellL_len (l : List Int) (i j : Nat) : (tellL l i j).length = l.length := by simp [tellL]
theorem tellL_at (l : List Int) (i j p : Nat) (h : p < l.length) : (tellL l i j)[p]? = some (tellP l i j p) := by simp [tellL, h]
theorem tellL_getD (l : List Int) (i j p : Nat) (h : p < l.length) : (tellL l i j).getD p 0 = tellP l i j p := by
  rw [List.getD_eq_getElem?_getD, tellL_at l i j p h]; rfl
theorem list_ext {a b : List Nat} (h : a.length = b.length) (he : ∀ p, p < a.length → a[p]? = b[p]?) : a = b := by
  apply List.ext_getElem?
  intro p
  by_cases hp : p < a.length
  · exact he p hp
  · rw [List.getElem?_eq_none (by omega), List.getElem?_eq_none (by omega)]
theorem tellL_start {n : Int} {l : List Int} (h : Ok n l) : tellL l 0 1 = List.replicate l.length 0 := by
  refine list_ext (by simp [tellL_len]) fun p hp => ?_
  rw [tellL_len] at hp
  rw [tellL_at l 0 1 p hp, List.getElem?_replicate, if_pos hp]
  unfold tellP
  rw [if_neg (by omega)]
  by_cases e : p = 0
  · subst e
    rw [if_pos rfl, modS _ 0 (h.xv hp).2.2 (by omega), if_neg (by rw [h.selfX hp]; simp)]
    rw [Nat.pow_zero, Nat.mod_one]
  · rw [if_neg e, if_neg (by omega), Nat.pow_zero, Nat.mod_one]
theorem tellL_step {n : Int} {l : List Int} (h : Ok n l) {i j : Nat} (hij : i < j) (hj : j < l.length) (h8 : l.length ≤ 8) :
    (bt l i j = true → (tellL l i j).set i ((tellL l i j).getD i 0 ||| 2 ^ j) = tellL l i (j + 1) ∧ (tellL l i j).getD i 0 ||| 2 ^ j = (tellL l i j).getD i 0 + 2 ^ j) ∧
    (bt l i j = false → (tellL l i j).set j ((tellL l i j).getD j 0 ||| 2 ^ i) = tellL l i (j + 1) ∧ (tellL l i j).getD j 0 ||| 2 ^ i = (tellL l i j).getD j 0 + 2 ^ i) := by
  have hi : i < l.length := by omega
  have gi : (tellL l i j).getD i 0 = xv l i % 2 ^ j := by rw [tellL_getD l i j i hi]; unfold tellP; rw [if_neg (by omega), if_pos rfl]
  have gj : (tellL l i j).getD j 0 = xv l j % 2 ^ i := by rw [tellL_getD l i j j hj]; unfold tellP; rw [if_neg (by omega), if_neg (by omega), if_neg (by omega)]
  have xi := (h.xv hi).2.2
  have xj := (h.xv hj).2.2
  have oth := h.otherX hi hj (by omega)
  rw [h.bit hi, gi, gj]
  constructor
  · intro hb
    rw [hb] at oth
    refine ⟨list_ext (by simp [tellL_len]) fun p hp => ?_, or_add _ _ xi (by omega)⟩
    rw [List.length_set, tellL_len] at hp
    rw [List.getElem?_set, tellL_len, tellL_at l i (j + 1) p hp]
    by_cases e : i = p
    · subst e
      rw [if_pos rfl, if_pos hi]
      unfold tellP
      rw [if_neg (by omega), if_pos rfl, modS _ j xi (by omega), if_pos hb]
    · rw [if_neg e, tellL_at l i j p hp]
      unfold tellP
      by_cases e2 : p = j
      · subst e2
        rw [if_neg (by omega), if_neg (by omega), if_neg (by omega), if_neg (by omega), if_neg (by omega), if_pos (by omega), modS _ i xj (by omega), if_neg (by rw [oth]; simp)]
      · by_cases e3 : p < i
        · rw [if_pos e3, if_pos e3]
        · have e5 : ¬ p = i := fun h => e h.symm
          rw [if_neg e3, if_neg e3, if_neg e5, if_neg e5]
          by_cases e4 : p < j
          · rw [if_pos e4, if_pos (show p < j + 1 by omega)]
          · rw [if_neg e4, if_neg (show ¬ p < j + 1 by omega)]
  · intro hb
    rw [hb] at oth
    refine ⟨list_ext (by simp [tellL_len]) fun p hp => ?_, or_add _ _ xj (by omega)⟩
    rw [List.length_set, tellL_len] at hp
    rw [List.getElem?_set, tellL_len, tellL_at l i (j + 1) p hp]
    by_cases e : j = p
    · subst e
      rw [if_pos rfl, if_pos hj]
      unfold tellP
      rw [if_neg (by omega), if_neg (by omega), if_pos (by omega), modS _ i xj (by omega), if_pos (by rw [oth]; rfl)]
    · rw [if_neg e, tellL_at l i j p hp]
      unfold tellP
      by_cases e2 : p = i
      · subst e2
        rw [if_neg (by omega), if_pos rfl, if_neg (by omega), if_pos rfl, modS _ j xi (by omega), if_neg (by rw [hb]; simp)]
      · by_cases e3 : p < i
        · rw [if_pos e3, if_pos e3]
        · rw [if_neg e3, if_neg e3, if_neg e2, if_neg e2]
          by_cases e4 : p < j
          · rw [if_pos e4, if_pos (show p < j + 1 by omega)]
          · rw [if_neg e4, if_neg (show ¬ p < j + 1 by omega)]
theorem tellL_next {n : Int} {l : List Int} (h : Ok n l) {i : Nat} (hi : i < l.length) (h8 : l.length ≤ 8) : tellL l i l.length = tellL l (i + 1) (i + 2) := by
  refine list_ext (by simp [tellL_len]) fun p hp => ?_
  rw [tellL_len] at hp
  rw [tellL_at l i _ p hp, tellL_at l (i + 1) _ p hp]
  unfold tellP
  by_cases e1 : p < i
  · rw [if_pos e1, if_pos (by omega)]
  · rw [if_neg e1]
    by_cases e2 : p = i
    · subst e2
      rw [if_pos rfl, if_pos (by omega), Nat.mod_eq_of_lt (h.xv hp).2.1]
    · rw [if_neg e2, if_pos hp, if_neg (by omega)]
      by_cases e3 : p = i + 1
      · subst e3
        rw [if_pos rfl, modS _ (i + 1) (h.xv hp).2.2 (by omega), if_neg (by rw [h.selfX hp]; simp)]
      · rw [if_neg e3, if_neg (by omega)]
theorem tellL_end {n : Int} {l : List Int} (h : Ok n l) : (tellL l l.length (l.length + 1)).map Int.ofNat = l := by
  apply List.ext_getElem?
  intro p
  by_cases hp : p < l.length
  · rw [List.getElem?_map, tellL_at l _ _ p hp]
    unfold tellP
    rw [if_pos hp, List.getElem?_eq_getElem hp]
    have := (h.xv hp).1
    rw [List.getD_eq_getElem?_getD, List.getElem?_eq_getElem hp] at this
    exact congrArg some this.symm
  · rw [List.getElem?_eq_none (by simp [tellL_len]; omega), List.getElem?_eq_none (by omega)]

/-- The results that come before the pair (i, j). -/
def pre2 (l : List Int) (i j : Nat) : List UInt8 := rowsTo l i ++ rowBits l i j
theorem rowBits_pre (l : List Int) (i j m : Nat) (hij : i + 1 ≤ j) : rowBits l i j <+: rowBits l i (j + m) := by
  induction m with
  | zero => exact List.prefix_refl _
  | succ m ih =>
    refine ih.trans ?_
    rw [← Nat.add_assoc, rowBits_succ l i (j + m) (by omega)]
    exact List.prefix_append _ _
theorem rowsTo_pre (l : List Int) (i m : Nat) : rowsTo l i <+: rowsTo l (i + m) := by
  induction m with
  | zero => exact List.prefix_refl _
  | succ m ih =>
    refine ih.trans ?_
    rw [← Nat.add_assoc, rowsTo_succ]
    exact List.prefix_append _ _
theorem pre2_at (l : List Int) (i j : Nat) (hij : i + 1 ≤ j) (hj : j < l.length) :
    (pre2 l i j).length < (rowsTo l l.length).length ∧ (rowsTo l l.length)[(pre2 l i j).length]? = some (bitc (bt l i j)) := by
  have h1 : pre2 l i j ++ [bitc (bt l i j)] <+: rowsTo l l.length := by
    unfold pre2
    rw [List.append_assoc, ← rowBits_succ l i j hij]
    have a := rowBits_pre l i (j + 1) (l.length - (j + 1)) (by omega)
    rw [show j + 1 + (l.length - (j + 1)) = l.length by omega] at a
    have b := rowsTo_pre l (i + 1) (l.length - (i + 1))
    rw [show i + 1 + (l.length - (i + 1)) = l.length by omega, rowsTo_succ] at b
    exact ((List.prefix_append_right_inj _).2 a).trans b
  obtain ⟨t, ht⟩ := h1
  rw [← ht]
  constructor
  · simp
  · rw [List.append_assoc, List.getElem?_append_right (Nat.le_refl _), Nat.sub_self]; rfl
theorem bitc_inj {a b : Bool} (h : bitc a = bitc b) : a = b := by revert h; cases a <;> cases b <;> decide
theorem pow_le_of {a b : Nat} (h : a ≤ b) : 2 ^ a ≤ 2 ^ b := Nat.pow_le_pow_right (by decide) h
theorem pre2_succ (l : List Int) (i j : Nat) (hij : i + 1 ≤ j) : (pre2 l i (j + 1)).length = (pre2 l i j).length + 1 := by
  unfold pre2; rw [rowBits_succ l i j hij]; simp; omega
theorem pre2_next (l : List Int) (i : Nat) : pre2 l i l.length = pre2 l (i + 1) (i + 2) := by
  unfold pre2
  rw [rowsTo_succ, show i + 2 = (i + 1) + 1 from rfl, rowBits_zero, List.append_nil]
theorem pre2_start (l : List Int) : pre2 l 0 1 = [] := by unfold pre2; rw [rowsTo_zero, show 1 = 0 + 1 from rfl, rowBits_zero]; rfl

/-- The tour with this text. -/
def IsText (S : List UInt8) (l : List Int) : Prop := Ok (l.length : Int) l ∧ S = fmtTo l l.length []
theorem text_eq {S : List UInt8} {l : List Int} (h : IsText S l) : S = UInt8.ofNat (48 + l.length) :: 58 :: rowsTo l l.length := by
  rw [h.2]
  unfold fmtTo
  rw [Lib.itoa_nonneg, Lib.decDigits_one (by have := h.1.2.1; omega)]
  simp
noncomputable def parseL (S : List UInt8) : List Int := by classical exact if h : ∃ l, IsText S l then h.choose else []
noncomputable def parseB (S : List UInt8) : Bool := by classical exact decide (∃ l, IsText S l)
theorem text_len {S : List UInt8} {l l' : List Int} (h : IsText S l) (h' : IsText S l') : l.length = l'.length ∧ rowsTo l' l'.length = rowsTo l l.length := by
  have e1 := text_eq h
  rw [text_eq h'] at e1
  have h8 : l.length ≤ 8 := by have := h.1.2.1; omega
  have h8' : l'.length ≤ 8 := by have := h'.1.2.1; omega
  obtain ⟨e2, e3⟩ := List.cons.inj e1
  have := congrArg UInt8.toNat e2
  rw [UInt8.toNat_ofNat_of_lt' (by show _ < 256; omega), UInt8.toNat_ofNat_of_lt' (by show _ < 256; omega)] at this
  exact ⟨by omega, (List.cons.inj e3).2⟩
theorem pre2_len {l l' : List Int} (hl : l.length = l'.length) (i j : Nat) : (pre2 l i j).length = (pre2 l' i j).length := by
  have key : ∀ m, (rowsTo l m).length = (rowsTo l' m).length := by
    intro m
    induction m with
    | zero => rw [rowsTo_zero, rowsTo_zero]
    | succ m ih => rw [rowsTo_succ, rowsTo_succ, List.length_append, List.length_append, ih, rowBits_len, rowBits_len, hl]
  unfold pre2
  rw [List.length_append, List.length_append, rowBits_len, rowBits_len, key]
theorem bits_same {l l' : List Int} (hl : l.length = l'.length) (hr : rowsTo l' l'.length = rowsTo l l.length) {i j : Nat} (hij : i < j) (hj : j < l.length) : bt l i j = bt l' i j := by
  have hj' : j < l'.length := Nat.lt_of_lt_of_eq hj hl
  have a := (pre2_at l i j hij hj).2
  have b := (pre2_at l' i j hij hj').2
  rw [hr, ← pre2_len hl, a] at b
  exact bitc_inj (Option.some.inj b)
theorem ok_high {n : Int} {l : List Int} (h : Ok n l) {p q : Nat} (hp : p < l.length) (hq : l.length ≤ q) : (xv l p).testBit q = false :=
  Nat.testBit_lt_two_pow (Nat.lt_of_lt_of_le (h.xv hp).2.1 (pow_le_of hq))
theorem xv_same {n n' : Int} {l l' : List Int} (h : Ok n l) (h' : Ok n' l') (hl : l.length = l'.length) (hr : rowsTo l' l'.length = rowsTo l l.length) {p : Nat} (hp : p < l.length) : xv l p = xv l' p := by
  apply Nat.eq_of_testBit_eq
  intro q
  have hp' : p < l'.length := Nat.lt_of_lt_of_eq hp hl
  by_cases hq : q < l.length
  · have hq' : q < l'.length := Nat.lt_of_lt_of_eq hq hl
    rcases Nat.lt_trichotomy p q with h1 | h1 | h1
    · rw [← h.bit hp, ← h'.bit hp']; exact bits_same hl hr h1 hq
    · subst h1; rw [h.selfX hp, h'.selfX hp']
    · rw [h.otherX hq hp (Nat.ne_of_lt h1), h'.otherX hq' hp' (Nat.ne_of_lt h1), ← h.bit hq, ← h'.bit hq', bits_same hl hr h1 hp]
  · rw [ok_high h hp (Nat.le_of_not_lt hq), ok_high h' hp' (by rw [← hl]; exact Nat.le_of_not_lt hq)]
theorem text_inj {S : List UInt8} {l l' : List Int} (h : IsText S l) (h' : IsText S l') : l = l' := by
  obtain ⟨hl, hr⟩ := text_len h h'
  apply List.ext_getElem?
  intro p
  by_cases hp : p < l.length
  · have hp' : p < l'.length := Nat.lt_of_lt_of_eq hp hl
    have a := (h.1.xv hp).1
    have b := (h'.1.xv hp').1
    rw [List.getD_eq_getElem?_getD, List.getElem?_eq_getElem hp] at a
    rw [List.getD_eq_getElem?_getD, List.getElem?_eq_getElem hp', ← xv_same h.1 h'.1 hl hr hp] at b
    rw [List.getElem?_eq_getElem hp, List.getElem?_eq_getElem hp']
    exact congrArg some (a.trans b.symm)
  · rw [List.getElem?_eq_none (Nat.le_of_not_lt hp), List.getElem?_eq_none (by rw [← hl]; exact Nat.le_of_not_lt hp)]
theorem parse_yes {S : List UInt8} {l : List Int} (h : IsText S l) : parseL S = l ∧ parseB S = true := by
  have he : ∃ l, IsText S l := ⟨l, h⟩
  constructor
  · unfold parseL; rw [dif_pos he]; exact text_inj he.choose_spec h
  · unfold parseB; simp [he]
theorem parse_no {S : List UInt8} (h : ∀ l, ¬ IsText S l) : parseL S = [] ∧ parseB S = false := by
  have he : ¬ ∃ l, IsText S l := fun ⟨l, hl⟩ => h l hl
  constructor
  · unfold parseL; rw [dif_neg he]
  · unfold parseB; simp [he]
end Go.Proofs.Ytgjogbihadiojaa
