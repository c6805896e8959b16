/-
  Plain facts on valid tours, their texts, parts, and the tour that a number tells (round 2's and FnTours' texts joined). No conditions.
-/
import Derived.Test.YtpndfmlkceplcaaF
import Derived.Test.YtpndfmlkceplcaaM
import Derived.Test.YtpndfmlkceplcaaX
import Derived.Test.YtpndfmlkceplcaaP
import Derived.Lib.ItoaLen
namespace Go.Proofs.Ytpndfmlkceplcaa
open Go.ChangeShapes Go.WideShapes Go.ChangeAt Go.RowKit
set_option linter.unusedVariables false

/-- A result's letter. -/
def bitc (b : Bool) : UInt8 := if b then 49 else 48
def rowBits (l : List Int) (i j : Nat) : List UInt8 := (List.range (j - (i + 1))).map fun d => bitc (bt l i (i + 1 + d))
theorem rowBits_zero (l : List Int) (i : Nat) : rowBits l i (i + 1) = [] := by simp [rowBits]
theorem rowBits_succ (l : List Int) (i j : Nat) (h : i + 1 ≤ j) : rowBits l i (j + 1) = rowBits l i j ++ [bitc (bt l i j)] := by
  unfold rowBits
  rw [show j + 1 - (i + 1) = (j - (i + 1)) + 1 by omega, List.range_succ, List.map_append, List.map_singleton, show i + 1 + (j - (i + 1)) = j by omega]
theorem rowBits_len (l : List Int) (i j : Nat) : (rowBits l i j).length = j - (i + 1) := by simp [rowBits]
def rowsTo (l : List Int) (m : Nat) : List UInt8 := (List.range m).flatMap fun a => rowBits l a l.length
theorem rowsTo_zero (l : List Int) : rowsTo l 0 = [] := rfl
theorem rowsTo_succ (l : List Int) (m : Nat) : rowsTo l (m + 1) = rowsTo l m ++ rowBits l m l.length := by simp [rowsTo, List.range_succ]
theorem rowsTo_len (l : List Int) (m : Nat) : (rowsTo l m).length ≤ m * l.length := by
  induction m with
  | zero => simp [rowsTo]
  | succ m ih =>
    rw [rowsTo_succ, List.length_append, rowBits_len, Nat.succ_mul]
    omega
/-- The text of a valid tour up to row i, and in row i up to column j. -/
def fmtTo (l : List Int) (i : Nat) (x : List UInt8) : List UInt8 := Lib.itoa (l.length : Int) ++ [58] ++ rowsTo l i ++ x
noncomputable def fmtR (n : Int) (l : List Int) : List UInt8 := if okB n l then fmtTo l l.length [] else []
theorem fmtTo_next (l : List Int) (i : Nat) : fmtTo l (i + 1) [] = fmtTo l i (rowBits l i l.length) := by
  unfold fmtTo; rw [rowsTo_succ]; simp
theorem fmtTo_snoc (l : List Int) (i : Nat) (x : List UInt8) (c : UInt8) : fmtTo l i (x ++ [c]) = fmtTo l i x ++ [c] := by
  unfold fmtTo; rw [List.append_assoc _ x [c]]
theorem fmtTo_len (l : List Int) (h8 : l.length ≤ 8) (i : Nat) (hi : i ≤ 8) (x : List UInt8) (hx : x.length ≤ 8) : (fmtTo l i x).length ≤ 200 := by
  unfold fmtTo
  have h1 := Lib.itoa_length_le (l.length : Int) (by omega) (by omega)
  have h2 := rowsTo_len l i
  have h3 : i * l.length ≤ 64 := Nat.mul_le_mul hi h8
  simp only [List.length_append, List.length_singleton]
  omega

end Go.Proofs.Ytpndfmlkceplcaa
namespace Go.Proofs.Ytpndfmlkceplcaa
open Go.ChangeShapes Go.WideShapes Go.ChangeAt Go.RowKit
set_option linter.unusedVariables false

theorem modS (x k : Nat) (hx : x < 256) (hk : k < 8) : x % 2 ^ (k + 1) = if x.testBit k then x % 2 ^ k ||| 2 ^ k else x % 2 ^ k := by
  have : ∀ (x : Fin 256) (k : Fin 8), x.val % 2 ^ (k.val + 1) = if x.val.testBit k.val then x.val % 2 ^ k.val ||| 2 ^ k.val else x.val % 2 ^ k.val := by decide +kernel
  exact this ⟨x, hx⟩ ⟨k, hk⟩
theorem or_add (x k : Nat) (hx : x < 256) (hk : k < 8) : x % 2 ^ k ||| 2 ^ k = x % 2 ^ k + 2 ^ k := by
  have : ∀ (x : Fin 256) (k : Fin 8), x.val % 2 ^ k.val ||| 2 ^ k.val = x.val % 2 ^ k.val + 2 ^ k.val := by decide +kernel
  exact this ⟨x, hx⟩ ⟨k, hk⟩
def xv (l : List Int) (p : Nat) : Nat := (l.getD p 0).toNat
section
variable {n : Int} {l : List Int}
theorem Ok.xv (h : Ok n l) {p : Nat} (hp : p < l.length) : l.getD p 0 = (Go.Proofs.Ytpndfmlkceplcaa.xv l p : Nat) ∧ Go.Proofs.Ytpndfmlkceplcaa.xv l p < 2 ^ l.length ∧ Go.Proofs.Ytpndfmlkceplcaa.xv l p < 256 := by
  obtain ⟨x, hx, h1, h2⟩ := h.nat hp
  unfold Go.Proofs.Ytpndfmlkceplcaa.xv
  rw [hx]; exact ⟨rfl, h1, h2⟩
theorem Ok.bit (h : Ok n l) {p q : Nat} (hp : p < l.length) : bt l p q = (Go.Proofs.Ytpndfmlkceplcaa.xv l p).testBit q := by
  unfold bt; rw [(h.xv hp).1, bi_nat]
theorem Ok.selfX (h : Ok n l) {p : Nat} (hp : p < l.length) : (Go.Proofs.Ytpndfmlkceplcaa.xv l p).testBit p = false := by
  rw [← h.bit hp]; exact (h.2.2.2 p hp).2.1
theorem Ok.otherX (h : Ok n l) {p q : Nat} (hp : p < l.length) (hq : q < l.length) (hne : p ≠ q) : (Go.Proofs.Ytpndfmlkceplcaa.xv l q).testBit p = !(Go.Proofs.Ytpndfmlkceplcaa.xv l p).testBit q := by
  rw [← h.bit hp, ← h.bit hq]
  rcases Nat.lt_or_ge q p with hlt | hge
  · have := (h.2.2.2 p hp).2.2 q hlt
    unfold bt
    revert this
    cases bi (l.getD p 0) q <;> cases bi (l.getD q 0) p <;> simp
  · have := (h.2.2.2 q hq).2.2 p (by omega)
    unfold bt
    revert this
    cases bi (l.getD p 0) q <;> cases bi (l.getD q 0) p <;> simp
end
/-- What is known of player p when the pairs before (i, j) have been told. -/
def tellP (l : List Int) (i j p : Nat) : Nat := if p < i then xv l p else if p = i then xv l p % 2 ^ j else if p < j then xv l p % 2 ^ (i + 1) else xv l p % 2 ^ i
def tellL (l : List Int) (i j : Nat) : List Nat := (List.range l.length).map (tellP l i j)
theorem tellL_len (l : List Int) (i j : Nat) : (tellL l i j).length = l.length := by simp [tellL]
theorem tellL_at (l : List Int) (i j p : Nat) (h : p < l.length) : (tellL l i j)[p]? = some (tellP l i j p) := by simp [tellL, h]
theorem tellL_getD (l : List Int) (i j p : Nat) (h : p < l.length) : (tellL l i j).getD p 0 = tellP l i j p := by
  rw [List.getD_eq_getElem?_getD, tellL_at l i j p h]; rfl
theorem list_ext {a b : List Nat} (h : a.length = b.length) (he : ∀ p, p < a.length → a[p]? = b[p]?) : a = b := by
  apply List.ext_getElem?
  intro p
  by_cases hp : p < a.length
  · exact he p hp
  · rw [List.getElem?_eq_none (by omega), List.getElem?_eq_none (by omega)]
theorem tellL_start {n : Int} {l : List Int} (h : Ok n l) : tellL l 0 1 = List.replicate l.length 0 := by
  refine list_ext (by simp [tellL_len]) fun p hp => ?_
  rw [tellL_len] at hp
  rw [tellL_at l 0 1 p hp, List.getElem?_replicate, if_pos hp]
  unfold tellP
  rw [if_neg (by omega)]
  by_cases e : p = 0
  · subst e
    rw [if_pos rfl, modS _ 0 (h.xv hp).2.2 (by omega), if_neg (by rw [h.selfX hp]; simp)]
    rw [Nat.pow_zero, Nat.mod_one]
  · rw [if_neg e, if_neg (by omega), Nat.pow_zero, Nat.mod_one]
theorem tellL_step {n : Int} {l : List Int} (h : Ok n l) {i j : Nat} (hij : i < j) (hj : j < l.length) (h8 : l.length ≤ 8) :
    (bt l i j = true → (tellL l i j).set i ((tellL l i j).getD i 0 ||| 2 ^ j) = tellL l i (j + 1) ∧ (tellL l i j).getD i 0 ||| 2 ^ j = (tellL l i j).getD i 0 + 2 ^ j) ∧
    (bt l i j = false → (tellL l i j).set j ((tellL l i j).getD j 0 ||| 2 ^ i) = tellL l i (j + 1) ∧ (tellL l i j).getD j 0 ||| 2 ^ i = (tellL l i j).getD j 0 + 2 ^ i) := by
  have hi : i < l.length := by omega
  have gi : (tellL l i j).getD i 0 = xv l i % 2 ^ j := by rw [tellL_getD l i j i hi]; unfold tellP; rw [if_neg (by omega), if_pos rfl]
  have gj : (tellL l i j).getD j 0 = xv l j % 2 ^ i := by rw [tellL_getD l i j j hj]; unfold tellP; rw [if_neg (by omega), if_neg (by omega), if_neg (by omega)]
  have xi := (h.xv hi).2.2
  have xj := (h.xv hj).2.2
  have oth := h.otherX hi hj (by omega)
  rw [h.bit hi, gi, gj]
  constructor
  · intro hb
    rw [hb] at oth
    refine ⟨list_ext (by simp [tellL_len]) fun p hp => ?_, or_add _ _ xi (by omega)⟩
    rw [List.length_set, tellL_len] at hp
    rw [List.getElem?_set, tellL_len, tellL_at l i (j + 1) p hp]
    by_cases e : i = p
    · subst e
      rw [if_pos rfl, if_pos hi]
      unfold tellP
      rw [if_neg (by omega), if_pos rfl, modS _ j xi (by omega), if_pos hb]
    · rw [if_neg e, tellL_at l i j p hp]
      unfold tellP
      by_cases e2 : p = j
      · subst e2
        rw [if_neg (by omega), if_neg (by omega), if_neg (by omega), if_neg (by omega), if_neg (by omega), if_pos (by omega), modS _ i xj (by omega), if_neg (by rw [oth]; simp)]
      · by_cases e3 : p < i
        · rw [if_pos e3, if_pos e3]
        · have e5 : ¬ p = i := fun h => e h.symm
          rw [if_neg e3, if_neg e3, if_neg e5, if_neg e5]
          by_cases e4 : p < j
          · rw [if_pos e4, if_pos (show p < j + 1 by omega)]
          · rw [if_neg e4, if_neg (show ¬ p < j + 1 by omega)]
  · intro hb
    rw [hb] at oth
    refine ⟨list_ext (by simp [tellL_len]) fun p hp => ?_, or_add _ _ xj (by omega)⟩
    rw [List.length_set, tellL_len] at hp
    rw [List.getElem?_set, tellL_len, tellL_at l i (j + 1) p hp]
    by_cases e : j = p
    · subst e
      rw [if_pos rfl, if_pos hj]
      unfold tellP
      rw [if_neg (by omega), if_neg (by omega), if_pos (by omega), modS _ i xj (by omega), if_pos (by rw [oth]; rfl)]
    · rw [if_neg e, tellL_at l i j p hp]
      unfold tellP
      by_cases e2 : p = i
      · subst e2
        rw [if_neg (by omega), if_pos rfl, if_neg (by omega), if_pos rfl, modS _ j xi (by omega), if_neg (by rw [hb]; simp)]
      · by_cases e3 : p < i
        · rw [if_pos e3, if_pos e3]
        · rw [if_neg e3, if_neg e3, if_neg e2, if_neg e2]
          by_cases e4 : p < j
          · rw [if_pos e4, if_pos (show p < j + 1 by omega)]
          · rw [if_neg e4, if_neg (show ¬ p < j + 1 by omega)]
theorem tellL_next {n : Int} {l : List Int} (h : Ok n l) {i : Nat} (hi : i < l.length) (h8 : l.length ≤ 8) : tellL l i l.length = tellL l (i + 1) (i + 2) := by
  refine list_ext (by simp [tellL_len]) fun p hp => ?_
  rw [tellL_len] at hp
  rw [tellL_at l i _ p hp, tellL_at l (i + 1) _ p hp]
  unfold tellP
  by_cases e1 : p < i
  · rw [if_pos e1, if_pos (by omega)]
  · rw [if_neg e1]
    by_cases e2 : p = i
    · subst e2
      rw [if_pos rfl, if_pos (by omega), Nat.mod_eq_of_lt (h.xv hp).2.1]
    · rw [if_neg e2, if_pos hp, if_neg (by omega)]
      by_cases e3 : p = i + 1
      · subst e3
        rw [if_pos rfl, modS _ (i + 1) (h.xv hp).2.2 (by omega), if_neg (by rw [h.selfX hp]; simp)]
      · rw [if_neg e3, if_neg (by omega)]
theorem tellL_end {n : Int} {l : List Int} (h : Ok n l) : (tellL l l.length (l.length + 1)).map Int.ofNat = l := by
  apply List.ext_getElem?
  intro p
  by_cases hp : p < l.length
  · rw [List.getElem?_map, tellL_at l _ _ p hp]
    unfold tellP
    rw [if_pos hp, List.getElem?_eq_getElem hp]
    have := (h.xv hp).1
    rw [List.getD_eq_getElem?_getD, List.getElem?_eq_getElem hp] at this
    exact congrArg some this.symm
  · rw [List.getElem?_eq_none (by simp [tellL_len]; omega), List.getElem?_eq_none (by omega)]

/-- The results that come before the pair (i, j). -/
def pre2 (l : List Int) (i j : Nat) : List UInt8 := rowsTo l i ++ rowBits l i j
theorem rowBits_pre (l : List Int) (i j m : Nat) (hij : i + 1 ≤ j) : rowBits l i j <+: rowBits l i (j + m) := by
  induction m with
  | zero => exact List.prefix_refl _
  | succ m ih =>
    refine ih.trans ?_
    rw [← Nat.add_assoc, rowBits_succ l i (j + m) (by omega)]
    exact List.prefix_append _ _
theorem rowsTo_pre (l : List Int) (i m : Nat) : rowsTo l i <+: rowsTo l (i + m) := by
  induction m with
  | zero => exact List.prefix_refl _
  | succ m ih =>
    refine ih.trans ?_
    rw [← Nat.add_assoc, rowsTo_succ]
    exact List.prefix_append _ _
theorem pre2_at (l : List Int) (i j : Nat) (hij : i + 1 ≤ j) (hj : j < l.length) :
    (pre2 l i j).length < (rowsTo l l.length).length ∧ (rowsTo l l.length)[(pre2 l i j).length]? = some (bitc (bt l i j)) := by
  have h1 : pre2 l i j ++ [bitc (bt l i j)] <+: rowsTo l l.length := by
    unfold pre2
    rw [List.append_assoc, ← rowBits_succ l i j hij]
    have a := rowBits_pre l i (j + 1) (l.length - (j + 1)) (by omega)
    rw [show j + 1 + (l.length - (j + 1)) = l.length by omega] at a
    have b := rowsTo_pre l (i + 1) (l.length - (i + 1))
    rw [show i + 1 + (l.length - (i + 1)) = l.length by omega, rowsTo_succ] at b
    exact ((List.prefix_append_right_inj _).2 a).trans b
  obtain ⟨t, ht⟩ := h1
  rw [← ht]
  constructor
  · simp
  · rw [List.append_assoc, List.getElem?_append_right (Nat.le_refl _), Nat.sub_self]; rfl
theorem bitc_inj {a b : Bool} (h : bitc a = bitc b) : a = b := by revert h; cases a <;> cases b <;> decide
theorem pow_le_of {a b : Nat} (h : a ≤ b) : 2 ^ a ≤ 2 ^ b := Nat.pow_le_pow_right (by decide) h
theorem pre2_succ (l : List Int) (i j : Nat) (hij : i + 1 ≤ j) : (pre2 l i (j + 1)).length = (pre2 l i j).length + 1 := by
  unfold pre2; rw [rowBits_succ l i j hij]; simp; omega
theorem pre2_next (l : List Int) (i : Nat) : pre2 l i l.length = pre2 l (i + 1) (i + 2) := by
  unfold pre2
  rw [rowsTo_succ, show i + 2 = (i + 1) + 1 from rfl, rowBits_zero, List.append_nil]
theorem pre2_start (l : List Int) : pre2 l 0 1 = [] := by unfold pre2; rw [rowsTo_zero, show 1 = 0 + 1 from rfl, rowBits_zero]; rfl

/-- The tour with this text. -/
def IsText (S : List UInt8) (l : List Int) : Prop := Ok (l.length : Int) l ∧ S = fmtTo l l.length []
theorem text_eq {S : List UInt8} {l : List Int} (h : IsText S l) : S = UInt8.ofNat (48 + l.length) :: 58 :: rowsTo l l.length := by
  rw [h.2]
  unfold fmtTo
  rw [Lib.itoa_nonneg, Lib.decDigits_one (by have := h.1.2.1; omega)]
  simp
noncomputable def parseL (S : List UInt8) : List Int := by classical exact if h : ∃ l, IsText S l then h.choose else []
noncomputable def parseB (S : List UInt8) : Bool := by classical exact decide (∃ l, IsText S l)
theorem text_len {S : List UInt8} {l l' : List Int} (h : IsText S l) (h' : IsText S l') : l.length = l'.length ∧ rowsTo l' l'.length = rowsTo l l.length := by
  have e1 := text_eq h
  rw [text_eq h'] at e1
  have h8 : l.length ≤ 8 := by have := h.1.2.1; omega
  have h8' : l'.length ≤ 8 := by have := h'.1.2.1; omega
  obtain ⟨e2, e3⟩ := List.cons.inj e1
  have := congrArg UInt8.toNat e2
  rw [UInt8.toNat_ofNat_of_lt' (by show _ < 256; omega), UInt8.toNat_ofNat_of_lt' (by show _ < 256; omega)] at this
  exact ⟨by omega, (List.cons.inj e3).2⟩
theorem pre2_len {l l' : List Int} (hl : l.length = l'.length) (i j : Nat) : (pre2 l i j).length = (pre2 l' i j).length := by
  have key : ∀ m, (rowsTo l m).length = (rowsTo l' m).length := by
    intro m
    induction m with
    | zero => rw [rowsTo_zero, rowsTo_zero]
    | succ m ih => rw [rowsTo_succ, rowsTo_succ, List.length_append, List.length_append, ih, rowBits_len, rowBits_len, hl]
  unfold pre2
  rw [List.length_append, List.length_append, rowBits_len, rowBits_len, key]
theorem bits_same {l l' : List Int} (hl : l.length = l'.length) (hr : rowsTo l' l'.length = rowsTo l l.length) {i j : Nat} (hij : i < j) (hj : j < l.length) : bt l i j = bt l' i j := by
  have hj' : j < l'.length := Nat.lt_of_lt_of_eq hj hl
  have a := (pre2_at l i j hij hj).2
  have b := (pre2_at l' i j hij hj').2
  rw [hr, ← pre2_len hl, a] at b
  exact bitc_inj (Option.some.inj b)
theorem ok_high {n : Int} {l : List Int} (h : Ok n l) {p q : Nat} (hp : p < l.length) (hq : l.length ≤ q) : (xv l p).testBit q = false :=
  Nat.testBit_lt_two_pow (Nat.lt_of_lt_of_le (h.xv hp).2.1 (pow_le_of hq))
theorem xv_same {n n' : Int} {l l' : List Int} (h : Ok n l) (h' : Ok n' l') (hl : l.length = l'.length) (hr : rowsTo l' l'.length = rowsTo l l.length) {p : Nat} (hp : p < l.length) : xv l p = xv l' p := by
  apply Nat.eq_of_testBit_eq
  intro q
  have hp' : p < l'.length := Nat.lt_of_lt_of_eq hp hl
  by_cases hq : q < l.length
  · have hq' : q < l'.length := Nat.lt_of_lt_of_eq hq hl
    rcases Nat.lt_trichotomy p q with h1 | h1 | h1
    · rw [← h.bit hp, ← h'.bit hp']; exact bits_same hl hr h1 hq
    · subst h1; rw [h.selfX hp, h'.selfX hp']
    · rw [h.otherX hq hp (Nat.ne_of_lt h1), h'.otherX hq' hp' (Nat.ne_of_lt h1), ← h.bit hq, ← h'.bit hq', bits_same hl hr h1 hp]
  · rw [ok_high h hp (Nat.le_of_not_lt hq), ok_high h' hp' (by rw [← hl]; exact Nat.le_of_not_lt hq)]
theorem text_inj {S : List UInt8} {l l' : List Int} (h : IsText S l) (h' : IsText S l') : l = l' := by
  obtain ⟨hl, hr⟩ := text_len h h'
  apply List.ext_getElem?
  intro p
  by_cases hp : p < l.length
  · have hp' : p < l'.length := Nat.lt_of_lt_of_eq hp hl
    have a := (h.1.xv hp).1
    have b := (h'.1.xv hp').1
    rw [List.getD_eq_getElem?_getD, List.getElem?_eq_getElem hp] at a
    rw [List.getD_eq_getElem?_getD, List.getElem?_eq_getElem hp', ← xv_same h.1 h'.1 hl hr hp] at b
    rw [List.getElem?_eq_getElem hp, List.getElem?_eq_getElem hp']
    exact congrArg some (a.trans b.symm)
  · rw [List.getElem?_eq_none (Nat.le_of_not_lt hp), List.getElem?_eq_none (by rw [← hl]; exact Nat.le_of_not_lt hp)]
theorem parse_yes {S : List UInt8} {l : List Int} (h : IsText S l) : parseL S = l ∧ parseB S = true := by
  have he : ∃ l, IsText S l := ⟨l, h⟩
  constructor
  · unfold parseL; rw [dif_pos he]; exact text_inj he.choose_spec h
  · unfold parseB; simp [he]
theorem parse_no {S : List UInt8} (h : ∀ l, ¬ IsText S l) : parseL S = [] ∧ parseB S = false := by
  have he : ¬ ∃ l, IsText S l := fun ⟨l, hl⟩ => h l hl
  constructor
  · unfold parseL; rw [dif_neg he]
  · unfold parseB; simp [he]
end Go.Proofs.Ytpndfmlkceplcaa
namespace Go.Proofs.Ytpndfmlkceplcaa
open Go.ChangeShapes Go.WideShapes Go.ChangeAt Go.RowKit
set_option linter.unusedVariables false

end Go.Proofs.Ytpndfmlkceplcaa
namespace Go.Proofs.Ytpndfmlkceplcaa
open Go.ChangeShapes Go.WideShapes Go.ChangeAt Go.RowKit
set_option linter.unusedVariables false

/-- A row's cell to which a power of two is added. -/
theorem add_at {w : World} {B g m cap i j : Nat} {ys : List Nat} (hm : m ≤ 64) (hi : i < m) (hj : j < 8) (hy : ∀ y ∈ ys, y ≤ 10000)
    (hown : w.ownsRow B 3 1 (.slice (some ⟨g, 0, none⟩) m cap) m (ys.map nv)) :
    ∃ x z : Int, w.cell? ⟨g, i, none⟩ = some (.int .i64 x) ∧ w.frozen? ⟨g, i, none⟩ = false ∧ wrap64 (x + wrap64 (2 ^ j)) = z ∧
      (w.setCell ⟨g, i, none⟩ (.int .i64 z)).ownsRow B 3 1 (.slice (some ⟨g, 0, none⟩) m cap) m ((ys.set i (ys.getD i 0 + 2 ^ j)).map nv) := by
  have hlen : ys.length = m := by simpa using hown.1
  have hy256 : ys.getD i 0 ≤ 10000 := by rw [List.getD_eq_getElem?_getD, List.getElem?_eq_getElem (by omega)]; exact hy _ (List.getElem_mem _)
  have hc := hown.cellAt i (by omega)
  rw [List.getElem?_map, show ys[i]? = some (ys.getD i 0) by rw [List.getD_eq_getElem?_getD, List.getElem?_eq_getElem (by omega)]; rfl] at hc
  have hp8 := pow_le j (by omega)
  refine ⟨(ys.getD i 0 : Nat), ((ys.getD i 0 + 2 ^ j : Nat) : Int), hc, hown.frozenAt i, ?_, ?_⟩
  · rw [wrapPow j (by omega)]
    generalize 2 ^ j = P at *
    rw [Int.natCast_add]
    unfold wrap64
    omega
  · have := (hown.stored i (nv (ys.getD i 0 + 2 ^ j))).1
    rw [← List.map_set] at this
    exact this
theorem set_leAdd {ys : List Nat} {b i j : Nat} (hj : j < 8) (h : ∀ y ∈ ys, y ≤ b) : ∀ y ∈ ys.set i (ys.getD i 0 + 2 ^ j), y ≤ b + 128 := by
  intro y hy
  have hp : 2 ^ j ≤ 2 ^ 7 := pow_le_of (by omega)
  rcases List.mem_or_eq_of_mem_set hy with h1 | h1
  · have := h y h1; omega
  · have h2 : ys.getD i 0 ≤ b := by
      rw [List.getD_eq_getElem?_getD]
      cases e : ys[i]? with
      | none => simp
      | some x => simp; exact h x (List.mem_of_getElem? e)
    omega

/-- What the model knows of the candidate before the pair (i, j). -/
def TellOf (S : List UInt8) (bn i j b : Nat) (ys : List Nat) : Prop := ∀ l, IsText S l → b = bn / 2 ^ (pre2 l i j).length ∧ ys = tellL l i j

theorem tellOf_step {S : List UInt8} {N bn i j b : Nat} {ys : List Nat} (hN8 : N ≤ 8) (HG : ∀ l, IsText S l → N = l.length ∧ ∀ i j, i + 1 ≤ j → j < l.length → bn.testBit (pre2 l i j).length = bt l i j)
    (hij : i + 1 ≤ j) (hj : j < N) (h : TellOf S bn i j b ys) :
    (b % 2 = 1 → TellOf S bn i (j + 1) (b / 2) (ys.set i (ys.getD i 0 + 2 ^ j))) ∧ (b % 2 = 0 → TellOf S bn i (j + 1) (b / 2) (ys.set j (ys.getD j 0 + 2 ^ i))) := by
  have key : ∀ l, IsText S l → (decide (b % 2 = 1) = bt l i j) ∧ b / 2 = bn / 2 ^ (pre2 l i (j + 1)).length ∧ ys = tellL l i j ∧ j < l.length ∧ l.length ≤ 8 := by
    intro l hl
    obtain ⟨h1, h2⟩ := HG l hl
    obtain ⟨h3, h4⟩ := h l hl
    refine ⟨?_, ?_, h4, by omega, by omega⟩
    · rw [← h2 i j hij (by omega), Nat.testBit_eq_decide_div_mod_eq, h3]
    · rw [pre2_succ l i j hij, h3, Nat.div_div_eq_div_mul, Nat.pow_succ]
  constructor
  · intro h1 l hl
    obtain ⟨k1, k2, k3, k4, k5⟩ := key l hl
    rw [h1] at k1
    obtain ⟨e1, e2⟩ := (tellL_step hl.1 (show i < j by omega) k4 k5).1 (by rw [← k1]; rfl)
    refine ⟨k2, ?_⟩
    rw [k3, ← e2, e1]
  · intro h1 l hl
    obtain ⟨k1, k2, k3, k4, k5⟩ := key l hl
    rw [h1] at k1
    obtain ⟨e1, e2⟩ := (tellL_step hl.1 (show i < j by omega) k4 k5).2 (by rw [← k1]; rfl)
    refine ⟨k2, ?_⟩
    rw [k3, ← e2, e1]

set_option maxRecDepth 100000 in
set_option maxHeartbeats 1000000 in
theorem l02Of_text (S : List UInt8) (N bn : Nat) (w : World) (hN8 : N ≤ 8) (hbt : bn < 2 ^ 62)
    (HG : ∀ l, IsText S l → N = l.length ∧ ∀ i j, i + 1 ≤ j → j < l.length → bn.testBit (pre2 l i j).length = bt l i j) :
    Calls Try.prog 148 #[.int .i64 N, .int .i64 bn] w fun e w' => (∃ g ys, e = .returned (.agg #[.int .i64 N, .slice (some ⟨g, 0, none⟩) N N]) ∧ (∀ l, IsText S l → ys = tellL l N (N + 1)) ∧ w'.ownsRow w.heap.size 3 1 (.slice (some ⟨g, 0, none⟩) N N) N (ys.map nv)) ∧ Below w.heap.size w w' := by
  obtain ⟨i0, hi, hz0, hz1, hz2⟩ := info_parts infoInt
  obtain ⟨Wa, hWa⟩ : ∃ Wa, Wa = w.alloc (.cells #[.int .i64 0, .slice none 0 0] 27) := ⟨_, rfl⟩
  have hba : Below w.heap.size w Wa := by rw [hWa]; exact (Below.refl _ _).alloc (Nat.le_refl _) _
  have sa : Wa.heap.size = w.heap.size + 1 := by rw [hWa]; simp
  have xa : Box Wa w.heap.size 27 (.int .i64 0) (.slice none 0 0) := by rw [hWa]; exact Box.new _ _ _ _
  have HWa := Lib.hid hWa
  have HGG := Lib.hid HG
  clear hWa HG
  go_enter Try.func148, Try.ntmps148
  go_wp2_with (refine wpList_make_full _ rfl _ _ 22 rfl Wa.heap.size 3 i0 (.int .i64 0) 1 Try.underlying22 hi hz0 hz1 .i64 .i64 _ _ N rfl rfl rfl rfl ?c1 ?c2 ?c3 ?_)
  case c1 => rw [hz2]; omega
  case c2 => unfold maxLen; omega
  case c3 => rw [HWa.out]; exact Nat.le_refl _
  rw [← HWa.out]
  intro w1 hown hg
  have hb1 : Below Wa.heap.size Wa w1 := (Below.refl _ Wa).grown hg (Nat.le_refl _) (fun k hk => by cases hk)
  have x1 := xa.below hb1 xa.lt
  rw [zeros] at hown
  obtain ⟨g, hgg⟩ : ∃ g, g = w.heap.size + 1 := ⟨_, rfl⟩
  have hgl := hown.lt (w.heap.size + 1) rfl
  rw [← hgg] at hown hgl ⊢
  clear hg
  obtain ⟨p, hp⟩ : ∃ p, p = w1.heap.size := ⟨_, rfl⟩
  obtain ⟨W2, hW2⟩ : ∃ W2, W2 = w1.alloc (.cells #[.int .i64 N, .slice (some ⟨g, 0, none⟩) N N] 27) := ⟨_, rfl⟩
  have hb2 : Below w1.heap.size w1 W2 := by rw [hW2]; exact Below.one _ _
  have xc : Box W2 p 27 (.int .i64 N) (.slice (some ⟨g, 0, none⟩) N N) := by rw [hp, hW2]; exact Box.new _ _ _ _
  have x2 := x1.below hb2 x1.lt
  have o2 := (own_below hown hb2).mono (show w.heap.size ≤ g by omega)
  have B2 := (hba.trans (hb1.mono hba.size)).trans (hb2.mono (Nat.le_trans hba.size hb1.size))
  have hgp : Hid (g ≠ p) := (show g ≠ p by omega)
  have hgr : Hid (g ≠ w.heap.size) := (show g ≠ _ by omega)
  have hpr : Hid (w.heap.size ≠ p) := (show _ ≠ p by have := x1.lt; omega)
  have hgw : Hid (w.heap.size ≤ g) := (show _ ≤ g by omega)
  have HP := Lib.hid hp
  have HG2 := Lib.hid hgg
  have HW2 := Lib.hid hW2
  have hT0 : Hid (TellOf S bn 0 1 bn (List.replicate N 0)) := by
    intro l hl
    obtain ⟨h1, _⟩ := HGG.out l hl
    rw [pre2_start, tellL_start hl.1, h1]
    exact ⟨by simp, rfl⟩
  have Y0 := Lib.hid x2
  have C0 := Lib.hid xc
  have O0 := Lib.hid o2
  have BB0 := Lib.hid B2
  have hz : Hid (∀ y ∈ List.replicate N 0, y ≤ 128) := by intro y hy; rw [List.eq_of_mem_replicate hy]; decide
  clear hW2 hb2 xc x2 o2 B2 hown hgl hb1 x1 hba xa hp hgg
  go_wp2
  rw [← HP.out, ← HW2.out]
  go_loopw [1, 6] (fun bv iv wr => ∃ (b i : Nat) (ys : List Nat), i ≤ N ∧ iv = .int .i64 i ∧ bv = .int .i64 b ∧ b < 2 ^ 62 ∧ Hid (∀ y ∈ ys, y ≤ 128 * (8 * i + (i + 1))) ∧ Hid (TellOf S bn i (i + 1) b ys) ∧ Hid (wr.ownsRow w.heap.size 3 1 (.slice (some ⟨g, 0, none⟩) N N) N (ys.map nv)) ∧ Hid (Box wr w.heap.size 27 (.int .i64 0) (.slice none 0 0)) ∧ Hid (Box wr p 27 (.int .i64 N) (.slice (some ⟨g, 0, none⟩) N N)) ∧ Hid (Below w.heap.size w wr)) (fun _ i _ => N - (intOf i).toNat)
  case atStart => exact ⟨bn, 0, List.replicate N 0, Nat.zero_le _, rfl, rfl, hbt, hz, hT0, O0, Y0, C0, BB0⟩
  case round =>
    clear hz hT0 O0 Y0 C0 BB0
    obtain ⟨b, i, ys, hi, rfl, rfl, hb, hys, htold, how, hy, hc, hbl⟩ := hrel
    by_cases hlt : i < N
    · have hib : (i : Int) < (N : Int) := by omega
      go_wp2
      go_loopw [1, 7] (fun bv jv wr => ∃ (b j : Nat) (ys : List Nat), i + 1 ≤ j ∧ j ≤ N ∧ jv = .int .i64 j ∧ bv = .int .i64 b ∧ b < 2 ^ 62 ∧ Hid (∀ y ∈ ys, y ≤ 128 * (8 * i + j)) ∧ Hid (TellOf S bn i j b ys) ∧ Hid (wr.ownsRow w.heap.size 3 1 (.slice (some ⟨g, 0, none⟩) N N) N (ys.map nv)) ∧ Hid (Box wr w.heap.size 27 (.int .i64 0) (.slice none 0 0)) ∧ Hid (Box wr p 27 (.int .i64 N) (.slice (some ⟨g, 0, none⟩) N N)) ∧ Hid (Below w.heap.size w wr)) (fun _ j _ => N - (intOf j).toNat)
      case atStart => exact ⟨b, i + 1, ys, Nat.le_refl _, hlt, by go_num, rfl, hb, hys, htold, how, hy, hc, hbl⟩
      case round =>
        clear hys htold how hy hc hbl hb
        obtain ⟨b, j, ys, hj1, hj, rfl, rfl, hb, hys, htold, how, hy, hc, hbl⟩ := hrel
        by_cases hlt2 : j < N
        · have hjb : (j : Int) < (N : Int) := by omega
          obtain ⟨d, hd⟩ : ∃ d, d = b / 2 := ⟨_, rfl⟩
          have hdd : (b : Int) / 2 = (d : Int) := by omega
          have hd2 : d < 2 ^ 62 := by omega
          obtain ⟨st1, st2⟩ := tellOf_step hN8 HGG.out hj1 hlt2 htold.out
          rw [← hd] at st1 st2
          have hyb : ∀ y ∈ ys, y ≤ 10000 := fun y hy => by have := hys.out y hy; omega
          have c0 := hc.out.c0
          have c1 := hc.out.c1
          by_cases hodd : b % 2 = 1
          · have hand : bits .and .i64 (b : Int) 1 = 1 := by rw [andOne]; omega
            have hstep := Lib.hid (st1 hodd)
            have hys2 : Hid (∀ y ∈ ys.set i (ys.getD i 0 + 2 ^ j), y ≤ 128 * (8 * i + (j + 1))) := by
              intro y hy
              have := set_leAdd (i := i) (j := j) (by omega) hys.out y hy
              omega
            obtain ⟨x1, z1, hx1, hf1, hz1', ho7⟩ := add_at (by omega) hlt (show j < 8 by omega) hyb how.out
            have H7 := Lib.hid ho7
            clear ho7 st1 st2 hyb hd hodd hys htold how
            go_wp2
            go_region
            all_goals
              obtain ⟨w7, hw7⟩ : ∃ w7, w7 = (wr.setCell ⟨g, i, none⟩ (.int .i64 z1)).drew := ⟨_, rfl⟩
              rw [← hw7]
              have how7 := Lib.hid (show w7.ownsRow w.heap.size 3 1 (.slice (some ⟨g, 0, none⟩) N N) N ((ys.set i (ys.getD i 0 + 2 ^ j)).map nv) from by rw [hw7]; exact H7.out.drew)
              have hy7 := Lib.hid (show Box w7 w.heap.size 27 (.int .i64 0) (.slice none 0 0) from by rw [hw7]; exact hy.out.other ⟨g, i, none⟩ _ (fun e => hgr.out e.symm))
              have hc7 := Lib.hid (show Box w7 p 27 (.int .i64 N) (.slice (some ⟨g, 0, none⟩) N N) from by rw [hw7]; exact hc.out.other ⟨g, i, none⟩ _ (fun e => hgp.out e.symm))
              have hbl7 := Lib.hid (show Below w.heap.size w w7 from by rw [hw7]; exact (hbl.out.setCell (p := ⟨g, i, none⟩) hgw.out _).drew)
              clear hw7 c0 c1 hx1 hf1 H7 hy hc hbl
              go_wp2
              go_roundw
              case rel => exact ⟨d, j + 1, _, by omega, by omega, by go_num, by rw [← hdd], hd2, hys2, hstep, how7, hy7, hc7, hbl7⟩
              case measure => simp [intOf]; omega
          · have hand : bits .and .i64 (b : Int) 1 = 0 := by rw [andOne]; omega
            have hstep := Lib.hid (st2 (by omega))
            have hys2 : Hid (∀ y ∈ ys.set j (ys.getD j 0 + 2 ^ i), y ≤ 128 * (8 * i + (j + 1))) := by
              intro y hy
              have := set_leAdd (i := j) (j := i) (by omega) hys.out y hy
              omega
            obtain ⟨x1, z1, hx1, hf1, hz1', ho7⟩ := add_at (by omega) hlt2 (show i < 8 by omega) hyb how.out
            have H7 := Lib.hid ho7
            clear ho7 st1 st2 hyb hd hodd hys htold how
            go_wp2
            go_region
            all_goals
              obtain ⟨w7, hw7⟩ : ∃ w7, w7 = (wr.setCell ⟨g, j, none⟩ (.int .i64 z1)).drew := ⟨_, rfl⟩
              rw [← hw7]
              have how7 := Lib.hid (show w7.ownsRow w.heap.size 3 1 (.slice (some ⟨g, 0, none⟩) N N) N ((ys.set j (ys.getD j 0 + 2 ^ i)).map nv) from by rw [hw7]; exact H7.out.drew)
              have hy7 := Lib.hid (show Box w7 w.heap.size 27 (.int .i64 0) (.slice none 0 0) from by rw [hw7]; exact hy.out.other ⟨g, j, none⟩ _ (fun e => hgr.out e.symm))
              have hc7 := Lib.hid (show Box w7 p 27 (.int .i64 N) (.slice (some ⟨g, 0, none⟩) N N) from by rw [hw7]; exact hc.out.other ⟨g, j, none⟩ _ (fun e => hgp.out e.symm))
              have hbl7 := Lib.hid (show Below w.heap.size w w7 from by rw [hw7]; exact (hbl.out.setCell (p := ⟨g, j, none⟩) hgw.out _).drew)
              clear hw7 c0 c1 hx1 hf1 H7 hy hc hbl
              go_wp2
              go_roundw
              case rel => exact ⟨d, j + 1, _, by omega, by omega, by go_num, by rw [← hdd], hd2, hys2, hstep, how7, hy7, hc7, hbl7⟩
              case measure => simp [intOf]; omega
        · obtain rfl : j = N := by omega
          have hjb : ¬ (j : Int) < (j : Int) := by omega
          have hstep : Hid (TellOf S bn (i + 1) (i + 2) b ys) := by
            intro l hl
            obtain ⟨h1, _⟩ := HGG.out l hl
            obtain ⟨h3, h4⟩ := htold.out l hl
            rw [h1] at h3 h4
            rw [pre2_next] at h3
            rw [tellL_next hl.1 (by omega) (by omega)] at h4
            exact ⟨h3, h4⟩
          have hys2 : Hid (∀ y ∈ ys, y ≤ 128 * (8 * (i + 1) + (i + 1 + 1))) := by
            intro y hy
            have := hys.out y hy
            omega
          clear htold hys
          go_wp2
          go_roundw
          case rel => exact ⟨b, i + 1, ys, by omega, by go_num, rfl, hb, hys2, hstep, how, hy, hc, hbl⟩
          case measure => simp [intOf]; omega
    · obtain rfl : i = N := by omega
      have hib : ¬ (i : Int) < (i : Int) := by omega
      have c0 := hc.out.c0
      have c1 := hc.out.c1
      have e0 := hy.out.c0
      have e1 := hy.out.c1
      have e2 := hy.out.f0
      have e3 := hy.out.f1
      go_wp2
      refine bodyPost_ret (v := .agg #[.int .i64 i, .slice (some ⟨g, 0, none⟩) i i]) (Box.res1 rfl _ rfl ((hy.out.set0 _).set1 _)) rfl ⟨⟨g, rfl, ys, ?_, ?_⟩, ?_⟩
      · intro l hl; exact (htold.out l hl).2
      · exact own_other (own_other how.out ⟨w.heap.size, 0, none⟩ _ (fun e => hgr.out e)) ⟨w.heap.size, 1, none⟩ _ (fun e => hgr.out e)
      · exact (hbl.out.setCell (p := ⟨w.heap.size, 0, none⟩) (Nat.le_refl _) _).setCell (p := ⟨w.heap.size, 1, none⟩) (Nat.le_refl _) _
end Go.Proofs.Ytpndfmlkceplcaa
namespace Go.Proofs.Ytpndfmlkceplcaa
open Go.ChangeShapes Go.WideShapes Go.ChangeAt Go.RowKit
set_option linter.unusedVariables false

/-- A valid tour with as many players as there are numbers. -/
abbrev OkL (l : List Int) : Prop := Ok (l.length : Int) l
theorem okB_L {l : List Int} (h : OkL l) : okB (l.length : Int) l = true := okB_true h
theorem OkL.le {l : List Int} (h : OkL l) : 1 ≤ l.length ∧ l.length ≤ 8 := by have := h.1; have := h.2.1; omega
theorem Ok.toL {n : Int} {l : List Int} (h : Ok n l) : OkL l := ⟨by have := h.1; have := h.2.2.1; omega, by have := h.2.1; have := h.2.2.1; omega, rfl, h.2.2.2⟩

theorem getD_map_ofNat (ys : List Nat) (i : Nat) : (ys.map Int.ofNat).getD i 0 = ((ys.getD i 0 : Nat) : Int) := by
  rw [List.getD_eq_getElem?_getD, List.getD_eq_getElem?_getD, List.getElem?_map]
  cases ys[i]? <;> rfl
theorem bt_ofNat (ys : List Nat) (i j : Nat) : bt (ys.map Int.ofNat) i j = (ys.getD i 0).testBit j := bt_nat j (getD_map_ofNat ys i)
theorem mkOk {ys : List Nat} (h1 : 1 ≤ ys.length) (h8 : ys.length ≤ 8) (hx : ∀ i, i < ys.length → ys.getD i 0 < 2 ^ ys.length)
    (hs : ∀ i, i < ys.length → (ys.getD i 0).testBit i = false) (ho : ∀ i j, i < ys.length → j < ys.length → i ≠ j → (ys.getD i 0).testBit j = !(ys.getD j 0).testBit i) : OkL (ys.map Int.ofNat) := by
  have hl : (ys.map Int.ofNat).length = ys.length := by simp
  refine ⟨by omega, by omega, rfl, ?_⟩
  intro a ha
  rw [hl] at ha
  refine ⟨?_, ?_, ?_⟩
  · rw [getD_map_ofNat, hl]
    have := hx a ha
    simp only [inSet, Bool.and_eq_true, decide_eq_true_eq]
    omega
  · exact (bt_ofNat ys a a).trans (hs a ha)
  · intro b hb
    have e := ho a b ha (by omega) (by omega)
    have e1 := bt_ofNat ys a b
    have e2 := bt_ofNat ys b a
    unfold bt at e1 e2
    rw [e1, e2, e]
    cases (ys.getD b 0).testBit a <;> decide
theorem okL_ext {l l' : List Int} (h : OkL l) (h' : OkL l') (hl : l.length = l'.length) (hb : ∀ i j, i < l.length → j < l.length → bt l i j = bt l' i j) : l = l' := by
  apply List.ext_getElem?
  intro p
  by_cases hp : p < l.length
  · have hp' : p < l'.length := by omega
    obtain ⟨x, hx, hx2, _⟩ := h.nat hp
    obtain ⟨y, hy, hy2, _⟩ := h'.nat hp'
    have : x = y := by
      apply Nat.eq_of_testBit_eq
      intro q
      by_cases hq : q < l.length
      · rw [← bt_nat q hx, ← bt_nat q hy]; exact hb p q hp hq
      · rw [Nat.testBit_lt_two_pow (Nat.lt_of_lt_of_le hx2 (pow_le_of (Nat.le_of_not_lt hq))), Nat.testBit_lt_two_pow (Nat.lt_of_lt_of_le hy2 (pow_le_of (by omega)))]
    rw [List.getD_eq_getElem?_getD, List.getElem?_eq_getElem hp] at hx
    rw [List.getD_eq_getElem?_getD, List.getElem?_eq_getElem hp'] at hy
    rw [List.getElem?_eq_getElem hp, List.getElem?_eq_getElem hp']
    simp only [Option.getD_some] at hx hy
    rw [hx, hy, this]
  · rw [List.getElem?_eq_none (by omega), List.getElem?_eq_none (by omega)]
theorem btHigh {l : List Int} (h : OkL l) {i j : Nat} (hi : i < l.length) (hj : l.length ≤ j) : bt l i j = false := by
  obtain ⟨x, hx, hx2, _⟩ := h.nat hi
  rw [bt_nat j hx]
  exact Nat.testBit_lt_two_pow (Nat.lt_of_lt_of_le hx2 (pow_le_of hj))

/-! Counting. -/
def cnt (p : Nat → Bool) : Nat → Nat
  | 0 => 0
  | k + 1 => cnt p k + if p k then 1 else 0
theorem cnt_le (p : Nat → Bool) : ∀ k, cnt p k ≤ k
  | 0 => Nat.le_refl _
  | k + 1 => by have := cnt_le p k; simp only [cnt]; split <;> omega
theorem cnt_congr {p q : Nat → Bool} : ∀ {k : Nat}, (∀ i, i < k → p i = q i) → cnt p k = cnt q k
  | 0, _ => rfl
  | k + 1, h => by simp only [cnt]; rw [cnt_congr (fun i hi => h i (by omega)), h k (by omega)]
theorem cnt_none {p : Nat → Bool} {k : Nat} (h : ∀ i, i < k → p i = false) : cnt p k = 0 := by
  induction k with
  | zero => rfl
  | succ k ih => simp only [cnt]; rw [ih (fun i hi => h i (by omega)), h k (by omega)]; rfl
theorem cnt_not (p : Nat → Bool) : ∀ k, cnt p k + cnt (fun i => !p i) k = k
  | 0 => rfl
  | k + 1 => by
    have := cnt_not p k
    simp only [cnt]
    by_cases h : p k = true <;> simp [h] <;> omega
theorem cnt_mono {p : Nat → Bool} {k m : Nat} (hk : k ≤ m) (h : ∀ i, k ≤ i → i < m → p i = false) : cnt p m = cnt p k := by
  induction m with
  | zero => obtain rfl : k = 0 := by omega
            rfl
  | succ m ih =>
    by_cases e : k = m + 1
    · subst e; rfl
    · simp only [cnt]
      rw [ih (by omega) (fun i h1 h2 => h i h1 (by omega)), h m (by omega) (by omega)]
      rfl
/-- Two tests that agree but at one place. -/
theorem cnt_one {p q : Nat → Bool} {x k : Nat} (hx : x < k) (h : ∀ i, i < k → i ≠ x → p i = q i) : cnt p k + (if q x then 1 else 0) = cnt q k + (if p x then 1 else 0) := by
  induction k with
  | zero => omega
  | succ k ih =>
    simp only [cnt]
    by_cases e : x = k
    · subst e
      rw [cnt_congr (p := p) (q := q) (fun i hi => h i (by omega) (by omega))]
      omega
    · have := ih (by omega) (fun i hi hne => h i (by omega) hne)
      rw [h k (by omega) (fun h' => e h'.symm)]
      omega
/-- A list of names that are all different. -/
def Bij (f : Nat → Nat) (m : Nat) : Prop := (∀ i, i < m → f i < m) ∧ ∀ i j, i < m → j < m → f i = f j → i = j
def bijDown (f : Nat → Nat) (m : Nat) (i : Nat) : Nat := if f i = m then f m else f i
theorem Bij.down {f : Nat → Nat} {m : Nat} (h : Bij f (m + 1)) : Bij (bijDown f m) m := by
  have hm := h.1 m (by omega)
  refine ⟨fun i hi => ?_, fun i j hi hj he => ?_⟩
  · have h1 := h.1 i (by omega)
    have h2 := h.2 i m (by omega) (by omega)
    unfold bijDown
    split
    · rename_i h3
      rcases Nat.lt_or_ge (f m) m with h4 | h4
      · exact h4
      · have := h2 (by omega); omega
    · omega
  · unfold bijDown at he
    have h1 := h.2 i j (by omega) (by omega)
    have h2 := h.2 i m (by omega) (by omega)
    have h3 := h.2 j m (by omega) (by omega)
    split at he <;> split at he
    · rename_i a b; exact h1 (a.trans b.symm)
    · exact absurd (h3 he.symm) (by omega)
    · exact absurd (h2 he) (by omega)
    · exact h1 he
theorem Bij.onto {m : Nat} : ∀ {f : Nat → Nat}, Bij f m → ∀ y, y < m → ∃ x, x < m ∧ f x = y := by
  induction m with
  | zero => intro f _ y hy; omega
  | succ m ih =>
    intro f h y hy
    by_cases e : f m = y
    · exact ⟨m, by omega, e⟩
    · have hd := ih h.down
      have hm := h.1 m (by omega)
      by_cases e2 : y = m
      · subst e2
        obtain ⟨x, hx, hfx⟩ := hd (f y) (by omega)
        unfold bijDown at hfx
        split at hfx
        · rename_i h4; exact ⟨x, by omega, h4⟩
        · have := h.2 x y (by omega) (by omega) hfx; omega
      · obtain ⟨x, hx, hfx⟩ := hd y (by omega)
        unfold bijDown at hfx
        split at hfx
        · exact absurd hfx e
        · exact ⟨x, by omega, hfx⟩
theorem Bij.cnt {m : Nat} (p : Nat → Bool) : ∀ {f : Nat → Nat}, Bij f m → cnt (fun i => p (f i)) m = Go.Proofs.Ytpndfmlkceplcaa.cnt p m := by
  induction m with
  | zero => intro f _; rfl
  | succ m ih =>
    intro f h
    have hd := ih h.down
    have hm := h.1 m (by omega)
    have hs : Go.Proofs.Ytpndfmlkceplcaa.cnt (fun i => p (f i)) (m + 1) = Go.Proofs.Ytpndfmlkceplcaa.cnt (fun i => p (f i)) m + if p (f m) then 1 else 0 := rfl
    have ht : Go.Proofs.Ytpndfmlkceplcaa.cnt p (m + 1) = Go.Proofs.Ytpndfmlkceplcaa.cnt p m + if p m then 1 else 0 := rfl
    rw [hs, ht, ← hd]
    by_cases e : f m = m
    · rw [e]
      congr 1
      apply cnt_congr
      intro i hi
      unfold bijDown
      split
      · rename_i h4; have := h.2 i m (by omega) (by omega) (by omega); omega
      · rfl
    · obtain ⟨x, hx, hfx⟩ := h.onto m (by omega)
      have hxm : x < m := by
        rcases Nat.lt_or_ge x m with h5 | h5
        · exact h5
        · obtain rfl : x = m := by omega
          exact absurd hfx e
      have := cnt_one (p := fun i => p (f i)) (q := fun i => p (bijDown f m i)) hxm (by
        intro i hi hne
        unfold bijDown
        split
        · rename_i h4; exact absurd (h.2 i x (by omega) (by omega) (by omega)) hne
        · rfl)
      simp only [hfx] at this
      have e3 : bijDown f m x = f m := by unfold bijDown; rw [if_pos hfx]
      rw [e3] at this
      omega

theorem pc_cnt (x : Nat) (hx : x < 256) : pc x = cnt (fun b => x.testBit b) 8 := by
  have : ∀ x : Fin 256, pc x.val = cnt (fun b => x.val.testBit b) 8 := by decide +kernel
  exact this ⟨x, hx⟩
/-- A player's score. -/
def sc (l : List Int) (a : Nat) : Nat := cnt (fun b => bt l a b) l.length
theorem pc_sc {l : List Int} (h : OkL l) {a : Nat} (ha : a < l.length) : pc (l.getD a 0).toNat = sc l a := by
  obtain ⟨x, hx, hx2, hx8⟩ := h.nat ha
  rw [hx]
  show pc x = _
  rw [pc_cnt x hx8]
  unfold sc
  rw [cnt_mono (p := fun b => x.testBit b) (k := l.length) h.le.2 (fun i h1 _ => Nat.testBit_lt_two_pow (Nat.lt_of_lt_of_le hx2 (pow_le_of h1)))]
  exact cnt_congr (fun i _ => (bt_nat i hx).symm)
theorem sc_lt {l : List Int} (h : OkL l) {a : Nat} (ha : a < l.length) : sc l a < l.length := by
  have h1 := cnt_not (fun b => bt l a b) l.length
  have h2 : 1 ≤ cnt (fun b => !bt l a b) l.length := by
    have := cnt_one (p := fun b => !bt l a b) (q := fun b => if b = a then false else !bt l a b) ha (fun i _ hne => by simp [hne])
    simp [h.self ha] at this
    omega
  unfold sc
  omega

/-! All scores. -/
def sumN (f : Nat → Nat) : Nat → Nat
  | 0 => 0
  | k + 1 => sumN f k + f k
theorem sumN_congr {f g : Nat → Nat} : ∀ {k : Nat}, (∀ i, i < k → f i = g i) → sumN f k = sumN g k
  | 0, _ => rfl
  | k + 1, h => by simp only [sumN]; rw [sumN_congr (fun i hi => h i (by omega)), h k (by omega)]
theorem sumN_add (f g : Nat → Nat) : ∀ k, sumN (fun i => f i + g i) k = sumN f k + sumN g k
  | 0 => rfl
  | k + 1 => by simp only [sumN]; rw [sumN_add f g k]; omega
theorem sumN_cnt (p : Nat → Bool) : ∀ k, sumN (fun i => if p i then 1 else 0) k = cnt p k
  | 0 => rfl
  | k + 1 => by simp only [sumN, cnt]; rw [sumN_cnt p k]
theorem pairs (b : Nat → Nat → Bool) (m : Nat) (hs : ∀ i, i < m → b i i = false) (ho : ∀ i j, i < m → j < m → i ≠ j → b i j = !b j i) :
    ∀ k, k ≤ m → 2 * sumN (fun i => cnt (b i) k) k = k * (k - 1) := by
  intro k
  induction k with
  | zero => intro _; rfl
  | succ k ih =>
    intro hk
    have h1 := ih (by omega)
    have e1 : sumN (fun i => cnt (b i) (k + 1)) (k + 1) = sumN (fun i => cnt (b i) k) k + sumN (fun i => if b i k then 1 else 0) k + cnt (b k) k := by
      show sumN (fun i => cnt (b i) k + if b i k then 1 else 0) k + (cnt (b k) k + if b k k then 1 else 0) = _
      rw [sumN_add, hs k (by omega)]
      rfl
    rw [sumN_cnt (fun i => b i k)] at e1
    have e2 := cnt_not (fun i => b i k) k
    have e3 : cnt (fun i => !b i k) k = cnt (b k) k := cnt_congr (fun i hi => (ho k i (by omega) (by omega) (by omega)).symm)
    have e4 : (k + 1) * (k + 1 - 1) = k * (k - 1) + 2 * k := by
      cases k with
      | zero => rfl
      | succ k => simp only [Nat.add_sub_cancel, Nat.add_mul, Nat.mul_add]; omega
    omega
theorem sumScores {l : List Int} (h : OkL l) : 2 * sumN (sc l) l.length = l.length * (l.length - 1) :=
  pairs (bt l) l.length (fun i hi => h.self hi) (fun i j hi hj hne => h.other hi hj hne) l.length (Nat.le_refl _)

/-! Turned. -/
theorem turned {l : List Int} (h : OkL l) : OkL (turnR (l.length : Int) l) ∧ (turnR (l.length : Int) l).length = l.length ∧ turnN (l.length : Int) l = l.length ∧ ∀ i j, i < l.length → j < l.length → bt (turnR (l.length : Int) l) i j = bt l j i := by
  obtain ⟨e, e2⟩ := turnR_ok (okB_L h)
  rw [e]
  have hlen := turnS_len l
  have key : ∀ i j, i < l.length → ((turnS l).getD i 0).testBit j = (decide (j < l.length) && (!bt l i j && decide (j ≠ i))) := by
    intro i j hi
    obtain ⟨x, hx, hx2, _⟩ := h.nat hi
    have hself := h.self hi
    rw [bt_nat i hx] at hself
    rw [List.getD_eq_getElem?_getD, turnS_at l i x hi hx, Option.getD_some, turn_bit _ x i j h.le.2 hx2 hi hself, bt_nat j hx]
  have key2 : ∀ i j, i < l.length → j < l.length → ((turnS l).getD i 0).testBit j = bt l j i := by
    intro i j hi hj
    rw [key i j hi]
    by_cases e : j = i
    · subst e; simp [h.self hj]
    · rw [h.other hj hi e]; simp [hj, e]
  refine ⟨mkOk (by rw [hlen]; exact h.le.1) (by rw [hlen]; exact h.le.2) ?_ ?_ ?_, by simp [hlen], e2, fun i j hi hj => by rw [bt_ofNat]; exact key2 i j hi hj⟩
  · intro i hi
    rw [hlen] at hi ⊢
    obtain ⟨x, hx, hx2, _⟩ := h.nat hi
    rw [List.getD_eq_getElem?_getD, turnS_at l i x hi hx, Option.getD_some]
    exact Nat.lt_of_le_of_lt (Nat.le_trans (Nat.sub_le _ _) (Nat.sub_le _ _)) (Nat.sub_lt (Nat.two_pow_pos _) (by decide))
  · intro i hi
    rw [hlen] at hi
    rw [key2 i i hi hi, h.self hi]
  · intro i j hi hj hne
    rw [hlen] at hi hj
    rw [key2 i j hi hj, key2 j i hj hi, h.other hj hi (fun e => hne e.symm)]
theorem turned2 {l : List Int} (h : OkL l) : turnR ((turnR (l.length : Int) l).length : Int) (turnR (l.length : Int) l) = l := by
  obtain ⟨h1, h2, _, h4⟩ := turned h
  obtain ⟨k1, k2, _, k4⟩ := turned h1
  refine okL_ext k1 h (by omega) fun i j hi hj => ?_
  rw [k4 i j (by omega) (by omega), h4 j i (by omega) (by omega)]
theorem sc_turned {l : List Int} (h : OkL l) {a : Nat} (ha : a < l.length) : sc (turnR (l.length : Int) l) a + sc l a + 1 = l.length := by
  obtain ⟨h1, h2, _, h4⟩ := turned h
  have e1 : sc (turnR (l.length : Int) l) a = cnt (fun b => bt l b a) l.length := by
    unfold sc; rw [h2]; exact cnt_congr (fun i hi => h4 a i ha hi)
  have e2 := cnt_one (p := fun b => bt l b a) (q := fun b => !bt l a b) ha (fun i hi hne => by rw [h.other hi ha hne])
  have e3 := cnt_not (fun b => bt l a b) l.length
  simp only [h.self ha] at e2
  unfold sc at *
  rw [e1]
  simp at e2
  omega
end Go.Proofs.Ytpndfmlkceplcaa
namespace Go.Proofs.Ytpndfmlkceplcaa
open Go.ChangeShapes Go.WideShapes Go.ChangeAt Go.RowKit
set_option linter.unusedVariables false

/-! Renamed. -/
theorem renF_ltm {m : Nat} {ns : List Int} (h : permB m ns = true) (pre : List (Pl m)) : ∀ y ∈ renF ns pre, y < 2 ^ m := by
  have : ∀ (L : List (Pl m)) (ys : List Nat), (∀ y ∈ ys, y < 2 ^ m) → ∀ y ∈ L.foldl (renStep ns) ys, y < 2 ^ m := by
    intro L
    induction L with
    | nil => exact fun ys h => h
    | cons x L ih =>
      refine fun ys hy => ih _ ?_
      intro y hy'
      unfold renStep at hy'
      rcases List.mem_or_eq_of_mem_set hy' with h1 | h1
      · exact hy y h1
      · rw [h1]
        refine Nat.or_lt_two_pow ?_ (Nat.pow_lt_pow_right (by decide) (nm_val h x.2.isLt).2)
        rw [List.getD_eq_getElem?_getD]
        cases e : ys[nm ns x.1.val]? with
        | none => exact Nat.two_pow_pos _
        | some z => exact hy z (List.mem_of_getElem? e)
  exact this pre _ (by intro y hy; rw [(List.mem_replicate.1 hy).2]; exact Nat.two_pow_pos _)
theorem renF_all {m : Nat} {ns : List Int} (h : permB m ns = true) (a b : Fin m) (pre : List (Pl m)) : ((renF ns pre).getD (nm ns a.val) 0).testBit (nm ns b.val) = decide ((a, b) ∈ pre) := by
  have key : ∀ (L : List (Pl m)) (ys : List Nat), ys.length = m → ((L.foldl (renStep ns) ys).getD (nm ns a.val) 0).testBit (nm ns b.val) = ((ys.getD (nm ns a.val) 0).testBit (nm ns b.val) || decide ((a, b) ∈ L)) := by
    intro L
    induction L with
    | nil => intro ys _; simp
    | cons x L ih =>
      intro ys hy
      rw [List.foldl_cons, ih _ (by rw [renStep_len]; exact hy)]
      have hd : decide ((a, b) ∈ x :: L) = (decide ((a, b) = x) || decide ((a, b) ∈ L)) := by simp only [List.mem_cons]; exact Bool.decide_or _ _
      rw [hd, ← Bool.or_assoc]
      congr 1
      unfold renStep
      by_cases e : x.1 = a
      · obtain ⟨x1, x2⟩ := x
        simp only at e
        subst e
        rw [List.getD_eq_getElem?_getD, List.getElem?_set_self (by rw [hy]; exact (nm_val h x1.isLt).2)]
        simp only [Option.getD_some, Nat.testBit_or, Nat.testBit_two_pow]
        congr 1
        rw [decide_eq_decide]
        constructor
        · intro e2
          have : x2 = b := Fin.ext (nm_inj h x2.isLt b.isLt e2)
          rw [this]
        · intro e2
          have : b = x2 := congrArg Prod.snd e2
          rw [this]
      · have hv : nm ns x.1.val ≠ nm ns a.val := fun h' => e (Fin.ext (nm_inj h x.1.isLt a.isLt h'))
        rw [List.getD_eq_getElem?_getD, List.getElem?_set_ne hv, ← List.getD_eq_getElem?_getD]
        have : ¬ (a, b) = x := fun e2 => e (by rw [← e2])
        simp [this]
  have := key pre (List.replicate m 0) (by simp)
  have hz : ((List.replicate m 0).getD (nm ns a.val) 0).testBit (nm ns b.val) = false := by
    rw [List.getD_eq_getElem?_getD, List.getElem?_eq_getElem (by simpa using (nm_val h a.isLt).2)]; simp
  rw [hz, Bool.false_or] at this
  exact this
theorem nm_bij {m : Nat} {ns : List Int} (h : permB m ns = true) : Bij (nm ns) m := ⟨fun i hi => (nm_val h hi).2, fun i j hi hj he => nm_inj h hi hj he⟩
theorem renamed0 {l ns : List Int} (h : OkL l) (hp : permB l.length ns = true) : OkL ((renF ns (gamesL l.length l)).map Int.ofNat) ∧ ((renF ns (gamesL l.length l)).map Int.ofNat).length = l.length ∧ ∀ a b, a < l.length → b < l.length → bt ((renF ns (gamesL l.length l)).map Int.ofNat) (nm ns a) (nm ns b) = bt l a b := by
  have hlen : (renF ns (gamesL l.length l)).length = l.length := renF_len _ _
  have key : ∀ a b, a < l.length → b < l.length → ((renF ns (gamesL l.length l)).getD (nm ns a) 0).testBit (nm ns b) = bt l a b := by
    intro a b ha hb
    have := renF_all hp ⟨a, ha⟩ ⟨b, hb⟩ (gamesL l.length l)
    rw [this, Bool.eq_iff_iff, decide_eq_true_eq]
    exact mem_games l.length l (⟨a, ha⟩, ⟨b, hb⟩)
  refine ⟨mkOk (by rw [hlen]; exact h.le.1) (by rw [hlen]; exact h.le.2) ?_ ?_ ?_, by simp [hlen], fun a b ha hb => by rw [bt_ofNat]; exact key a b ha hb⟩
  · intro i hi
    rw [List.getD_eq_getElem?_getD, List.getElem?_eq_getElem hi, hlen]
    exact renF_ltm hp _ _ (List.getElem_mem _)
  · intro i hi
    rw [hlen] at hi
    obtain ⟨a, ha, rfl⟩ := (nm_bij hp).onto i hi
    rw [key a a ha ha, h.self ha]
  · intro i j hi hj hne
    rw [hlen] at hi hj
    obtain ⟨a, ha, rfl⟩ := (nm_bij hp).onto i hi
    obtain ⟨b, hb, rfl⟩ := (nm_bij hp).onto j hj
    rw [key a b ha hb, key b a hb ha, h.other ha hb (fun e => hne (by rw [e]))]
theorem renB_L {l ns : List Int} (h : OkL l) (hp : permB l.length ns = true) : renB (l.length : Int) l ns = true := by unfold renB; rw [okB_L h, hp]; rfl
theorem renamed {l ns : List Int} (h : OkL l) (hp : permB l.length ns = true) : OkL (renR (l.length : Int) l ns) ∧ (renR (l.length : Int) l ns).length = l.length ∧ renN (l.length : Int) l ns = l.length ∧ ∀ a b, a < l.length → b < l.length → bt (renR (l.length : Int) l ns) (nm ns a) (nm ns b) = bt l a b := by
  have e : renR (l.length : Int) l ns = (renF ns (gamesL l.length l)).map Int.ofNat := by unfold renR; rw [if_pos (renB_L h hp)]
  obtain ⟨h1, h2, h3⟩ := renamed0 h hp
  rw [e]
  exact ⟨h1, h2, by unfold renN; rw [if_pos (renB_L h hp)], h3⟩
theorem sc_renamed {l ns : List Int} (h : OkL l) (hp : permB l.length ns = true) {a : Nat} (ha : a < l.length) : sc (renR (l.length : Int) l ns) (nm ns a) = sc l a := by
  obtain ⟨h1, h2, _, h4⟩ := renamed h hp
  unfold sc
  rw [h2, ← (nm_bij hp).cnt (fun b => bt (renR (l.length : Int) l ns) (nm ns a) b)]
  exact cnt_congr (fun i hi => h4 a i ha hi)

/-! Flipped. -/
def isG (p q i j : Nat) : Bool := (decide (i = p) && decide (j = q)) || (decide (i = q) && decide (j = p))
theorem flipAt_bit (ys : List Nat) (p q i j : Nat) (hp : p < ys.length) : ((flipAt ys p q).getD i 0).testBit j = ((ys.getD i 0).testBit j ^^ (decide (i = p) && decide (j = q))) := by
  unfold flipAt
  by_cases e : p = i
  · subst e
    rw [List.getD_eq_getElem?_getD, List.getElem?_set_self hp]
    simp only [Option.getD_some, Nat.testBit_xor, Nat.testBit_two_pow, decide_true, Bool.true_and]
    congr 1
    rw [decide_eq_decide]
    exact ⟨fun h => h.symm, fun h => h.symm⟩
  · rw [List.getD_eq_getElem?_getD, List.getElem?_set_ne e, ← List.getD_eq_getElem?_getD]
    have : ¬ i = p := fun h => e h.symm
    simp [this]
theorem flipL_len (l : List Int) (p q : Nat) : (flipL l p q).length = l.length := by simp [flipL, flipAt_len]
theorem flipped0 {l : List Int} (h : OkL l) {p q : Nat} (hp : p < l.length) (hq : q < l.length) (hne : p ≠ q) : OkL (flipL l p q) ∧ ∀ i j, i < l.length → j < l.length → bt (flipL l p q) i j = (bt l i j ^^ isG p q i j) := by
  have hlen : (flipAt (flipAt (l.map Int.toNat) p q) q p).length = l.length := by simp [flipAt_len]
  have key : ∀ i j, i < l.length → ((flipAt (flipAt (l.map Int.toNat) p q) q p).getD i 0).testBit j = (bt l i j ^^ isG p q i j) := by
    intro i j hi
    obtain ⟨x, hx, hx2, _⟩ := h.nat hi
    have e0 : (l.map Int.toNat).getD i 0 = x := by
      rw [List.getD_eq_getElem?_getD, List.getElem?_eq_getElem hi] at hx
      simp only [Option.getD_some] at hx
      rw [List.getD_eq_getElem?_getD, List.getElem?_map, List.getElem?_eq_getElem hi]
      simp only [Option.map_some, Option.getD_some]
      rw [hx]; rfl
    rw [flipAt_bit _ q p i j (by rw [flipAt_len]; simpa using hq), flipAt_bit _ p q i j (by simpa using hp), e0, bt_nat j hx, Bool.xor_assoc]
    congr 1
    unfold isG
    by_cases h1 : i = p
    · subst h1
      simp [hne]
    · simp [h1]
  have hr : ∀ i j, i < l.length → j < l.length → isG p q i j = isG p q j i := by
    intro i j _ _
    unfold isG
    rw [Bool.or_comm]
    congr 1 <;> rw [Bool.and_comm]
  refine ⟨mkOk (by rw [hlen]; exact h.le.1) (by rw [hlen]; exact h.le.2) ?_ ?_ ?_, fun i j hi hj => by unfold flipL; rw [bt_ofNat]; exact key i j hi⟩
  · intro i hi
    rw [hlen] at hi ⊢
    apply Nat.lt_pow_two_of_testBit
    intro j hj
    rw [key i j hi, btHigh h hi hj]
    unfold isG
    have e1 : ¬ j = q := by omega
    have e2 : ¬ j = p := by omega
    simp [e1, e2]
  · intro i hi
    rw [hlen] at hi
    rw [key i i hi, h.self hi]
    unfold isG
    by_cases h1 : i = p
    · subst h1; simp [hne]
    · simp [h1]
  · intro i j hi hj hij
    rw [hlen] at hi hj
    rw [key i j hi, key j i hj, h.other hi hj hij, hr i j hi hj]
    cases bt l j i <;> cases isG p q j i <;> rfl
theorem flipB_L {l : List Int} (h : OkL l) {p q : Nat} (hp : p < l.length) (hq : q < l.length) (hne : p ≠ q) : flipB (l.length : Int) l p q = true := by
  have e1 : pl (l.length : Int) (p : Int) = true := pl_iff.2 (by omega)
  have e2 : pl (l.length : Int) (q : Int) = true := pl_iff.2 (by omega)
  have e3 : ((p : Int) == (q : Int)) = false := by rw [beq_eq_false_iff_ne]; omega
  unfold flipB
  rw [okB_L h, e1, e2, e3]; rfl
theorem flipped {l : List Int} (h : OkL l) {p q : Nat} (hp : p < l.length) (hq : q < l.length) (hne : p ≠ q) : OkL (flipR (l.length : Int) l p q) ∧ (flipR (l.length : Int) l p q).length = l.length ∧ flipN (l.length : Int) l p q = l.length ∧ ∀ i j, i < l.length → j < l.length → bt (flipR (l.length : Int) l p q) i j = (bt l i j ^^ isG p q i j) := by
  have e : flipR (l.length : Int) l p q = flipL l p q := by unfold flipR; rw [if_pos (flipB_L h hp hq hne)]; rfl
  obtain ⟨h1, h2⟩ := flipped0 h hp hq hne
  rw [e]
  exact ⟨h1, flipL_len _ _ _, by unfold flipN; rw [if_pos (flipB_L h hp hq hne)], h2⟩
theorem isG_swap (p q i j : Nat) : isG q p i j = isG p q i j := by unfold isG; rw [Bool.or_comm]
theorem flipped2 {l : List Int} (h : OkL l) {p q : Nat} (hp : p < l.length) (hq : q < l.length) (hne : p ≠ q) : flipR ((flipR (l.length : Int) l p q).length : Int) (flipR (l.length : Int) l p q) q p = l := by
  obtain ⟨h1, h2, _, h4⟩ := flipped h hp hq hne
  obtain ⟨k1, k2, _, k4⟩ := flipped h1 (p := q) (q := p) (by omega) (by omega) (fun e => hne e.symm)
  refine okL_ext k1 h (by omega) fun i j hi hj => ?_
  rw [k4 i j (by omega) (by omega), h4 i j (by omega) (by omega), isG_swap]
  cases bt l i j <;> cases isG q p i j <;> rfl

/-! Differences. -/
theorem dTo_sum (l lu : List Int) : ∀ k, dTo l lu k = sumN (fun i => pc (andn (l.getD i 0).toNat (lu.getD i 0).toNat)) k
  | 0 => rfl
  | k + 1 => by simp only [dTo, sumN]; rw [dTo_sum l lu k]
theorem pc_diff {l lu : List Int} (h : OkL l) (hu : OkL lu) (hl : l.length = lu.length) {a : Nat} (ha : a < l.length) : pc (andn (l.getD a 0).toNat (lu.getD a 0).toNat) = cnt (fun b => bt l a b && !bt lu a b) l.length := by
  obtain ⟨x, hx, hx2, hx8⟩ := h.nat ha
  obtain ⟨y, hy, hy2, _⟩ := hu.nat (show a < lu.length by omega)
  rw [hx, hy]
  show pc (andn x y) = _
  rw [pc_cnt _ (andn_lt x y hx8), cnt_mono (p := fun b => (andn x y).testBit b) (k := l.length) h.le.2 (fun i h1 _ => by
    rw [andn_bit, Nat.testBit_lt_two_pow (Nat.lt_of_lt_of_le hx2 (pow_le_of h1))]; rfl)]
  exact cnt_congr (fun i _ => by rw [andn_bit, bt_nat i hx, bt_nat i hy])
theorem cdB_L {l lu : List Int} (h : OkL l) (hu : OkL lu) (hl : l.length = lu.length) : cdB (l.length : Int) l (lu.length : Int) lu = true := by
  have : ((l.length : Int) == (lu.length : Int)) = true := by rw [hl]; exact beq_self_eq_true _
  unfold cdB; rw [okB_L h, okB_L hu, this]; rfl
theorem cdR_sum {l lu : List Int} (h : OkL l) (hu : OkL lu) (hl : l.length = lu.length) : cdR (l.length : Int) l (lu.length : Int) lu = (sumN (fun a => cnt (fun b => bt l a b && !bt lu a b) l.length) l.length : Nat) := by
  unfold cdR
  rw [if_pos (cdB_L h hu hl), dTo_sum]
  congr 1
  exact sumN_congr (fun i hi => pc_diff h hu hl hi)
theorem sumN_zero {f : Nat → Nat} {k : Nat} (h : ∀ i, i < k → f i = 0) : sumN f k = 0 := by
  induction k with
  | zero => rfl
  | succ k ih => simp only [sumN]; rw [ih (fun i hi => h i (by omega)), h k (by omega)]
theorem sumN_one {f : Nat → Nat} {x k : Nat} (hx : x < k) (h : ∀ i, i < k → i ≠ x → f i = 0) : sumN f k = f x := by
  induction k with
  | zero => omega
  | succ k ih =>
    simp only [sumN]
    by_cases e : x = k
    · subst e
      rw [sumN_zero (fun i hi => h i (by omega) (by omega)), Nat.zero_add]
    · rw [ih (by omega) (fun i hi hne => h i (by omega) hne), h k (by omega) (fun h' => e h'.symm), Nat.add_zero]
theorem cnt_single {p : Nat → Bool} {x k : Nat} (hx : x < k) (hp : p x = true) (h : ∀ i, i < k → i ≠ x → p i = false) : cnt p k = 1 := by
  have := cnt_one (p := p) (q := fun _ => false) hx h
  rw [cnt_none (fun _ _ => rfl), hp] at this
  simpa using this
theorem cd_same {l : List Int} (h : OkL l) : cdR (l.length : Int) l (l.length : Int) l = 0 := by
  rw [cdR_sum h h rfl, sumN_zero (fun i _ => cnt_none (fun j _ => by cases bt l i j <;> rfl))]; rfl
theorem cd_turned {l : List Int} (h : OkL l) : ∃ K : Nat, 2 * K = l.length * (l.length - 1) ∧ cdR (l.length : Int) l ((turnR (l.length : Int) l).length : Int) (turnR (l.length : Int) l) = (K : Int) := by
  obtain ⟨h1, h2, _, h4⟩ := turned h
  refine ⟨_, sumScores h, ?_⟩
  rw [cdR_sum h h1 h2.symm]
  congr 1
  refine sumN_congr (fun i hi => cnt_congr (fun j hj => ?_))
  rw [h4 i j hi hj]
  by_cases e : i = j
  · subst e; rw [h.self hi]; rfl
  · rw [h.other hi hj e]
    cases bt l j i <;> rfl
theorem cd_flipped {l : List Int} (h : OkL l) {p q : Nat} (hp : p < l.length) (hq : q < l.length) (hne : p ≠ q) : cdR ((flipR (l.length : Int) l p q).length : Int) (flipR (l.length : Int) l p q) (l.length : Int) l = 1 := by
  obtain ⟨h1, h2, _, h4⟩ := flipped h hp hq hne
  obtain ⟨F, hF⟩ : ∃ F, F = flipR (l.length : Int) l p q := ⟨_, rfl⟩
  rw [← hF] at h1 h2 h4 ⊢
  rw [cdR_sum h1 h h2, h2]
  have hother := h.other hp hq hne
  have key : ∀ i j, i < l.length → j < l.length → (bt F i j && !bt l i j) = (isG p q i j && !bt l i j) := by
    intro i j hi hj
    rw [h4 i j hi hj]
    cases bt l i j <;> cases isG p q i j <;> rfl
  have one : ∀ x y, x < l.length → y < l.length → x ≠ y → (∀ i j, isG p q i j = isG x y i j) → bt l x y = false → sumN (fun a => cnt (fun b => bt F a b && !bt l a b) l.length) l.length = 1 := by
    intro x y hx hy hxy hg hb
    have hb2 : bt l y x = true := by rw [h.other hy hx (fun e => hxy e.symm), hb]; rfl
    rw [sumN_one hx (fun i hi hne => ?_)]
    · refine cnt_single hy ?_ (fun j hj hne => ?_)
      · show (bt F x y && !bt l x y) = true
        rw [key x y hx hy, hg, hb]; unfold isG; simp
      · show (bt F x j && !bt l x j) = false
        rw [key x j hx hj, hg]; unfold isG; simp [hne, hxy]
    · refine cnt_none (fun j hj => ?_)
      rw [key i j hi hj, hg]
      unfold isG
      by_cases e : i = y
      · subst e
        by_cases e2 : j = x
        · subst e2; rw [hb2]; simp
        · simp [e2, hne]
      · simp [e, hne]
  have : sumN (fun a => cnt (fun b => bt F a b && !bt l a b) l.length) l.length = 1 := by
    cases hb : bt l p q
    · exact one p q hp hq hne (fun _ _ => rfl) hb
    · refine one q p hq hp (fun e => hne e.symm) (fun i j => (isG_swap p q i j).symm) ?_
      rw [hb] at hother
      cases h5 : bt l q p
      · rfl
      · rw [h5] at hother; cases hother
  rw [this]; rfl
end Go.Proofs.Ytpndfmlkceplcaa
namespace Go.Proofs.Ytpndfmlkceplcaa
open Go.ChangeShapes Go.WideShapes Go.ChangeAt Go.RowKit
set_option linter.unusedVariables false

/-! Texts. -/
theorem fmtR_L {l : List Int} (h : OkL l) : fmtR (l.length : Int) l = fmtTo l l.length [] := by unfold fmtR; rw [if_pos (okB_L h)]
theorem text_L {l : List Int} (h : OkL l) : IsText (fmtR (l.length : Int) l) l := ⟨h, fmtR_L h⟩
theorem rows_K (l : List Int) (h1 : 1 ≤ l.length) (h8 : l.length ≤ 8) : 2 * (rowsTo l l.length).length = l.length * (l.length - 1) := by
  have r : ∀ m, (rowsTo l (m + 1)).length = (rowsTo l m).length + (l.length - (m + 1)) := by
    intro m; rw [rowsTo_succ, List.length_append, rowBits_len]
  have r0 : (rowsTo l 0).length = 0 := by rw [rowsTo_zero]; rfl
  have r1 : (rowsTo l 1).length = (rowsTo l 0).length + (l.length - 1) := r 0
  have r2 : (rowsTo l 2).length = (rowsTo l 1).length + (l.length - 2) := r 1
  have r3 : (rowsTo l 3).length = (rowsTo l 2).length + (l.length - 3) := r 2
  have r4 : (rowsTo l 4).length = (rowsTo l 3).length + (l.length - 4) := r 3
  have r5 : (rowsTo l 5).length = (rowsTo l 4).length + (l.length - 5) := r 4
  have r6 : (rowsTo l 6).length = (rowsTo l 5).length + (l.length - 6) := r 5
  have r7 : (rowsTo l 7).length = (rowsTo l 6).length + (l.length - 7) := r 6
  have r8 : (rowsTo l 8).length = (rowsTo l 7).length + (l.length - 8) := r 7
  clear r
  have : l.length = 1 ∨ l.length = 2 ∨ l.length = 3 ∨ l.length = 4 ∨ l.length = 5 ∨ l.length = 6 ∨ l.length = 7 ∨ l.length = 8 := by omega
  rcases this with h | h | h | h | h | h | h | h <;> (rw [h] at r1 r2 r3 r4 r5 r6 r7 r8 ⊢; omega)
theorem fmtR_len {l : List Int} (h : OkL l) : ∃ K : Nat, 2 * K = l.length * (l.length - 1) ∧ (fmtR (l.length : Int) l).length = 2 + K := by
  refine ⟨(rowsTo l l.length).length, rows_K l h.le.1 h.le.2, ?_⟩
  rw [text_eq (text_L h)]; simp; omega

/-! Parts. -/
theorem elems_pc (x : Nat) (hx : x < 256) : (elems x).length = pc x := by
  rw [pc_count x hx, List.countP_eq_length_filter]; rfl
theorem parted {l : List Int} (h : OkL l) {s : Nat} (h1 : 1 ≤ s) (h2 : s < 2 ^ l.length) : ptB (l.length : Int) l (s : Int) = true ∧ ptN (l.length : Int) l (s : Int) = (pc s : Int) := by
  have h8 : s < 256 := Nat.lt_of_lt_of_le h2 (pow_le _ h.le.2)
  have e1 : ((s : Int) == 0) = false := by rw [beq_eq_false_iff_ne]; omega
  have e2 : inSet (s : Int) l.length = true := by simp only [inSet, Bool.and_eq_true, decide_eq_true_eq]; omega
  have hb : ptB (l.length : Int) l (s : Int) = true := by unfold ptB; rw [okB_L h, e1, e2]; rfl
  refine ⟨hb, ?_⟩
  unfold ptN
  rw [if_pos hb, Int.toNat_natCast, elems_pc s h8]

/-! Lists of names. -/
def Names (k : Nat) (L : List Int) : Prop := L.length = k ∧ (∀ x ∈ L, 0 ≤ x ∧ x < (k : Int)) ∧ L.Nodup
theorem Names.nil : Names 0 [] := ⟨rfl, by simp, List.nodup_nil⟩
theorem Names.put {k : Nat} {L : List Int} (h : Names k L) (p : Nat) : Names (k + 1) (L.take p ++ [(k : Int)] ++ L.drop p) := by
  have hp : (L.take p ++ [(k : Int)] ++ L.drop p).Perm ((k : Int) :: L) := by
    have := List.perm_middle (a := (k : Int)) (l₁ := L.take p) (l₂ := L.drop p)
    rw [List.take_append_drop] at this
    simpa using this
  refine ⟨?_, ?_, ?_⟩
  · rw [hp.length_eq]; simp [h.1]
  · intro x hx
    rcases List.mem_cons.1 (hp.mem_iff.1 hx) with rfl | h1
    · omega
    · have := h.2.1 x h1; omega
  · rw [hp.nodup_iff, List.nodup_cons]
    exact ⟨fun hm => by have := (h.2.1 _ hm).2; omega, h.2.2⟩
theorem Names.perm {k : Nat} {L : List Int} (h : Names k L) : permB k L = true := by
  rw [permB_iff]
  refine ⟨h.1, fun i hi => ?_⟩
  rw [h.1] at hi
  have hi' : i < L.length := by have := h.1; omega
  have hm := h.2.1 L[i] (List.getElem_mem hi')
  rw [List.getD_eq_getElem?_getD, List.getElem?_eq_getElem hi', Option.getD_some]
  refine ⟨hm.1, hm.2, ?_⟩
  unfold among
  rw [List.any_eq_false]
  intro z hz
  obtain ⟨j, hj, rfl⟩ := List.mem_take_iff_getElem.1 hz
  have hj2 : j < i := by omega
  simp only [beq_iff_eq]
  intro e
  have e2 : L[j] = L[i] := by rw [e]; omega
  exact (List.pairwise_iff_getElem.1 h.2.2 j i (by omega) hi' hj2) e2

/-! The tour that a number tells. -/
def idx (N i j : Nat) : Nat := (pre2 (List.replicate N 0) i j).length
def tourBits (N b i j : Nat) : Bool := if i < j then b.testBit (idx N i j) else if j < i then !b.testBit (idx N j i) else false
def tourL (N b : Nat) : List Nat := (List.range N).map fun i => numb (tourBits N b i) N
theorem numb_bit (f : Nat → Bool) (k j : Nat) : (numb f k).testBit j = (decide (j < k) && f j) := by
  induction k with
  | zero => simp [numb]
  | succ k ih =>
    simp only [numb]
    by_cases hf : f k = true
    · rw [if_pos hf, ← numb_or, Nat.testBit_or, ih, Nat.testBit_two_pow]
      by_cases e : k = j
      · subst e; simp [hf]
      · have : decide (j < k + 1) = decide (j < k) := by rw [decide_eq_decide]; omega
        rw [this]; simp [e]
    · rw [if_neg hf, Nat.add_zero, ih]
      by_cases e : k = j
      · subst e
        have : f k = false := by cases h : f k; rfl; exact absurd h hf
        simp [this]
      · have : decide (j < k + 1) = decide (j < k) := by rw [decide_eq_decide]; omega
        rw [this]
theorem tourL_len (N b : Nat) : (tourL N b).length = N := by simp [tourL]
theorem tourL_bit (N b i j : Nat) (hi : i < N) (hj : j < N) : ((tourL N b).getD i 0).testBit j = tourBits N b i j := by
  rw [List.getD_eq_getElem?_getD, show (tourL N b)[i]? = some (numb (tourBits N b i) N) by simp [tourL, hi], Option.getD_some, numb_bit]
  simp [hj]
theorem tourL_ok (N b : Nat) (h1 : 1 ≤ N) (h8 : N ≤ 8) : OkL ((tourL N b).map Int.ofNat) := by
  refine mkOk (by rw [tourL_len]; exact h1) (by rw [tourL_len]; exact h8) ?_ ?_ ?_
  · intro i hi
    rw [tourL_len] at hi ⊢
    rw [List.getD_eq_getElem?_getD, show (tourL N b)[i]? = some (numb (tourBits N b i) N) by simp [tourL, hi], Option.getD_some]
    exact numb_lt _ _
  · intro i hi
    rw [tourL_len] at hi
    rw [tourL_bit N b i i hi hi]
    unfold tourBits
    rw [if_neg (by omega), if_neg (by omega)]
  · intro i j hi hj hne
    rw [tourL_len] at hi hj
    rw [tourL_bit N b i j hi hj, tourL_bit N b j i hj hi]
    unfold tourBits
    rcases Nat.lt_trichotomy i j with h | h | h
    · rw [if_pos h, if_neg (by omega), if_pos h]; simp
    · exact absurd h hne
    · rw [if_neg (by omega), if_pos h, if_pos h]
/-- What the model's loop over pairs tells of the tour. -/
theorem tourL_text (N b : Nat) (h1 : 1 ≤ N) (h8 : N ≤ 8) : ∀ l, IsText (fmtR (((tourL N b).map Int.ofNat).length : Int) ((tourL N b).map Int.ofNat)) l → N = l.length ∧ ∀ i j, i + 1 ≤ j → j < l.length → b.testBit (pre2 l i j).length = bt l i j := by
  intro l hl
  have hk := tourL_ok N b h1 h8
  have e := text_inj (text_L hk) hl
  have hN : N = l.length := by rw [← e]; simp [tourL_len]
  refine ⟨hN, fun i j hij hj => ?_⟩
  have hbt : bt l i j = tourBits N b i j := by rw [← e, bt_ofNat]; exact tourL_bit N b i j (by omega) (by omega)
  rw [hbt]
  unfold tourBits idx
  rw [if_pos (by omega), pre2_len (l := l) (l' := List.replicate N 0) (by simp [hN])]
end Go.Proofs.Ytpndfmlkceplcaa
