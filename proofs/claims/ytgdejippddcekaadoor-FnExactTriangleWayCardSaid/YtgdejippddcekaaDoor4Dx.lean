/-
  What a tour's text tells of the tour, where no text is read (4D without what reads). No program.
-/
import Derived.Test.YtgdejippddcekaaDoor4A
namespace Go.Proofs.YtgdejippddcekaaDoor
open Go.ChangeShapes Go.WideShapes Go.ChangeAt Go.RowKit
set_option linter.unusedVariables false

section
variable {n : Int} {l : List Int}
def xv (l : List Int) (p : Nat) : Nat := (l.getD p 0).toNat
section
variable {n : Int} {l : List Int}
theorem Ok.xv (h : Ok n l) {p : Nat} (hp : p < l.length) : l.getD p 0 = (Go.Proofs.YtgdejippddcekaaDoor.xv l p : Nat) ∧ Go.Proofs.YtgdejippddcekaaDoor.xv l p < 2 ^ l.length ∧ Go.Proofs.YtgdejippddcekaaDoor.xv l p < 256 := by
  obtain ⟨x, hx, h1, h2⟩ := h.nat hp
  unfold Go.Proofs.YtgdejippddcekaaDoor.xv
  rw [hx]; exact ⟨rfl, h1, h2⟩
theorem Ok.bit (h : Ok n l) {p q : Nat} (hp : p < l.length) : bt l p q = (Go.Proofs.YtgdejippddcekaaDoor.xv l p).testBit q := by
  unfold bt; rw [(h.xv hp).1, bi_nat]
theorem Ok.selfX (h : Ok n l) {p : Nat} (hp : p < l.length) : (Go.Proofs.YtgdejippddcekaaDoor.xv l p).testBit p = false := by
  rw [← h.bit hp]; exact (h.2.2.2 p hp).2.1
theorem Ok.otherX (h : Ok n l) {p q : Nat} (hp : p < l.length) (hq : q < l.length) (hne : p ≠ q) : (Go.Proofs.YtgdejippddcekaaDoor.xv l q).testBit p = !(Go.Proofs.YtgdejippddcekaaDoor.xv l p).testBit q := by
  rw [← h.bit hp, ← h.bit hq]
  rcases Nat.lt_or_ge q p with hlt | hge
  · have := (h.2.2.2 p hp).2.2 q hlt
    unfold bt
    revert this
    cases bi (l.getD p 0) q <;> cases bi (l.getD q 0) p <;> simp
  · have := (h.2.2.2 q hq).2.2 p (by omega)
    unfold bt
    revert this
    cases bi (l.getD p 0) q <;> cases bi (l.getD q 0) p <;> simp
end
end
def pre2 (l : List Int) (i j : Nat) : List UInt8 := rowsTo l i ++ rowBits l i j
theorem rowBits_pre (l : List Int) (i j m : Nat) (hij : i + 1 ≤ j) : rowBits l i j <+: rowBits l i (j + m) := by
  induction m with
  | zero => exact List.prefix_refl _
  | succ m ih =>
    refine ih.trans ?_
    rw [← Nat.add_assoc, rowBits_succ l i (j + m) (by omega)]
    exact List.prefix_append _ _
theorem rowsTo_pre (l : List Int) (i m : Nat) : rowsTo l i <+: rowsTo l (i + m) := by
  induction m with
  | zero => exact List.prefix_refl _
  | succ m ih =>
    refine ih.trans ?_
    rw [← Nat.add_assoc, rowsTo_succ]
    exact List.prefix_append _ _
theorem pre2_at (l : List Int) (i j : Nat) (hij : i + 1 ≤ j) (hj : j < l.length) :
    (pre2 l i j).length < (rowsTo l l.length).length ∧ (rowsTo l l.length)[(pre2 l i j).length]? = some (bitc (bt l i j)) := by
  have h1 : pre2 l i j ++ [bitc (bt l i j)] <+: rowsTo l l.length := by
    unfold pre2
    rw [List.append_assoc, ← rowBits_succ l i j hij]
    have a := rowBits_pre l i (j + 1) (l.length - (j + 1)) (by omega)
    rw [show j + 1 + (l.length - (j + 1)) = l.length by omega] at a
    have b := rowsTo_pre l (i + 1) (l.length - (i + 1))
    rw [show i + 1 + (l.length - (i + 1)) = l.length by omega, rowsTo_succ] at b
    exact ((List.prefix_append_right_inj _).2 a).trans b
  obtain ⟨t, ht⟩ := h1
  rw [← ht]
  constructor
  · simp
  · rw [List.append_assoc, List.getElem?_append_right (Nat.le_refl _), Nat.sub_self]; rfl
theorem bitc_inj {a b : Bool} (h : bitc a = bitc b) : a = b := by revert h; cases a <;> cases b <;> decide
theorem pow_le_of {a b : Nat} (h : a ≤ b) : 2 ^ a ≤ 2 ^ b := Nat.pow_le_pow_right (by decide) h
theorem pre2_succ (l : List Int) (i j : Nat) (hij : i + 1 ≤ j) : (pre2 l i (j + 1)).length = (pre2 l i j).length + 1 := by
  unfold pre2; rw [rowBits_succ l i j hij]; simp; omega
theorem pre2_next (l : List Int) (i : Nat) : pre2 l i l.length = pre2 l (i + 1) (i + 2) := by
  unfold pre2
  rw [rowsTo_succ, show i + 2 = (i + 1) + 1 from rfl, rowBits_zero, List.append_nil]
theorem pre2_start (l : List Int) : pre2 l 0 1 = [] := by unfold pre2; rw [rowsTo_zero, show 1 = 0 + 1 from rfl, rowBits_zero]; rfl

theorem pre2_len {l l' : List Int} (hl : l.length = l'.length) (i j : Nat) : (pre2 l i j).length = (pre2 l' i j).length := by
  have key : ∀ m, (rowsTo l m).length = (rowsTo l' m).length := by
    intro m
    induction m with
    | zero => rw [rowsTo_zero, rowsTo_zero]
    | succ m ih => rw [rowsTo_succ, rowsTo_succ, List.length_append, List.length_append, ih, rowBits_len, rowBits_len, hl]
  unfold pre2
  rw [List.length_append, List.length_append, rowBits_len, rowBits_len, key]
theorem bits_same {l l' : List Int} (hl : l.length = l'.length) (hr : rowsTo l' l'.length = rowsTo l l.length) {i j : Nat} (hij : i < j) (hj : j < l.length) : bt l i j = bt l' i j := by
  have hj' : j < l'.length := Nat.lt_of_lt_of_eq hj hl
  have a := (pre2_at l i j hij hj).2
  have b := (pre2_at l' i j hij hj').2
  rw [hr, ← pre2_len hl, a] at b
  exact bitc_inj (Option.some.inj b)
theorem ok_high {n : Int} {l : List Int} (h : Ok n l) {p q : Nat} (hp : p < l.length) (hq : l.length ≤ q) : (xv l p).testBit q = false :=
  Nat.testBit_lt_two_pow (Nat.lt_of_lt_of_le (h.xv hp).2.1 (pow_le_of hq))
theorem xv_same {n n' : Int} {l l' : List Int} (h : Ok n l) (h' : Ok n' l') (hl : l.length = l'.length) (hr : rowsTo l' l'.length = rowsTo l l.length) {p : Nat} (hp : p < l.length) : xv l p = xv l' p := by
  apply Nat.eq_of_testBit_eq
  intro q
  have hp' : p < l'.length := Nat.lt_of_lt_of_eq hp hl
  by_cases hq : q < l.length
  · have hq' : q < l'.length := Nat.lt_of_lt_of_eq hq hl
    rcases Nat.lt_trichotomy p q with h1 | h1 | h1
    · rw [← h.bit hp, ← h'.bit hp']; exact bits_same hl hr h1 hq
    · subst h1; rw [h.selfX hp, h'.selfX hp']
    · rw [h.otherX hq hp (Nat.ne_of_lt h1), h'.otherX hq' hp' (Nat.ne_of_lt h1), ← h.bit hq, ← h'.bit hq', bits_same hl hr h1 hp]
  · rw [ok_high h hp (Nat.le_of_not_lt hq), ok_high h' hp' (by rw [← hl]; exact Nat.le_of_not_lt hq)]
theorem rows_inj {m : Nat} {l l' : List Int} (h : Ok (m : Int) l) (h' : Ok (m : Int) l') (hr : rowsTo l' l'.length = rowsTo l l.length) : l = l' := by
  have hl : l.length = l'.length := by have := h.2.2.1; have := h'.2.2.1; omega
  apply List.ext_getElem?
  intro p
  by_cases hp : p < l.length
  · have hp' : p < l'.length := Nat.lt_of_lt_of_eq hp hl
    have a := (h.xv hp).1
    have b := (h'.xv hp').1
    rw [List.getD_eq_getElem?_getD, List.getElem?_eq_getElem hp] at a
    rw [List.getD_eq_getElem?_getD, List.getElem?_eq_getElem hp', ← xv_same h h' hl hr hp] at b
    rw [List.getElem?_eq_getElem hp, List.getElem?_eq_getElem hp']
    exact congrArg some (a.trans b.symm)
  · rw [List.getElem?_eq_none (Nat.le_of_not_lt hp), List.getElem?_eq_none (by rw [← hl]; exact Nat.le_of_not_lt hp)]
theorem fmt_inj {m : Nat} {l l' : List Int} (h : Ok (m : Int) l) (h' : Ok (m : Int) l') (he : fmtR (m : Int) l = fmtR (m : Int) l') : l = l' := by
  unfold fmtR at he
  rw [okB_true h, okB_true h'] at he
  simp only [if_true] at he
  unfold fmtTo at he
  have hl : l.length = l'.length := by have := h.2.2.1; have := h'.2.2.1; omega
  rw [hl, List.append_nil, List.append_nil] at he
  exact rows_inj h h' (by rw [hl]; exact (List.append_cancel_left he).symm)

/-! A list of letters as a number. -/
def val : List UInt8 → Nat
  | [] => 0
  | c :: cs => (if c = 49 then 1 else 0) + 2 * val cs
theorem val_snoc (cs : List UInt8) (c : UInt8) : val (cs ++ [c]) = val cs + (if c = 49 then 2 ^ cs.length else 0) := by
  induction cs with
  | nil => simp [val]
  | cons d cs ih =>
    simp only [List.cons_append, val, ih, List.length_cons, Nat.pow_succ]
    split <;> split <;> omega
theorem val_lt (cs : List UInt8) : val cs < 2 ^ cs.length := by
  induction cs with
  | nil => simp [val]
  | cons d cs ih =>
    simp only [val, List.length_cons, Nat.pow_succ]
    split <;> omega
theorem val_inj : ∀ (a b : List UInt8), a.length = b.length → (∀ c ∈ a, c = 48 ∨ c = 49) → (∀ c ∈ b, c = 48 ∨ c = 49) → val a = val b → a = b
  | [], [], _, _, _, _ => rfl
  | x :: a, y :: b, hl, ha, hb, h => by
    simp only [val] at h
    have hx := ha x (by simp)
    have hy := hb y (by simp)
    have h48 : ¬ ((48 : UInt8) = 49) := by decide
    have hxy : x = y ∧ val a = val b := by
      rcases hx with rfl | rfl <;> rcases hy with rfl | rfl <;> simp [h48] at h ⊢ <;> omega
    rw [hxy.1, val_inj a b (by simpa using hl) (fun c hc => ha c (by simp [hc])) (fun c hc => hb c (by simp [hc])) hxy.2]
  | [], _ :: _, hl, _, _, _ => by simp at hl
  | _ :: _, [], hl, _, _, _ => by simp at hl
/-- A tour's number. -/
def numL (l : List Int) : Nat := val (rowsTo l l.length)
theorem rows_bits (l : List Int) (m : Nat) : ∀ c ∈ rowsTo l m, c = 48 ∨ c = 49 := by
  intro c hc
  unfold rowsTo rowBits at hc
  obtain ⟨a, _, h⟩ := List.mem_flatMap.1 hc
  obtain ⟨d, _, rfl⟩ := List.mem_map.1 h
  unfold bitc
  split <;> simp
theorem numL_inj {m : Nat} {l l' : List Int} (h : Ok (m : Int) l) (h' : Ok (m : Int) l') (he : numL l = numL l') : l = l' := by
  have hl : l.length = l'.length := by have := h.2.2.1; have := h'.2.2.1; omega
  have hlen := pre2_len hl l.length (l.length + 1)
  unfold pre2 at hlen
  rw [rowBits_zero, rowBits_zero, List.append_nil, List.append_nil] at hlen
  refine rows_inj h h' (val_inj _ _ ?_ (rows_bits _ _) (rows_bits _ _) he).symm
  rw [hlen, hl]
theorem bitc_49 (b : Bool) : (if bitc b = 49 then (1 : Nat) else 0) = if b then 1 else 0 := by cases b <;> decide
theorem val_bit (cs : List UInt8) (b : Bool) : val (cs ++ [bitc b]) = val cs + (if b then 2 ^ cs.length else 0) := by
  rw [val_snoc]
  cases b
  · rw [if_neg (by decide)]; rfl
  · rw [if_pos (by decide)]; rfl
theorem pre2_snoc (l : List Int) (i j : Nat) (hij : i + 1 ≤ j) : pre2 l i (j + 1) = pre2 l i j ++ [bitc (bt l i j)] := by
  unfold pre2; rw [rowBits_succ l i j hij, List.append_assoc]
end Go.Proofs.YtgdejippddcekaaDoor
