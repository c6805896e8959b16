/-
  The tour that an order makes of its players, and flipped games against an order: plain mathematics. No program, no conditions.
-/
import Derived.Test.YteegbkbphfmooaaQn
import Derived.Test.YteegbkbphfmooaaQw
namespace Go.Proofs.Yteegbkbphfmooaa
open Go.ChangeShapes Go.WideShapes Go.ChangeAt Go.RowKit
set_option linter.unusedVariables false

theorem numb_bit (f : Nat → Bool) (b : Nat) : ∀ k, (numb f k).testBit b = (decide (b < k) && f b)
  | 0 => by simp [numb]
  | k + 1 => by
    have ih := numb_bit f b k
    simp only [numb]
    by_cases h : f k = true
    · rw [if_pos h, ← numb_or, Nat.testBit_or, ih, Nat.testBit_two_pow]
      by_cases e : k = b
      · subst e; simp [h]
      · simp only [e, decide_false, Bool.or_false]
        congr 1
        exact decide_eq_decide.2 (by omega)
    · rw [if_neg h, Nat.add_zero, ih]
      by_cases e : k = b
      · subst e; simp at h; simp [h]
      · congr 1
        exact decide_eq_decide.2 (by omega)
/-- Whether a is ahead of b. -/
def sb (o : List Nat) (a b : Nat) : Bool := decide (ps o a < ps o b)
/-- The tour of an order. -/
def strN (o : List Nat) (m : Nat) : List Nat := (List.range m).map fun a => numb (sb o a) m
theorem strN_len (o : List Nat) (m : Nat) : (strN o m).length = m := by simp [strN]
theorem strN_at (o : List Nat) (m a : Nat) (ha : a < m) : (strN o m).getD a 0 = numb (sb o a) m := by
  unfold strN
  rw [List.getD_eq_getElem?_getD, List.getElem?_map, List.getElem?_range ha]; rfl
/-- A list of sets is the order's tour if its bits are. -/
theorem strN_eq {o ys : List Nat} {m : Nat} (hl : ys.length = m) (h : ∀ a b, a < m → (ys.getD a 0).testBit b = (decide (b < m) && sb o a b)) : ys = strN o m := by
  apply List.ext_getElem (by rw [strN_len, hl])
  intro a h1 h2
  have e1 : ys[a] = ys.getD a 0 := by rw [List.getD_eq_getElem?_getD, List.getElem?_eq_getElem h1]; rfl
  have e2 : (strN o m)[a] = (strN o m).getD a 0 := by rw [List.getD_eq_getElem?_getD, List.getElem?_eq_getElem h2]; rfl
  rw [e1, e2, strN_at o m a (by omega)]
  apply Nat.eq_of_testBit_eq
  intro b
  rw [h a b (by omega), numb_bit]
theorem Rv.Od.inj {m : Nat} {o : List Nat} (h : Rv.Od m o) {p q : Nat} (hp : p < m) (hq : q < m) : (o.getD p 0 = o.getD q 0) ↔ p = q := by
  constructor
  · intro e
    rcases Nat.lt_trichotomy p q with h1 | h1 | h1
    · exact absurd e (h.ne h1 hq)
    · exact h1
    · exact absurd e.symm (h.ne h1 hp)
  · rintro rfl; rfl

/-- Where the program's loops stand. -/
structure Pi (o : List Nat) (m i r : Nat) (ys : List Nat) : Prop where
  len : ys.length = m
  lt : ∀ y ∈ ys, y < 256
  hi : ∀ a b, (ys.getD a 0).testBit b = true → b < m
  bit : ∀ p q, p < m → q < m → (ys.getD (o.getD p 0) 0).testBit (o.getD q 0) = decide (p < q ∧ (p < i ∨ (p = i ∧ q ≤ i + r)))
theorem Pi.zero (o : List Nat) (m : Nat) : Pi o m 0 0 (List.replicate m 0) := by
  have h0 : ∀ a, (List.replicate m 0).getD a 0 = 0 := fun a => by
    rw [List.getD_eq_getElem?_getD, List.getElem?_replicate]; split <;> rfl
  refine ⟨by simp, fun y hy => by have := (List.mem_replicate.1 hy).2; omega, (fun a b h => by rw [h0, Nat.zero_testBit] at h; cases h), fun p q hp hq => ?_⟩
  rw [h0, Nat.zero_testBit]
  exact (decide_eq_false (by omega)).symm
theorem Pi.step {o : List Nat} {m i r : Nat} {ys : List Nat} (h : Pi o m i r ys) (ho : Rv.Od m o) (h8 : m ≤ 8) (hi : i < m) (hr : i + 1 + r < m) : Pi o m i (r + 1) (ys.set (o.getD i 0) (ys.getD (o.getD i 0) 0 ||| 2 ^ (o.getD (i + 1 + r) 0))) := by
  have ha := ho.at hi
  have hb := ho.at hr
  have hal : o.getD i 0 < ys.length := by rw [h.len]; exact ha
  have hget : ∀ x, (ys.set (o.getD i 0) (ys.getD (o.getD i 0) 0 ||| 2 ^ (o.getD (i + 1 + r) 0))).getD x 0 = if o.getD i 0 = x then ys.getD (o.getD i 0) 0 ||| 2 ^ (o.getD (i + 1 + r) 0) else ys.getD x 0 := by
    intro x
    rw [List.getD_eq_getElem?_getD, List.getElem?_set]
    split
    · first | rfl | (rw [if_pos hal]; rfl)
    · rw [← List.getD_eq_getElem?_getD]
  have hmem : ys.getD (o.getD i 0) 0 < 256 := by
    rw [List.getD_eq_getElem?_getD, List.getElem?_eq_getElem hal]; exact h.lt _ (List.getElem_mem _)
  refine ⟨by rw [List.length_set]; exact h.len, fun y hy => ?_, fun a b hbit => ?_, fun p q hp hq => ?_⟩
  · rcases List.mem_or_eq_of_mem_set hy with h1 | h1
    · exact h.lt y h1
    · rw [h1]; exact Nat.or_lt_two_pow (n := 8) hmem (Nat.pow_lt_pow_right (by omega) (by omega))
  · rw [hget] at hbit
    split at hbit
    · rw [Nat.testBit_or, Nat.testBit_two_pow, Bool.or_eq_true, decide_eq_true_eq] at hbit
      rcases hbit with h1 | h1
      · exact h.hi _ _ h1
      · omega
    · exact h.hi _ _ hbit
  · rw [hget]
    have hb := h.bit p q hp hq
    by_cases e : i = p
    · subst e
      rw [if_pos rfl, Nat.testBit_or, Nat.testBit_two_pow, hb, Bool.eq_iff_iff, Bool.or_eq_true, decide_eq_true_eq, decide_eq_true_eq, decide_eq_true_eq, ho.inj hr hq]
      omega
    · rw [if_neg (fun e2 => e ((ho.inj hi hp).1 e2)), hb]
      exact decide_eq_decide.2 (by omega)
theorem Pi.next {o : List Nat} {m i r : Nat} {ys : List Nat} (h : Pi o m i r ys) (hr : i + 1 + r = m) : Pi o m (i + 1) 0 ys :=
  ⟨h.len, h.lt, h.hi, fun p q hp hq => by rw [h.bit p q hp hq]; exact decide_eq_decide.2 (by omega)⟩
theorem Pi.done {o : List Nat} {m : Nat} {ys : List Nat} (h : Pi o m m 0 ys) (ho : Rv.Od m o) : ys = strN o m := by
  refine strN_eq h.len fun a b ha => ?_
  obtain ⟨p, hp, rfl⟩ := ho.mem ha
  by_cases hb : b < m
  · obtain ⟨q, hq, rfl⟩ := ho.mem hb
    rw [h.bit p q hp hq]
    unfold sb
    rw [ps_at ho hp, ps_at ho hq, decide_eq_true hb, Bool.true_and]
    exact decide_eq_decide.2 (by omega)
  · have : (ys.getD (o.getD p 0) 0).testBit b = false := by
      cases hc : (ys.getD (o.getD p 0) 0).testBit b
      · rfl
      · exact absurd (h.hi _ _ hc) hb
    rw [this, decide_eq_false hb, Bool.false_and]

/-! The games against an order, flipped one after another. -/
def fl (l : List Int) (rows : List (List Int)) : List Int := rows.foldl (fun F r => flipL F (r.getD 0 0).toNat (r.getD 1 0).toNat) l
theorem fl_snoc (l : List Int) (rows : List (List Int)) (a b : Nat) : fl l (rows ++ [g2q a b]) = flipL (fl l rows) a b := by
  unfold fl
  rw [List.foldl_append]; rfl
theorem fl_len (l : List Int) : ∀ rows : List (List Int), (fl l rows).length = l.length := by
  intro rows
  unfold fl
  induction rows generalizing l with
  | nil => rfl
  | cons r rows ih => rw [List.foldl_cons, ih, flipL_lenq]
/-- A row that names a game against the order. -/
def BkRow (l : List Int) (o : List Nat) (r : List Int) : Prop := ∃ a b, r = g2q a b ∧ a < l.length ∧ b < l.length ∧ bk l o a b = true
theorem bk_ne {l : List Int} {o : List Nat} {a b : Nat} (h : bk l o a b = true) : a ≠ b := by
  rintro rfl
  unfold bk at h
  rw [Bool.and_eq_true, decide_eq_true_eq] at h
  omega
theorem bkA_rows {l : List Int} {o : List Nat} {r : List Int} {k : Nat} (hk : k ≤ l.length) (h : r ∈ bkA l o k) : BkRow l o r := by
  obtain ⟨x, hx, hr⟩ := List.mem_flatMap.1 h
  obtain ⟨y, hy, rfl⟩ := List.mem_map.1 hr
  have h1 := List.mem_filter.1 hy
  have hx2 := List.mem_range.1 hx
  exact ⟨x, y, rfl, by omega, List.mem_range.1 h1.1, h1.2⟩
theorem fl_ok {l : List Int} {o : List Nat} (hok : Ok l.length l) : ∀ rows : List (List Int), (∀ r ∈ rows, BkRow l o r) → Ok l.length (fl l rows) := by
  intro rows
  induction hn : rows.length generalizing rows with
  | zero =>
    intro _
    obtain rfl := List.eq_nil_of_length_eq_zero hn
    exact hok
  | succ n ih =>
    intro h
    rcases List.eq_nil_or_concat rows with rfl | ⟨q, r, rfl⟩
    · simp at hn
    · rw [List.concat_eq_append] at *
      have h1 := ih q (by simpa using hn) (fun r hr => h r (by simp [hr]))
      obtain ⟨a, b, rfl, ha, hb, hbk⟩ := h r (by simp)
      rw [fl_snoc]
      have e := fl_len l q
      exact flip_okq h1 (by omega) (by omega) (bk_ne hbk)
/-- Which games have been flipped. -/
def fd (l : List Int) (o : List Nat) (x y p q : Nat) : Bool := (decide (p < x ∨ (p = x ∧ q < y)) && bk l o p q) || (decide (q < x ∨ (q = x ∧ p < y)) && bk l o q p)
theorem bk_asym {l : List Int} {o : List Nat} {a b : Nat} (h : bk l o a b = true) : bk l o b a = false := by
  unfold bk at h ⊢
  rw [Bool.and_eq_true, decide_eq_true_eq] at h
  rw [decide_eq_false (by omega), Bool.and_false]
theorem fd_yes {l : List Int} {o : List Nat} {x y : Nat} (h : bk l o x y = true) (p q : Nat) : fd l o x (y + 1) p q = (fd l o x y p q ^^ ((p == x && q == y) || (p == y && q == x))) := by
  have hne := bk_ne h
  have h2 := bk_asym h
  unfold fd
  by_cases h1 : p = x ∧ q = y
  · obtain ⟨rfl, rfl⟩ := h1
    have e : (p == q) = false := by rw [beq_eq_false_iff_ne]; exact hne
    simp [h, h2, e]
  · by_cases h3 : p = y ∧ q = x
    · obtain ⟨rfl, rfl⟩ := h3
      have e : (p == q) = false := by rw [beq_eq_false_iff_ne]; exact hne.symm
      simp [h, h2, e]
    · have e1 : (p == x && q == y) = false := by
        cases hx : (p == x && q == y)
        · rfl
        · rw [Bool.and_eq_true, beq_iff_eq, beq_iff_eq] at hx; exact absurd hx h1
      have e2 : (p == y && q == x) = false := by
        cases hx : (p == y && q == x)
        · rfl
        · rw [Bool.and_eq_true, beq_iff_eq, beq_iff_eq] at hx; exact absurd hx h3
      rw [e1, e2, Bool.or_false, Bool.xor_false]
      congr 2
      · exact decide_eq_decide.2 (by omega)
      · exact decide_eq_decide.2 (by omega)
theorem fd_no {l : List Int} {o : List Nat} {x y : Nat} (h : bk l o x y = false) (p q : Nat) : fd l o x (y + 1) p q = fd l o x y p q := by
  unfold fd
  congr 1
  · by_cases h1 : p = x ∧ q = y
    · obtain ⟨rfl, rfl⟩ := h1; rw [h, Bool.and_false, Bool.and_false]
    · congr 1; exact decide_eq_decide.2 (by omega)
  · by_cases h1 : q = x ∧ p = y
    · obtain ⟨rfl, rfl⟩ := h1; rw [h, Bool.and_false, Bool.and_false]
    · congr 1; exact decide_eq_decide.2 (by omega)
theorem fl_row {l : List Int} {o : List Nat} (hok : Ok l.length l) {x : Nat} (hx : x < l.length) (h0 : ∀ p q, p < l.length → q < l.length → bt (fl l (bkA l o x)) p q = (bt l p q ^^ fd l o x 0 p q)) :
    ∀ y, y ≤ l.length → ∀ p q, p < l.length → q < l.length → bt (fl l (bkA l o x ++ bkB l o x y)) p q = (bt l p q ^^ fd l o x y p q)
  | 0, _, p, q, hp, hq => by rw [bkB_zero, List.append_nil]; exact h0 p q hp hq
  | y + 1, hy, p, q, hp, hq => by
    have ih := fl_row hok hx h0 y (by omega) p q hp hq
    cases h : bk l o x y
    · rw [bkB_no h, ih, fd_no h]
    · rw [bkB_yes h, ← List.append_assoc, fl_snoc]
      have hF : Ok l.length (fl l (bkA l o x ++ bkB l o x y)) := fl_ok (o := o) hok _ (fun r hr => by
        rcases List.mem_append.1 hr with h1 | h1
        · exact bkA_rows (by omega) h1
        · obtain ⟨z, hz, rfl⟩ := List.mem_map.1 h1
          have h2 := List.mem_filter.1 hz
          have h3 := List.mem_range.1 h2.1
          exact ⟨x, z, rfl, hx, by omega, h2.2⟩)
      have e := fl_len l (bkA l o x ++ bkB l o x y)
      rw [bt_flipq hF (by omega) (by omega) (bk_ne h), ih, fd_yes h, Bool.xor_assoc]
theorem fd_zero (l : List Int) (o : List Nat) (x p q : Nat) (hp : p < l.length) (hq : q < l.length) : fd l o (x + 1) 0 p q = fd l o x l.length p q := by
  unfold fd
  congr 2
  · exact decide_eq_decide.2 (by omega)
  · exact decide_eq_decide.2 (by omega)
theorem fl_to {l : List Int} {o : List Nat} (hok : Ok l.length l) : ∀ x, x ≤ l.length → ∀ p q, p < l.length → q < l.length → bt (fl l (bkA l o x)) p q = (bt l p q ^^ fd l o x 0 p q)
  | 0, _, p, q, _, _ => by
    have : fd l o 0 0 p q = false := by unfold fd; simp
    rw [this, Bool.xor_false]; rfl
  | x + 1, hx, p, q, hp, hq => by
    rw [bkA_succ, fl_row hok (by omega) (fl_to hok x (by omega)) l.length (Nat.le_refl _) p q hp hq, fd_zero l o x p q hp hq]
/-- With all games against the order flipped, the tour is the order's. -/
theorem fl_all {l : List Int} {o : List Nat} (hok : Ok l.length l) (ho : Rv.Od l.length o) : fl l (bkA l o l.length) = (strN o l.length).map Int.ofNat := by
  have hF : Ok l.length (fl l (bkA l o l.length)) := fl_ok (o := o) hok _ (fun r hr => bkA_rows (Nat.le_refl _) hr)
  have hlen := fl_len l (bkA l o l.length)
  obtain ⟨ws, hws, hlt⟩ := hF.nats
  have hwl : ws.length = l.length := by rw [← hlen, hws]; simp
  rw [hws]
  congr 1
  refine strN_eq hwl fun a b ha => ?_
  have haF : a < (fl l (bkA l o l.length)).length := by omega
  have hbit : ∀ b, bt (fl l (bkA l o l.length)) a b = (ws.getD a 0).testBit b := fun b => by
    unfold bt; rw [hws, map_ofNat_getDq, bi_nat]
  rw [← hbit]
  by_cases hb : b < l.length
  · rw [fl_to hok l.length (Nat.le_refl _) a b ha hb, decide_eq_true hb, Bool.true_and]
    have e : fd l o l.length 0 a b = (bk l o a b || bk l o b a) := by
      unfold fd
      rw [decide_eq_true (Or.inl ha), decide_eq_true (Or.inl hb), Bool.true_and, Bool.true_and]
    rw [e]
    obtain ⟨p, hp, rfl⟩ := ho.mem ha
    obtain ⟨q, hq, rfl⟩ := ho.mem hb
    unfold bk sb
    rw [ps_at ho hp, ps_at ho hq]
    by_cases hpq : p = q
    · subst hpq
      have : bt l (o.getD p 0) (o.getD p 0) = false := (hok.2.2.2 _ ha).2.1
      rw [this]; simp
    · have hne : o.getD p 0 ≠ o.getD q 0 := fun e => hpq ((ho.inj hp hq).1 e)
      have hx : bt l (o.getD p 0) (o.getD q 0) = !bt l (o.getD q 0) (o.getD p 0) := by
        rcases Nat.lt_or_ge (o.getD p 0) (o.getD q 0) with h1 | h1
        · have := (hok.2.2.2 _ hb).2.2 _ h1
          unfold bt
          cases h3 : bi (l.getD (o.getD p 0) 0) (o.getD q 0) <;> cases h4 : bi (l.getD (o.getD q 0) 0) (o.getD p 0) <;> simp_all
        · have h2 : o.getD q 0 < o.getD p 0 := by omega
          have := (hok.2.2.2 _ ha).2.2 _ h2
          unfold bt
          cases h3 : bi (l.getD (o.getD p 0) 0) (o.getD q 0) <;> cases h4 : bi (l.getD (o.getD q 0) 0) (o.getD p 0) <;> simp_all
      rw [hx]
      rcases Nat.lt_or_ge p q with h1 | h1
      · rw [decide_eq_true (show (p : Int) < (q : Int) by omega), decide_eq_false (show ¬ (q : Int) < (p : Int) by omega)]
        cases bt l (o.getD q 0) (o.getD p 0) <;> rfl
      · rw [decide_eq_false (show ¬ (p : Int) < (q : Int) by omega), decide_eq_true (show (q : Int) < (p : Int) by omega)]
        cases bt l (o.getD q 0) (o.getD p 0) <;> rfl
  · rw [decide_eq_false hb, Bool.false_and, hbit]
    have hlt2 : ws.getD a 0 < 2 ^ l.length := by
      have := hF.ww haF
      have h3 := this.2.1
      unfold ww at h3
      rw [hws, map_ofNat_getDq] at h3
      rw [← hlen, hws]
      simpa using h3
    exact Nat.testBit_lt_two_pow (Nat.lt_of_lt_of_le hlt2 (Nat.pow_le_pow_right (by omega) (by omega)))
end Go.Proofs.Yteegbkbphfmooaa
