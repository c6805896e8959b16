/-
  The beginnings with one more player: what the map holds while they come in, and what is left when the worse ones are struck. Mathematics.
-/
import Derived.Test.YteegbkbphfmooaaQC
namespace Go.Proofs.Yteegbkbphfmooaa
open Go.ChangeShapes Go.WideShapes Go.ChangeAt Go.RowKit
set_option linter.unusedVariables false
namespace Rv

theorem sm_none : ∀ {l : List (Option (Nat × Nat × Nat))}, (∀ x ∈ l, x = none) → sm l = none
  | [], _ => rfl
  | x :: r, h => by
    rw [h x (List.mem_cons_self ..)]
    show co (none : Option (Nat × Nat × Nat)) (sm r) = none
    rw [sm_none fun y hy => h y (List.mem_cons_of_mem _ hy)]; rfl
theorem sm_cons (x : Option (Nat × Nat × Nat)) (r : List (Option (Nat × Nat × Nat))) : sm (x :: r) = co x (sm r) := rfl
/-- A triple, if it has q reversals. -/
def fil (q : Nat) : Option (Nat × Nat × Nat) → Option (Nat × Nat × Nat)
  | none => none
  | some t => if t.1 = q then some t else none
theorem fil_same (t : Nat × Nat × Nat) : fil t.1 (some t) = some t := by simp [fil]
theorem fil_ne {t : Nat × Nat × Nat} {q : Nat} (h : t.1 ≠ q) : fil q (some t) = none := by simp [fil, h]
/-- The sum is the sum of those with the fewest. -/
theorem sm_min : ∀ L : List (Option (Nat × Nat × Nat)), (sm L = none → ∀ q, sm (L.map (fil q)) = none) ∧ ∀ t, sm L = some t → sm (L.map (fil t.1)) = some t ∧ ∀ q, q < t.1 → sm (L.map (fil q)) = none
  | [] => ⟨fun _ _ => rfl, fun t h => (by cases h)⟩
  | none :: r => by
    obtain ⟨h1, h2⟩ := sm_min r
    exact ⟨h1, h2⟩
  | some u :: r => by
    obtain ⟨h1, h2⟩ := sm_min r
    simp only [sm_cons, List.map_cons]
    cases hr : sm r with
    | none =>
      refine ⟨fun h => (by cases h), fun t ht => ?_⟩
      obtain rfl : u = t := Option.some.inj ht
      exact ⟨by rw [h1 hr, fil_same]; rfl, fun q hq => by rw [h1 hr, fil_ne (by omega)]; rfl⟩
    | some v =>
      obtain ⟨h3, h4⟩ := h2 v hr
      refine ⟨fun h => (by cases h), fun t ht => ?_⟩
      obtain rfl : cm u v = t := Option.some.inj ht
      by_cases ha : u.1 < v.1
      · have e : cm u v = u := by unfold cm; rw [if_pos ha]
        rw [e]
        exact ⟨by rw [h4 _ ha, fil_same]; rfl, fun q hq => by rw [h4 q (by omega), fil_ne (by omega)]; rfl⟩
      · by_cases hb : v.1 < u.1
        · have e : cm u v = v := by unfold cm; rw [if_neg ha, if_pos hb]
          rw [e]
          exact ⟨by rw [h3, fil_ne (by omega)]; rfl, fun q hq => by rw [h4 q hq, fil_ne (by omega)]; rfl⟩
        · have e1 : v.1 = u.1 := by omega
          have e : (cm u v).1 = u.1 := by unfold cm; rw [if_neg ha, if_neg hb]
          rw [e]
          exact ⟨by rw [← e1, h3, e1, fil_same]; rfl, fun q hq => by rw [h4 q (by omega), fil_ne (by omega)]; rfl⟩
theorem sm_first (r : Nat) : ∀ (L : List (Option (Nat × Nat × Nat))), (∀ x ∈ L, ∀ t, x = some t → t.1 = r) → ∀ t, sm L = some t → t.1 = r
  | [], _, t, h => by cases h
  | x :: L, hx, t, h => by
    have ih := sm_first r L (fun y hy => hx y (List.mem_cons_of_mem _ hy))
    have h0 := hx x (List.mem_cons_self ..)
    rw [sm_cons] at h
    cases x with
    | none => exact ih t h
    | some u =>
      cases hr : sm L with
      | none => rw [hr] at h; obtain rfl : u = t := Option.some.inj h; exact h0 u rfl
      | some v =>
        rw [hr] at h
        obtain rfl : cm u v = t := Option.some.inj h
        have h1 := h0 u rfl
        have h2 := ih v hr
        unfold cm
        split
        · exact h1
        · split
          · exact h2
          · exact h1
theorem sm_third (K : Nat) : ∀ (L : List (Option (Nat × Nat × Nat))), (∀ x ∈ L, ∀ t, x = some t → t.2.2 < K) → ∀ t, sm L = some t → t.2.2 < K
  | [], _, t, h => by cases h
  | x :: L, hx, t, h => by
    have ih := sm_third K L (fun y hy => hx y (List.mem_cons_of_mem _ hy))
    have h0 := hx x (List.mem_cons_self ..)
    rw [sm_cons] at h
    cases x with
    | none => exact ih t h
    | some u =>
      cases hr : sm L with
      | none => rw [hr] at h; obtain rfl : u = t := Option.some.inj h; exact h0 u rfl
      | some v =>
        rw [hr] at h
        obtain rfl : cm u v = t := Option.some.inj h
        have h1 := h0 u rfl
        have h2 := ih v hr
        unfold cm
        split
        · exact h1
        · split
          · exact h2
          · show min _ _ < K
            omega
theorem gv_lt (f : Nat → Nat → Bool) {s : Nat} (hs : s < 256) : gv f s < 8 ^ pc s := by
  have h := G_eq f hs
  unfold G at h
  have := sm_third (8 ^ pc s) _ (fun x hx t ht => ?_) _ h
  · exact this
  · obtain ⟨l, hl, rfl⟩ := List.mem_map.1 hx
    obtain rfl := Option.some.inj ht
    obtain ⟨h1, h2, h3⟩ := (mem_ors hs).1 hl
    have := vl_lt l (fun x hx => (h3 x hx).1)
    rw [h1] at this
    exact this

/-- What a player at the end of a set's orders brings. -/
def ct (f : Nat → Nat → Bool) (s a : Nat) : Nat := (elems s).countP fun b => f a b
def tr (f : Nat → Nat → Bool) (s a : Nat) : Nat × Nat × Nat := (gm f s + ct f s a, gn f s, gv f s * 8 + a)
/-- What is there when the pairs of 'Q' have come. -/
def EE (f : Nat → Nat → Bool) (Q : Nat → Nat → Bool) (s r : Nat) : Option (Nat × Nat × Nat) := sm ((elems s).map fun a => if Q (s - 2 ^ a) a then fil r (some (tr f (s - 2 ^ a) a)) else none)
theorem EE_congr {f : Nat → Nat → Bool} {Q Q' : Nat → Nat → Bool} (h : ∀ s a, s < 256 → a < 8 → Q' s a = Q s a) {s : Nat} (hs : s < 256) (r : Nat) : EE f Q' s r = EE f Q s r := by
  unfold EE
  exact sm_same _ _ _ fun a ha => by rw [h _ _ (sub_lt hs) (Hw.mem_elems.1 ha).1]
theorem EE_none {f : Nat → Nat → Bool} {Q : Nat → Nat → Bool} {s : Nat} (hs : s < 256) (h : ∀ a, a < 8 → s.testBit a = true → Q (s - 2 ^ a) a = false) (r : Nat) : EE f Q s r = none := by
  unfold EE
  refine sm_none fun x hx => ?_
  obtain ⟨a, ha, rfl⟩ := List.mem_map.1 hx
  have := Hw.mem_elems.1 ha
  rw [h a this.1 this.2]; rfl
theorem EE_first {f : Nat → Nat → Bool} {Q : Nat → Nat → Bool} {s r : Nat} {t : Nat × Nat × Nat} (h : EE f Q s r = some t) : t.1 = r := by
  unfold EE at h
  refine sm_first r _ (fun x hx u hu => ?_) t h
  obtain ⟨a, ha, rfl⟩ := List.mem_map.1 hx
  split at hu
  · unfold fil at hu
    simp only at hu
    split at hu
    · rename_i h2; obtain rfl := Option.some.inj hu; exact h2
    · cases hu
  · cases hu
theorem EE_bound {f : Nat → Nat → Bool} {Q : Nat → Nat → Bool} {s r k : Nat} {t : Nat × Nat × Nat} (hs : s < 256) (hk : pc s = k + 1) (h : EE f Q s r = some t) : t.2.1 ≤ 134217728 ∧ t.2.2 < 8 ^ (k + 1) := by
  unfold EE at h
  have hx : ∀ x ∈ (elems s).map (fun a => if Q (s - 2 ^ a) a then fil r (some (tr f (s - 2 ^ a) a)) else none), ∀ u, x = some u → (u.1 ≤ r ∧ u.2.1 ≤ 16777216) ∧ u.2.2 < 8 ^ (k + 1) := by
    intro x hx u hu
    obtain ⟨a, ha, rfl⟩ := List.mem_map.1 hx
    have hae := Hw.mem_elems.1 ha
    split at hu
    · unfold fil at hu
      simp only at hu
      split at hu
      · rename_i h2
        obtain rfl := Option.some.inj hu
        have h3 := (G_bound f (sub_lt (s := s) (a := a) hs)).2
        have h4 := gv_lt f (sub_lt (s := s) (a := a) hs)
        have h5 := pc_take hs hae.1 hae.2
        rw [show pc (s - 2 ^ a) = k by omega] at h4
        refine ⟨⟨Nat.le_of_eq h2, h3⟩, ?_⟩
        show gv f (s - 2 ^ a) * 8 + a < 8 ^ (k + 1)
        rw [Nat.pow_succ]
        have := hae.1
        omega
      · cases hu
    · cases hu
  have h1 := sm_bound r 16777216 _ (fun x hx' u hu => (hx x hx' u hu).1) t h
  have h2 := sm_third (8 ^ (k + 1)) _ (fun x hx' u hu => (hx x hx' u hu).2) t h
  have h3 : (elems s).length ≤ 8 := elTo_len s 8
  rw [List.length_map] at h1
  have h4 := Nat.mul_le_mul_right 16777216 h3
  exact ⟨by omega, h2⟩
/-- One more pair. -/
theorem EE_put {f : Nat → Nat → Bool} {Q Q' : Nat → Nat → Bool} {s a : Nat} (hs : s < 256) (ha : a < 8) (hb : s.testBit a = false) (hq : Q s a = false) (hQ : ∀ s2 a2, Q' s2 a2 = (Q s2 a2 || decide (s2 = s ∧ a2 = a))) {s' : Nat} (hs' : s' < 256) (r' : Nat) :
    EE f Q' s' r' = if s' = s ||| 2 ^ a ∧ r' = gm f s + ct f s a then co (EE f Q s' r') (some (tr f s a)) else EE f Q s' r' := by
  have hadd := Hw.add_bit hs ha hb
  have hback : (s ||| 2 ^ a) - 2 ^ a = s := by rw [← hadd.1]; exact Nat.add_sub_cancel _ _
  have key : ∀ b, b < 8 → s'.testBit b = true → (s' - 2 ^ b = s ∧ b = a ↔ s' = s ||| 2 ^ a ∧ b = a) := by
    intro b hb8 hbt
    obtain ⟨_, hle⟩ := Hw.sub_bit hs' hb8 hbt
    constructor
    · rintro ⟨h1, rfl⟩; exact ⟨by rw [← hadd.1, ← h1]; omega, rfl⟩
    · rintro ⟨h1, rfl⟩; exact ⟨by rw [h1]; exact hback, rfl⟩
  by_cases he : s' = s ||| 2 ^ a
  · by_cases hr : r' = gm f s + ct f s a
    · rw [if_pos ⟨he, hr⟩]
      have hat : s'.testBit a = true := by rw [he, Nat.testBit_or]; simp
      unfold EE
      refine sm_one _ _ a (tr f s a) _ (elems_nd s') (Hw.mem_elems.2 ⟨ha, hat⟩) ?_ ?_ ?_
      · rw [he, hback, hq]; rfl
      · rw [he, hback, hQ]
        have : fil r' (some (tr f s a)) = some (tr f s a) := by rw [hr]; exact fil_same (tr f s a)
        simp [this]
      · intro b hba
        rw [hQ, decide_eq_false (fun hh => hba hh.2), Bool.or_false]
    · rw [if_neg (fun hh => hr hh.2)]
      unfold EE
      refine sm_same _ _ _ fun b hbm => ?_
      have hbe := Hw.mem_elems.1 hbm
      by_cases hk : s' - 2 ^ b = s ∧ b = a
      · obtain ⟨h1, rfl⟩ := hk
        rw [h1, fil_ne (fun hh => hr hh.symm)]
        simp
      · rw [hQ, decide_eq_false hk, Bool.or_false]
  · rw [if_neg (fun hh => he hh.1)]
    unfold EE
    refine sm_same _ _ _ fun b hbm => ?_
    have hbe := Hw.mem_elems.1 hbm
    rw [hQ, decide_eq_false (fun hh => he ((key b hbe.1 hbe.2).1 hh).1), Bool.or_false]

/-- All pairs of a set of k players and a further one. -/
def QF (m k s a : Nat) : Bool := decide (s < 2 ^ m ∧ pc s = k ∧ a < m ∧ s.testBit a = false)
/-- What the map holds after k rounds. -/
def PK (f : Nat → Nat → Bool) (m k s r : Nat) : Option (Nat × Nat × Nat) := if s < 2 ^ m ∧ pc s = k ∧ r = gm f s then some (gm f s, gn f s, gv f s) else none
theorem EE_all {f : Nat → Nat → Bool} {Q : Nat → Nat → Bool} {s k : Nat} (hs : s < 256) (hk : pc s = k + 1) (h : ∀ a, a < 8 → s.testBit a = true → Q (s - 2 ^ a) a = true) : EE f Q s (gm f s) = some (gm f s, gn f s, gv f s) ∧ ∀ q, q < gm f s → EE f Q s q = none := by
  have e : ∀ r, EE f Q s r = sm (((elems s).map fun a => some (tr f (s - 2 ^ a) a)).map (fil r)) := by
    intro r
    unfold EE
    rw [List.map_map]
    refine sm_same _ _ _ fun a ha => ?_
    have := Hw.mem_elems.1 ha
    simp only [Function.comp]
    rw [h a this.1 this.2]; rfl
  have hG : sm ((elems s).map fun a => some (tr f (s - 2 ^ a) a)) = some (gm f s, gn f s, gv f s) := by
    rw [← G_eq f hs, G_last f hs hk]
    refine sm_same _ _ _ fun a ha => ?_
    rw [G_eq f (sub_lt hs)]; rfl
  obtain ⟨h1, h2⟩ := (sm_min _).2 _ hG
  exact ⟨by rw [e]; exact h1, fun q hq => by rw [e]; exact h2 q hq⟩
end Rv

theorem low_iffA {α : Type} (M : Nat → Nat → Option α) (s q : Nat) : (List.range q).any (fun j => (M s j).isSome) = true ↔ ∃ j, j < q ∧ (M s j).isSome = true := by
  rw [List.any_eq_true]
  constructor
  · rintro ⟨j, hj, h⟩; exact ⟨j, List.mem_range.1 hj, h⟩
  · rintro ⟨j, hj, h⟩; exact ⟨j, List.mem_range.2 hj, h⟩
/-- 'dw' for the triples. -/
def dwT (M : Nat → Nat → Option (Nat × Nat × Nat)) (s q : Nat) : Option (Nat × Nat × Nat) := if (List.range q).any (fun j => (M s j).isSome) then none else M s q
namespace Rv
theorem bit_lt_m {m s b : Nat} (hs : s < 2 ^ m) (h : s.testBit b = true) : b < m := by
  rcases Nat.lt_or_ge b m with h1 | h1
  · exact h1
  · rw [Nat.testBit_lt_two_pow (Nat.lt_of_lt_of_le hs (Nat.pow_le_pow_right (by omega) h1))] at h; cases h
theorem EE_end {f : Nat → Nat → Bool} {m k : Nat} (hm : m ≤ 8) {s : Nat} (hs : s < 256) (r : Nat) : dwT (EE f (QF m k)) s r = PK f m (k + 1) s r := by
  unfold dwT PK
  by_cases h : s < 2 ^ m ∧ pc s = k + 1
  · obtain ⟨h1, h2⟩ := h
    obtain ⟨g1, g2⟩ := EE_all (f := f) (Q := QF m k) hs h2 (fun a ha hat => by
      have h3 := pc_take hs ha hat
      have h4 := sub_tb (x := a) hs ha hat
      rw [hat] at h4
      have h5 := Nat.sub_le s (2 ^ a)
      unfold QF
      exact decide_eq_true ⟨by omega, by omega, bit_lt_m h1 hat, by simpa using h4⟩)
    by_cases hr : r = gm f s
    · have e : ¬ (List.range r).any (fun j => (EE f (QF m k) s j).isSome) = true := fun hh => by
        obtain ⟨j, hj, hi⟩ := (low_iffA _ _ _).1 hh
        rw [g2 j (by omega)] at hi; cases hi
      rw [if_neg e, if_pos ⟨h1, h2, hr⟩, hr, g1]
    · have e2 : ¬ (s < 2 ^ m ∧ pc s = k + 1 ∧ r = gm f s) := fun hh => hr hh.2.2
      rw [if_neg e2]
      rcases Nat.lt_or_ge r (gm f s) with h3 | h3
      · rw [g2 r h3]; split <;> rfl
      · have e : (List.range r).any (fun j => (EE f (QF m k) s j).isSome) = true := (low_iffA _ _ _).2 ⟨gm f s, by omega, by rw [g1]; rfl⟩
        rw [if_pos e]
  · have e2 : ¬ (s < 2 ^ m ∧ pc s = k + 1 ∧ r = gm f s) := fun hh => h ⟨hh.1, hh.2.1⟩
    rw [if_neg e2]
    have e : ∀ r, EE f (QF m k) s r = none := EE_none hs fun a ha hat => by
      unfold QF
      refine decide_eq_false fun ⟨h1, h2, h3, h4⟩ => h ?_
      have h5 := pc_take hs ha hat
      obtain ⟨_, h6⟩ := Hw.sub_bit hs ha hat
      obtain ⟨h7, _⟩ := Hw.add_bit (sub_lt hs) ha h4
      refine ⟨?_, by omega⟩
      have h8 : (s - 2 ^ a) ||| 2 ^ a < 2 ^ m := Nat.or_lt_two_pow h1 (Nat.pow_lt_pow_right (by omega) h3)
      rw [← h7] at h8
      omega
    rw [e]; split <;> rfl

/-- The pairs that have come: 'L': which sets are still to come; of the set s0 the players of 'A' have. -/
def QI (f : Nat → Nat → Bool) (m k : Nat) (L : Nat → Nat → Bool) (s0 : Nat) (A : List Nat) (s a : Nat) : Bool := (QF m k s a && !L s (gm f s)) || decide (s = s0 ∧ a ∈ A)
def QL (f : Nat → Nat → Bool) (m k : Nat) (L : Nat → Nat → Bool) (s a : Nat) : Bool := QF m k s a && !L s (gm f s)
theorem QI_zero (f : Nat → Nat → Bool) (m k : Nat) (L : Nat → Nat → Bool) (s0 s a : Nat) : QI f m k L s0 [] s a = QL f m k L s a := by unfold QI QL; simp
theorem QI_next (f : Nat → Nat → Bool) (m k : Nat) (L : Nat → Nat → Bool) (s0 : Nat) (A : List Nat) (a s2 a2 : Nat) : QI f m k L s0 (A ++ [a]) s2 a2 = (QI f m k L s0 A s2 a2 || decide (s2 = s0 ∧ a2 = a)) := by
  unfold QI
  rw [Bool.or_assoc]
  congr 1
  rw [Bool.eq_iff_iff]
  simp only [List.mem_append, List.mem_singleton, decide_eq_true_eq, Bool.or_eq_true]
  constructor
  · rintro ⟨h, h2 | h2⟩
    · exact .inl ⟨h, h2⟩
    · exact .inr ⟨h, h2⟩
  · rintro (⟨h, h2⟩ | ⟨h, h2⟩)
    · exact ⟨h, .inl h2⟩
    · exact ⟨h, .inr h2⟩
theorem QI_not {f : Nat → Nat → Bool} {m k : Nat} {L : Nat → Nat → Bool} {s0 a : Nat} {A : List Nat} (hL : L s0 (gm f s0) = true) (ha : a ∉ A) : QI f m k L s0 A s0 a = false := by
  unfold QI
  rw [hL]; simp [ha]
theorem QI_end {f : Nat → Nat → Bool} {m k : Nat} {L : Nat → Nat → Bool} {s0 x : Nat} (h1 : s0 < 2 ^ m) (h2 : pc s0 = k) (hx : ∀ a, a < 8 → x.testBit a = (decide (a < m) && !s0.testBit a)) {s a : Nat} (ha : a < 8) :
    QL f m k (fun p q => L p q && !decide (p = s0 ∧ q = gm f s0)) s a = QI f m k L s0 (elems x) s a := by
  unfold QI QL
  by_cases e : s = s0
  · subst e
    have hm : decide (s = s ∧ a ∈ elems x) = QF m k s a := by
      rw [Bool.eq_iff_iff]
      unfold QF
      simp only [decide_eq_true_eq, Hw.mem_elems, hx a ha, Bool.and_eq_true, Bool.not_eq_true']
      constructor
      · rintro ⟨_, _, h3, h4⟩; exact ⟨h1, h2, h3, h4⟩
      · rintro ⟨_, _, h3, h4⟩; exact ⟨trivial, ha, h3, h4⟩
    rw [hm]
    cases QF m k s a <;> simp
  · simp [e]
theorem QL_end (f : Nat → Nat → Bool) (m k : Nat) {L : Nat → Nat → Bool} (hL : ∀ s q, s < 256 → q ≤ 200 → L s q = false) {s : Nat} (hs : s < 256) (a : Nat) : QL f m k L s a = QF m k s a := by
  unfold QL
  have := (G_bound f hs).1
  rw [hL s _ hs (by omega)]; simp
theorem QL_start (f : Nat → Nat → Bool) (m k : Nat) {L : Nat → Nat → Bool} (hL : ∀ s, s < 2 ^ m → pc s = k → L s (gm f s) = true) (s a : Nat) : QL f m k L s a = false := by
  unfold QL QF
  by_cases h : s < 2 ^ m ∧ pc s = k
  · rw [hL s h.1 h.2]; simp
  · rw [decide_eq_false (fun hh => h ⟨hh.1, hh.2.1⟩)]; rfl
end Rv
end Go.Proofs.Yteegbkbphfmooaa
