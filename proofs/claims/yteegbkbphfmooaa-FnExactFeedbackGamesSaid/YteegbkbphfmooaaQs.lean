/-
  Orders of a set with the fewest reversals, their number and the first one: plain mathematics. No program, no conditions.
-/
import Derived.Test.YteegbkbphfmooaaQb
namespace Go.Proofs.Yteegbkbphfmooaa
open Go.ChangeShapes Go.WideShapes Go.ChangeAt Go.RowKit
set_option linter.unusedVariables false
namespace Rv

/-- The fewest reversals, how many orders have them, and the first one's number: two such triples together. -/
def cm (x y : Nat × Nat × Nat) : Nat × Nat × Nat := if x.1 < y.1 then x else if y.1 < x.1 then y else (x.1, x.2.1 + y.2.1, min x.2.2 y.2.2)
theorem cm_comm (x y : Nat × Nat × Nat) : cm x y = cm y x := by
  obtain ⟨a, b, c⟩ := x
  obtain ⟨d, e, f⟩ := y
  unfold cm
  simp only
  split
  · rename_i h; rw [if_neg (by omega)]
  · rename_i h
    split
    · rfl
    · simp only [Prod.mk.injEq]; refine ⟨by omega, by omega, Nat.min_comm _ _⟩
theorem cm_assoc (x y z : Nat × Nat × Nat) : cm (cm x y) z = cm x (cm y z) := by
  obtain ⟨a, b, c⟩ := x
  obtain ⟨d, e, f⟩ := y
  obtain ⟨g, h, i⟩ := z
  unfold cm
  simp only
  rcases Nat.lt_trichotomy a d with h1 | rfl | h1
  · rw [if_pos h1]
    rcases Nat.lt_trichotomy d g with h2 | rfl | h2
    · rw [if_pos h2, if_pos (show a < g by omega), if_pos h1]
    · rw [if_neg (Nat.lt_irrefl d), if_neg (Nat.lt_irrefl d), if_pos h1, if_pos h1]
    · rw [if_neg (show ¬ d < g by omega), if_pos h2]
  · rw [if_neg (Nat.lt_irrefl a), if_neg (Nat.lt_irrefl a)]
    rcases Nat.lt_trichotomy a g with h2 | rfl | h2
    · simp only [if_pos h2, if_neg (Nat.lt_irrefl a)]
    · simp only [if_neg (Nat.lt_irrefl a), Prod.mk.injEq]
      exact ⟨trivial, Nat.add_assoc _ _ _, Nat.min_assoc _ _ _⟩
    · simp only [if_neg (show ¬ a < g by omega), if_pos h2]
  · rw [if_neg (show ¬ a < d by omega), if_pos h1]
    rcases Nat.lt_trichotomy d g with h2 | rfl | h2
    · simp only [if_pos h2, if_neg (show ¬ a < d by omega), if_pos h1]
    · simp only [if_neg (Nat.lt_irrefl d), if_neg (show ¬ a < d by omega), if_pos h1]
    · simp only [if_neg (show ¬ d < g by omega), if_pos h2, if_neg (show ¬ a < g by omega), if_pos (show g < a by omega)]
def co : Option (Nat × Nat × Nat) → Option (Nat × Nat × Nat) → Option (Nat × Nat × Nat)
  | none, y => y
  | some x, none => some x
  | some x, some y => some (cm x y)
theorem co_none (x : Option (Nat × Nat × Nat)) : co x none = x := by cases x <;> rfl
theorem none_co (x : Option (Nat × Nat × Nat)) : co none x = x := rfl
theorem co_comm (x y : Option (Nat × Nat × Nat)) : co x y = co y x := by
  cases x <;> cases y <;> first | rfl | exact congrArg some (cm_comm _ _)
theorem co_assoc (x y z : Option (Nat × Nat × Nat)) : co (co x y) z = co x (co y z) := by
  cases x <;> cases y <;> cases z <;> first | rfl | exact congrArg some (cm_assoc _ _ _)
def sm : List (Option (Nat × Nat × Nat)) → Option (Nat × Nat × Nat)
  | [] => none
  | x :: r => co x (sm r)
theorem sm_append : ∀ p q : List (Option (Nat × Nat × Nat)), sm (p ++ q) = co (sm p) (sm q)
  | [], q => rfl
  | x :: p, q => by show co x (sm (p ++ q)) = co (co x (sm p)) (sm q); rw [sm_append p q, co_assoc]
theorem sm_perm {p q : List (Option (Nat × Nat × Nat))} (h : p.Perm q) : sm p = sm q := by
  induction h with
  | nil => rfl
  | cons x _ ih => show co x _ = co x _; rw [ih]
  | swap x y l => show co y (co x (sm l)) = co x (co y (sm l)); rw [← co_assoc, ← co_assoc, co_comm y x]
  | trans _ _ ih1 ih2 => rw [ih1, ih2]
theorem sm_flat {α : Type} (g : α → List (Option (Nat × Nat × Nat))) : ∀ l : List α, sm (l.flatMap g) = sm (l.map fun a => sm (g a))
  | [] => rfl
  | a :: l => by rw [List.flatMap_cons, sm_append, sm_flat g l]; rfl
/-- Where one element's triple comes in. -/
theorem sm_one {α : Type} [DecidableEq α] (F F' : α → Option (Nat × Nat × Nat)) (a : α) (x : Nat × Nat × Nat) : ∀ l : List α, l.Nodup → a ∈ l → F a = none → F' a = some x → (∀ b, b ≠ a → F' b = F b) → sm (l.map F') = co (sm (l.map F)) (some x)
  | [], _, h, _, _, _ => by cases h
  | b :: l, hnd, hm, h0, h1, hb => by
    have hnd2 := List.nodup_cons.1 hnd
    show co (F' b) (sm (l.map F')) = co (co (F b) (sm (l.map F))) (some x)
    by_cases e : b = a
    · subst e
      have : l.map F' = l.map F := List.map_congr_left fun c hc => hb c (fun e => hnd2.1 (e ▸ hc))
      rw [this, h0, h1, none_co, co_comm]
    · rw [hb b e, sm_one F F' a x l hnd2.2 ((List.mem_cons.1 hm).resolve_left (fun e2 => e e2.symm)) h0 h1 hb, co_assoc]
theorem sm_same {α : Type} (F F' : α → Option (Nat × Nat × Nat)) (l : List α) (h : ∀ b ∈ l, F' b = F b) : sm (l.map F') = sm (l.map F) := by
  rw [List.map_congr_left h]

/-- The number of an order, its players as digits. -/
def vl (l : List Nat) : Nat := l.foldl (fun n a => n * 8 + a) 0
theorem vl_snoc (l : List Nat) (a : Nat) : vl (l ++ [a]) = vl l * 8 + a := by unfold vl; rw [List.foldl_append]; rfl
theorem vl_from (l : List Nat) : ∀ n, l.foldl (fun n a => n * 8 + a) n = n * 8 ^ l.length + vl l := by
  induction l with
  | nil => intro n; simp [vl]
  | cons a l ih =>
    intro n
    unfold vl
    rw [List.foldl_cons, List.foldl_cons, ih, ih (0 * 8 + a), List.length_cons, Nat.pow_succ, Nat.zero_mul, Nat.zero_add, Nat.add_mul, Nat.mul_comm (8 ^ l.length) 8, Nat.mul_assoc]
    omega
theorem vl_cons (a : Nat) (l : List Nat) : vl (a :: l) = a * 8 ^ l.length + vl l := by
  have := vl_from l a
  unfold vl at this ⊢
  rw [List.foldl_cons, Nat.zero_mul, Nat.zero_add]; exact this
theorem vl_lt : ∀ l : List Nat, (∀ x ∈ l, x < 8) → vl l < 8 ^ l.length
  | [], _ => by simp [vl]
  | a :: l, h => by
    have h1 := vl_lt l (fun x hx => h x (by simp [hx]))
    have h2 : a + 1 ≤ 8 := h a (by simp)
    rw [vl_cons, List.length_cons, Nat.pow_succ]
    have h3 : (a + 1) * 8 ^ l.length ≤ 8 * 8 ^ l.length := Nat.mul_le_mul_right _ h2
    rw [Nat.add_mul, Nat.one_mul] at h3
    rw [Nat.mul_comm (8 ^ l.length) 8]
    omega
theorem vl_inj : ∀ {l p : List Nat}, l.length = p.length → (∀ x ∈ l, x < 8) → (∀ x ∈ p, x < 8) → vl l = vl p → l = p
  | [], [], _, _, _, _ => rfl
  | [], _ :: _, h, _, _, _ => by simp at h
  | _ :: _, [], h, _, _, _ => by simp at h
  | a :: l, b :: p, h, hl, hp, e => by
    have hlen : l.length = p.length := by simpa using h
    rw [vl_cons, vl_cons, hlen] at e
    have h1 := vl_lt l (fun x hx => hl x (by simp [hx]))
    have h2 := vl_lt p (fun x hx => hp x (by simp [hx]))
    rw [hlen] at h1
    have hab : a = b := by
      rcases Nat.lt_trichotomy a b with h3 | h3 | h3
      · have := Nat.mul_le_mul_right (8 ^ p.length) (show a + 1 ≤ b from h3)
        rw [Nat.add_mul, Nat.one_mul] at this
        omega
      · exact h3
      · have := Nat.mul_le_mul_right (8 ^ p.length) (show b + 1 ≤ a from h3)
        rw [Nat.add_mul, Nat.one_mul] at this
        omega
    subst hab
    rw [vl_inj hlen (fun x hx => hl x (by simp [hx])) (fun x hx => hp x (by simp [hx])) (by omega)]
/-- The order of k players with a number. -/
def dc : Nat → Nat → List Nat
  | 0, _ => []
  | k + 1, v => dc k (v / 8) ++ [v % 8]
theorem dc_len : ∀ k v, (dc k v).length = k
  | 0, _ => rfl
  | k + 1, v => by simp only [dc, List.length_append, List.length_singleton]; rw [dc_len k]
theorem dc_vl : ∀ (k : Nat) (l : List Nat), l.length = k → (∀ x ∈ l, x < 8) → dc k (vl l) = l
  | 0, l, h, _ => by obtain rfl := List.eq_nil_of_length_eq_zero h; rfl
  | k + 1, l, h, hl => by
    rcases List.eq_nil_or_concat l with rfl | ⟨p, a, rfl⟩
    · simp at h
    · rw [List.concat_eq_append] at *
      have ha : a < 8 := hl a (by simp)
      have hp : p.length = k := by simpa using h
      simp only [dc]
      rw [vl_snoc, show (vl p * 8 + a) / 8 = vl p by omega, show (vl p * 8 + a) % 8 = a by omega, dc_vl k p hp (fun x hx => hl x (by simp [hx]))]
theorem dc_snoc (k v a : Nat) (ha : a < 8) : dc (k + 1) (v * 8 + a) = dc k v ++ [a] := by
  simp only [dc]
  rw [show (v * 8 + a) / 8 = v by omega, show (v * 8 + a) % 8 = a by omega]

/-- All lists of k different elements of a set. -/
def ors : Nat → Nat → List (List Nat)
  | 0, _ => [[]]
  | k + 1, s => (elems s).flatMap fun a => (ors k (s - 2 ^ a)).map (a :: ·)
theorem elems_nd (s : Nat) : (elems s).Nodup := by
  unfold elems elTo
  exact List.Nodup.sublist List.filter_sublist List.nodup_range
theorem sub_tb {s a x : Nat} (hs : s < 256) (ha : a < 8) (h : s.testBit a = true) : (s - 2 ^ a).testBit x = (s.testBit x && !decide (x = a)) := by
  obtain ⟨e, _⟩ := Hw.sub_bit hs ha h
  rw [e, Nat.testBit_xor, Nat.testBit_two_pow]
  by_cases hx : a = x
  · subst hx; simp [h]
  · have h2 : ¬ x = a := fun e => hx e.symm
    simp [hx, h2]
theorem mem_ors {l : List Nat} : ∀ {k s : Nat}, s < 256 → (l ∈ ors k s ↔ l.length = k ∧ l.Nodup ∧ ∀ x ∈ l, x < 8 ∧ s.testBit x = true) := by
  induction l with
  | nil =>
    intro k s hs
    cases k with
    | zero => simp [ors]
    | succ k => simp [ors]
  | cons a l ih =>
    intro k s hs
    cases k with
    | zero => simp [ors]
    | succ k =>
      simp only [ors, List.mem_flatMap, List.mem_map, List.cons.injEq, List.length_cons]
      constructor
      · rintro ⟨b, hb, p, hp, rfl, rfl⟩
        obtain ⟨hb8, hbs⟩ := Hw.mem_elems.1 hb
        have hs2 : s - 2 ^ b < 256 := Nat.lt_of_le_of_lt (Nat.sub_le _ _) hs
        obtain ⟨h1, h2, h3⟩ := (ih hs2).1 hp
        refine ⟨by omega, List.nodup_cons.2 ⟨fun hm => ?_, h2⟩, fun x hx => ?_⟩
        · have := (h3 b hm).2
          rw [sub_tb hs hb8 hbs] at this; simp at this
        · rcases List.mem_cons.1 hx with rfl | hx
          · exact ⟨hb8, hbs⟩
          · have := h3 x hx
            rw [sub_tb hs hb8 hbs, Bool.and_eq_true] at this
            exact ⟨this.1, this.2.1⟩
      · rintro ⟨h1, h2, h3⟩
        have ha := h3 a (by simp)
        have hnd := List.nodup_cons.1 h2
        refine ⟨a, Hw.mem_elems.2 ha, l, (ih (Nat.lt_of_le_of_lt (Nat.sub_le _ _) hs)).2 ⟨by omega, hnd.2, fun x hx => ?_⟩, rfl, rfl⟩
        have hx2 := h3 x (by simp [hx])
        refine ⟨hx2.1, ?_⟩
        rw [sub_tb hs ha.1 ha.2, hx2.2]
        have : x ≠ a := fun e => hnd.1 (e ▸ hx)
        simp [this]
theorem ors_nd : ∀ {k s : Nat}, (ors k s).Nodup
  | 0, s => by simp [ors]
  | k + 1, s => by
    simp only [ors]
    unfold List.flatMap List.Nodup
    rw [List.pairwise_flatten]
    refine ⟨fun p hp => ?_, ?_⟩
    · obtain ⟨a, _, rfl⟩ := List.mem_map.1 hp
      rw [List.pairwise_map]
      exact (ors_nd (k := k) (s := s - 2 ^ a)).imp fun {x y} hxy e => hxy (by simpa using e)
    · rw [List.pairwise_map]
      refine (elems_nd s).imp fun {a b} hab => ?_
      intro x hx y hy e
      obtain ⟨p, _, rfl⟩ := List.mem_map.1 hx
      obtain ⟨q, _, rfl⟩ := List.mem_map.1 hy
      simp only [List.cons.injEq] at e
      exact hab e.1
end Rv
end Go.Proofs.Yteegbkbphfmooaa
