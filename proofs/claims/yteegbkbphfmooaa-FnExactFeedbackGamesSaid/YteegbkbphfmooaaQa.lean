/-
  Reversals of an order, moves of one player, the first move that makes the reversals less: plain mathematics. No program, no conditions.
-/
import Derived.Test.YteegbkbphfmooaaJ1
import Derived.Test.YteegbkbphfmooaaX
namespace Go.Proofs.Yteegbkbphfmooaa
open Go.ChangeShapes Go.WideShapes Go.ChangeAt Go.RowKit
set_option linter.unusedVariables false
namespace Rv

/-- The reversals of an order: 'f a b' says that a beats b. -/
def rv (f : Nat → Nat → Bool) : List Nat → Nat
  | [] => 0
  | a :: r => r.countP (fun b => f b a) + rv f r
theorem rv_snoc (f : Nat → Nat → Bool) (a : Nat) : ∀ p : List Nat, rv f (p ++ [a]) = rv f p + p.countP (fun b => f a b)
  | [] => rfl
  | x :: p => by
    have ih := rv_snoc f a p
    show (p ++ [a]).countP (fun b => f b x) + rv f (p ++ [a]) = p.countP (fun b => f b x) + rv f p + (x :: p).countP (fun b => f a b)
    rw [ih, List.countP_append, List.countP_cons, List.countP_cons, List.countP_nil]
    omega
theorem drop_cons {α : Type} {o : List α} {k : Nat} (d : α) (hk : k < o.length) : o.drop k = o.getD k d :: o.drop (k + 1) := by
  rw [List.drop_eq_getElem_cons hk, List.getD_eq_getElem?_getD, List.getElem?_eq_getElem hk]; rfl
theorem rv_drop (f : Nat → Nat → Bool) (o : List Nat) (k : Nat) (hk : k < o.length) : rv f (o.drop k) = (o.drop (k + 1)).countP (fun b => f b (o.getD k 0)) + rv f (o.drop (k + 1)) := by
  rw [drop_cons 0 hk]; rfl
theorem take_snocN (o : List Nat) (k : Nat) (hk : k < o.length) : o.take (k + 1) = o.take k ++ [o.getD k 0] := by
  rw [List.take_succ_eq_append_getElem hk, List.getD_eq_getElem?_getD, List.getElem?_eq_getElem hk]; rfl
theorem rv_take (f : Nat → Nat → Bool) (o : List Nat) (k : Nat) (hk : k < o.length) : rv f (o.take (k + 1)) = rv f (o.take k) + (o.take k).countP (fun b => f (o.getD k 0) b) := by
  rw [take_snocN o k hk, rv_snoc]
theorem rv_le (f : Nat → Nat → Bool) : ∀ o : List Nat, rv f o ≤ o.length * o.length
  | [] => Nat.le_refl _
  | a :: r => by
    have ih := rv_le f r
    have h := List.countP_le_length (p := fun b => f b a) (l := r)
    show r.countP _ + rv f r ≤ (r.length + 1) * (r.length + 1)
    have e : (r.length + 1) * (r.length + 1) = r.length * r.length + r.length + r.length + 1 := by
      rw [Nat.add_mul, Nat.mul_add]; omega
    omega

/-- An order of m players. -/
structure Od (m : Nat) (o : List Nat) : Prop where
  nd : o.Nodup
  lt : ∀ x ∈ o, x < m
  len : o.length = m
theorem Od.perm {m : Nat} {o p : List Nat} (h : Od m o) (hp : p.Perm o) : Od m p := ⟨hp.nodup_iff.2 h.nd, fun x hx => h.lt x (hp.mem_iff.1 hx), hp.length_eq.trans h.len⟩
theorem Od.at {m : Nat} {o : List Nat} (h : Od m o) {k : Nat} (hk : k < m) : o.getD k 0 < m := by
  have hk2 : k < o.length := by rw [h.len]; exact hk
  rw [List.getD_eq_getElem?_getD, List.getElem?_eq_getElem hk2]
  exact h.lt _ (List.getElem_mem _)
theorem Od.ne {m : Nat} {o : List Nat} (h : Od m o) {i k : Nat} (hik : i < k) (hk : k < m) : o.getD i 0 ≠ o.getD k 0 := by
  have hk2 : k < o.length := by rw [h.len]; exact hk
  have hi2 : i < o.length := by omega
  rw [List.getD_eq_getElem?_getD, List.getD_eq_getElem?_getD, List.getElem?_eq_getElem hk2, List.getElem?_eq_getElem hi2]
  exact List.pairwise_iff_getElem.1 h.nd i k hi2 hk2 hik

/-- The order in which the player at i has come to k. -/
def mv (o : List Nat) (i k : Nat) : List Nat := (o.take i ++ o.drop (i + 1)).take k ++ o.getD i 0 :: (o.take i ++ o.drop (i + 1)).drop k
theorem mv_perm (o : List Nat) (i k : Nat) (hi : i < o.length) : (mv o i k).Perm o := by
  unfold mv
  refine List.perm_middle.trans ?_
  rw [List.take_append_drop]
  refine List.perm_middle.symm.trans ?_
  rw [← drop_cons 0 hi, List.take_append_drop]
theorem mv_od {m : Nat} {o : List Nat} (h : Od m o) {i : Nat} (k : Nat) (hi : i < m) : Od m (mv o i k) := h.perm (mv_perm o i k (by rw [h.len]; exact hi))
theorem mv_len {o : List Nat} {i : Nat} (k : Nat) (hi : i < o.length) : (mv o i k).length = o.length := (mv_perm o i k hi).length_eq

/-- Whether a move makes the reversals less. -/
def lss (f : Nat → Nat → Bool) (o : List Nat) (i k : Nat) : Bool := decide (rv f (mv o i k) < rv f o)
/-- The order behind the first such move. -/
def bet (f : Nat → Nat → Bool) (o : List Nat) : Option (List Nat) :=
  (List.range o.length).findSome? fun i => (List.range o.length).findSome? fun k => if lss f o i k then some (mv o i k) else none
theorem first_some {α : Type} {g : Nat → Option α} {n i : Nat} {x : α} (hi : i < n) (h : ∀ j, j < i → g j = none) (hx : g i = some x) : (List.range n).findSome? g = some x := by
  rw [List.findSome?_eq_some_iff]
  refine ⟨List.range i, i, (List.range (n - i - 1)).map (fun j => i + (j + 1)), ?_, hx, fun y hy => h y (List.mem_range.1 hy)⟩
  conv => lhs; rw [show n = i + (n - i - 1 + 1) by omega]
  rw [List.range_add, List.range_succ_eq_map]
  simp
theorem first_none {α : Type} {g : Nat → Option α} {n : Nat} (h : ∀ j, j < n → g j = none) : (List.range n).findSome? g = none := by
  rw [List.findSome?_eq_none_iff]
  exact fun x hx => h x (List.mem_range.1 hx)
def NoB (f : Nat → Nat → Bool) (o : List Nat) (i : Nat) : Prop := ∀ j, j < i → ∀ k, k < o.length → lss f o j k = false
def NoB2 (f : Nat → Nat → Bool) (o : List Nat) (i k : Nat) : Prop := NoB f o i ∧ ∀ q, q < k → lss f o i q = false
theorem NoB.zero (f : Nat → Nat → Bool) (o : List Nat) : NoB f o 0 := fun j h => absurd h (Nat.not_lt_zero _)
theorem NoB.start {f : Nat → Nat → Bool} {o : List Nat} {i : Nat} (h : NoB f o i) : NoB2 f o i 0 := ⟨h, fun j h => absurd h (Nat.not_lt_zero _)⟩
theorem NoB2.next {f : Nat → Nat → Bool} {o : List Nat} {i k : Nat} (h : NoB2 f o i k) (hl : lss f o i k = false) : NoB2 f o i (k + 1) :=
  ⟨h.1, fun q hq => by
    by_cases e : q = k
    · rw [e]; exact hl
    · exact h.2 q (by omega)⟩
theorem NoB2.end {f : Nat → Nat → Bool} {o : List Nat} {i : Nat} (h : NoB2 f o i o.length) : NoB f o (i + 1) := fun j hj k hk => by
  by_cases e : j = i
  · rw [e]; exact h.2 k hk
  · exact h.1 j (by omega) k hk
theorem bet_none {f : Nat → Nat → Bool} {o : List Nat} (h : NoB f o o.length) : bet f o = none :=
  first_none fun j hj => first_none fun k hk => by rw [h j hj k hk]; rfl
theorem bet_some {f : Nat → Nat → Bool} {o : List Nat} {i k : Nat} (h : NoB2 f o i k) (hi : i < o.length) (hk : k < o.length) (hl : lss f o i k = true) : bet f o = some (mv o i k) :=
  first_some hi (fun j hj => first_none fun q hq => by rw [h.1 j hj q hq]; rfl) (first_some hk (fun q hq => by rw [h.2 q hq]; rfl) (by rw [hl]; rfl))
theorem bet_is {f : Nat → Nat → Bool} {o x : List Nat} (h : bet f o = some x) : ∃ i k, i < o.length ∧ k < o.length ∧ x = mv o i k ∧ rv f x < rv f o := by
  unfold bet at h
  obtain ⟨i, hi, h2⟩ := List.exists_of_findSome?_eq_some h
  obtain ⟨k, hk, h3⟩ := List.exists_of_findSome?_eq_some h2
  cases hl : lss f o i k
  · rw [hl] at h3; simp at h3
  · rw [hl] at h3
    obtain rfl : mv o i k = x := by simpa using h3
    exact ⟨i, k, List.mem_range.1 hi, List.mem_range.1 hk, rfl, of_decide_eq_true hl⟩
theorem bet_lt {f : Nat → Nat → Bool} {o x : List Nat} (h : bet f o = some x) : rv f x < rv f o := by
  obtain ⟨_, _, _, _, _, h2⟩ := bet_is h; exact h2
theorem bet_od {f : Nat → Nat → Bool} {m : Nat} {o x : List Nat} (ho : Od m o) (h : bet f o = some x) : Od m x := by
  obtain ⟨i, k, hi, _, rfl, _⟩ := bet_is h
  exact ho.perm (mv_perm o i k hi)
/-- The order that is left when no move makes the reversals less. -/
def imp (f : Nat → Nat → Bool) (o : List Nat) : List Nat :=
  match h : bet f o with
  | none => o
  | some x => imp f x
termination_by rv f o
decreasing_by exact bet_lt h
theorem imp_none {f : Nat → Nat → Bool} {o : List Nat} (h : bet f o = none) : imp f o = o := by
  rw [imp]; split
  · rfl
  · rename_i x h2; rw [h] at h2; cases h2
theorem imp_some {f : Nat → Nat → Bool} {o x : List Nat} (h : bet f o = some x) : imp f o = imp f x := by
  rw [imp]; split
  · rename_i h2; rw [h] at h2; cases h2
  · rename_i y h2; rw [h] at h2; cases h2; rfl
theorem imp_od (f : Nat → Nat → Bool) {m : Nat} : ∀ {o : List Nat}, Od m o → Od m (imp f o) := by
  intro o
  induction hn : rv f o using Nat.strongRecOn generalizing o with
  | _ n ih =>
    intro ho
    cases hb : bet f o with
    | none => rw [imp_none hb]; exact ho
    | some x => rw [imp_some hb]; exact ih _ (by rw [← hn]; exact bet_lt hb) rfl (bet_od ho hb)
end Rv
end Go.Proofs.Yteegbkbphfmooaa
