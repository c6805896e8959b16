/-
  Triangles that share no pair, picked from the first on: the mathematics, and what the model's sets of players hold. No conditions.
-/
import Derived.Test.YtgdejippddcekaaWg
namespace Go.Proofs.Ytgdejippddcekaa
open Go.ChangeShapes Go.WideShapes Go.ChangeAt Go.RowKit
set_option linter.unusedVariables false

/-- Whether a list has both players of a pair. -/
def hasP (s : List Int) (p q : Nat) : Bool := p != q && (s.contains (p : Int) && s.contains (q : Int))
/-- Whether a list shares a pair with one of the lists. -/
def clash (acc : List (List Int)) (r : List Int) : Bool := acc.any fun s => hasP s (r.getD 0 0).toNat (r.getD 1 0).toNat || (hasP s (r.getD 1 0).toNat (r.getD 2 0).toNat || hasP s (r.getD 0 0).toNat (r.getD 2 0).toNat)
def pkS (acc : List (List Int)) (r : List Int) : List (List Int) := if clash acc r then acc else acc ++ [r]
def pk (Ls : List (List Int)) : List (List Int) := Ls.foldl pkS []
theorem pk_take (Ls : List (List Int)) (i : Nat) (h : i < Ls.length) : pk (Ls.take (i + 1)) = pkS (pk (Ls.take i)) (Ls.getD i []) := by
  rw [List.take_succ_eq_append_getElem h, List.getD_eq_getElem?_getD, List.getElem?_eq_getElem h]
  unfold pk
  rw [List.foldl_append]; rfl
theorem any_or {α : Type} (f g : α → Bool) (l : List α) : l.any (fun x => f x || g x) = (l.any f || l.any g) := by
  induction l with
  | nil => rfl
  | cons x t ih =>
    simp only [List.any_cons, ih]
    cases f x <;> cases g x <;> simp
theorem clash_any (acc : List (List Int)) (x y z : Nat) : clash acc [(x : Int), (y : Int), (z : Int)] = (acc.any (fun s => hasP s x y) || (acc.any (fun s => hasP s y z) || acc.any (fun s => hasP s x z))) := by
  rw [← any_or, ← any_or]; rfl
theorem triL_mem {l r : List Int} (h : r ∈ triL l) : ∃ x y z : Nat, r = [(x : Int), (y : Int), (z : Int)] ∧ x < l.length ∧ y < l.length ∧ z < l.length ∧ x < y ∧ x < z ∧ y ≠ z := by
  unfold triL triA at h
  obtain ⟨x, hx, h1⟩ := List.mem_flatMap.1 h
  unfold triB at h1
  obtain ⟨y, hy, h2⟩ := List.mem_flatMap.1 h1
  have hx' := List.mem_range.1 hx
  have hy' := List.mem_range.1 hy
  split at h2
  · unfold triC at h2
    obtain ⟨z, hz, rfl⟩ := List.mem_map.1 h2
    obtain ⟨hz1, hz2⟩ := List.mem_filter.1 hz
    have hz' := List.mem_range.1 hz1
    unfold trB at hz2
    simp only [Bool.and_eq_true, decide_eq_true_eq, Bool.not_eq_true', beq_eq_false_iff_ne] at hz2
    exact ⟨x, y, z, rfl, hx', hy', hz', by assumption, hz2.1, fun e => hz2.2.1 e.symm⟩
  · cases h2
/-- What the sets of the players hold. -/
structure UI (m : Nat) (U : List Nat) (acc : List (List Int)) : Prop where
  len : U.length = m
  lt : ∀ y ∈ U, y < 256
  bit : ∀ p q, p < m → q < m → (U.getD p 0).testBit q = acc.any (fun s => hasP s p q)
def mark3 (U : List Nat) (x y z : Nat) : List Nat := ((U.set x (U.getD x 0 ||| 2 ^ y ||| 2 ^ z)).set y (U.getD y 0 ||| 2 ^ x ||| 2 ^ z)).set z (U.getD z 0 ||| 2 ^ x ||| 2 ^ y)
theorem getD_set (U : List Nat) (i k v : Nat) (h : i < U.length) : (U.set i v).getD k 0 = if i = k then v else U.getD k 0 := by
  rw [List.getD_eq_getElem?_getD, List.getElem?_set]
  split
  · rename_i e; subst e; rfl
  · rw [← List.getD_eq_getElem?_getD]
theorem or3_bit (u a b k : Nat) : (u ||| 2 ^ a ||| 2 ^ b).testBit k = (u.testBit k || (decide (a = k) || decide (b = k))) := by
  rw [Nat.testBit_or, Nat.testBit_or, Nat.testBit_two_pow, Nat.testBit_two_pow, Bool.or_assoc]
theorem or3_lt {u a b : Nat} (hu : u < 256) (ha : a < 8) (hb : b < 8) : u ||| 2 ^ a ||| 2 ^ b < 256 := by
  have h1 : 2 ^ a < 2 ^ 8 := Nat.pow_lt_pow_right (by decide) ha
  have h2 : 2 ^ b < 2 ^ 8 := Nat.pow_lt_pow_right (by decide) hb
  exact Nat.or_lt_two_pow (n := 8) (Nat.or_lt_two_pow (n := 8) hu h1) h2
theorem UI.zero (m : Nat) : UI m (List.replicate m 0) [] := by
  refine ⟨by simp, fun y hy => ?_, fun p q hp hq => ?_⟩
  · rw [(List.mem_replicate.1 hy).2]; decide
  · rw [List.getD_eq_getElem?_getD, List.getElem?_replicate, if_pos hp]; simp
theorem UI.free {m : Nat} {U : List Nat} {acc : List (List Int)} (h : UI m U acc) {x y z : Nat} (hx : x < m) (hy : y < m) (hz : z < m) : clash acc [(x : Int), (y : Int), (z : Int)] = ((U.getD x 0).testBit y || ((U.getD y 0).testBit z || (U.getD x 0).testBit z)) := by
  rw [clash_any, h.bit x y hx hy, h.bit y z hy hz, h.bit x z hx hz]
theorem UI.mark {m : Nat} {U : List Nat} {acc : List (List Int)} (h : UI m U acc) (h8 : m ≤ 8) {x y z : Nat} (hx : x < m) (hy : y < m) (hz : z < m) (hxy : x ≠ y) (hyz : y ≠ z) (hxz : x ≠ z) : UI m (mark3 U x y z) (acc ++ [[(x : Int), (y : Int), (z : Int)]]) := by
  have hl := h.len
  have hu : ∀ k, k < m → U.getD k 0 < 256 := fun k hk => by
    rw [List.getD_eq_getElem?_getD, List.getElem?_eq_getElem (by omega)]; exact h.lt _ (List.getElem_mem (by omega))
  have hg : ∀ p, (mark3 U x y z).getD p 0 = if z = p then U.getD z 0 ||| 2 ^ x ||| 2 ^ y else if y = p then U.getD y 0 ||| 2 ^ x ||| 2 ^ z else if x = p then U.getD x 0 ||| 2 ^ y ||| 2 ^ z else U.getD p 0 := by
    intro p
    unfold mark3
    rw [getD_set _ _ _ _ (by simp; omega), getD_set _ _ _ _ (by simp; omega), getD_set _ _ _ _ (by omega)]
  refine ⟨by unfold mark3; simp [hl], fun v hv => ?_, fun p q hp hq => ?_⟩
  · obtain ⟨k, hk, rfl⟩ := List.getElem_of_mem hv
    have hk2 : k < m := by unfold mark3 at hk; simpa [hl] using hk
    have e : (mark3 U x y z)[k] = (mark3 U x y z).getD k 0 := by rw [List.getD_eq_getElem?_getD, List.getElem?_eq_getElem hk]; rfl
    rw [e, hg]
    split
    · exact or3_lt (hu z hz) (by omega) (by omega)
    · split
      · exact or3_lt (hu y hy) (by omega) (by omega)
      · split
        · exact or3_lt (hu x hx) (by omega) (by omega)
        · exact hu k hk2
  · rw [List.any_append, ← h.bit p q hp hq, hg]
    have e1 : ([[(x : Int), (y : Int), (z : Int)]].any fun s => hasP s p q) = (p != q && ((decide (p = x) || (decide (p = y) || decide (p = z))) && (decide (q = x) || (decide (q = y) || decide (q = z))))) := by
      unfold hasP
      simp [Int.natCast_inj]
    rw [e1]
    by_cases a1 : z = p
    · subst a1
      rw [if_pos rfl, or3_bit]
      simp only [bne, decide_true, Bool.or_true, Bool.true_and, eq_comm (a := q)]
      by_cases c1 : x = q <;> by_cases c2 : y = q <;> by_cases c3 : z = q <;> simp_all
    · rw [if_neg a1]
      by_cases a2 : y = p
      · subst a2
        rw [if_pos rfl, or3_bit]
        simp only [bne, decide_true, Bool.or_true, Bool.true_or, Bool.true_and, eq_comm (a := q)]
        by_cases c1 : x = q <;> by_cases c2 : y = q <;> by_cases c3 : z = q <;> simp_all
      · rw [if_neg a2]
        by_cases a3 : x = p
        · subst a3
          rw [if_pos rfl, or3_bit]
          simp only [bne, decide_true, Bool.true_or, Bool.true_and, eq_comm (a := q)]
          by_cases c1 : x = q <;> by_cases c2 : y = q <;> by_cases c3 : z = q <;> simp_all
        · rw [if_neg a3]
          have b1 : decide (p = x) = false := by simp; omega
          have b2 : decide (p = y) = false := by simp; omega
          have b3 : decide (p = z) = false := by simp; omega
          rw [b1, b2, b3]; simp
end Go.Proofs.Ytgdejippddcekaa
