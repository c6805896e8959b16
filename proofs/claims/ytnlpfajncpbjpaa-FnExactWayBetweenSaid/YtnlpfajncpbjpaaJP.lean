/-
  A way through all players, by putting each one before the first whom it beats; the first one of all such ways: plain mathematics. Condition: of two players one beats the other one.
-/
import Derived.Test.YtnlpfajncpbjpaaJ2
namespace Go.Proofs.Ytnlpfajncpbjpaa
open Go.ChangeShapes Go.WideShapes Go.ChangeAt Go.RowKit
set_option linter.unusedVariables false
namespace Hw

/-- Each one beats the next one. -/
def Chn (f : Nat → Nat) : List Nat → Prop
  | [] => True
  | [_] => True
  | x :: y :: t => (f x).testBit y = true ∧ Chn f (y :: t)
theorem chn_iff {f : Nat → Nat} : ∀ p : List Nat, Chn f p ↔ ∀ i, i + 1 < p.length → (f (p.getD i 0)).testBit (p.getD (i + 1) 0) = true
  | [] => by simp [Chn]
  | [_] => by simp [Chn]
  | x :: y :: t => by
    unfold Chn
    rw [chn_iff (y :: t)]
    constructor
    · rintro ⟨h1, h2⟩ i hi
      cases i with
      | zero => exact h1
      | succ i => exact h2 i (by simpa using hi)
    · intro h
      exact ⟨h 0 (by simp), fun i hi => h (i + 1) (by simpa using hi)⟩
theorem way_iff {f : Nat → Nat} {p : List Nat} : Way f p ↔ p.Nodup ∧ Chn f p := by
  unfold Way; rw [chn_iff]

/-- Put before the first one whom it beats, or at the end. -/
def insW (f : Nat → Nat) (a : Nat) : List Nat → List Nat
  | [] => [a]
  | x :: xs => if (f a).testBit x = true then a :: x :: xs else x :: insW f a xs
theorem insW_perm (f : Nat → Nat) (a : Nat) : ∀ L : List Nat, (insW f a L).Perm (a :: L)
  | [] => List.Perm.refl _
  | x :: xs => by
    unfold insW
    split
    · exact List.Perm.refl _
    · exact ((insW_perm f a xs).cons x).trans (List.Perm.swap a x xs)
theorem insW_chn {f : Nat → Nat} {a : Nat} : ∀ L : List Nat, (∀ x ∈ L, (f a).testBit x = false → (f x).testBit a = true) → Chn f L → Chn f (insW f a L)
  | [], _, _ => trivial
  | [x], h, _ => by
    unfold insW
    split
    · rename_i hb; exact ⟨hb, trivial⟩
    · rename_i hb
      exact ⟨h x (by simp) (by simpa using hb), trivial⟩
  | x :: y :: t, h, hc => by
    have ih := insW_chn (y :: t) (fun z hz => h z (by simp at hz ⊢; exact .inr hz)) hc.2
    unfold insW
    split
    · rename_i hb; exact ⟨hb, hc⟩
    · rename_i hb
      have hxa := h x (by simp) (by simpa using hb)
      unfold insW at ih ⊢
      split
      · rename_i hb2
        rw [if_pos hb2] at ih
        exact ⟨hxa, ih⟩
      · rename_i hb2
        rw [if_neg hb2] at ih
        exact ⟨hc.1, ih⟩
/-- The way through the first k players. -/
def fwL (f : Nat → Nat) : Nat → List Nat
  | 0 => []
  | k + 1 => insW f k (fwL f k)
theorem fwL_perm (f : Nat → Nat) : ∀ k, (fwL f k).Perm (List.range k)
  | 0 => List.Perm.refl _
  | k + 1 => by
    rw [List.range_succ]
    exact ((insW_perm f k _).trans ((fwL_perm f k).cons k)).trans (List.perm_append_singleton k _).symm
theorem fwL_len (f : Nat → Nat) (k : Nat) : (fwL f k).length = k := by have := (fwL_perm f k).length_eq; simpa using this
/-- Of two players one beats the other one. -/
def Tot (f : Nat → Nat) (m : Nat) : Prop := ∀ a b, a < m → b < m → a ≠ b → (f a).testBit b = false → (f b).testBit a = true
theorem fwL_way {f : Nat → Nat} {m : Nat} (ht : Tot f m) : ∀ k, k ≤ m → Way f (fwL f k) := by
  intro k hk
  refine way_iff.2 ⟨(fwL_perm f k).nodup_iff.2 List.nodup_range, ?_⟩
  induction k with
  | zero => trivial
  | succ k ih =>
    refine insW_chn _ (fun x hx => ?_) (ih (by omega))
    have h1 := List.mem_range.1 ((fwL_perm f k).mem_iff.1 hx)
    exact ht k x (by omega) (by omega) (by omega)
theorem fwL_mem {f : Nat → Nat} {k x : Nat} : x ∈ fwL f k ↔ x < k := by rw [(fwL_perm f k).mem_iff, List.mem_range]
theorem fwL_full {f : Nat → Nat} {m : Nat} (ht : Tot f m) (h1 : 1 ≤ m) (h8 : m ≤ 8) : fwL f m ∈ full f m := by
  have hl := fwL_len f m
  obtain ⟨q, r, hqr⟩ : ∃ q r, fwL f m = q :: r := by
    cases h : fwL f m with
    | nil => rw [h] at hl; simp at hl; omega
    | cons q r => exact ⟨q, r, rfl⟩
  have hq : q < m := fwL_mem.1 (by rw [hqr]; simp)
  refine List.mem_flatMap.2 ⟨q, List.mem_range.2 hq, (ways_mem (by omega)).2 ⟨fwL_way ht m (Nat.le_refl _), by rw [hl], fun x hx => by have := fwL_mem.1 hx; omega, r, hqr⟩⟩
theorem full_ne {f : Nat → Nat} {m : Nat} (ht : Tot f m) (h1 : 1 ≤ m) (h8 : m ≤ 8) : full f m ≠ [] := List.ne_nil_of_mem (fwL_full ht h1 h8)

/-- The ways through all players that go on with p. -/
def gx (f : Nat → Nat) (m : Nat) (p : List Nat) : List (List Nat) := if p = [] then full f m else ext f (m : Int) (8 - p.length) p
/-- Those that go on with p and then x, if they may. -/
def gn (f : Nat → Nat) (m : Nat) (p : List Nat) (x : Nat) : List (List Nat) := if p = [] ∨ (f (p.getLastD 0)).testBit x = true then gx f m (p ++ [x]) else []
theorem gx_cons {f : Nat → Nat} {m : Nat} {p : List Nat} (h : p ≠ []) : gx f m p = ext f (m : Int) (8 - p.length) p := if_neg h
theorem elems_all {m : Nat} (hm : m ≤ 8) : elems (2 ^ m - 1) = List.range m := by
  have : ∀ m : Fin 9, elems (2 ^ m.val - 1) = List.range m.val := by decide +kernel
  exact this ⟨m, by omega⟩
theorem flat_filter {α β : Type} (b : α → Bool) (g : α → List β) : ∀ L : List α, (L.filter b).flatMap g = L.flatMap fun x => if b x = true then g x else []
  | [] => rfl
  | x :: L => by
    rw [List.filter_cons, List.flatMap_cons, ← flat_filter b g L]
    split <;> simp
theorem gx_flat {f : Nat → Nat} {m : Nat} {p : List Nat} {s : Nat} (hm : m ≤ 8) (hl : p.length < m) (hf : p ≠ [] → f (p.getLastD 0) < 2 ^ m) (hs : Lf m p s) : gx f m p = (elems s).flatMap (gn f m p) := by
  by_cases hp : p = []
  · subst hp
    have e : s = 2 ^ m - 1 := eq_of_bits fun x => by rw [hs x, Lf.all m x]
    rw [e, elems_all hm]
    unfold gx full
    rw [if_pos rfl]
    congr 1
  · rw [gx_cons hp, show 8 - p.length = (8 - (p.length + 1)) + 1 by omega, ext_on (by omega), ← hs.next (hf hp)]
    have e : elems (s &&& f (p.getLastD 0)) = (elems s).filter fun x => (f (p.getLastD 0)).testBit x := by
      unfold elems elTo
      rw [List.filter_filter]
      apply List.filter_congr
      intro b _
      rw [Nat.testBit_and, Bool.and_comm]
    rw [e, flat_filter]
    congr 1
    funext x
    unfold gn
    by_cases hb : (f (p.getLastD 0)).testBit x = true
    · rw [if_pos hb, if_pos (.inr hb), gx_cons (by simp), List.length_append, List.length_singleton]
    · rw [if_neg hb, if_neg (fun h => h.elim hp hb)]
theorem head_flat {α β : Type} {g : α → List β} {c : α} (hc : g c ≠ []) : ∀ (L : List α) (i : Nat), L[i]? = some c → (∀ j x, j < i → L[j]? = some x → g x = []) → (L.flatMap g).head? = (g c).head? := by
  intro L
  induction L with
  | nil => intro i h; simp at h
  | cons y L ih =>
    intro i h1 h2
    rw [List.flatMap_cons]
    rcases i with _ | i
    · obtain rfl : y = c := by simpa using h1
      rw [List.head?_append]
      cases hh : (g y).head?
      · rw [List.head?_eq_none_iff] at hh; exact absurd hh hc
      · rfl
    · rw [h2 0 y (by omega) (by simp), List.nil_append]
      exact ih i (by simpa using h1) fun j x hj hx => h2 (j + 1) x (by omega) (by simpa using hx)
end Hw
end Go.Proofs.Ytnlpfajncpbjpaa
