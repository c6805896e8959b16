/-
  Ways of a tour, in plain mathematics: the ways of k players that begin with some given ones, in their order; what is known of each; the sets that go with them. No program, no conditions.
-/
import Derived.Test.Yteegbkbphfmooaa8D
namespace Go.Proofs.Yteegbkbphfmooaa
open Go.ChangeShapes Go.WideShapes Go.ChangeAt Go.RowKit
set_option linter.unusedVariables false
namespace Hw

theorem mem_elems {x b : Nat} : b ∈ elems x ↔ b < 8 ∧ x.testBit b = true := by
  unfold elems elTo
  rw [List.mem_filter, List.mem_range]
theorem sub_bit {s b : Nat} (hs : s < 256) (hb : b < 8) (h : s.testBit b = true) : s - 2 ^ b = s ^^^ 2 ^ b ∧ 2 ^ b ≤ s := by
  have : ∀ s : Fin 256, ∀ b : Fin 8, s.val.testBit b.val = true → s.val - 2 ^ b.val = s.val ^^^ 2 ^ b.val ∧ 2 ^ b.val ≤ s.val := by decide +kernel
  exact this ⟨s, hs⟩ ⟨b, hb⟩ h
theorem add_bit {s b : Nat} (hs : s < 256) (hb : b < 8) (h : s.testBit b = false) : s + 2 ^ b = s ||| 2 ^ b ∧ s + 2 ^ b < 256 := by
  have : ∀ s : Fin 256, ∀ b : Fin 8, s.val.testBit b.val = false → s.val + 2 ^ b.val = s.val ||| 2 ^ b.val ∧ s.val + 2 ^ b.val < 256 := by decide +kernel
  exact this ⟨s, hs⟩ ⟨b, hb⟩ h
theorem pc_bit {s b : Nat} (hs : s < 256) (hb : b < 8) (h : s.testBit b = false) : pc (s ||| 2 ^ b) = pc s + 1 := by
  have : ∀ s : Fin 256, ∀ b : Fin 8, s.val.testBit b.val = false → pc (s.val ||| 2 ^ b.val) = pc s.val + 1 := by decide +kernel
  exact this ⟨s, hs⟩ ⟨b, hb⟩ h
theorem pow_bit (b x : Nat) : (2 ^ b).testBit x = decide (b = x) := Nat.testBit_two_pow
theorem lt256 {s : Nat} (h : ∀ x, s.testBit x = true → x < 8) : s < 256 := by
  rcases Nat.lt_or_ge s 256 with h1 | h1
  · exact h1
  · obtain ⟨i, hi, hb⟩ := Nat.exists_ge_and_testBit_of_ge_two_pow (n := 8) (show 2 ^ 8 ≤ s from h1)
    have := h i hb
    omega
theorem eq_of_bits {s t : Nat} (h : ∀ x, s.testBit x = t.testBit x) : s = t := Nat.eq_of_testBit_eq h

/-- The set that holds exactly a list's numbers. -/
def Sp (p : List Nat) (s : Nat) : Prop := ∀ x, s.testBit x = p.contains x
theorem Sp.lt {p : List Nat} {s : Nat} (h : Sp p s) (hp : ∀ x ∈ p, x < 8) : s < 256 :=
  lt256 fun x hx => hp x (by rw [h x] at hx; simpa using hx)
theorem Sp.snoc {p : List Nat} {s b : Nat} (h : Sp p s) : Sp (p ++ [b]) (s ||| 2 ^ b) := by
  intro x
  rw [Nat.testBit_or, h x, pow_bit, Bool.eq_iff_iff, Bool.or_eq_true, decide_eq_true_iff, List.contains_iff_mem, List.contains_iff_mem, List.mem_append, List.mem_singleton]
  exact or_congr Iff.rfl eq_comm
theorem Sp.one (a : Nat) : Sp [a] (2 ^ a) := by
  intro x
  rw [pow_bit, Bool.eq_iff_iff, decide_eq_true_iff, List.contains_iff_mem, List.mem_singleton]
  exact eq_comm
theorem Sp.pc {p : List Nat} : ∀ {s : Nat}, Sp p s → p.Nodup → (∀ x ∈ p, x < 8) → Go.Proofs.Yteegbkbphfmooaa.pc s = p.length := by
  induction hn : p.length generalizing p with
  | zero =>
    intro s h _ _
    obtain rfl := List.eq_nil_of_length_eq_zero hn
    have : s = 0 := eq_of_bits fun x => by rw [h x]; simp
    rw [this]; rfl
  | succ n ih =>
    intro s h hnd hp
    rcases List.eq_nil_or_concat p with rfl | ⟨q, b, rfl⟩
    · simp at hn
    · rw [List.concat_eq_append] at *
      have hq : q.length = n := by simpa using hn
      have hnd2 := List.nodup_append.1 hnd
      have hbq : b ∉ q := fun hm => hnd2.2.2 b hm b (by simp) rfl
      have hb8 : b < 8 := hp b (by simp)
      -- the set without b
      have hs : Sp q (s ^^^ (s &&& 2 ^ b)) := by
        intro x
        rw [Nat.testBit_xor, Nat.testBit_and, h x, pow_bit]
        by_cases hx : b = x
        · subst hx
          simp [hbq]
        · have : (b = x) = False := propext ⟨hx, False.elim⟩
          simp [this, Ne.symm hx]
      have hp2 : ∀ x ∈ q, x < 8 := fun x hx => hp x (by simp [hx])
      have e := ih hq hs hnd2.1 hp2
      have hlt := hs.lt hp2
      have hbf : (s ^^^ (s &&& 2 ^ b)).testBit b = false := by rw [hs b]; simpa using hbq
      have e2 : s = (s ^^^ (s &&& 2 ^ b)) ||| 2 ^ b := eq_of_bits fun x => by
        rw [hs.snoc x, h x]
      rw [e2, pc_bit hlt hb8 hbf, e]

/-- Whom the last one of a way beats, but those of the way. -/
def nx (f : Nat → Nat) (p : List Nat) : List Nat := (elems (f (p.getLastD 0))).filter fun b => !p.contains b
theorem nx_set (f : Nat → Nat) (p : List Nat) (s : Nat) (h : Sp p s) : elems (f (p.getLastD 0) ^^^ (f (p.getLastD 0) &&& s)) = nx f p := by
  unfold nx elems elTo
  rw [List.filter_filter]
  apply List.filter_congr
  intro b _
  rw [Nat.testBit_xor, Nat.testBit_and, h b]
  cases (f (p.getLastD 0)).testBit b <;> cases p.contains b <;> rfl
theorem mem_nx {f : Nat → Nat} {p : List Nat} {b : Nat} : b ∈ nx f p ↔ b < 8 ∧ (f (p.getLastD 0)).testBit b = true ∧ b ∉ p := by
  unfold nx
  rw [List.mem_filter, mem_elems]
  simp [and_assoc]

/-- The ways of k players that go on with p, in their order. -/
def ext (f : Nat → Nat) (k : Int) : Nat → List Nat → List (List Nat)
  | 0, p => if (p.length : Int) = k then [p] else []
  | n + 1, p => if (p.length : Int) = k then [p] else (nx f p).flatMap fun b => ext f k n (p ++ [b])
def ways (f : Nat → Nat) (k : Int) (a : Nat) : List (List Nat) := ext f k 7 [a]
theorem ext_at {f : Nat → Nat} {k : Int} {n : Nat} {p : List Nat} (h : (p.length : Int) = k) : ext f k n p = [p] := by
  cases n <;> simp [ext, h]
theorem ext_on {f : Nat → Nat} {k : Int} {n : Nat} {p : List Nat} (h : (p.length : Int) ≠ k) : ext f k (n + 1) p = (nx f p).flatMap fun b => ext f k n (p ++ [b]) := by
  simp [ext, h]
theorem ext_no {f : Nat → Nat} {k : Int} {p : List Nat} (h : (p.length : Int) ≠ k) : ext f k 0 p = [] := by
  simp [ext, h]

/-- A list of different players of whom each one beats the next one. -/
def Way (f : Nat → Nat) (p : List Nat) : Prop := p.Nodup ∧ ∀ i, i + 1 < p.length → (f (p.getD i 0)).testBit (p.getD (i + 1) 0) = true
theorem last_getD (p : List Nat) (h : p ≠ []) : p.getLastD 0 = p.getD (p.length - 1) 0 := by
  rw [List.getLastD_eq_getLast?, List.getLast?_eq_getElem?, List.getD_eq_getElem?_getD]
theorem Way.nil (f : Nat → Nat) : Way f [] := ⟨List.nodup_nil, fun i h => by simp at h⟩
theorem Way.one (f : Nat → Nat) (a : Nat) : Way f [a] := ⟨by simp, fun i h => by simp at h⟩
theorem getD_append_lt {p q : List Nat} {i : Nat} (h : i < p.length) : (p ++ q).getD i 0 = p.getD i 0 := by
  rw [List.getD_eq_getElem?_getD, List.getD_eq_getElem?_getD, List.getElem?_append_left h]
theorem getD_append_at {p q : List Nat} : (p ++ q).getD p.length 0 = q.getD 0 0 := by
  rw [List.getD_eq_getElem?_getD, List.getD_eq_getElem?_getD, List.getElem?_append_right (Nat.le_refl _), Nat.sub_self]
theorem Way.snoc {f : Nat → Nat} {p : List Nat} {b : Nat} (h : Way f p) (hb : b ∉ p) (hl : p = [] ∨ (f (p.getLastD 0)).testBit b = true) : Way f (p ++ [b]) := by
  refine ⟨List.nodup_append.2 ⟨h.1, by simp, fun x hx y hy => by simp at hy; subst hy; exact fun e => hb (e ▸ hx)⟩, fun i hi => ?_⟩
  rw [List.length_append, List.length_singleton] at hi
  rcases Nat.lt_or_ge (i + 1) p.length with h1 | h1
  · rw [getD_append_lt h1, getD_append_lt (by omega)]
    exact h.2 i h1
  · have hpl : p.length = i + 1 := by omega
    rcases hl with rfl | hl
    · simp at hpl
    · rw [getD_append_lt (by omega), show i + 1 = p.length by omega, getD_append_at]
      rw [last_getD p (by intro e; rw [e] at hpl; simp at hpl)] at hl
      rw [show p.length - 1 = i by omega] at hl
      exact hl
theorem Way.init {f : Nat → Nat} {p : List Nat} {b : Nat} (h : Way f (p ++ [b])) : Way f p ∧ b ∉ p ∧ (p = [] ∨ (f (p.getLastD 0)).testBit b = true) := by
  have hnd := List.nodup_append.1 h.1
  refine ⟨⟨hnd.1, fun i hi => ?_⟩, fun hm => hnd.2.2 b hm b (by simp) rfl, ?_⟩
  · have := h.2 i (by rw [List.length_append]; omega)
    rwa [getD_append_lt hi, getD_append_lt (by omega)] at this
  · rcases p with _ | ⟨c, q⟩
    · exact .inl rfl
    · right
      have := h.2 ((c :: q).length - 1) (by simp)
      rw [getD_append_lt (by simp), show (c :: q).length - 1 + 1 = (c :: q).length by simp, getD_append_at] at this
      rwa [last_getD _ (by simp)]
/-- What is known of a way that comes. -/
theorem mem_ext {f : Nat → Nat} {k : Int} : ∀ {n : Nat} {p w : List Nat}, Way f p → p ≠ [] → (∀ x ∈ p, x < 8) → w ∈ ext f k n p → Way f w ∧ (w.length : Int) = k ∧ (∀ x ∈ w, x < 8) ∧ ∃ q, w = p ++ q := by
  intro n
  induction n with
  | zero =>
    intro p w hw hne h8 hm
    by_cases hk : (p.length : Int) = k
    · rw [ext_at hk] at hm
      obtain rfl : w = p := by simpa using hm
      exact ⟨hw, hk, h8, [], by simp⟩
    · rw [ext_no hk] at hm; simp at hm
  | succ n ih =>
    intro p w hw hne h8 hm
    by_cases hk : (p.length : Int) = k
    · rw [ext_at hk] at hm
      obtain rfl : w = p := by simpa using hm
      exact ⟨hw, hk, h8, [], by simp⟩
    · rw [ext_on hk] at hm
      obtain ⟨b, hb, hm⟩ := List.mem_flatMap.1 hm
      obtain ⟨hb8, hbt, hbp⟩ := mem_nx.1 hb
      obtain ⟨h1, h2, h3, q, rfl⟩ := ih (hw.snoc hbp (.inr hbt)) (by simp) (fun x hx => by
        rcases List.mem_append.1 hx with h | h
        · exact h8 x h
        · obtain rfl : x = b := by simpa using h
          exact hb8) hm
      exact ⟨h1, h2, h3, b :: q, by simp⟩
/-- Every way comes. -/
theorem ext_mem {f : Nat → Nat} {k : Int} : ∀ {n : Nat} {p q : List Nat}, Way f (p ++ q) → p ≠ [] → (∀ x ∈ p ++ q, x < 8) → ((p ++ q).length : Int) = k → q.length ≤ n → p ++ q ∈ ext f k n p := by
  intro n
  induction n with
  | zero =>
    intro p q hw hne h8 hk hq
    obtain rfl := List.eq_nil_of_length_eq_zero (Nat.le_zero.1 hq)
    rw [List.append_nil] at hk ⊢
    rw [ext_at hk]; simp
  | succ n ih =>
    intro p q hw hne h8 hk hq
    rcases q with _ | ⟨b, q⟩
    · rw [List.append_nil] at hk ⊢
      rw [ext_at hk]; simp
    · have hk2 : (p.length : Int) ≠ k := by
        rw [← hk, List.length_append, List.length_cons]; omega
      rw [ext_on hk2]
      have e : p ++ b :: q = (p ++ [b]) ++ q := by simp
      rw [e] at hw h8 hk ⊢
      have hw2 : Way f (p ++ [b]) := by
        have hnd := List.nodup_append.1 hw.1
        refine ⟨hnd.1, fun i hi => ?_⟩
        have := hw.2 i (by rw [List.length_append]; omega)
        rwa [getD_append_lt hi, getD_append_lt (by omega)] at this
      obtain ⟨_, hbp, hl⟩ := hw2.init
      refine List.mem_flatMap.2 ⟨b, mem_nx.2 ⟨h8 b (by simp), hl.resolve_left hne, hbp⟩, ?_⟩
      exact ih hw (by simp) h8 hk (by simp at hq; omega)
theorem ways_mem {f : Nat → Nat} {k : Int} {a : Nat} {w : List Nat} (ha : a < 8) : w ∈ ways f k a ↔ Way f w ∧ (w.length : Int) = k ∧ (∀ x ∈ w, x < 8) ∧ ∃ q, w = a :: q := by
  constructor
  · intro h
    obtain ⟨h1, h2, h3, q, rfl⟩ := mem_ext (Way.one f a) (by simp) (fun x hx => by simp at hx; omega) h
    exact ⟨h1, h2, h3, q, rfl⟩
  · rintro ⟨h1, h2, h3, q, rfl⟩
    have hlen : (a :: q).length ≤ 8 := by
      have := h1.1.length_le_of_subset (l₂ := List.range 8) (fun x hx => List.mem_range.2 (h3 x hx))
      simpa using this
    exact ext_mem (p := [a]) (q := q) h1 (by simp) h3 h2 (by simp at hlen; omega)
theorem way_len {p : List Nat} {m : Nat} (h : p.Nodup) (hp : ∀ x ∈ p, x < m) : p.length ≤ m := by
  have := h.length_le_of_subset (l₂ := List.range m) (fun x hx => List.mem_range.2 (hp x hx))
  simpa using this
theorem way_all {p : List Nat} {m : Nat} (h : p.Nodup) (hp : ∀ x ∈ p, x < m) (hl : p.length = m) {x : Nat} (hx : x < m) : x ∈ p := by
  rcases Classical.em (x ∈ p) with h1 | h1
  · exact h1
  · have := way_len (m := m) (List.nodup_cons.2 ⟨h1, h⟩) (fun y hy => by
      rcases List.mem_cons.1 hy with rfl | h2
      · exact hx
      · exact hp y h2)
    simp at this; omega
end Hw
end Go.Proofs.Yteegbkbphfmooaa
