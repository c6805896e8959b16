/-
  Shortest ways: levels, the greedy way, and that it is the first of the shortest ones: plain mathematics. No program, no conditions but those named.
-/
import Derived.Test.YtnlpfajncpbjpaaJP
namespace Go.Proofs.Ytnlpfajncpbjpaa
open Go.ChangeShapes Go.WideShapes Go.ChangeAt Go.RowKit
set_option linter.unusedVariables false
namespace Hw

/-- How far b is, as far as r rounds tell. -/
def lev (f : Nat → Nat) (b : Nat) : Nat → Nat → Int
  | 0, c => if c = b then 0 else -1
  | r + 1, c => if 0 ≤ lev f b r c then lev f b r c else if (elems (f c)).any (fun x => lev f b r x == (r : Int)) = true then (r : Int) + 1 else -1
section
variable {f : Nat → Nat} {b : Nat}
theorem lev_range (r c : Nat) : lev f b r c = -1 ∨ (0 ≤ lev f b r c ∧ lev f b r c ≤ r) := by
  induction r generalizing c with
  | zero => unfold lev; split <;> simp
  | succ r ih =>
    unfold lev
    split
    · rename_i h
      rcases ih c with h1 | h1
      · omega
      · right; omega
    · split
      · right; omega
      · left; rfl
theorem lev_stay {r c : Nat} (h : 0 ≤ lev f b r c) : lev f b (r + 1) c = lev f b r c := by
  conv => lhs; unfold lev
  rw [if_pos h]
theorem lev_mono {r s c : Nat} (hrs : r ≤ s) (h : 0 ≤ lev f b r c) : lev f b s c = lev f b r c := by
  induction hrs with
  | refl => rfl
  | step _ ih => rw [lev_stay (by rw [ih]; exact h), ih]
/-- Who is so far is found in the round of that number. -/
theorem lev_at {r c i : Nat} (h : lev f b r c = (i : Int)) : i ≤ r ∧ lev f b i c = (i : Int) := by
  induction r with
  | zero =>
    have := lev_range (f := f) (b := b) 0 c
    have : i = 0 := by omega
    subst this
    exact ⟨Nat.le_refl _, h⟩
  | succ r ih =>
    by_cases h0 : 0 ≤ lev f b r c
    · rw [lev_stay h0] at h
      obtain ⟨h1, h2⟩ := ih h
      exact ⟨by omega, h2⟩
    · have h2 := h
      unfold lev at h2
      rw [if_neg h0] at h2
      split at h2
      · have : i = r + 1 := by omega
        subst this
        exact ⟨Nat.le_refl _, h⟩
      · omega
theorem lev_zero {r c : Nat} (h : lev f b r c = 0) : c = b := by
  have := (lev_at (i := 0) h).2
  unfold lev at this
  split at this
  · assumption
  · omega
theorem lev_self (r : Nat) : lev f b r b = 0 := by
  have h0 : lev f b 0 b = 0 := by unfold lev; rw [if_pos rfl]
  rw [lev_mono (Nat.zero_le r) (by rw [h0]; exact Int.le_refl _), h0]
/-- Someone is nearer. -/
theorem lev_step {r c i : Nat} (h : lev f b r c = (i : Int) + 1) : ∃ x ∈ elems (f c), lev f b r x = (i : Int) := by
  have h' : lev f b r c = ((i + 1 : Nat) : Int) := by rw [h]; rfl
  obtain ⟨h1, h2⟩ := lev_at h'
  have hn : ¬ 0 ≤ lev f b i c := fun h0 => by
    have := lev_stay h0
    have h3 := lev_range (f := f) (b := b) i c
    omega
  unfold lev at h2
  rw [if_neg hn] at h2
  split at h2
  · rename_i ha
    rw [List.any_eq_true] at ha
    obtain ⟨x, hx, he⟩ := ha
    rw [beq_iff_eq] at he
    have h0 : 0 ≤ lev f b i x := by rw [he]; omega
    have hm := lev_mono (f := f) (b := b) (r := i) (s := r) (c := x) (Nat.le_trans (Nat.le_succ i) h1) h0
    exact ⟨x, hx, hm.trans he⟩
  · omega
theorem lev_next {r c x i : Nat} (h : lev f b r x = (i : Int)) (hx : x ∈ elems (f c)) (hi : i + 1 ≤ r) : 0 ≤ lev f b r c ∧ lev f b r c ≤ (i : Int) + 1 := by
  have h2 := (lev_at h).2
  have key : 0 ≤ lev f b (i + 1) c ∧ lev f b (i + 1) c ≤ (i : Int) + 1 := by
    by_cases h0 : 0 ≤ lev f b i c
    · rw [lev_stay h0]
      have := lev_range (f := f) (b := b) i c
      omega
    · conv => lhs; rhs; unfold lev
      conv => rhs; lhs; unfold lev
      rw [if_neg h0]
      have : (elems (f c)).any (fun x => lev f b i x == (i : Int)) = true := List.any_eq_true.2 ⟨x, hx, by rw [h2]; simp⟩
      rw [if_pos this]
      omega
  rw [lev_mono hi key.1]
  exact key
/-- A way to b bounds how far it is. -/
theorem lev_path {m : Nat} : ∀ (q : List Nat) (x : Nat), Chn f (x :: q) → (∀ y ∈ q, y < 8) → (x :: q).getLastD 0 = b → q.length ≤ m → 0 ≤ lev f b m x ∧ lev f b m x ≤ q.length
  | [], x, _, _, hl, _ => by
    have hx : x = b := hl
    rw [hx, lev_self]
    exact ⟨Int.le_refl _, by simp⟩
  | y :: q, x, hc, h8, hl, hm => by
    have ih := lev_path (m := m) q y hc.2 (fun z hz => h8 z (by simp [hz])) (by simpa using hl) (by simp at hm; omega)
    obtain ⟨i, hi⟩ : ∃ i : Nat, lev f b m y = (i : Int) := ⟨(lev f b m y).toNat, by omega⟩
    have hmem : y ∈ elems (f x) := mem_elems.2 ⟨h8 y (by simp), hc.1⟩
    simp only [List.length_cons] at hm
    have hil : i ≤ q.length := by have := ih.2; rw [hi] at this; omega
    have := lev_next (r := m) (c := x) (x := y) (i := i) hi hmem (by omega)
    simp only [List.length_cons]
    omega

/-- The greedy way. -/
def gr (f : Nat → Nat) (D : Nat → Int) : Nat → Nat → List Nat
  | 0, c => [c]
  | i + 1, c => c :: (match (elems (f c)).find? (fun x => D x == (i : Int)) with
    | some x => gr f D i x
    | none => [])
theorem gr_cons (D : Nat → Int) (i c : Nat) : ∃ t, gr f D i c = c :: t := by
  cases i with
  | zero => exact ⟨[], rfl⟩
  | succ i => exact ⟨_, rfl⟩
theorem gr_step {D : Nat → Int} {i c x : Nat} (h : (elems (f c)).find? (fun x => D x == (i : Int)) = some x) : gr f D (i + 1) c = c :: gr f D i x := by
  show c :: (match (elems (f c)).find? (fun x => D x == (i : Int)) with | some x => gr f D i x | none => []) = _
  rw [h]
theorem find_first {D : Nat → Int} {i : Nat} : ∀ (E : List Nat) (x : Nat), E.find? (fun x => D x == (i : Int)) = some x → ∃ j : Nat, (E[j]? : Option Nat) = some x ∧ D x = (i : Int) ∧ ∀ (q y : Nat), q < j → (E[q]? : Option Nat) = some y → D y ≠ (i : Int)
  | [], x, h => by simp at h
  | z :: E, x, h => by
    rw [List.find?_cons] at h
    split at h
    · rename_i hz
      obtain rfl := Option.some.inj h
      exact ⟨0, rfl, by simpa using hz, fun q y hq => absurd hq (Nat.not_lt_zero _)⟩
    · rename_i hz
      obtain ⟨j, h1, h2, h3⟩ := find_first E x h
      refine ⟨j + 1, h1, h2, fun q y hq hy => ?_⟩
      cases q with
      | zero =>
        obtain rfl : z = y := by simpa using hy
        simpa using hz
      | succ q => exact h3 q y (by omega) (by simpa using hy)
theorem first_some {f : Nat → Nat} {b r c i : Nat} (h : lev f b r c = (i : Int) + 1) : ∃ x, (elems (f c)).find? (fun x => lev f b r x == (i : Int)) = some x := by
  obtain ⟨x, hx, he⟩ := lev_step h
  cases hf : (elems (f c)).find? (fun x => lev f b r x == (i : Int)) with
  | none =>
    have := List.find?_eq_none.1 hf x hx
    simp [he] at this
  | some y => exact ⟨y, rfl⟩
theorem findS_filter {α β : Type} {g : α → Option β} {c : α → Bool} {y : β} : ∀ (E : List α) (j : Nat) (b : α), E[j]? = some b → c b = true → g b = some y → (∀ q x, q < j → E[q]? = some x → c x = true → g x = none) → (E.filter c).findSome? g = some y := by
  intro E
  induction E with
  | nil => intro j b h; simp at h
  | cons x E ih =>
    intro j b h1 h2 h3 h4
    cases j with
    | zero =>
      obtain rfl : x = b := by simpa using h1
      rw [List.filter_cons, if_pos h2, List.findSome?_cons, h3]
    | succ j =>
      have := ih j b (by simpa using h1) h2 h3 (fun q x hq hx => h4 (q + 1) x (by omega) (by simpa using hx))
      rw [List.filter_cons]
      split
      · rename_i hc
        rw [List.findSome?_cons, h4 0 x (by omega) (by simp) hc]; exact this
      · exact this
theorem chn_drop {f : Nat → Nat} : ∀ (p q : List Nat), Chn f (p ++ q) → Chn f q
  | [], _, h => h
  | [x], [], _ => trivial
  | [x], y :: q, h => h.2
  | x :: y :: p, q, h => chn_drop (y :: p) q h.2
/-- The ends that are asked. -/
def endB (b : Nat) (w : List Nat) : Bool := w.getLastD 0 == b
/-- Where the last one of a way is d games from b, the first way of that length is the greedy one. -/
theorem find_gr {m : Nat} : ∀ (i n : Nat) (p : List Nat) (c : Nat), Way f p → p ≠ [] → (∀ x ∈ p, x < 8) → p.getLastD 0 = c → lev f b m c = (i : Int) → (∀ x ∈ p, (i : Int) ≤ lev f b m x) → i ≤ n → i ≤ m →
    (ext f ((p.length + i : Nat) : Int) n p).find? (endB b) = some (p ++ (gr f (lev f b m) i c).tail) := by
  intro i
  induction i with
  | zero =>
    intro n p c hw hne h8 hl hd hall hn hm
    rw [ext_at (by omega)]
    have hc : c = b := lev_zero hd
    rw [List.find?_singleton, if_pos (by unfold endB; rw [hl, hc]; simp)]
    show some p = some (p ++ [c].tail)
    simp
  | succ i ih =>
    intro n p c hw hne h8 hl hd hall hn hm
    obtain ⟨n', rfl⟩ : ∃ n', n = n' + 1 := ⟨n - 1, by omega⟩
    have hd' : lev f b m c = (i : Int) + 1 := by rw [hd]; rfl
    obtain ⟨x, hx⟩ := first_some hd'
    obtain ⟨j, hj, hdx, hbefore⟩ := find_first _ x hx
    have hxe := mem_elems.1 (List.mem_of_getElem? hj)
    have hxp : x ∉ p := fun h => by have := hall x h; rw [hdx] at this; omega
    have hlen : (p.length : Int) ≠ ((p.length + (i + 1) : Nat) : Int) := by omega
    have e1 : ∀ y : Nat, ((p.length + (i + 1) : Nat) : Int) = (((p ++ [y]).length + i : Nat) : Int) := fun y => by simp; omega
    rw [ext_on hlen, find_flat, gr_step hx]
    unfold nx
    rw [hl]
    refine findS_filter _ j x hj (by simpa using hxp) ?_ ?_
    · have := ih n' (p ++ [x]) x (hw.snoc hxp (.inr (by rw [hl]; exact hxe.2))) (by simp) (fun y hy => by
        rcases List.mem_append.1 hy with h | h
        · exact h8 y h
        · exact (show y = x from by simpa using h) ▸ hxe.1) (by simp) hdx (fun y hy => by
        rcases List.mem_append.1 hy with h | h
        · have := hall y h; omega
        · rw [show y = x from by simpa using h, hdx]; exact Int.le_refl _) (by omega) (by omega)
      rw [e1 x, this]
      obtain ⟨t, ht⟩ := gr_cons (f := f) (lev f b m) i x
      rw [ht]
      simp
    · intro q y hq hy hyp
      have hye := mem_elems.1 (List.mem_of_getElem? hy)
      have hyn : y ∉ p := by simpa using hyp
      cases hf : (ext f ((p.length + (i + 1) : Nat) : Int) n' (p ++ [y])).find? (endB b) with
      | none => rfl
      | some w =>
        exfalso
        have hwm := List.mem_of_find?_eq_some hf
        have hwe := List.find?_some hf
        obtain ⟨h1, h2, h3, q2, rfl⟩ := mem_ext (hw.snoc hyn (.inr (by rw [hl]; exact hye.2))) (by simp) (fun z hz => by
          rcases List.mem_append.1 hz with h | h
          · exact h8 z h
          · exact (show z = y from by simpa using h) ▸ hye.1) hwm
        have hq2 : q2.length = i := by simp at h2; omega
        have hch : Chn f (y :: q2) := chn_drop p (y :: q2) (by have := (way_iff.1 h1).2; simpa using this)
        have hlast : (y :: q2).getLastD 0 = b := by
          unfold endB at hwe
          rw [beq_iff_eq] at hwe
          rw [← hwe]
          simp [List.getLast?_append, List.getLast?_cons]
        have hp := lev_path (m := m) q2 y hch (fun z hz => h3 z (by simp [hz])) hlast (by omega)
        obtain ⟨d, hdd⟩ : ∃ d : Nat, lev f b m y = (d : Int) := ⟨(lev f b m y).toNat, by omega⟩
        have h4 := lev_next hdd (List.mem_of_getElem? hy) (by omega)
        refine hbefore q y hq hy ?_
        omega
/-- What the shortest ways are told by. -/
theorem wb_path {m : Nat} {f : Nat → Nat} {a b j : Nat} {w : List Nat} (ha : a < 8) (h : (ways f ((j + 1 : Nat) : Int) a).find? (endB b) = some w) (hj : j ≤ m) : 0 ≤ lev f b m a ∧ lev f b m a ≤ (j : Int) := by
  obtain ⟨h1, h2, h3, q, rfl⟩ := (ways_mem ha).1 (List.mem_of_find?_eq_some h)
  have he := List.find?_some h
  unfold endB at he
  rw [beq_iff_eq] at he
  have hq : q.length = j := by simp at h2; omega
  have := lev_path (m := m) q a (way_iff.1 h1).2 (fun y hy => h3 y (by simp [hy])) he (by omega)
  rw [hq] at this
  exact this
theorem wb_none {m : Nat} {f : Nat → Nat} {a b : Nat} (ha : a < 8) (h : lev f b m a < 0) : (List.range m).findSome? (fun j => (ways f ((j + 1 : Nat) : Int) a).find? (endB b)) = none := by
  rw [List.findSome?_eq_none_iff]
  intro j hj
  have hj := List.mem_range.1 hj
  cases hf : (ways f ((j + 1 : Nat) : Int) a).find? (endB b) with
  | none => rfl
  | some w =>
    have := wb_path (m := m) ha hf (by omega)
    omega
theorem findSome_range {α : Type} {g : Nat → Option α} {y : α} {i m : Nat} (hi : i < m) (h0 : ∀ j, j < i → g j = none) (h1 : g i = some y) : (List.range m).findSome? g = some y := by
  have e : List.range m = List.range i ++ i :: (List.range (m - i - 1)).map (fun x => i + 1 + x) := by
    apply List.ext_getElem
    · simp; omega
    · intro k hk hk2
      simp only [List.getElem_range]
      by_cases hc : k < i
      · rw [List.getElem_append_left (by simpa using hc)]; simp
      · rw [List.getElem_append_right (by simp; omega)]
        simp only [List.length_range]
        rcases Nat.eq_zero_or_pos (k - i) with h | h
        · simp only [h, List.getElem_cons_zero]; omega
        · rw [List.getElem_cons]
          rw [dif_neg (by omega)]
          simp only [List.getElem_map, List.getElem_range]
          omega
  rw [e, List.findSome?_append, List.findSome?_eq_none_iff.2 (fun j hj => h0 j (List.mem_range.1 hj)), List.findSome?_cons, h1]
  rfl
theorem findSome_range_none {α : Type} {g : Nat → Option α} {m : Nat} (h0 : ∀ j, j < m → g j = none) : (List.range m).findSome? g = none :=
  List.findSome?_eq_none_iff.2 fun j hj => h0 j (List.mem_range.1 hj)
/-- The shortest way is the greedy one. -/
theorem wb_some {m : Nat} {f : Nat → Nat} {a b d : Nat} (hm : m ≤ 8) (ha : a < m) (hf : ∀ w ∈ ways f ((d + 1 : Nat) : Int) a, ∀ x ∈ w, x < m) (h : lev f b m a = (d : Int)) : (List.range m).findSome? (fun j => (ways f ((j + 1 : Nat) : Int) a).find? (endB b)) = some (gr f (lev f b m) d a) ∧ d < m := by
  have hdm : d ≤ m := by have := lev_range (f := f) (b := b) m a; omega
  obtain ⟨t, ht⟩ := gr_cons (f := f) (lev f b m) d a
  have hfind : ∀ n, d ≤ n → (ext f ((d + 1 : Nat) : Int) n [a]).find? (endB b) = some (gr f (lev f b m) d a) := by
    intro n hn
    have := find_gr (m := m) d n [a] a (Way.one f a) (by simp) (fun x hx => by have : x = a := by simpa using hx
                                                                               omega) rfl h (fun x hx => by
      obtain rfl : x = a := by simpa using hx
      rw [h]; exact Int.le_refl _) hn hdm
    rw [ht] at this ⊢
    rw [show ((d + 1 : Nat) : Int) = (([a].length + d : Nat) : Int) from by simp; omega]
    simpa using this
  have hd7 : d ≤ 7 := by
    have hm2 := List.mem_of_find?_eq_some (hfind d (Nat.le_refl d))
    obtain ⟨h1, h2, h3, _⟩ := mem_ext (Way.one f a) (by simp) (fun x hx => by have : x = a := by simpa using hx
                                                                              omega) hm2
    have := way_len h1.1 h3
    omega
  have hw := hfind 7 hd7
  have hmem : gr f (lev f b m) d a ∈ ways f ((d + 1 : Nat) : Int) a := List.mem_of_find?_eq_some hw
  have hlt : d < m := by
    obtain ⟨h1, h2, _, _⟩ := (ways_mem (by omega)).1 hmem
    have := way_len h1.1 (hf _ hmem)
    omega
  refine ⟨findSome_range hlt (fun j hj => ?_) hw, hlt⟩
  cases hf2 : (ways f ((j + 1 : Nat) : Int) a).find? (endB b) with
  | none => rfl
  | some w =>
    have := wb_path (m := m) (by omega) hf2 (by omega)
    omega
end
end Hw
end Go.Proofs.Ytnlpfajncpbjpaa
