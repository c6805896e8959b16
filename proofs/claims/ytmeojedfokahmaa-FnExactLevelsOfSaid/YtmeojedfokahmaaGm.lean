/-
  The mathematics of a merge by rotation: what an exchange of two blocks and a rotation leave in a row, and that two sorted runs end as one. No conditions on the program.
-/
import Derived.Sort.LotA
import Derived.Sort.Lot0
namespace Go.Proofs.Ytmeojedfokahmaa.Gm
open Go.Sort
set_option linter.unusedVariables false
set_option linter.unusedSectionVars false
variable {α : Type} [Inhabited α]

theorem swp_at (d : Array α) {i j : Nat} (hi : i < d.size) (hj : j < d.size) (x : Nat) : (swp d i j)[x]! = if x = j then d[i]! else if x = i then d[j]! else d[x]! := by
  by_cases h : x = j
  · subst h; rw [if_pos rfl, swp_right d i x hj]
  · rw [if_neg h]
    by_cases h2 : x = i
    · subst h2; rw [if_pos rfl, swp_left d x j hi h]
    · rw [if_neg h2, swp_other d i j x h2 h]

/-- Two blocks exchanged, place by place. -/
def swR (d : Array α) (a b : Nat) : Nat → Array α
  | 0 => d
  | k + 1 => swp (swR d a b k) (a + k) (b + k)
theorem swR_size (d : Array α) (a b k : Nat) : (swR d a b k).size = d.size := by
  induction k with
  | zero => rfl
  | succ k ih => rw [swR, size_swp, ih]
theorem swR_at (d : Array α) (a b k : Nat) (h1 : a + k ≤ b) (h2 : b + k ≤ d.size) (x : Nat) :
    (swR d a b k)[x]! = if a ≤ x ∧ x < a + k then d[x + (b - a)]! else if b ≤ x ∧ x < b + k then d[x - (b - a)]! else d[x]! := by
  induction k generalizing x with
  | zero => rw [swR, if_neg (by omega), if_neg (by omega)]
  | succ k ih =>
    rw [swR, swp_at _ (by rw [swR_size]; omega) (by rw [swR_size]; omega), ih (by omega) (by omega), ih (by omega) (by omega), ih (by omega) (by omega)]
    rw [if_neg (show ¬ (a ≤ a + k ∧ a + k < a + k) by omega), if_neg (show ¬ (b ≤ a + k ∧ a + k < b + k) by omega), if_neg (show ¬ (a ≤ b + k ∧ b + k < a + k) by omega), if_neg (show ¬ (b ≤ b + k ∧ b + k < b + k) by omega)]
    by_cases e1 : x = b + k
    · subst e1
      rw [if_pos rfl, if_neg (by omega), if_pos (by omega), show b + k - (b - a) = a + k by omega]
    · rw [if_neg e1]
      by_cases e2 : x = a + k
      · subst e2
        rw [if_pos rfl, if_pos (by omega), show a + k + (b - a) = b + k by omega]
      · rw [if_neg e2]
        by_cases c1 : a ≤ x ∧ x < a + k
        · rw [if_pos c1, if_pos (by omega)]
        · rw [if_neg c1, if_neg (show ¬ (a ≤ x ∧ x < a + (k + 1)) by omega)]
          by_cases c2 : b ≤ x ∧ x < b + k
          · rw [if_pos c2, if_pos (show b ≤ x ∧ x < b + (k + 1) by omega)]
          · rw [if_neg c2, if_neg (show ¬ (b ≤ x ∧ x < b + (k + 1)) by omega)]
theorem swR_perm (d : Array α) (a b k lo hi : Nat) (h1 : a + k ≤ b) (h2 : b + k ≤ hi) (h0 : lo ≤ a) (h3 : hi ≤ d.size) : PermIn lo hi d (swR d a b k) := by
  induction k with
  | zero => exact permIn_refl _ _ _
  | succ k ih => exact permIn_trans _ _ _ _ _ (ih (by omega) (by omega)) (swp_permIn _ _ _ _ _ (by omega) (by omega) (by omega) (by omega) (by rw [swR_size]; omega))

/-- What a rotation leaves at a place. -/
def rot (d : Array α) (a m b x : Nat) : α :=
  if a ≤ x ∧ x < a + (b - m) then d[x + (m - a)]! else if a + (b - m) ≤ x ∧ x < b then d[x - (b - m)]! else d[x]!
theorem rot_l (d : Array α) (a m b x : Nat) (h : a ≤ x ∧ x < a + (b - m)) : rot d a m b x = d[x + (m - a)]! := by unfold rot; rw [if_pos h]
theorem rot_r (d : Array α) (a m b x : Nat) (h : a + (b - m) ≤ x ∧ x < b) : rot d a m b x = d[x - (b - m)]! := by unfold rot; rw [if_neg (by omega), if_pos h]
theorem rot_o (d : Array α) (a m b x : Nat) (hm : a ≤ m ∧ m ≤ b) (h : x < a ∨ b ≤ x) : rot d a m b x = d[x]! := by unfold rot; rw [if_neg (by omega), if_neg (by omega)]

/-- The longer run lies left: a block of it goes to its place. -/
theorem rot_left (d : Array α) (m i j x : Nat) (hij : j < i) (him : i ≤ m) (hsz : m + j ≤ d.size) :
    rot (swR d (m - i) m j) (m - (i - j)) m (m + j) x = rot d (m - i) m (m + j) x := by
  have G := swR_at d (m - i) m j (by omega) hsz
  have e0 : m - (m - i) = i := by omega
  rw [e0] at G
  by_cases c1 : x < m - i ∨ m + j ≤ x
  · rw [rot_o _ _ _ _ _ (by omega) (by omega), rot_o _ _ _ _ _ (by omega) c1, G, if_neg (by omega), if_neg (by omega)]
  · by_cases c2 : x < m - i + j
    · rw [rot_o _ _ _ _ _ (by omega) (by omega), rot_l _ _ _ _ _ (by omega), G, if_pos (by omega)]
      congr 1; omega
    · rw [rot_r d _ _ _ _ (by omega)]
      by_cases c3 : x < m - (i - j) + j
      · rw [rot_l _ _ _ _ _ (by omega), G, if_neg (by omega), if_pos (by omega)]
        congr 1; omega
      · rw [rot_r _ _ _ _ _ (by omega), G, if_neg (by omega), if_neg (by omega)]
        
/-- The longer run lies right. -/
theorem rot_right (d : Array α) (m i j x : Nat) (hij : i < j) (him : i ≤ m) (hsz : m + j ≤ d.size) :
    rot (swR d (m - i) (m + j - i) i) (m - i) m (m + (j - i)) x = rot d (m - i) m (m + j) x := by
  have G := swR_at d (m - i) (m + j - i) i (by omega) (by omega)
  have e0 : m + j - i - (m - i) = j := by omega
  rw [e0] at G
  by_cases c1 : x < m - i ∨ m + j ≤ x
  · rw [rot_o _ _ _ _ _ (by omega) (by omega), rot_o _ _ _ _ _ (by omega) c1, G, if_neg (by omega), if_neg (by omega)]
  · by_cases c2 : m + j - i ≤ x
    · rw [rot_o _ _ _ _ _ (by omega) (by omega), rot_r _ _ _ _ _ (by omega), G, if_neg (by omega), if_pos (by omega)]
      congr 1; omega
    · rw [rot_l d _ _ _ _ (by omega)]
      by_cases c3 : x < m - i + (j - i)
      · rw [rot_l _ _ _ _ _ (by omega), G, if_neg (by omega), if_neg (by omega)]
      · rw [rot_r _ _ _ _ _ (by omega), G, if_pos (by omega)]
        congr 1; omega
theorem rot_even (d : Array α) (m i x : Nat) (him : i ≤ m) (hsz : m + i ≤ d.size) : (swR d (m - i) m i)[x]! = rot d (m - i) m (m + i) x := by
  have G := swR_at d (m - i) m i (by omega) hsz
  have e0 : m - (m - i) = i := by omega
  rw [e0] at G
  rw [G]
  by_cases c1 : x < m - i ∨ m + i ≤ x
  · rw [rot_o _ _ _ _ _ (by omega) c1, if_neg (by omega), if_neg (by omega)]
  · by_cases c2 : x < m
    · rw [rot_l _ _ _ _ _ (by omega), if_pos (by omega)]; congr 1; omega
    · rw [rot_r _ _ _ _ _ (by omega), if_neg (by omega), if_pos (by omega)]; congr 1; omega

/-- A row rotated. -/
def Rt (d d' : Array α) (a m b : Nat) : Prop := PermIn a b d d' ∧ ∀ x, d'[x]! = rot d a m b x

/-- In order between two places. -/
def Up (le : α → α → Prop) (d : Array α) (a b : Nat) : Prop := ∀ i j, a ≤ i → i < j → j < b → le d[i]! d[j]!
/-- All of one stretch before all of another one. -/
def Cr (le : α → α → Prop) (d : Array α) (a b c e : Nat) : Prop := ∀ i j, a ≤ i → i < b → c ≤ j → j < e → le d[i]! d[j]!

variable {le : α → α → Prop}
theorem Up.join {d : Array α} {a m b : Nat} (h1 : Up le d a m) (h2 : Up le d m b) (h : Cr le d a m m b) : Up le d a b := by
  intro i j hi hij hj
  by_cases c : j < m
  · exact h1 i j hi hij c
  · by_cases c2 : m ≤ i
    · exact h2 i j c2 hij hj
    · exact h i j hi (by omega) (by omega) hj
theorem PermIn.get {d d' : Array α} {a b : Nat} (h : PermIn a b d d') (hb : b ≤ d.size) (i : Nat) (hi : a ≤ i) (hi2 : i < b) : ∃ k, a ≤ k ∧ k < b ∧ d'[i]! = d[k]! :=
  permIn_all d d' a b (fun v => ∃ k, a ≤ k ∧ k < b ∧ v = d[k]!) hb h (fun k h1 h2 => ⟨k, h1, h2, rfl⟩) i hi hi2
theorem Cr.perm {d d' : Array α} {a b c e : Nat} (h : Cr le d a b c e) (hp : PermIn a b d d') (hbc : b ≤ c) (hs : e ≤ d.size) (hbe : b ≤ d.size) : Cr le d' a b c e := by
  intro i j h1 h2 h3 h4
  obtain ⟨k, k1, k2, ek⟩ := PermIn.get hp hbe i h1 h2
  rw [ek, hp.2.1 j (.inr (by omega))]
  exact h k j k1 k2 h3 h4
theorem Cr.perm2 {d d' : Array α} {a b c e : Nat} (h : Cr le d a b c e) (hp : PermIn c e d d') (hbc : b ≤ c) (hs : e ≤ d.size) : Cr le d' a b c e := by
  intro i j h1 h2 h3 h4
  obtain ⟨k, k1, k2, ek⟩ := PermIn.get hp hs j h3 h4
  rw [ek, hp.2.1 i (.inl (by omega))]
  exact h i k h1 h2 k1 k2
theorem Up.out {d d' : Array α} {a b c e : Nat} (h : Up le d a b) (hp : PermIn c e d d') (hbc : b ≤ c ∨ e ≤ a) : Up le d' a b := by
  intro i j h1 h2 h3
  rw [hp.2.1 i (by omega), hp.2.1 j (by omega)]
  exact h i j h1 h2 h3

/-- What a merge is given: two runs in order, and a question that tells which of a left one and a right one stands first. -/
structure Pre (le : α → α → Prop) (c : α → α → Bool) (d : Array α) (a m b : Nat) : Prop where
  l : Up le d a m
  r : Up le d m b
  q : ∀ i j, a ≤ i → i < m → m ≤ j → j < b → (c d[j]! d[i]! = true ↔ ¬ le d[i]! d[j]!)

/-- The pieces of a rotation, seen in the row before it. -/
theorem Rt.pieces {c : α → α → Bool} {d d' : Array α} {a m b s e mid : Nat} (hT : ∀ x y z, le x y → le y z → le x z) (htot : ∀ x y, le x y ∨ le y x)
    (P : Pre le c d a m b) (h : Rt d d' s m e) (h1 : a ≤ s) (h2 : s ≤ m) (h3 : m ≤ e) (h4 : e ≤ b) (hmid : mid = s + (e - m))
    (hA : ∀ i j, a ≤ i → i < s → e ≤ j → j < b → le d[i]! d[j]!) (hB : ∀ i j, s ≤ i → i < m → m ≤ j → j < e → ¬ le d[i]! d[j]!) :
    Pre le c d' a s mid ∧ Pre le c d' mid e b ∧ Cr le d' a mid mid b := by
  have v1 : ∀ x, a ≤ x → x < s → d'[x]! = d[x]! := fun x _ hx => by rw [h.2, rot_o _ _ _ _ _ ⟨h2, h3⟩ (by omega)]
  have v2 : ∀ x, s ≤ x → x < mid → d'[x]! = d[x + (m - s)]! := fun x _ hx => by rw [h.2, rot_l _ _ _ _ _ (by omega)]
  have v3 : ∀ x, mid ≤ x → x < e → d'[x]! = d[x - (e - m)]! := fun x _ hx => by rw [h.2, rot_r _ _ _ _ _ (by omega)]
  have v4 : ∀ x, e ≤ x → x < b → d'[x]! = d[x]! := fun x _ hx => by rw [h.2, rot_o _ _ _ _ _ ⟨h2, h3⟩ (by omega)]
  refine ⟨⟨?_, ?_, ?_⟩, ⟨?_, ?_, ?_⟩, ?_⟩
  · intro i j hi hij hj; rw [v1 i hi (by omega), v1 j (by omega) hj]; exact P.l i j hi hij (by omega)
  · intro i j hi hij hj; rw [v2 i hi (by omega), v2 j (by omega) hj]; exact P.r _ _ (by omega) (by omega) (by omega)
  · intro i j hi hi2 hj hj2; rw [v1 i hi (by omega), v2 j (by omega) hj2]; exact P.q _ _ (by omega) (by omega) (by omega) (by omega)
  · intro i j hi hij hj; rw [v3 i hi (by omega), v3 j (by omega) hj]; exact P.l _ _ (by omega) (by omega) (by omega)
  · intro i j hi hij hj; rw [v4 i hi (by omega), v4 j (by omega) hj]; exact P.r _ _ (by omega) (by omega) (by omega)
  · intro i j hi hi2 hj hj2; rw [v3 i hi (by omega), v4 j (by omega) hj2]; exact P.q _ _ (by omega) (by omega) (by omega) (by omega)
  · intro i j hi hi2 hj hj2
    by_cases ci : i < s
    · rw [v1 i hi ci]
      by_cases cj : j < e
      · rw [v3 j hj cj]; exact P.l _ _ (by omega) (by omega) (by omega)
      · rw [v4 j (by omega) hj2]; exact hA _ _ hi ci (by omega) hj2
    · rw [v2 i (by omega) hi2]
      by_cases cj : j < e
      · rw [v3 j hj cj]
        rcases htot d[i + (m - s)]! d[j - (e - m)]! with h | h
        · exact h
        · exact absurd h (hB _ _ (by omega) (by omega) (by omega) (by omega))
      · rw [v4 j (by omega) hj2]; exact P.r _ _ (by omega) (by omega) (by omega)

/-- Where a search by halves stands. -/
structure Bs (p : Nat → Bool) (lo hi i j : Nat) : Prop where
  li : lo ≤ i
  ij : i ≤ j
  jh : j ≤ hi
  y : ∀ x, lo ≤ x → x < i → p x = true
  n : ∀ x, j ≤ x → x < hi → p x = false
def Mono (p : Nat → Bool) (lo hi : Nat) : Prop := ∀ x y, lo ≤ x → x ≤ y → y < hi → p y = true → p x = true
theorem Bs.start (p : Nat → Bool) (lo hi : Nat) (h : lo ≤ hi) : Bs p lo hi lo hi := ⟨Nat.le_refl _, h, Nat.le_refl _, fun x h1 h2 => by omega, fun x h1 h2 => by omega⟩
theorem Bs.up {p : Nat → Bool} {lo hi i j h : Nat} (B : Bs p lo hi i j) (M : Mono p lo hi) (h1 : i ≤ h) (h2 : h < j) (hp : p h = true) : Bs p lo hi (h + 1) j :=
  ⟨by have := B.li; omega, by omega, B.jh, fun x hx hx2 => M x h hx (by omega) (by have := B.jh; omega) hp, B.n⟩
theorem Bs.down {p : Nat → Bool} {lo hi i j h : Nat} (B : Bs p lo hi i j) (M : Mono p lo hi) (h1 : i ≤ h) (h2 : h < j) (hp : p h = false) : Bs p lo hi i h :=
  ⟨B.li, by omega, by have := B.jh; omega, B.y, fun x hx hx2 => by
    cases e : p x with
    | false => rfl
    | true => exact absurd (M h x (by have := B.li; omega) hx hx2 e) (by rw [hp]; simp)⟩

def p1 (c : α → α → Bool) (d : Array α) (a x : Nat) : Bool := c d[x]! d[a]!
def p2 (c : α → α → Bool) (d : Array α) (m x : Nat) : Bool := !c d[m]! d[x]!
def p3 (c : α → α → Bool) (d : Array α) (P x : Nat) : Bool := !c d[P - x]! d[x]!

theorem up_le {d : Array α} {a b : Nat} (hR : ∀ x, le x x) (h : Up le d a b) (i j : Nat) (h1 : a ≤ i) (h2 : i ≤ j) (h3 : j < b) : le d[i]! d[j]! := by
  rcases Nat.lt_or_ge i j with h4 | h4
  · exact h i j h1 h4 h3
  · rw [show i = j by omega]; exact hR _

theorem rfl_of {α : Type} {le : α → α → Prop} (htot : ∀ x y, le x y ∨ le y x) (x : α) : le x x := by rcases htot x x with h | h <;> exact h
section
variable {c : α → α → Bool} {d d' : Array α} {a m b : Nat} (hT : ∀ x y z, le x y → le y z → le x z) (htot : ∀ x y, le x y ∨ le y x)
include hT htot
theorem mono1 (P : Pre le c d a m b) (ham : a < m) : Mono (p1 c d a) m b := by
  intro x y h1 h2 h3 h4
  unfold p1 at *
  rw [P.q a y (Nat.le_refl _) ham (by omega) h3] at h4
  rw [P.q a x (Nat.le_refl _) ham h1 (by omega)]
  exact fun h => h4 (hT _ _ _ h (up_le (rfl_of htot) P.r x y h1 h2 h3))
theorem mono2 (P : Pre le c d a m b) (hmb : m < b) : Mono (p2 c d m) a m := by
  intro x y h1 h2 h3 h4
  unfold p2 at *
  rw [Bool.not_eq_true', ← Bool.not_eq_true] at *
  rw [P.q y m (by omega) h3 (Nat.le_refl _) hmb] at h4
  rw [P.q x m h1 (by omega) (Nat.le_refl _) hmb]
  exact fun h => h4 fun h5 => h (hT _ _ _ (up_le (rfl_of htot) P.l x y h1 h2 h3) h5)
theorem mono3 (P : Pre le c d a m b) (Q lo hi : Nat) (h0 : a ≤ lo) (h1 : hi ≤ m) (hQ1 : m + hi ≤ Q + 1) (hQ2 : Q < b + lo) : Mono (p3 c d Q) lo hi := by
  intro x y hx hxy hy h4
  unfold p3 at *
  rw [Bool.not_eq_true', ← Bool.not_eq_true] at *
  rw [P.q y (Q - y) (by omega) (by omega) (by omega) (by omega)] at h4
  rw [P.q x (Q - x) (by omega) (by omega) (by omega) (by omega)]
  refine fun h => h4 fun h5 => h (hT _ _ _ (up_le (rfl_of htot) P.l x y (by omega) hxy (by omega)) (hT _ _ _ h5 ?_))
  exact up_le (rfl_of htot) P.r (Q - y) (Q - x) (by omega) (by omega) (by omega)

/-- One element left: put where it belongs. -/
theorem fin1 (P : Pre le c d a (a + 1) b) (i : Nat) (B : Bs (p1 c d a) (a + 1) b i i) (h : Rt d d' a (a + 1) i) : Up le d' a b := by
  have hi := B.li; have hb := B.jh
  obtain ⟨P1, P2, C⟩ := Rt.pieces (mid := i - 1) hT htot P h (Nat.le_refl _) (by omega) hi hb (by omega)
    (fun x y h1 h2 => by omega) (fun x y h1 h2 h3 h4 => by
      have := B.y y h3 h4
      unfold p1 at this
      rw [P.q a y (Nat.le_refl _) (by omega) h3 (by omega)] at this
      rw [show x = a by omega]; exact this)
  refine Up.join P1.r (Up.join P2.l P2.r ?_) C
  intro x y h1 h2 h3 h4
  rw [h.2, h.2, rot_r _ _ _ _ _ (by omega), rot_o _ _ _ _ _ (by omega) (.inr h3)]
  have := B.n y h3 h4
  unfold p1 at this
  rw [← Bool.not_eq_true, P.q a y (Nat.le_refl _) (by omega) (by omega) (by omega)] at this
  rw [show x - (i - (a + 1)) = a by omega]
  exact Classical.byContradiction this
theorem fin2 (P : Pre le c d a m (m + 1)) (i : Nat) (B : Bs (p2 c d m) a m i i) (h : Rt d d' i m (m + 1)) : Up le d' a (m + 1) := by
  have hi := B.li; have hb := B.jh
  obtain ⟨P1, P2, C⟩ := Rt.pieces (mid := i + 1) hT htot P h hi hb (by omega) (Nat.le_refl _) (by omega)
    (fun x y h1 h2 => by omega) (fun x y h1 h2 h3 h4 => by
      have := B.n x h1 h2
      unfold p2 at this
      rw [Bool.not_eq_false', P.q x m (by omega) h2 (Nat.le_refl _) (by omega)] at this
      rw [show y = m by omega]; exact this)
  refine Up.join (Up.join P1.l P1.r ?_) P2.l C
  intro x y h1 h2 h3 h4
  rw [h.2, h.2, rot_o _ _ _ _ _ (by omega) (.inl h2), rot_l _ _ _ _ _ (by omega)]
  have := B.y x h1 h2
  unfold p2 at this
  rw [Bool.not_eq_true', ← Bool.not_eq_true, P.q x m h1 (by omega) (Nat.le_refl _) (by omega)] at this
  rw [show y + (m - i) = m by omega]
  exact Classical.byContradiction this
/-- The middle is found: what the two halves are given. -/
theorem cut3 (P : Pre le c d a m b) (mid lo hi s : Nat) (h1 : a < m) (h2 : m < b) (hmid : mid = (a + b) / 2)
    (hlo : if m > mid then lo = mid + m - b ∧ hi = mid else lo = a ∧ hi = m) (B : Bs (p3 c d (mid + m - 1)) lo hi s s) (h : Rt d d' s m (mid + m - s)) :
    Pre le c d' a s mid ∧ Pre le c d' mid (mid + m - s) b ∧ Cr le d' a mid mid b := by
  have hl := B.li; have hh := B.jh
  have b1 : a ≤ lo ∧ hi ≤ m ∧ hi ≤ mid ∧ mid + m ≤ b + lo := by split at hlo <;> omega
  have hR := rfl_of htot
  refine Rt.pieces hT htot P h (by omega) (by omega) (by omega) (by omega) (by omega) ?_ ?_
  · intro x y x1 x2 y1 y2
    have hs : lo < s := by split at hlo <;> omega
    have hp := B.y (s - 1) (by omega) (by omega)
    unfold p3 at hp
    rw [Bool.not_eq_true', ← Bool.not_eq_true, P.q (s - 1) _ (by omega) (by omega) (by omega) (by omega)] at hp
    have hp' := Classical.byContradiction hp
    refine hT _ _ _ (up_le hR P.l x (s - 1) x1 (by omega) (by omega)) (hT _ _ _ hp' ?_)
    exact up_le hR P.r _ y (by omega) (by omega) y2
  · intro x y x1 x2 y1 y2 hle
    have hs : s < hi := by split at hlo <;> omega
    have hp := B.n s (Nat.le_refl _) hs
    unfold p3 at hp
    rw [Bool.not_eq_false', P.q s _ (by omega) (by omega) (by omega) (by omega)] at hp
    refine hp (hT _ _ _ (up_le hR P.l s x (by omega) x1 x2) (hT _ _ _ hle ?_))
    exact up_le hR P.r y _ y1 (by omega) (by omega)
end
theorem Rt.none {d : Array α} {s m e : Nat} (h : s = m ∨ m = e) (hs : s ≤ m) (he : m ≤ e) : Rt d d s m e := by
  refine ⟨permIn_refl _ _ _, fun x => ?_⟩
  unfold rot
  split
  · congr 1; omega
  · split
    · congr 1; omega
    · rfl
theorem Rt.up {d dk : Array α} {a k : Nat} (h : Rt d dk a (a + 1) (k + 1)) (hk : a ≤ k) (hs : k + 1 < d.size) : Rt d (swp dk k (k + 1)) a (a + 1) (k + 1 + 1) := by
  have hz := h.1.1
  refine ⟨permIn_trans _ _ _ _ _ (permIn_mono _ _ a (k + 1) a (k + 1 + 1) (Nat.le_refl _) (by omega) (by omega) h.1) (swp_permIn _ _ _ _ _ hk (by omega) (by omega) (by omega) (by omega)), fun x => ?_⟩
  rw [swp_at dk (by omega) (by omega), h.2, h.2, h.2]
  unfold rot
  (repeat' split) <;> first | (exfalso; omega) | rfl | (congr 1; omega)
theorem Rt.down {d dk : Array α} {m k : Nat} (h : Rt d dk (k + 1) m (m + 1)) (hk : k + 1 ≤ m) (hs : m < d.size) : Rt d (swp dk (k + 1) k) k m (m + 1) := by
  have hz := h.1.1
  refine ⟨permIn_trans _ _ _ _ _ (permIn_mono _ _ (k + 1) (m + 1) k (m + 1) (by omega) (Nat.le_refl _) (by omega) h.1) (swp_permIn _ _ _ _ _ (by omega) (by omega) (by omega) (by omega) (by omega)), fun x => ?_⟩
  rw [swp_at dk (by omega) (by omega), h.2, h.2, h.2]
  unfold rot
  (repeat' split) <;> first | (exfalso; omega) | rfl | (congr 1; omega)
/-- Both halves merged. -/
theorem both {d d' d1 d2 : Array α} {a b s e mid : Nat} (h1 : a ≤ s) (h2 : s ≤ mid) (h3 : mid ≤ e) (h4 : e ≤ b) (hb : b ≤ d.size) (hse : PermIn a b d d') (C : Cr le d' a mid mid b)
    (p1 : PermIn a mid d' d1) (u1 : Up le d1 a mid) (p2 : PermIn mid b d1 d2) (u2 : Up le d2 mid b) : PermIn a b d d2 ∧ Up le d2 a b := by
  have z1 := hse.1; have z2 := p1.1; have z3 := p2.1
  refine ⟨permIn_trans _ _ _ _ _ hse (permIn_trans _ _ _ _ _ (permIn_mono _ _ a mid a b (Nat.le_refl _) (by omega) (by omega) p1) (permIn_mono _ _ mid b a b (by omega) (Nat.le_refl _) (by omega) p2)), ?_⟩
  exact Up.join (Up.out u1 p2 (.inl (Nat.le_refl _))) u2 ((C.perm p1 (Nat.le_refl _) (by omega) (by omega)).perm2 p2 (Nat.le_refl _) (by omega))
theorem Pre.out {c : α → α → Bool} {d d' : Array α} {a m b x y : Nat} (P : Pre le c d a m b) (hp : PermIn x y d d') (h : y ≤ a) (ham : a ≤ m) : Pre le c d' a m b := by
  refine ⟨Up.out P.l hp (.inr h), Up.out P.r hp (.inr (Nat.le_trans h ham)), fun i j h1 h2 h3 h4 => ?_⟩
  rw [hp.2.1 i (by omega), hp.2.1 j (by omega)]; exact P.q i j h1 h2 h3 h4
end Go.Proofs.Ytmeojedfokahmaa.Gm
