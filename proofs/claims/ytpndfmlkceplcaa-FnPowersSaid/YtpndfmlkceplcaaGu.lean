/-
  The stable sort: its mathematics, and the library's functions from swapRange to SortStableFunc, at most 40 places. Conditions: as each names them.
-/
import Derived.Test.YtpndfmlkceplcaaShelfG
import Derived.Test.YtpndfmlkceplcaaC
import Derived.Sort.LotA
import Derived.Sort.Lot0
namespace Go.Proofs.Ytpndfmlkceplcaa.Gm
open Go.Sort
set_option linter.unusedVariables false
set_option linter.unusedSectionVars false
variable {α : Type} [Inhabited α]

theorem swp_at (d : Array α) {i j : Nat} (hi : i < d.size) (hj : j < d.size) (x : Nat) : (swp d i j)[x]! = if x = j then d[i]! else if x = i then d[j]! else d[x]! := by
  by_cases h : x = j
  · subst h; rw [if_pos rfl, swp_right d i x hj]
  · rw [if_neg h]
    by_cases h2 : x = i
    · subst h2; rw [if_pos rfl, swp_left d x j hi h]
    · rw [if_neg h2, swp_other d i j x h2 h]

/-- Two blocks exchanged, place by place. -/
def swR (d : Array α) (a b : Nat) : Nat → Array α
  | 0 => d
  | k + 1 => swp (swR d a b k) (a + k) (b + k)
theorem swR_size (d : Array α) (a b k : Nat) : (swR d a b k).size = d.size := by
  induction k with
  | zero => rfl
  | succ k ih => rw [swR, size_swp, ih]
theorem swR_at (d : Array α) (a b k : Nat) (h1 : a + k ≤ b) (h2 : b + k ≤ d.size) (x : Nat) :
    (swR d a b k)[x]! = if a ≤ x ∧ x < a + k then d[x + (b - a)]! else if b ≤ x ∧ x < b + k then d[x - (b - a)]! else d[x]! := by
  induction k generalizing x with
  | zero => rw [swR, if_neg (by omega), if_neg (by omega)]
  | succ k ih =>
    rw [swR, swp_at _ (by rw [swR_size]; omega) (by rw [swR_size]; omega), ih (by omega) (by omega), ih (by omega) (by omega), ih (by omega) (by omega)]
    rw [if_neg (show ¬ (a ≤ a + k ∧ a + k < a + k) by omega), if_neg (show ¬ (b ≤ a + k ∧ a + k < b + k) by omega), if_neg (show ¬ (a ≤ b + k ∧ b + k < a + k) by omega), if_neg (show ¬ (b ≤ b + k ∧ b + k < b + k) by omega)]
    by_cases e1 : x = b + k
    · subst e1
      rw [if_pos rfl, if_neg (by omega), if_pos (by omega), show b + k - (b - a) = a + k by omega]
    · rw [if_neg e1]
      by_cases e2 : x = a + k
      · subst e2
        rw [if_pos rfl, if_pos (by omega), show a + k + (b - a) = b + k by omega]
      · rw [if_neg e2]
        by_cases c1 : a ≤ x ∧ x < a + k
        · rw [if_pos c1, if_pos (by omega)]
        · rw [if_neg c1, if_neg (show ¬ (a ≤ x ∧ x < a + (k + 1)) by omega)]
          by_cases c2 : b ≤ x ∧ x < b + k
          · rw [if_pos c2, if_pos (show b ≤ x ∧ x < b + (k + 1) by omega)]
          · rw [if_neg c2, if_neg (show ¬ (b ≤ x ∧ x < b + (k + 1)) by omega)]
theorem swR_perm (d : Array α) (a b k lo hi : Nat) (h1 : a + k ≤ b) (h2 : b + k ≤ hi) (h0 : lo ≤ a) (h3 : hi ≤ d.size) : PermIn lo hi d (swR d a b k) := by
  induction k with
  | zero => exact permIn_refl _ _ _
  | succ k ih => exact permIn_trans _ _ _ _ _ (ih (by omega) (by omega)) (swp_permIn _ _ _ _ _ (by omega) (by omega) (by omega) (by omega) (by rw [swR_size]; omega))

/-- What a rotation leaves at a place. -/
def rot (d : Array α) (a m b x : Nat) : α :=
  if a ≤ x ∧ x < a + (b - m) then d[x + (m - a)]! else if a + (b - m) ≤ x ∧ x < b then d[x - (b - m)]! else d[x]!
theorem rot_l (d : Array α) (a m b x : Nat) (h : a ≤ x ∧ x < a + (b - m)) : rot d a m b x = d[x + (m - a)]! := by unfold rot; rw [if_pos h]
theorem rot_r (d : Array α) (a m b x : Nat) (h : a + (b - m) ≤ x ∧ x < b) : rot d a m b x = d[x - (b - m)]! := by unfold rot; rw [if_neg (by omega), if_pos h]
theorem rot_o (d : Array α) (a m b x : Nat) (hm : a ≤ m ∧ m ≤ b) (h : x < a ∨ b ≤ x) : rot d a m b x = d[x]! := by unfold rot; rw [if_neg (by omega), if_neg (by omega)]

/-- The longer run lies left: a block of it goes to its place. -/
theorem rot_left (d : Array α) (m i j x : Nat) (hij : j < i) (him : i ≤ m) (hsz : m + j ≤ d.size) :
    rot (swR d (m - i) m j) (m - (i - j)) m (m + j) x = rot d (m - i) m (m + j) x := by
  have G := swR_at d (m - i) m j (by omega) hsz
  have e0 : m - (m - i) = i := by omega
  rw [e0] at G
  by_cases c1 : x < m - i ∨ m + j ≤ x
  · rw [rot_o _ _ _ _ _ (by omega) (by omega), rot_o _ _ _ _ _ (by omega) c1, G, if_neg (by omega), if_neg (by omega)]
  · by_cases c2 : x < m - i + j
    · rw [rot_o _ _ _ _ _ (by omega) (by omega), rot_l _ _ _ _ _ (by omega), G, if_pos (by omega)]
      congr 1; omega
    · rw [rot_r d _ _ _ _ (by omega)]
      by_cases c3 : x < m - (i - j) + j
      · rw [rot_l _ _ _ _ _ (by omega), G, if_neg (by omega), if_pos (by omega)]
        congr 1; omega
      · rw [rot_r _ _ _ _ _ (by omega), G, if_neg (by omega), if_neg (by omega)]
        
/-- The longer run lies right. -/
theorem rot_right (d : Array α) (m i j x : Nat) (hij : i < j) (him : i ≤ m) (hsz : m + j ≤ d.size) :
    rot (swR d (m - i) (m + j - i) i) (m - i) m (m + (j - i)) x = rot d (m - i) m (m + j) x := by
  have G := swR_at d (m - i) (m + j - i) i (by omega) (by omega)
  have e0 : m + j - i - (m - i) = j := by omega
  rw [e0] at G
  by_cases c1 : x < m - i ∨ m + j ≤ x
  · rw [rot_o _ _ _ _ _ (by omega) (by omega), rot_o _ _ _ _ _ (by omega) c1, G, if_neg (by omega), if_neg (by omega)]
  · by_cases c2 : m + j - i ≤ x
    · rw [rot_o _ _ _ _ _ (by omega) (by omega), rot_r _ _ _ _ _ (by omega), G, if_neg (by omega), if_pos (by omega)]
      congr 1; omega
    · rw [rot_l d _ _ _ _ (by omega)]
      by_cases c3 : x < m - i + (j - i)
      · rw [rot_l _ _ _ _ _ (by omega), G, if_neg (by omega), if_neg (by omega)]
      · rw [rot_r _ _ _ _ _ (by omega), G, if_pos (by omega)]
        congr 1; omega
theorem rot_even (d : Array α) (m i x : Nat) (him : i ≤ m) (hsz : m + i ≤ d.size) : (swR d (m - i) m i)[x]! = rot d (m - i) m (m + i) x := by
  have G := swR_at d (m - i) m i (by omega) hsz
  have e0 : m - (m - i) = i := by omega
  rw [e0] at G
  rw [G]
  by_cases c1 : x < m - i ∨ m + i ≤ x
  · rw [rot_o _ _ _ _ _ (by omega) c1, if_neg (by omega), if_neg (by omega)]
  · by_cases c2 : x < m
    · rw [rot_l _ _ _ _ _ (by omega), if_pos (by omega)]; congr 1; omega
    · rw [rot_r _ _ _ _ _ (by omega), if_neg (by omega), if_pos (by omega)]; congr 1; omega

/-- A row rotated. -/
def Rt (d d' : Array α) (a m b : Nat) : Prop := PermIn a b d d' ∧ ∀ x, d'[x]! = rot d a m b x

/-- In order between two places. -/
def Up (le : α → α → Prop) (d : Array α) (a b : Nat) : Prop := ∀ i j, a ≤ i → i < j → j < b → le d[i]! d[j]!
/-- All of one stretch before all of another one. -/
def Cr (le : α → α → Prop) (d : Array α) (a b c e : Nat) : Prop := ∀ i j, a ≤ i → i < b → c ≤ j → j < e → le d[i]! d[j]!

variable {le : α → α → Prop}
theorem Up.join {d : Array α} {a m b : Nat} (h1 : Up le d a m) (h2 : Up le d m b) (h : Cr le d a m m b) : Up le d a b := by
  intro i j hi hij hj
  by_cases c : j < m
  · exact h1 i j hi hij c
  · by_cases c2 : m ≤ i
    · exact h2 i j c2 hij hj
    · exact h i j hi (by omega) (by omega) hj
theorem PermIn.get {d d' : Array α} {a b : Nat} (h : PermIn a b d d') (hb : b ≤ d.size) (i : Nat) (hi : a ≤ i) (hi2 : i < b) : ∃ k, a ≤ k ∧ k < b ∧ d'[i]! = d[k]! :=
  permIn_all d d' a b (fun v => ∃ k, a ≤ k ∧ k < b ∧ v = d[k]!) hb h (fun k h1 h2 => ⟨k, h1, h2, rfl⟩) i hi hi2
theorem Cr.perm {d d' : Array α} {a b c e : Nat} (h : Cr le d a b c e) (hp : PermIn a b d d') (hbc : b ≤ c) (hs : e ≤ d.size) (hbe : b ≤ d.size) : Cr le d' a b c e := by
  intro i j h1 h2 h3 h4
  obtain ⟨k, k1, k2, ek⟩ := PermIn.get hp hbe i h1 h2
  rw [ek, hp.2.1 j (.inr (by omega))]
  exact h k j k1 k2 h3 h4
theorem Cr.perm2 {d d' : Array α} {a b c e : Nat} (h : Cr le d a b c e) (hp : PermIn c e d d') (hbc : b ≤ c) (hs : e ≤ d.size) : Cr le d' a b c e := by
  intro i j h1 h2 h3 h4
  obtain ⟨k, k1, k2, ek⟩ := PermIn.get hp hs j h3 h4
  rw [ek, hp.2.1 i (.inl (by omega))]
  exact h i k h1 h2 k1 k2
theorem Up.out {d d' : Array α} {a b c e : Nat} (h : Up le d a b) (hp : PermIn c e d d') (hbc : b ≤ c ∨ e ≤ a) : Up le d' a b := by
  intro i j h1 h2 h3
  rw [hp.2.1 i (by omega), hp.2.1 j (by omega)]
  exact h i j h1 h2 h3

/-- What a merge is given: two runs in order, and a question that tells which of a left one and a right one stands first. -/
structure Pre (le : α → α → Prop) (c : α → α → Bool) (d : Array α) (a m b : Nat) : Prop where
  l : Up le d a m
  r : Up le d m b
  q : ∀ i j, a ≤ i → i < m → m ≤ j → j < b → (c d[j]! d[i]! = true ↔ ¬ le d[i]! d[j]!)

/-- The pieces of a rotation, seen in the row before it. -/
theorem Rt.pieces {c : α → α → Bool} {d d' : Array α} {a m b s e mid : Nat} (hT : ∀ x y z, le x y → le y z → le x z) (htot : ∀ x y, le x y ∨ le y x)
    (P : Pre le c d a m b) (h : Rt d d' s m e) (h1 : a ≤ s) (h2 : s ≤ m) (h3 : m ≤ e) (h4 : e ≤ b) (hmid : mid = s + (e - m))
    (hA : ∀ i j, a ≤ i → i < s → e ≤ j → j < b → le d[i]! d[j]!) (hB : ∀ i j, s ≤ i → i < m → m ≤ j → j < e → ¬ le d[i]! d[j]!) :
    Pre le c d' a s mid ∧ Pre le c d' mid e b ∧ Cr le d' a mid mid b := by
  have v1 : ∀ x, a ≤ x → x < s → d'[x]! = d[x]! := fun x _ hx => by rw [h.2, rot_o _ _ _ _ _ ⟨h2, h3⟩ (by omega)]
  have v2 : ∀ x, s ≤ x → x < mid → d'[x]! = d[x + (m - s)]! := fun x _ hx => by rw [h.2, rot_l _ _ _ _ _ (by omega)]
  have v3 : ∀ x, mid ≤ x → x < e → d'[x]! = d[x - (e - m)]! := fun x _ hx => by rw [h.2, rot_r _ _ _ _ _ (by omega)]
  have v4 : ∀ x, e ≤ x → x < b → d'[x]! = d[x]! := fun x _ hx => by rw [h.2, rot_o _ _ _ _ _ ⟨h2, h3⟩ (by omega)]
  refine ⟨⟨?_, ?_, ?_⟩, ⟨?_, ?_, ?_⟩, ?_⟩
  · intro i j hi hij hj; rw [v1 i hi (by omega), v1 j (by omega) hj]; exact P.l i j hi hij (by omega)
  · intro i j hi hij hj; rw [v2 i hi (by omega), v2 j (by omega) hj]; exact P.r _ _ (by omega) (by omega) (by omega)
  · intro i j hi hi2 hj hj2; rw [v1 i hi (by omega), v2 j (by omega) hj2]; exact P.q _ _ (by omega) (by omega) (by omega) (by omega)
  · intro i j hi hij hj; rw [v3 i hi (by omega), v3 j (by omega) hj]; exact P.l _ _ (by omega) (by omega) (by omega)
  · intro i j hi hij hj; rw [v4 i hi (by omega), v4 j (by omega) hj]; exact P.r _ _ (by omega) (by omega) (by omega)
  · intro i j hi hi2 hj hj2; rw [v3 i hi (by omega), v4 j (by omega) hj2]; exact P.q _ _ (by omega) (by omega) (by omega) (by omega)
  · intro i j hi hi2 hj hj2
    by_cases ci : i < s
    · rw [v1 i hi ci]
      by_cases cj : j < e
      · rw [v3 j hj cj]; exact P.l _ _ (by omega) (by omega) (by omega)
      · rw [v4 j (by omega) hj2]; exact hA _ _ hi ci (by omega) hj2
    · rw [v2 i (by omega) hi2]
      by_cases cj : j < e
      · rw [v3 j hj cj]
        rcases htot d[i + (m - s)]! d[j - (e - m)]! with h | h
        · exact h
        · exact absurd h (hB _ _ (by omega) (by omega) (by omega) (by omega))
      · rw [v4 j (by omega) hj2]; exact P.r _ _ (by omega) (by omega) (by omega)

/-- Where a search by halves stands. -/
structure Bs (p : Nat → Bool) (lo hi i j : Nat) : Prop where
  li : lo ≤ i
  ij : i ≤ j
  jh : j ≤ hi
  y : ∀ x, lo ≤ x → x < i → p x = true
  n : ∀ x, j ≤ x → x < hi → p x = false
def Mono (p : Nat → Bool) (lo hi : Nat) : Prop := ∀ x y, lo ≤ x → x ≤ y → y < hi → p y = true → p x = true
theorem Bs.start (p : Nat → Bool) (lo hi : Nat) (h : lo ≤ hi) : Bs p lo hi lo hi := ⟨Nat.le_refl _, h, Nat.le_refl _, fun x h1 h2 => by omega, fun x h1 h2 => by omega⟩
theorem Bs.up {p : Nat → Bool} {lo hi i j h : Nat} (B : Bs p lo hi i j) (M : Mono p lo hi) (h1 : i ≤ h) (h2 : h < j) (hp : p h = true) : Bs p lo hi (h + 1) j :=
  ⟨by have := B.li; omega, by omega, B.jh, fun x hx hx2 => M x h hx (by omega) (by have := B.jh; omega) hp, B.n⟩
theorem Bs.down {p : Nat → Bool} {lo hi i j h : Nat} (B : Bs p lo hi i j) (M : Mono p lo hi) (h1 : i ≤ h) (h2 : h < j) (hp : p h = false) : Bs p lo hi i h :=
  ⟨B.li, by omega, by have := B.jh; omega, B.y, fun x hx hx2 => by
    cases e : p x with
    | false => rfl
    | true => exact absurd (M h x (by have := B.li; omega) hx hx2 e) (by rw [hp]; simp)⟩

def p1 (c : α → α → Bool) (d : Array α) (a x : Nat) : Bool := c d[x]! d[a]!
def p2 (c : α → α → Bool) (d : Array α) (m x : Nat) : Bool := !c d[m]! d[x]!
def p3 (c : α → α → Bool) (d : Array α) (P x : Nat) : Bool := !c d[P - x]! d[x]!

theorem up_le {d : Array α} {a b : Nat} (hR : ∀ x, le x x) (h : Up le d a b) (i j : Nat) (h1 : a ≤ i) (h2 : i ≤ j) (h3 : j < b) : le d[i]! d[j]! := by
  rcases Nat.lt_or_ge i j with h4 | h4
  · exact h i j h1 h4 h3
  · rw [show i = j by omega]; exact hR _

theorem rfl_of {α : Type} {le : α → α → Prop} (htot : ∀ x y, le x y ∨ le y x) (x : α) : le x x := by rcases htot x x with h | h <;> exact h
section
variable {c : α → α → Bool} {d d' : Array α} {a m b : Nat} (hT : ∀ x y z, le x y → le y z → le x z) (htot : ∀ x y, le x y ∨ le y x)
include hT htot
theorem mono1 (P : Pre le c d a m b) (ham : a < m) : Mono (p1 c d a) m b := by
  intro x y h1 h2 h3 h4
  unfold p1 at *
  rw [P.q a y (Nat.le_refl _) ham (by omega) h3] at h4
  rw [P.q a x (Nat.le_refl _) ham h1 (by omega)]
  exact fun h => h4 (hT _ _ _ h (up_le (rfl_of htot) P.r x y h1 h2 h3))
theorem mono2 (P : Pre le c d a m b) (hmb : m < b) : Mono (p2 c d m) a m := by
  intro x y h1 h2 h3 h4
  unfold p2 at *
  rw [Bool.not_eq_true', ← Bool.not_eq_true] at *
  rw [P.q y m (by omega) h3 (Nat.le_refl _) hmb] at h4
  rw [P.q x m h1 (by omega) (Nat.le_refl _) hmb]
  exact fun h => h4 fun h5 => h (hT _ _ _ (up_le (rfl_of htot) P.l x y h1 h2 h3) h5)
theorem mono3 (P : Pre le c d a m b) (Q lo hi : Nat) (h0 : a ≤ lo) (h1 : hi ≤ m) (hQ1 : m + hi ≤ Q + 1) (hQ2 : Q < b + lo) : Mono (p3 c d Q) lo hi := by
  intro x y hx hxy hy h4
  unfold p3 at *
  rw [Bool.not_eq_true', ← Bool.not_eq_true] at *
  rw [P.q y (Q - y) (by omega) (by omega) (by omega) (by omega)] at h4
  rw [P.q x (Q - x) (by omega) (by omega) (by omega) (by omega)]
  refine fun h => h4 fun h5 => h (hT _ _ _ (up_le (rfl_of htot) P.l x y (by omega) hxy (by omega)) (hT _ _ _ h5 ?_))
  exact up_le (rfl_of htot) P.r (Q - y) (Q - x) (by omega) (by omega) (by omega)

/-- One element left: put where it belongs. -/
theorem fin1 (P : Pre le c d a (a + 1) b) (i : Nat) (B : Bs (p1 c d a) (a + 1) b i i) (h : Rt d d' a (a + 1) i) : Up le d' a b := by
  have hi := B.li; have hb := B.jh
  obtain ⟨P1, P2, C⟩ := Rt.pieces (mid := i - 1) hT htot P h (Nat.le_refl _) (by omega) hi hb (by omega)
    (fun x y h1 h2 => by omega) (fun x y h1 h2 h3 h4 => by
      have := B.y y h3 h4
      unfold p1 at this
      rw [P.q a y (Nat.le_refl _) (by omega) h3 (by omega)] at this
      rw [show x = a by omega]; exact this)
  refine Up.join P1.r (Up.join P2.l P2.r ?_) C
  intro x y h1 h2 h3 h4
  rw [h.2, h.2, rot_r _ _ _ _ _ (by omega), rot_o _ _ _ _ _ (by omega) (.inr h3)]
  have := B.n y h3 h4
  unfold p1 at this
  rw [← Bool.not_eq_true, P.q a y (Nat.le_refl _) (by omega) (by omega) (by omega)] at this
  rw [show x - (i - (a + 1)) = a by omega]
  exact Classical.byContradiction this
theorem fin2 (P : Pre le c d a m (m + 1)) (i : Nat) (B : Bs (p2 c d m) a m i i) (h : Rt d d' i m (m + 1)) : Up le d' a (m + 1) := by
  have hi := B.li; have hb := B.jh
  obtain ⟨P1, P2, C⟩ := Rt.pieces (mid := i + 1) hT htot P h hi hb (by omega) (Nat.le_refl _) (by omega)
    (fun x y h1 h2 => by omega) (fun x y h1 h2 h3 h4 => by
      have := B.n x h1 h2
      unfold p2 at this
      rw [Bool.not_eq_false', P.q x m (by omega) h2 (Nat.le_refl _) (by omega)] at this
      rw [show y = m by omega]; exact this)
  refine Up.join (Up.join P1.l P1.r ?_) P2.l C
  intro x y h1 h2 h3 h4
  rw [h.2, h.2, rot_o _ _ _ _ _ (by omega) (.inl h2), rot_l _ _ _ _ _ (by omega)]
  have := B.y x h1 h2
  unfold p2 at this
  rw [Bool.not_eq_true', ← Bool.not_eq_true, P.q x m h1 (by omega) (Nat.le_refl _) (by omega)] at this
  rw [show y + (m - i) = m by omega]
  exact Classical.byContradiction this
/-- The middle is found: what the two halves are given. -/
theorem cut3 (P : Pre le c d a m b) (mid lo hi s : Nat) (h1 : a < m) (h2 : m < b) (hmid : mid = (a + b) / 2)
    (hlo : if m > mid then lo = mid + m - b ∧ hi = mid else lo = a ∧ hi = m) (B : Bs (p3 c d (mid + m - 1)) lo hi s s) (h : Rt d d' s m (mid + m - s)) :
    Pre le c d' a s mid ∧ Pre le c d' mid (mid + m - s) b ∧ Cr le d' a mid mid b := by
  have hl := B.li; have hh := B.jh
  have b1 : a ≤ lo ∧ hi ≤ m ∧ hi ≤ mid ∧ mid + m ≤ b + lo := by split at hlo <;> omega
  have hR := rfl_of htot
  refine Rt.pieces hT htot P h (by omega) (by omega) (by omega) (by omega) (by omega) ?_ ?_
  · intro x y x1 x2 y1 y2
    have hs : lo < s := by split at hlo <;> omega
    have hp := B.y (s - 1) (by omega) (by omega)
    unfold p3 at hp
    rw [Bool.not_eq_true', ← Bool.not_eq_true, P.q (s - 1) _ (by omega) (by omega) (by omega) (by omega)] at hp
    have hp' := Classical.byContradiction hp
    refine hT _ _ _ (up_le hR P.l x (s - 1) x1 (by omega) (by omega)) (hT _ _ _ hp' ?_)
    exact up_le hR P.r _ y (by omega) (by omega) y2
  · intro x y x1 x2 y1 y2 hle
    have hs : s < hi := by split at hlo <;> omega
    have hp := B.n s (Nat.le_refl _) hs
    unfold p3 at hp
    rw [Bool.not_eq_false', P.q s _ (by omega) (by omega) (by omega) (by omega)] at hp
    refine hp (hT _ _ _ (up_le hR P.l s x (by omega) x1 x2) (hT _ _ _ hle ?_))
    exact up_le hR P.r y _ y1 (by omega) (by omega)
end
theorem Rt.none {d : Array α} {s m e : Nat} (h : s = m ∨ m = e) (hs : s ≤ m) (he : m ≤ e) : Rt d d s m e := by
  refine ⟨permIn_refl _ _ _, fun x => ?_⟩
  unfold rot
  split
  · congr 1; omega
  · split
    · congr 1; omega
    · rfl
theorem Rt.up {d dk : Array α} {a k : Nat} (h : Rt d dk a (a + 1) (k + 1)) (hk : a ≤ k) (hs : k + 1 < d.size) : Rt d (swp dk k (k + 1)) a (a + 1) (k + 1 + 1) := by
  have hz := h.1.1
  refine ⟨permIn_trans _ _ _ _ _ (permIn_mono _ _ a (k + 1) a (k + 1 + 1) (Nat.le_refl _) (by omega) (by omega) h.1) (swp_permIn _ _ _ _ _ hk (by omega) (by omega) (by omega) (by omega)), fun x => ?_⟩
  rw [swp_at dk (by omega) (by omega), h.2, h.2, h.2]
  unfold rot
  (repeat' split) <;> first | (exfalso; omega) | rfl | (congr 1; omega)
theorem Rt.down {d dk : Array α} {m k : Nat} (h : Rt d dk (k + 1) m (m + 1)) (hk : k + 1 ≤ m) (hs : m < d.size) : Rt d (swp dk (k + 1) k) k m (m + 1) := by
  have hz := h.1.1
  refine ⟨permIn_trans _ _ _ _ _ (permIn_mono _ _ (k + 1) (m + 1) k (m + 1) (by omega) (Nat.le_refl _) (by omega) h.1) (swp_permIn _ _ _ _ _ (by omega) (by omega) (by omega) (by omega) (by omega)), fun x => ?_⟩
  rw [swp_at dk (by omega) (by omega), h.2, h.2, h.2]
  unfold rot
  (repeat' split) <;> first | (exfalso; omega) | rfl | (congr 1; omega)
/-- Both halves merged. -/
theorem both {d d' d1 d2 : Array α} {a b s e mid : Nat} (h1 : a ≤ s) (h2 : s ≤ mid) (h3 : mid ≤ e) (h4 : e ≤ b) (hb : b ≤ d.size) (hse : PermIn a b d d') (C : Cr le d' a mid mid b)
    (p1 : PermIn a mid d' d1) (u1 : Up le d1 a mid) (p2 : PermIn mid b d1 d2) (u2 : Up le d2 mid b) : PermIn a b d d2 ∧ Up le d2 a b := by
  have z1 := hse.1; have z2 := p1.1; have z3 := p2.1
  refine ⟨permIn_trans _ _ _ _ _ hse (permIn_trans _ _ _ _ _ (permIn_mono _ _ a mid a b (Nat.le_refl _) (by omega) (by omega) p1) (permIn_mono _ _ mid b a b (by omega) (Nat.le_refl _) (by omega) p2)), ?_⟩
  exact Up.join (Up.out u1 p2 (.inl (Nat.le_refl _))) u2 ((C.perm p1 (Nat.le_refl _) (by omega) (by omega)).perm2 p2 (Nat.le_refl _) (by omega))
theorem Pre.out {c : α → α → Bool} {d d' : Array α} {a m b x y : Nat} (P : Pre le c d a m b) (hp : PermIn x y d d') (h : y ≤ a) (ham : a ≤ m) : Pre le c d' a m b := by
  refine ⟨Up.out P.l hp (.inr h), Up.out P.r hp (.inr (Nat.le_trans h ham)), fun i j h1 h2 h3 h4 => ?_⟩
  rw [hp.2.1 i (by omega), hp.2.1 j (by omega)]; exact P.q i j h1 h2 h3 h4
end Go.Proofs.Ytpndfmlkceplcaa.Gm
namespace Go.Proofs.Ytpndfmlkceplcaa
open Go.ChangeShapes Go.WideShapes Go.ChangeAt Go.RowKit Go.Sort Go.Shelf Go.Lib
set_option linter.unusedVariables false

/-- A place's value: a number below n. -/
def encM (n x : Nat) : Value := .int .i64 ((x % n : Nat) : Int)

/-- What an exchange of two places asks and leaves. -/
theorem swap_facts {n : Nat} {w0 W : World} {blk off : Nat} {d0 dk : Array Nat} (S : SW (encM n) w0 blk off dk W) (R : Row1 (encM n) w0 blk off d0) (hs : dk.size = d0.size) (i j : Nat) (hi : i < dk.size) (hj : j < dk.size) :
    ∃ x y : Int, W.cell? ⟨blk, off + i, none⟩ = some (.int .i64 x) ∧ W.cell? ⟨blk, off + j, none⟩ = some (.int .i64 y) ∧ W.frozen? ⟨blk, off + i, none⟩ = false ∧ W.frozen? ⟨blk, off + j, none⟩ = false ∧
      (∃ u, (W.setCell ⟨blk, off + i, none⟩ (.int .i64 y)).cell? ⟨blk, off + j, none⟩ = some u) ∧
      SW (encM n) w0 blk off (swp dk i j) ((W.setCell ⟨blk, off + i, none⟩ (.int .i64 y)).setCell ⟨blk, off + j, none⟩ (.int .i64 x)).drew :=
  ⟨_, _, S.c1 R hs i hi, S.c1 R hs j hj, S.f1 R hs i hi, S.f1 R hs j hj, S.c2 R hs i j hi hj _, S.swapped R i j hi hj⟩

set_option maxHeartbeats 1600000 in
set_option maxRecDepth 1000000 in
theorem swapRange_any (n : Nat) (g : Nat) (cb : Array Value) (blk off cap a b k : Nat) (d0 d : Array Nat) (w0 w : World) (R : Row1 (encM n) w0 blk off d0) (hs : d.size = d0.size) (S : SW (encM n) w0 blk off d w) (h1 : a + k ≤ b) (h2 : b + k ≤ d.size) (hsz : d.size ≤ 1000) :
    Calls Try.prog 215 #[.slice (some ⟨blk, off, none⟩) d.size cap, .int .i64 a, .int .i64 b, .int .i64 k, .func (.func g) #[] cb] w fun e w' => e = .returned (.tuple #[]) ∧ SW (encM n) w0 blk off (Gm.swR d a b k) w' := by
  have S0 := Lib.hid S
  obtain ⟨D, hD⟩ : ∃ D, D = d.size := ⟨_, rfl⟩
  have HD := Lib.hid hD
  rw [← hD] at hsz h2 ⊢
  clear S hD
  go_enter Try.func215, Try.ntmps215
  go_wp2
  go_loopw [10] (fun v wr => ∃ i : Nat, v = .int .i64 (i : Int) ∧ i ≤ k ∧ Hid (SW (encM n) w0 blk off (Gm.swR d a b i) wr)) (fun v _ => k - (intOf v).toNat)
  case atStart => exact ⟨0, rfl, Nat.zero_le _, S0⟩
  case round =>
    clear S0
    obtain ⟨i, rfl, hi, S1⟩ := hrel
    by_cases hlt : i < k
    · have hlti : (i : Int) < (k : Int) := by omega
      have hz : (Gm.swR d a b i).size = D := by rw [Gm.swR_size]; exact HD.out.symm
      obtain ⟨x, y, c1, c2, f1, f2, ⟨u, c3⟩, S2⟩ := swap_facts S1.out R (hz.trans (HD.out.trans hs)) (a + i) (b + i) (by omega) (by omega)
      have S3 : Hid (SW (encM n) w0 blk off (Gm.swR d a b (i + 1)) _) := S2
      obtain ⟨p, hp⟩ : ∃ p, p = a + i := ⟨_, rfl⟩
      obtain ⟨q, hq⟩ : ∃ q, q = b + i := ⟨_, rfl⟩
      rw [← hp] at c1 c3 f1 S3
      rw [← hq] at c2 c3 f2 S3
      have e1 : ((a : Int) + (i : Int)).toNat = p := by omega
      have e2 : (0 : Int) ≤ (a : Int) + (i : Int) := by omega
      have e3 : (a : Int) + (i : Int) < (D : Int) := by omega
      have e4 : IntKind.i64.wrap ((a : Int) + (i : Int)) = (a : Int) + (i : Int) := by rw [IntKind.wrap_i64]; omega
      have g1 : ((b : Int) + (i : Int)).toNat = q := by omega
      have g2 : (0 : Int) ≤ (b : Int) + (i : Int) := by omega
      have g3 : (b : Int) + (i : Int) < (D : Int) := by omega
      have g4 : IntKind.i64.wrap ((b : Int) + (i : Int)) = (b : Int) + (i : Int) := by rw [IntKind.wrap_i64]; omega
      clear S1 S2 hp hq hz
      go_wp2_with fail
      go_region
      go_wp2
      go_roundw
      case rel => exact ⟨i + 1, by go_num, by omega, S3⟩
      case measure => simp [intOf]; omega
    · obtain rfl : i = k := by omega
      go_wp2
      go_end0
      exact ⟨rfl, S1.out⟩
end Go.Proofs.Ytpndfmlkceplcaa
namespace Go.Proofs.Ytpndfmlkceplcaa
open Go.ChangeShapes Go.WideShapes Go.ChangeAt Go.RowKit Go.Sort Go.Shelf Go.Lib
set_option linter.unusedVariables false

set_option maxHeartbeats 1600000 in
set_option maxRecDepth 1000000 in
theorem rotate_any (n : Nat) (g : Nat) (cb : Array Value) (blk off cap a m b : Nat) (d0 d : Array Nat) (w0 w : World) (R : Row1 (encM n) w0 blk off d0) (hs : d.size = d0.size) (S : SW (encM n) w0 blk off d w) (h1 : a < m) (h2 : m < b) (hb : b ≤ d.size) (hsz : d.size ≤ 1000) :
    Calls Try.prog 199 #[.slice (some ⟨blk, off, none⟩) d.size cap, .int .i64 a, .int .i64 m, .int .i64 b, .func (.func g) #[] cb] w fun e w' => e = .returned (.tuple #[]) ∧ ∃ d', Gm.Rt d d' a m b ∧ SW (encM n) w0 blk off d' w' := by
  have S0 := Lib.hid S
  obtain ⟨D, hD⟩ : ∃ D, D = d.size := ⟨_, rfl⟩
  have HD := Lib.hid hD
  rw [← hD] at hsz hb ⊢
  have HSW : Hid (∀ (p q k : Nat) (dk : Array Nat) (W : World), dk.size = D → SW (encM n) w0 blk off dk W → p + k ≤ q → q + k ≤ D → Calls Try.prog 215 #[.slice (some ⟨blk, off, none⟩) D cap, .int .i64 p, .int .i64 q, .int .i64 k, .func (.func g) #[] cb] W fun e w' => e = .returned (.tuple #[]) ∧ SW (encM n) w0 blk off (Gm.swR dk p q k) w') := by
    intro p q k dk W hk hS hp hq
    have := swapRange_any n g cb blk off cap p q k d0 dk w0 W R (hk.trans (hD.trans hs)) hS hp (by omega) (by omega)
    rw [hk] at this
    exact this
  clear S hD
  obtain ⟨i0, hi0⟩ : ∃ i0, i0 = m - a := ⟨_, rfl⟩
  obtain ⟨j0, hj0⟩ : ∃ j0, j0 = b - m := ⟨_, rfl⟩
  have z1 : (m : Int) - (a : Int) = (i0 : Int) := by omega
  have z2 : (b : Int) - (m : Int) = (j0 : Int) := by omega
  go_enter Try.func199, Try.ntmps199
  go_wp2
  go_loopw [10, 11] (fun u v wr => ∃ (i j : Nat) (dk : Array Nat), u = .int .i64 (i : Int) ∧ v = .int .i64 (j : Int) ∧ 0 < i ∧ 0 < j ∧ i ≤ i0 ∧ j ≤ j0 ∧ Hid (dk.size = D) ∧ Hid (PermIn a b d dk) ∧ Hid (∀ x, Gm.rot dk (m - i) m (m + j) x = Gm.rot d a m b x) ∧ Hid (SW (encM n) w0 blk off dk wr)) (fun u v _ => (intOf u).toNat + (intOf v).toNat)
  case atStart => exact ⟨i0, j0, d, by first | rfl | exact congrArg _ z1 | (congr 1; omega), by first | rfl | exact congrArg _ z2 | (congr 1; omega), by omega, by omega, Nat.le_refl _, Nat.le_refl _, HD.out.symm, permIn_refl _ _ _, fun x => by rw [show m - i0 = a by omega, show m + j0 = b by omega], S0⟩
  case round =>
    clear S0
    obtain ⟨i, j, dk, rfl, rfl, hi, hj, hi0', hj0', hz, hp, hr, S1⟩ := hrel
    rcases Nat.lt_trichotomy i j with hlt | heq | hgt
    · have hne : ¬ (i : Int) = (j : Int) := by omega
      have hng : ¬ (j : Int) < (i : Int) := by omega
      have hC := HSW.out (m - i) (m + j - i) i dk wr hz.out S1.out (by omega) (by omega)
      have e1 : ((m - i : Nat) : Int) = (m : Int) - (i : Int) := by omega
      have e2 : ((m + j - i : Nat) : Int) = (m : Int) + (j : Int) - (i : Int) := by omega
      rw [e1, e2] at hC
      have HC := Lib.hid hC
      have hz2 : Hid ((Gm.swR dk (m - i) (m + j - i) i).size = D) := (Gm.swR_size _ _ _ _).trans hz.out
      have hp2 : Hid (PermIn a b d (Gm.swR dk (m - i) (m + j - i) i)) := permIn_trans _ _ _ _ _ hp.out (Gm.swR_perm _ _ _ _ _ _ (by omega) (by omega) (by omega) (by rw [hz.out]; omega))
      have hr2 : Hid (∀ x, Gm.rot (Gm.swR dk (m - i) (m + j - i) i) (m - i) m (m + (j - i)) x = Gm.rot d a m b x) := fun x => (Gm.rot_right dk m i j x hlt (by omega) (by rw [hz.out]; omega)).trans (hr.out x)
      clear hC e1 e2 S1 hz hp hr
      go_wp2_with (go_at_call 215; refine HC.out.mono ?_; rintro e w2 ⟨rfl, hS2⟩; have S2 := Lib.hid hS2; clear hS2)
      go_roundw
      case rel => exact ⟨i, j - i, _, rfl, by go_num, hi, by omega, hi0', by omega, hz2, hp2, hr2, S2⟩
      case measure => simp [intOf]; omega
    · subst heq
      have hC := HSW.out (m - i) m i dk wr hz.out S1.out (by omega) (by omega)
      have e1 : ((m - i : Nat) : Int) = (m : Int) - (i : Int) := by omega
      rw [e1] at hC
      have HC := Lib.hid hC
      have hfin : Hid (Gm.Rt d (Gm.swR dk (m - i) m i) a m b) := ⟨permIn_trans _ _ _ _ _ hp.out (Gm.swR_perm _ _ _ _ _ _ (by omega) (by omega) (by omega) (by rw [hz.out]; omega)), fun x => (Gm.rot_even dk m i x (by omega) (by rw [hz.out]; omega)).trans (hr.out x)⟩
      clear hC e1 S1 hz hp hr
      go_wp2_with (go_at_call 215; refine HC.out.mono ?_; rintro e w2 ⟨rfl, hS2⟩; have S2 := Lib.hid hS2; clear hS2)
      go_end0
      exact ⟨rfl, _, hfin.out, S2.out⟩
    · have hne : ¬ (i : Int) = (j : Int) := by omega
      have hng : (j : Int) < (i : Int) := by omega
      have hC := HSW.out (m - i) m j dk wr hz.out S1.out (by omega) (by omega)
      have e1 : ((m - i : Nat) : Int) = (m : Int) - (i : Int) := by omega
      rw [e1] at hC
      have HC := Lib.hid hC
      have hz2 : Hid ((Gm.swR dk (m - i) m j).size = D) := (Gm.swR_size _ _ _ _).trans hz.out
      have hp2 : Hid (PermIn a b d (Gm.swR dk (m - i) m j)) := permIn_trans _ _ _ _ _ hp.out (Gm.swR_perm _ _ _ _ _ _ (by omega) (by omega) (by omega) (by rw [hz.out]; omega))
      have hr2 : Hid (∀ x, Gm.rot (Gm.swR dk (m - i) m j) (m - (i - j)) m (m + j) x = Gm.rot d a m b x) := fun x => (Gm.rot_left dk m i j x hgt (by omega) (by rw [hz.out]; omega)).trans (hr.out x)
      clear hC e1 S1 hz hp hr
      go_wp2_with (go_at_call 215; refine HC.out.mono ?_; rintro e w2 ⟨rfl, hS2⟩; have S2 := Lib.hid hS2; clear hS2)
      go_roundw
      case rel => exact ⟨i - j, j, _, by go_num, rfl, by omega, hj, by omega, hj0', hz2, hp2, hr2, S2⟩
      case measure => simp [intOf]; omega
end Go.Proofs.Ytpndfmlkceplcaa
namespace Go.Proofs.Ytpndfmlkceplcaa
open Go.ChangeShapes Go.WideShapes Go.ChangeAt Go.RowKit Go.Sort Go.Shelf Go.Lib
set_option linter.unusedVariables false

/-- The question asked of two places. -/
theorem cmp_facts {n g : Nat} {cb : Array Value} {cf : Nat → Nat → Int} {w0 W : World} {blk off : Nat} {d0 dk : Array Nat} (hC : CmpLays1 Try.prog g cb (encM n) cf blk off d0.size w0) (S : SW (encM n) w0 blk off dk W) (R : Row1 (encM n) w0 blk off d0) (hs : dk.size = d0.size) (i j : Nat) (hi : i < dk.size) (hj : j < dk.size) :
    ∃ x y : Int, (∀ q os, (grow (W.drewN q) os).cell? ⟨blk, off + i, none⟩ = some (.int .i64 x)) ∧ (∀ q os, (grow (W.drewN q) os).cell? ⟨blk, off + j, none⟩ = some (.int .i64 y)) ∧
      (∀ q os, Calls Try.prog g (#[.int .i64 x, .int .i64 y] ++ cb) (grow (W.drewN q) os) fun e w' => e = .returned (.int .i64 (cf dk[i]! dk[j]!)) ∧ ∃ q' os', w' = grow ((grow (W.drewN q) os).drewN q') os') :=
  ⟨_, _, S.cl R hs i hi, S.cl R hs j hj, S.cmp hC hs _ _⟩
def cq (cf : Nat → Nat → Int) (y x : Nat) : Bool := decide (cf y x < 0)

set_option maxHeartbeats 3000000 in
set_option maxRecDepth 1000000 in
theorem symMerge_one (n : Nat) (g : Nat) (cb : Array Value) (cf : Nat → Nat → Int) (le : Nat → Nat → Prop) (hT : ∀ x y z, le x y → le y z → le x z) (htot : ∀ x y, le x y ∨ le y x) (eg : ∀ args w, (callFunc g args).run Try.prog w = .ok (.enter g args) w)
    (blk off cap a m b : Nat) (d0 d : Array Nat) (w0 w : World) (hcmp : CmpLays1 Try.prog g cb (encM n) cf blk off d0.size w0) (R : Row1 (encM n) w0 blk off d0) (hs : d.size = d0.size) (S : SW (encM n) w0 blk off d w) (hm : m = a + 1) (h2 : m < b) (hb : b ≤ d.size) (hsz : d.size ≤ 1000) (P : Gm.Pre le (cq cf) d a m b) :
    Calls Try.prog 182 #[.slice (some ⟨blk, off, none⟩) d.size cap, .int .i64 a, .int .i64 m, .int .i64 b, .func (.func g) #[] cb] w fun e w' => e = .returned (.tuple #[]) ∧ ∃ d', PermIn a b d d' ∧ Gm.Up le d' a b ∧ SW (encM n) w0 blk off d' w' := by
  have S0 := Lib.hid S
  have HP := Lib.hid P
  have HC := Lib.hid hcmp
  obtain ⟨D, hD⟩ : ∃ D, D = d.size := ⟨_, rfl⟩
  have HD := Lib.hid hD
  have M := Lib.hid (Gm.mono1 hT htot P (by omega))
  rw [← hD] at hsz hb ⊢
  have mixed : Try.prog.follows .mixedOrders = true := by kernel_rfl
  have hm1 : (m : Int) - (a : Int) = 1 := by omega
  have ham : a < m := by omega
  have HM := Lib.hid hm
  clear hm
  clear S hD P hcmp
  go_enter Try.func182, Try.ntmps182
  go_wp2
  go_loopw [10, 11] (fun u v wr => ∃ i j : Nat, u = .int .i64 (i : Int) ∧ v = .int .i64 (j : Int) ∧ Hid (Gm.Bs (Gm.p1 (cq cf) d a) m b i j) ∧ Hid (SW (encM n) w0 blk off d wr)) (fun u v _ => (intOf v).toNat - (intOf u).toNat)
  case atStart => exact ⟨m, b, rfl, rfl, Gm.Bs.start _ _ _ (by omega), S0⟩
  case round =>
    clear S0
    obtain ⟨i, j, rfl, rfl, B, S1⟩ := hrel
    have b1 := B.out.li
    have b2 := B.out.ij
    have b3 := B.out.jh
    by_cases hlt : i < j
    · have hlti : (i : Int) < (j : Int) := by omega
      obtain ⟨h, hh⟩ : ∃ h, h = (i + j) / 2 := ⟨_, rfl⟩
      have q1 : IntKind.u64.wrap ((i : Int) + (j : Int)) = (i : Int) + (j : Int) := by rw [IntKind.wrap_u64]; omega
      have q2 : IntKind.i64.wrap ((i : Int) + (j : Int)) = (i : Int) + (j : Int) := by rw [IntKind.wrap_i64]; omega
      have q3 : ((i : Int) + (j : Int)) / 2 = (h : Int) := by omega
      obtain ⟨x, y, l1, l2, hc⟩ := cmp_facts HC.out S1.out R (HD.out.symm.trans (HD.out.trans hs)) h a (by have := HD.out; omega) (by have := HD.out; omega)
      have hH := Lib.hid hh
      clear hh
      have hQ : Hid (Gm.p1 (cq cf) d a h = decide (cf d[h]! d[a]! < 0)) := rfl
      have hu := fun hp => Lib.hid (B.out.up M.out (h := h) (by omega) (by omega) hp)
      have hd := fun hp => Lib.hid (B.out.down M.out (h := h) (by omega) (by omega) hp)
      have HU := Lib.hid hu
      have HDn := Lib.hid hd
      clear hu hd B
      have ehi : ((h : Nat) : Int).toNat = h := by omega
      have eai : ((a : Nat) : Int).toNat = a := by omega
      have bh : (h : Int) < (D : Int) := by omega
      have ba : (a : Int) < (D : Int) := by omega
      by_cases hv : cf d[h]! d[a]! < 0
      · have HV := Lib.hid hv
        obtain ⟨z, hz⟩ : ∃ z, z = cf d[h]! d[a]! := ⟨_, rfl⟩
        rw [← hz] at hc hv hQ
        have hdv : decide (z < 0) = true := decide_eq_true hv
        have B2 := HU.out (hQ.out.trans hdv)
        clear hz hQ HU HDn
        go_wp2_with fail
        go_quiet_grown (first | (go_at_fn g; refine Calls.grown_of (hc _ _)))
        have S2 : Hid (SW (encM n) w0 blk off d (grow (wr.drewN nq) osq)) := S1.out.grown nq osq
        clear l1 l2 hc S1
        generalize grow (wr.drewN nq) osq = w2 at S2 ⊢
        go_wp2
        go_roundw
        case rel =>
          exact ⟨h + 1, j, by go_num, rfl, B2, S2⟩
        case measure => simp [intOf]; omega
      · obtain ⟨z, hz⟩ : ∃ z, z = cf d[h]! d[a]! := ⟨_, rfl⟩
        rw [← hz] at hc hv hQ
        have hdv : decide (z < 0) = false := decide_eq_false hv
        have B2 := HDn.out (hQ.out.trans hdv)
        clear hz hQ HU HDn
        go_wp2_with fail
        go_quiet_grown (first | (go_at_fn g; refine Calls.grown_of (hc _ _)))
        have S2 : Hid (SW (encM n) w0 blk off d (grow (wr.drewN nq) osq)) := S1.out.grown nq osq
        clear l1 l2 hc S1
        generalize grow (wr.drewN nq) osq = w2 at S2 ⊢
        go_wp2
        go_roundw
        case rel => exact ⟨i, h, rfl, by go_num, B2, S2⟩
        case measure => simp [intOf]; omega
    · obtain rfl : i = j := by omega
      have HB : Hid (Gm.Bs (Gm.p1 (cq cf) d a) (a + 1) b i i) := by rw [← HM.out]; exact B.out
      have hmi := B.out.li
      clear B M
      have R0 : Hid (Gm.Rt d d a (a + 1) (a + 1)) := Gm.Rt.none (.inr rfl) (by omega) (by omega)
      have hi1 : ((i : Int) - 1).toNat = i - 1 := by omega
      go_wp2
      go_loopw [13] (fun u wr => ∃ (k : Nat) (dk : Array Nat), u = .int .i64 (k : Int) ∧ a ≤ k ∧ k + 1 ≤ i ∧ Hid (dk.size = D) ∧ Hid (Gm.Rt d dk a (a + 1) (k + 1)) ∧ Hid (SW (encM n) w0 blk off dk wr)) (fun u _ => i - (intOf u).toNat)
      case atStart => exact ⟨a, d, rfl, Nat.le_refl _, by omega, HD.out.symm, R0, S1⟩
      case round =>
        clear S1 R0
        obtain ⟨k, dk, rfl, hak, hki, hz, hR, S1⟩ := hrel
        by_cases hlt2 : k + 1 < i
        · have hlt3 : (k : Int) < (i : Int) - 1 := by omega
          obtain ⟨x, y, c1, c2, f1, f2, ⟨u, c3⟩, S2⟩ := swap_facts S1.out R (hz.out.trans (HD.out.trans hs)) k (k + 1) (by have := hz.out; omega) (by have := hz.out; omega)
          have hR2 : Hid (Gm.Rt d (swp dk k (k + 1)) a (a + 1) (k + 1 + 1)) := hR.out.up hak (by have := HD.out; omega)
          have hz2 : Hid ((swp dk k (k + 1)).size = D) := (size_swp _ _ _).trans hz.out
          have S3 : Hid (SW (encM n) w0 blk off (swp dk k (k + 1)) _) := S2
          obtain ⟨p, hp⟩ : ∃ p, p = k + 1 := ⟨_, rfl⟩
          rw [← hp] at c2 c3 f2 S3 hz2 hR2
          have e1 : ((k : Int) + 1).toNat = p := by omega
          have e2 : (0 : Int) ≤ (k : Int) + 1 := by omega
          have e3 : (k : Int) + 1 < (D : Int) := by omega
          have e4 : IntKind.i64.wrap ((k : Int) + 1) = (k : Int) + 1 := by rw [IntKind.wrap_i64]; omega
          have e5 : (k : Int) < (D : Int) := by omega
          have HPk := Lib.hid hp
          clear S1 S2 hp hR hz
          go_wp2_with fail
          go_region
          go_wp2
          go_roundw
          case rel => exact ⟨p, _, by first | (congr 1; omega) | (have := HPk.out; congr 1; omega), by have := HPk.out; omega, by have := HPk.out; omega, hz2, (by have := HPk.out; rw [this] at hR2 ⊢; exact hR2), S3⟩
          case measure => have := HPk.out; simp [intOf]; omega
        · obtain rfl : i = k + 1 := by omega
          have hfin := Gm.fin1 hT htot (by have := HP.out; rw [HM.out] at this; exact this) (k + 1) HB.out hR.out
          have hperm : PermIn a b d dk := permIn_mono _ _ a (k + 1) a b (Nat.le_refl _) (by have := HB.out.jh; omega) (by have := HD.out; omega) hR.out.1
          have HF := Lib.hid (And.intro hperm hfin)
          have hge : ¬ (k : Int) < ((k + 1 : Nat) : Int) - 1 := by omega
          clear hfin hperm
          go_wp2
          (try simp only [Exit.inBlock, Exit.then])
          refine bodyPost_ret (results_none rfl _ _ _) rfl ?_
          exact ⟨rfl, dk, HF.out.1, HF.out.2, S1.out⟩
end Go.Proofs.Ytpndfmlkceplcaa
namespace Go.Proofs.Ytpndfmlkceplcaa
open Go.ChangeShapes Go.WideShapes Go.ChangeAt Go.RowKit Go.Sort Go.Shelf Go.Lib
set_option linter.unusedVariables false

set_option maxHeartbeats 3000000 in
set_option maxRecDepth 1000000 in
theorem symMerge_last (n : Nat) (g : Nat) (cb : Array Value) (cf : Nat → Nat → Int) (le : Nat → Nat → Prop) (hT : ∀ x y z, le x y → le y z → le x z) (htot : ∀ x y, le x y ∨ le y x) (eg : ∀ args w, (callFunc g args).run Try.prog w = .ok (.enter g args) w)
    (blk off cap a m b : Nat) (d0 d : Array Nat) (w0 w : World) (hcmp : CmpLays1 Try.prog g cb (encM n) cf blk off d0.size w0) (R : Row1 (encM n) w0 blk off d0) (hs : d.size = d0.size) (S : SW (encM n) w0 blk off d w) (hm : b = m + 1) (h2 : a + 1 < m) (hb : b ≤ d.size) (hsz : d.size ≤ 1000) (P : Gm.Pre le (cq cf) d a m b) :
    Calls Try.prog 182 #[.slice (some ⟨blk, off, none⟩) d.size cap, .int .i64 a, .int .i64 m, .int .i64 b, .func (.func g) #[] cb] w fun e w' => e = .returned (.tuple #[]) ∧ ∃ d', PermIn a b d d' ∧ Gm.Up le d' a b ∧ SW (encM n) w0 blk off d' w' := by
  have S0 := Lib.hid S
  have HP := Lib.hid P
  have HC := Lib.hid hcmp
  obtain ⟨D, hD⟩ : ∃ D, D = d.size := ⟨_, rfl⟩
  have HD := Lib.hid hD
  have M := Lib.hid (Gm.mono2 hT htot P (by omega))
  rw [← hD] at hsz hb ⊢
  have mixed : Try.prog.follows .mixedOrders = true := by kernel_rfl
  have hm1 : (b : Int) - (m : Int) = 1 := by omega
  have hm0 : ¬ (m : Int) - (a : Int) = 1 := by omega
  have hm2 : ((m : Int) - (a : Int) == 1) = false := by rw [beq_eq_false_iff_ne]; omega
  have hmb : m < b := by omega
  have HM := Lib.hid hm
  clear hm
  clear S hD P hcmp
  go_enter Try.func182, Try.ntmps182
  go_wp2
  go_loopw [14, 15] (fun u v wr => ∃ i j : Nat, u = .int .i64 (i : Int) ∧ v = .int .i64 (j : Int) ∧ Hid (Gm.Bs (Gm.p2 (cq cf) d m) a m i j) ∧ Hid (SW (encM n) w0 blk off d wr)) (fun u v _ => (intOf v).toNat - (intOf u).toNat)
  case atStart => exact ⟨a, m, rfl, rfl, Gm.Bs.start _ _ _ (by omega), S0⟩
  case round =>
    clear S0
    obtain ⟨i, j, rfl, rfl, B, S1⟩ := hrel
    have b1 := B.out.li
    have b2 := B.out.ij
    have b3 := B.out.jh
    by_cases hlt : i < j
    · have hlti : (i : Int) < (j : Int) := by omega
      obtain ⟨h, hh⟩ : ∃ h, h = (i + j) / 2 := ⟨_, rfl⟩
      have q1 : IntKind.u64.wrap ((i : Int) + (j : Int)) = (i : Int) + (j : Int) := by rw [IntKind.wrap_u64]; omega
      have q2 : IntKind.i64.wrap ((i : Int) + (j : Int)) = (i : Int) + (j : Int) := by rw [IntKind.wrap_i64]; omega
      have q3 : ((i : Int) + (j : Int)) / 2 = (h : Int) := by omega
      obtain ⟨x, y, l1, l2, hc⟩ := cmp_facts HC.out S1.out R (HD.out.symm.trans (HD.out.trans hs)) m h (by have := HD.out; omega) (by have := HD.out; omega)
      have hH := Lib.hid hh
      clear hh
      have hQ : Hid (Gm.p2 (cq cf) d m h = !decide (cf d[m]! d[h]! < 0)) := rfl
      have hu := fun hp => Lib.hid (B.out.up M.out (h := h) (by omega) (by omega) hp)
      have hd := fun hp => Lib.hid (B.out.down M.out (h := h) (by omega) (by omega) hp)
      have HU := Lib.hid hu
      have HDn := Lib.hid hd
      clear hu hd B
      have ehi : ((h : Nat) : Int).toNat = h := by omega
      have eai : ((m : Nat) : Int).toNat = m := by omega
      have bh : (h : Int) < (D : Int) := by omega
      have ba : (m : Int) < (D : Int) := by omega
      by_cases hv : cf d[m]! d[h]! < 0
      · have HV := Lib.hid hv
        obtain ⟨z, hz⟩ : ∃ z, z = cf d[m]! d[h]! := ⟨_, rfl⟩
        rw [← hz] at hc hv hQ
        have hdv : decide (z < 0) = true := decide_eq_true hv
        have B2 := HDn.out (hQ.out.trans (by rw [hdv]; rfl))
        clear hz hQ HU HDn
        go_wp2_with fail
        go_quiet_grown (first | (go_at_fn g; refine Calls.grown_of (hc _ _)))
        have S2 : Hid (SW (encM n) w0 blk off d (grow (wr.drewN nq) osq)) := S1.out.grown nq osq
        clear l1 l2 hc S1
        generalize grow (wr.drewN nq) osq = w2 at S2 ⊢
        go_wp2
        go_roundw
        case rel =>
          exact ⟨i, h, rfl, by go_num, B2, S2⟩
        case measure => simp [intOf]; omega
      · obtain ⟨z, hz⟩ : ∃ z, z = cf d[m]! d[h]! := ⟨_, rfl⟩
        rw [← hz] at hc hv hQ
        have hdv : decide (z < 0) = false := decide_eq_false hv
        have B2 := HU.out (hQ.out.trans (by rw [hdv]; rfl))
        clear hz hQ HU HDn
        go_wp2_with fail
        go_quiet_grown (first | (go_at_fn g; refine Calls.grown_of (hc _ _)))
        have S2 : Hid (SW (encM n) w0 blk off d (grow (wr.drewN nq) osq)) := S1.out.grown nq osq
        clear l1 l2 hc S1
        generalize grow (wr.drewN nq) osq = w2 at S2 ⊢
        go_wp2
        go_roundw
        case rel => exact ⟨h + 1, j, by go_num, rfl, B2, S2⟩
        case measure => simp [intOf]; omega
    · obtain rfl : i = j := by omega
      have HB : Hid (Gm.Bs (Gm.p2 (cq cf) d m) a m i i) := B.out
      have hmi := B.out.li
      have him := B.out.jh
      clear B M
      have R0 : Hid (Gm.Rt d d m m (m + 1)) := Gm.Rt.none (.inl rfl) (by omega) (by omega)
      go_wp2
      go_loopw [17] (fun u wr => ∃ (k : Nat) (dk : Array Nat), u = .int .i64 (k : Int) ∧ i ≤ k ∧ k ≤ m ∧ Hid (dk.size = D) ∧ Hid (Gm.Rt d dk k m (m + 1)) ∧ Hid (SW (encM n) w0 blk off dk wr)) (fun u _ => (intOf u).toNat)
      case atStart => exact ⟨m, d, rfl, him, Nat.le_refl _, HD.out.symm, R0, S1⟩
      case round =>
        clear S1 R0
        obtain ⟨k, dk, rfl, hik, hkm, hz, hR, S1⟩ := hrel
        by_cases hlt2 : i < k
        · have hlt3 : (i : Int) < (k : Int) := by omega
          obtain ⟨p, hp⟩ : ∃ p, k = p + 1 := ⟨k - 1, by omega⟩
          obtain ⟨x, y, c1, c2, f1, f2, ⟨u, c3⟩, S2⟩ := swap_facts S1.out R (hz.out.trans (HD.out.trans hs)) k p (by have := hz.out; omega) (by have := hz.out; omega)
          have hR2 : Hid (Gm.Rt d (swp dk k p) p m (m + 1)) := by
            rw [hp]; exact Gm.Rt.down (by rw [← hp]; exact hR.out) (by omega) (by have := HD.out; omega)
          have hz2 : Hid ((swp dk k p).size = D) := (size_swp _ _ _).trans hz.out
          have S3 : Hid (SW (encM n) w0 blk off (swp dk k p) _) := S2
          have e1 : ((k : Int) - 1).toNat = p := by omega
          have e2 : (0 : Int) ≤ (k : Int) - 1 := by omega
          have e3 : (k : Int) - 1 < (D : Int) := by omega
          have e4 : IntKind.i64.wrap ((k : Int) - 1) = (k : Int) - 1 := by rw [IntKind.wrap_i64]; omega
          have e5 : (k : Int) < (D : Int) := by omega
          have HPk := Lib.hid hp
          clear S1 S2 hp hR hz
          go_wp2_with fail
          go_region
          go_wp2
          go_roundw
          case rel => exact ⟨p, _, by have := HPk.out; congr 1; omega, by have := HPk.out; omega, by have := HPk.out; omega, hz2, hR2, S3⟩
          case measure => have := HPk.out; simp [intOf]; omega
        · obtain rfl : i = k := by omega
          have hfin := Gm.fin2 hT htot (by have := HP.out; rw [HM.out] at this; exact this) i HB.out hR.out
          rw [← HM.out] at hfin
          have hperm : PermIn a b d dk := permIn_mono _ _ i (m + 1) a b hmi (by have := HM.out; omega) (by have := HD.out; omega) hR.out.1
          have HF := Lib.hid (And.intro hperm hfin)
          clear hfin hperm
          go_wp2
          (try simp only [Exit.inBlock, Exit.then])
          refine bodyPost_ret (results_none rfl _ _ _) rfl ?_
          exact ⟨rfl, dk, HF.out.1, HF.out.2, S1.out⟩
end Go.Proofs.Ytpndfmlkceplcaa
namespace Go.Proofs.Ytpndfmlkceplcaa
open Go.ChangeShapes Go.WideShapes Go.ChangeAt Go.RowKit Go.Sort Go.Shelf Go.Lib
set_option linter.unusedVariables false

theorem Gm.skip {α : Type} [Inhabited α] {le : α → α → Prop} {c : α → α → Bool} {d : Array α} {a s b : Nat} (P : Gm.Pre le c d a s b) (h : ¬ (a < s ∧ s < b)) (h1 : a ≤ s) (h2 : s ≤ b) : Gm.Up le d a b := by
  rcases Nat.lt_or_ge a s with h3 | h3
  · obtain rfl : s = b := by omega
    exact P.l
  · obtain rfl : a = s := by omega
    exact P.r

/-- What is known of the merge at shorter stretches. -/
def SmS (n : Nat) (g : Nat) (cb : Array Value) (cf : Nat → Nat → Int) (le : Nat → Nat → Prop) (blk off cap D : Nat) (w0 : World) (M : Nat) : Prop :=
  ∀ (a m b : Nat) (d : Array Nat) (w : World), b - a ≤ M → a < m → m < b → b ≤ D → d.size = D → SW (encM n) w0 blk off d w → Gm.Pre le (cq cf) d a m b →
    Calls Try.prog 182 #[.slice (some ⟨blk, off, none⟩) D cap, .int .i64 a, .int .i64 m, .int .i64 b, .func (.func g) #[] cb] w fun e w' => e = .returned (.tuple #[]) ∧ ∃ d', PermIn a b d d' ∧ Gm.Up le d' a b ∧ SW (encM n) w0 blk off d' w'

set_option maxHeartbeats 8000000 in
set_option maxRecDepth 1000000 in
theorem symMerge_big (n : Nat) (g : Nat) (cb : Array Value) (cf : Nat → Nat → Int) (le : Nat → Nat → Prop) (hT : ∀ x y z, le x y → le y z → le x z) (htot : ∀ x y, le x y ∨ le y x) (eg : ∀ args w, (callFunc g args).run Try.prog w = .ok (.enter g args) w)
    (blk off cap a m b mid : Nat) (d0 d : Array Nat) (w0 w : World) (hcmp : CmpLays1 Try.prog g cb (encM n) cf blk off d0.size w0) (R : Row1 (encM n) w0 blk off d0) (hs : d.size = d0.size) (S : SW (encM n) w0 blk off d w) (h1 : a + 1 < m) (h2 : m + 1 < b) (hb : b ≤ d.size) (hsz : d.size ≤ 1000) (P : Gm.Pre le (cq cf) d a m b)
    (hmid : mid = (a + b) / 2) (hbig : mid < m) (M : Nat) (hM : b - a ≤ M + 1) (hI : SmS n g cb cf le blk off cap d.size w0 M) :
    Calls Try.prog 182 #[.slice (some ⟨blk, off, none⟩) d.size cap, .int .i64 a, .int .i64 m, .int .i64 b, .func (.func g) #[] cb] w fun e w' => e = .returned (.tuple #[]) ∧ ∃ d', PermIn a b d d' ∧ Gm.Up le d' a b ∧ SW (encM n) w0 blk off d' w' := by
  have S0 := Lib.hid S
  have HP := Lib.hid P
  have HC := Lib.hid hcmp
  have HI := Lib.hid hI
  obtain ⟨D, hD⟩ : ∃ D, D = d.size := ⟨_, rfl⟩
  have HD := Lib.hid hD
  obtain ⟨lo, hi, hlh⟩ : ∃ lo hi, lo = mid + m - b ∧ hi = mid := ⟨_, _, rfl, rfl⟩
  have HLH : Hid (if m > mid then lo = mid + m - b ∧ hi = mid else lo = a ∧ hi = m) := by show (if _ then _ else _); rw [if_pos hbig]; exact hlh
  obtain ⟨N, hN⟩ : ∃ N, N = mid + m := ⟨_, rfl⟩
  obtain ⟨Q, hQ⟩ : ∃ Q, Q = N - 1 := ⟨_, rfl⟩
  have hlo1 : a ≤ lo := by omega
  have hhi1 : hi ≤ m := by omega
  have hhi2 : hi ≤ mid := by omega
  have hlohi : lo ≤ hi := by omega
  have hNb : N ≤ b + lo := by omega
  have HM3 : Hid (Gm.Mono (Gm.p3 (cq cf) d Q) lo hi) := Gm.mono3 hT htot P Q lo hi hlo1 hhi1 (by omega) (by omega)
  have HQ : Hid (Q = mid + m - 1) := by show _ = _; omega
  have HMID := Lib.hid hmid
  rw [← hD] at hsz hb HI ⊢
  have mixed : Try.prog.follows .mixedOrders = true := by kernel_rfl
  have hm0 : ((m : Int) - (a : Int) == 1) = false := by rw [beq_eq_false_iff_ne]; omega
  have hm1 : ((b : Int) - (m : Int) == 1) = false := by rw [beq_eq_false_iff_ne]; omega
  have hm0' : ¬ (m : Int) - (a : Int) = 1 := by omega
  have hm1' : ¬ (b : Int) - (m : Int) = 1 := by omega
  have q1 : IntKind.u64.wrap ((a : Int) + (b : Int)) = (a : Int) + (b : Int) := by rw [IntKind.wrap_u64]; omega
  have q2 : IntKind.i64.wrap ((a : Int) + (b : Int)) = (a : Int) + (b : Int) := by rw [IntKind.wrap_i64]; omega
  have q3 : ((a : Int) + (b : Int)) / 2 = (mid : Int) := by omega
  have zg : (mid : Int) < (m : Int) := by omega
  have zh : hi = mid := hlh.2
  have hQ1 : Q + 1 = mid + m := by omega
  have HLO := Lib.hid hlh
  clear S hD P hcmp hI hmid hlh hQ
  go_enter Try.func182, Try.ntmps182
  go_wp2
  go_loopw [20, 21] (fun u v wr => ∃ i j : Nat, u = .int .i64 (i : Int) ∧ v = .int .i64 (j : Int) ∧ Hid (Gm.Bs (Gm.p3 (cq cf) d Q) lo hi i j) ∧ Hid (SW (encM n) w0 blk off d wr)) (fun u v _ => (intOf v).toNat - (intOf u).toNat)
  case atStart => exact ⟨lo, hi, by have := HLO.out; congr 1; omega, by have := HLO.out; congr 1; omega, Gm.Bs.start _ _ _ hlohi, S0⟩
  case round =>
    clear S0
    obtain ⟨i, j, rfl, rfl, B, S1⟩ := hrel
    have b1 := B.out.li
    have b2 := B.out.ij
    have b3 := B.out.jh
    by_cases hlt : i < j
    · have hlti : (i : Int) < (j : Int) := by omega
      obtain ⟨h, hh⟩ : ∃ h, h = (i + j) / 2 := ⟨_, rfl⟩
      obtain ⟨pq, hpq⟩ : ∃ pq, pq = Q - h := ⟨_, rfl⟩
      have r1 : IntKind.u64.wrap ((i : Int) + (j : Int)) = (i : Int) + (j : Int) := by rw [IntKind.wrap_u64]; omega
      have r2 : IntKind.i64.wrap ((i : Int) + (j : Int)) = (i : Int) + (j : Int) := by rw [IntKind.wrap_i64]; omega
      have r3 : ((i : Int) + (j : Int)) / 2 = (h : Int) := by omega
      have hhj : i ≤ h ∧ h < j := by omega
      have e1 : ((mid : Int) + (m : Int) - 1 - (h : Int)).toNat = pq := by omega
      have e2 : (0 : Int) ≤ (mid : Int) + (m : Int) - 1 - (h : Int) := by omega
      have e3 : (mid : Int) + (m : Int) - 1 - (h : Int) < (D : Int) := by omega
      have e5 : (h : Int) ≤ (mid : Int) + (m : Int) - 1 := by omega
      have e6 : ¬ ((mid : Int) + (m : Int) - 1 < (h : Int)) := by omega
      have e7 : ¬ ((D : Int) ≤ (mid : Int) + (m : Int) - 1 - (h : Int)) := by omega
      have e8 : (mid : Int) + (m : Int) - 1 < (D : Int) + (h : Int) := by omega
      have e9 : ¬ ((mid : Int) + (m : Int) - 1 - (h : Int) < 0) := by omega
      have e4 : IntKind.i64.wrap ((mid : Int) + (m : Int) - 1 - (h : Int)) = (mid : Int) + (m : Int) - 1 - (h : Int) := by rw [IntKind.wrap_i64]; omega
      obtain ⟨x, y, l1, l2, hc⟩ := cmp_facts HC.out S1.out R (HD.out.symm.trans (HD.out.trans hs)) pq h (by have := HD.out; omega) (by have := HD.out; omega)
      have hQ : Hid (Gm.p3 (cq cf) d Q h = !decide (cf d[pq]! d[h]! < 0)) := by show _ = _; unfold Gm.p3 cq; rw [hpq]
      have hu := fun hp => Lib.hid (B.out.up HM3.out (h := h) (by omega) (by omega) hp)
      have hd := fun hp => Lib.hid (B.out.down HM3.out (h := h) (by omega) (by omega) hp)
      have HU := Lib.hid hu
      have HDn := Lib.hid hd
      have bh : (h : Int) < (D : Int) := by omega
      have bp : (pq : Int) < (D : Int) := by omega
      have hH := Lib.hid hh
      clear hu hd B hh hpq b1 b2 b3
      by_cases hv : cf d[pq]! d[h]! < 0
      · obtain ⟨z, hz⟩ : ∃ z, z = cf d[pq]! d[h]! := ⟨_, rfl⟩
        rw [← hz] at hc hv hQ
        have hdv : decide (z < 0) = true := decide_eq_true hv
        have B2 := HDn.out (hQ.out.trans (by rw [hdv]; rfl))
        clear hz hQ HU HDn
        go_wp2_with fail
        go_quiet_grown (first | (go_at_fn g; refine Calls.grown_of (hc _ _)))
        have S2 : Hid (SW (encM n) w0 blk off d (grow (wr.drewN nq) osq)) := S1.out.grown nq osq
        clear l1 l2 hc S1
        generalize grow (wr.drewN nq) osq = w2 at S2 ⊢
        go_wp2
        go_roundw
        case rel => exact ⟨i, h, rfl, by go_num, B2, S2⟩
        case measure => simp [intOf]; omega
      · obtain ⟨z, hz⟩ : ∃ z, z = cf d[pq]! d[h]! := ⟨_, rfl⟩
        rw [← hz] at hc hv hQ
        have hdv : decide (z < 0) = false := decide_eq_false hv
        have B2 := HU.out (hQ.out.trans (by rw [hdv]; rfl))
        clear hz hQ HU HDn
        go_wp2_with fail
        go_quiet_grown (first | (go_at_fn g; refine Calls.grown_of (hc _ _)))
        have S2 : Hid (SW (encM n) w0 blk off d (grow (wr.drewN nq) osq)) := S1.out.grown nq osq
        clear l1 l2 hc S1
        generalize grow (wr.drewN nq) osq = w2 at S2 ⊢
        go_wp2
        go_roundw
        case rel => exact ⟨h + 1, j, by go_num, rfl, B2, S2⟩
        case measure => simp [intOf]; omega
    · obtain rfl : i = j := by omega
      obtain ⟨s, hs'⟩ : ∃ s, s = i := ⟨_, rfl⟩
      subst hs'
      obtain ⟨e, he⟩ : ∃ e, e = N - s := ⟨_, rfl⟩
      have ze : (e : Int) = (mid : Int) + (m : Int) - (s : Int) := by omega
      have ze0 : (0 : Int) ≤ (mid : Int) + (m : Int) - (s : Int) := by omega
      have ze1 : (mid : Int) + (m : Int) - (s : Int) < (1001 : Int) := by omega
      have has : a ≤ s := by omega
      have hsm : s ≤ mid := by omega
      have hsm2 : s ≤ m := by omega
      have hmm : m ≤ e := by omega
      have hme : mid ≤ e := by omega
      have heb : e ≤ b := by omega
      have hab : mid < b ∧ a < mid := by have := HMID.out; omega
      have hcut : ∀ d1, Gm.Rt d d1 s m e → Gm.Pre le (cq cf) d1 a s mid ∧ Gm.Pre le (cq cf) d1 mid e b ∧ Gm.Cr le d1 a mid mid b := fun d1 h => by
        have B3 := B.out
        rw [HQ.out] at B3
        have hE : e = mid + m - s := by omega
        rw [hE] at h ⊢
        exact Gm.cut3 hT htot HP.out mid lo hi s (by omega) (by omega) HMID.out HLH.out B3 h
      have HCUT := Lib.hid hcut
      clear hcut B b1 b2 b3
      have HROT : Hid (s < m → m < e → Calls Try.prog 199 #[.slice (some ⟨blk, off, none⟩) D cap, .int .i64 s, .int .i64 m, .int .i64 ((mid : Int) + (m : Int) - (s : Int)), .func (.func g) #[] cb] wr fun ex w' => ex = .returned (.tuple #[]) ∧ ∃ d', Gm.Rt d d' s m e ∧ SW (encM n) w0 blk off d' w') := by
        intro x1 x2
        have := rotate_any n g cb blk off cap s m e d0 d w0 wr R hs S1.out x1 x2 (by have := HD.out; omega) (by have := HD.out; omega)
        rw [← HD.out, ze] at this
        exact this
      have HZE := Lib.hid ze
      clear hQ1 q1 q2 q3 ze
      by_cases c1 : s < m ∧ m < e
      · have j1 : (s : Int) < (m : Int) := by omega
        have j2 : (m : Int) < (mid : Int) + (m : Int) - (s : Int) := by have := HZE.out; omega
        have HROT2 := Lib.hid (HROT.out c1.1 c1.2)
        clear HROT
        go_wp2_with fail
        refine HROT2.out.mono ?_
        rintro ex w2 ⟨rfl, d1, hRt, hS2⟩
        have S2 := Lib.hid hS2
        have RR := Lib.hid hRt
        clear hS2 hRt HROT2 S1
        have RT : Hid (PermIn a b d d1) := permIn_mono _ _ s e a b has heb (by have := HD.out; omega) RR.out.1
        have hz1 : Hid (d1.size = D) := RR.out.1.1.trans HD.out.symm
        have P1H := Lib.hid (HCUT.out d1 RR.out).1
        have P2H := Lib.hid (HCUT.out d1 RR.out).2.1
        have CH := Lib.hid (HCUT.out d1 RR.out).2.2
        by_cases c2 : a < s ∧ s < mid
        · have k1 : (a : Int) < (s : Int) := by omega
          have k2 : (s : Int) < (mid : Int) := by omega
          have hI := HI.out a s mid _ _ (by omega) c2.1 c2.2 (by omega) hz1.out S2.out P1H.out
          have HI2 := Lib.hid hI
          clear hI
          go_wp2_with fail
          refine HI2.out.mono ?_
          rintro ex w3 ⟨rfl, d3, hp3, hu3, hS3⟩
          have S3 := Lib.hid hS3
          have PA := Lib.hid hp3
          have UA := Lib.hid hu3
          clear hp3 hu3 hS3 HI2 S2
          first
            | (exfalso; omega)
            | have P2 := P2H.out.out (y := mid) PA.out (Nat.le_refl _) hme
              by_cases c3 : mid < e ∧ e < b
              · have k3 : (mid : Int) < (mid : Int) + (m : Int) - (s : Int) := by have := HZE.out; omega
                have k4 : (mid : Int) + (m : Int) - (s : Int) < (b : Int) := by have := HZE.out; omega
                have hI := HI.out mid e b _ _ (by omega) c3.1 c3.2 hb (PA.out.1.trans hz1.out) S3.out P2
                rw [HZE.out] at hI
                have HI3 := Lib.hid hI
                clear hI P2
                go_wp2_with fail
                refine HI3.out.mono ?_
                rintro ex w4 ⟨rfl, d4, hp4, hu4, hS4⟩
                have SX := Lib.hid hS4
                have HF := Lib.hid (Gm.both (e := e) has hsm hme heb (by have := HD.out; omega) RT.out CH.out PA.out UA.out hp4 hu4)
                clear hp4 hu4 hS4 HI3
                go_wp2
                all_goals go_end0
                all_goals exact ⟨rfl, _, HF.out.1, HF.out.2, SX.out⟩
              · have HF := Lib.hid (Gm.both (e := e) has hsm hme heb (by have := HD.out; omega) RT.out CH.out PA.out UA.out (permIn_refl _ _ _) (Gm.skip P2 c3 hme heb))
                clear P2
                by_cases k3 : (mid : Int) < (mid : Int) + (m : Int) - (s : Int)
                · have k4 : ¬ (mid : Int) + (m : Int) - (s : Int) < (b : Int) := by have := HZE.out; omega
                  go_wp2
                  all_goals go_end0
                  all_goals exact ⟨rfl, _, HF.out.1, HF.out.2, S3.out⟩
                · go_wp2
                  all_goals go_end0
                  all_goals exact ⟨rfl, _, HF.out.1, HF.out.2, S3.out⟩
        · have UA := Lib.hid (Gm.skip P1H.out c2 has hsm)
          have PA := Lib.hid (permIn_refl d1 a mid)
          by_cases k1 : (a : Int) < (s : Int)
          · have k2 : ¬ (s : Int) < (mid : Int) := by omega
            first
              | (exfalso; omega)
              | have P2 := P2H.out.out (y := mid) PA.out (Nat.le_refl _) hme
                by_cases c3 : mid < e ∧ e < b
                · have k3 : (mid : Int) < (mid : Int) + (m : Int) - (s : Int) := by have := HZE.out; omega
                  have k4 : (mid : Int) + (m : Int) - (s : Int) < (b : Int) := by have := HZE.out; omega
                  have hI := HI.out mid e b _ _ (by omega) c3.1 c3.2 hb (PA.out.1.trans hz1.out) S2.out P2
                  rw [HZE.out] at hI
                  have HI3 := Lib.hid hI
                  clear hI P2
                  go_wp2_with fail
                  refine HI3.out.mono ?_
                  rintro ex w4 ⟨rfl, d4, hp4, hu4, hS4⟩
                  have SX := Lib.hid hS4
                  have HF := Lib.hid (Gm.both (e := e) has hsm hme heb (by have := HD.out; omega) RT.out CH.out PA.out UA.out hp4 hu4)
                  clear hp4 hu4 hS4 HI3
                  go_wp2
                  all_goals go_end0
                  all_goals exact ⟨rfl, _, HF.out.1, HF.out.2, SX.out⟩
                · have HF := Lib.hid (Gm.both (e := e) has hsm hme heb (by have := HD.out; omega) RT.out CH.out PA.out UA.out (permIn_refl _ _ _) (Gm.skip P2 c3 hme heb))
                  clear P2
                  by_cases k3 : (mid : Int) < (mid : Int) + (m : Int) - (s : Int)
                  · have k4 : ¬ (mid : Int) + (m : Int) - (s : Int) < (b : Int) := by have := HZE.out; omega
                    go_wp2
                    all_goals go_end0
                    all_goals exact ⟨rfl, _, HF.out.1, HF.out.2, S2.out⟩
                  · go_wp2
                    all_goals go_end0
                    all_goals exact ⟨rfl, _, HF.out.1, HF.out.2, S2.out⟩
          · have k0 : True := trivial
            first
              | (exfalso; omega)
              | have P2 := P2H.out.out (y := mid) PA.out (Nat.le_refl _) hme
                by_cases c3 : mid < e ∧ e < b
                · have k3 : (mid : Int) < (mid : Int) + (m : Int) - (s : Int) := by have := HZE.out; omega
                  have k4 : (mid : Int) + (m : Int) - (s : Int) < (b : Int) := by have := HZE.out; omega
                  have hI := HI.out mid e b _ _ (by omega) c3.1 c3.2 hb (PA.out.1.trans hz1.out) S2.out P2
                  rw [HZE.out] at hI
                  have HI3 := Lib.hid hI
                  clear hI P2
                  go_wp2_with fail
                  refine HI3.out.mono ?_
                  rintro ex w4 ⟨rfl, d4, hp4, hu4, hS4⟩
                  have SX := Lib.hid hS4
                  have HF := Lib.hid (Gm.both (e := e) has hsm hme heb (by have := HD.out; omega) RT.out CH.out PA.out UA.out hp4 hu4)
                  clear hp4 hu4 hS4 HI3
                  go_wp2
                  all_goals go_end0
                  all_goals exact ⟨rfl, _, HF.out.1, HF.out.2, SX.out⟩
                · have HF := Lib.hid (Gm.both (e := e) has hsm hme heb (by have := HD.out; omega) RT.out CH.out PA.out UA.out (permIn_refl _ _ _) (Gm.skip P2 c3 hme heb))
                  clear P2
                  by_cases k3 : (mid : Int) < (mid : Int) + (m : Int) - (s : Int)
                  · have k4 : ¬ (mid : Int) + (m : Int) - (s : Int) < (b : Int) := by have := HZE.out; omega
                    go_wp2
                    all_goals go_end0
                    all_goals exact ⟨rfl, _, HF.out.1, HF.out.2, S2.out⟩
                  · go_wp2
                    all_goals go_end0
                    all_goals exact ⟨rfl, _, HF.out.1, HF.out.2, S2.out⟩
      · obtain ⟨d1, hd1⟩ : ∃ d1, d1 = d := ⟨_, rfl⟩
        have RR : Hid (Gm.Rt d d1 s m e) := by rw [hd1]; exact Gm.Rt.none (by omega) hsm2 hmm
        rw [← hd1] at S1
        clear HROT hd1
        have S2 := S1
        clear S1
        have RT : Hid (PermIn a b d d1) := permIn_mono _ _ s e a b has heb (by have := HD.out; omega) RR.out.1
        have hz1 : Hid (d1.size = D) := RR.out.1.1.trans HD.out.symm
        have P1H := Lib.hid (HCUT.out d1 RR.out).1
        have P2H := Lib.hid (HCUT.out d1 RR.out).2.1
        have CH := Lib.hid (HCUT.out d1 RR.out).2.2
        by_cases j1 : (s : Int) < (m : Int)
        · have j2 : ¬ (m : Int) < (mid : Int) + (m : Int) - (s : Int) := by have := HZE.out; omega
          by_cases c2 : a < s ∧ s < mid
          · have k1 : (a : Int) < (s : Int) := by omega
            have k2 : (s : Int) < (mid : Int) := by omega
            have hI := HI.out a s mid _ _ (by omega) c2.1 c2.2 (by omega) hz1.out S2.out P1H.out
            have HI2 := Lib.hid hI
            clear hI
            go_wp2_with fail
            refine HI2.out.mono ?_
            rintro ex w3 ⟨rfl, d3, hp3, hu3, hS3⟩
            have S3 := Lib.hid hS3
            have PA := Lib.hid hp3
            have UA := Lib.hid hu3
            clear hp3 hu3 hS3 HI2 S2
            first
              | (exfalso; omega)
              | have P2 := P2H.out.out (y := mid) PA.out (Nat.le_refl _) hme
                by_cases c3 : mid < e ∧ e < b
                · have k3 : (mid : Int) < (mid : Int) + (m : Int) - (s : Int) := by have := HZE.out; omega
                  have k4 : (mid : Int) + (m : Int) - (s : Int) < (b : Int) := by have := HZE.out; omega
                  have hI := HI.out mid e b _ _ (by omega) c3.1 c3.2 hb (PA.out.1.trans hz1.out) S3.out P2
                  rw [HZE.out] at hI
                  have HI3 := Lib.hid hI
                  clear hI P2
                  go_wp2_with fail
                  refine HI3.out.mono ?_
                  rintro ex w4 ⟨rfl, d4, hp4, hu4, hS4⟩
                  have SX := Lib.hid hS4
                  have HF := Lib.hid (Gm.both (e := e) has hsm hme heb (by have := HD.out; omega) RT.out CH.out PA.out UA.out hp4 hu4)
                  clear hp4 hu4 hS4 HI3
                  go_wp2
                  all_goals go_end0
                  all_goals exact ⟨rfl, _, HF.out.1, HF.out.2, SX.out⟩
                · have HF := Lib.hid (Gm.both (e := e) has hsm hme heb (by have := HD.out; omega) RT.out CH.out PA.out UA.out (permIn_refl _ _ _) (Gm.skip P2 c3 hme heb))
                  clear P2
                  by_cases k3 : (mid : Int) < (mid : Int) + (m : Int) - (s : Int)
                  · have k4 : ¬ (mid : Int) + (m : Int) - (s : Int) < (b : Int) := by have := HZE.out; omega
                    go_wp2
                    all_goals go_end0
                    all_goals exact ⟨rfl, _, HF.out.1, HF.out.2, S3.out⟩
                  · go_wp2
                    all_goals go_end0
                    all_goals exact ⟨rfl, _, HF.out.1, HF.out.2, S3.out⟩
          · have UA := Lib.hid (Gm.skip P1H.out c2 has hsm)
            have PA := Lib.hid (permIn_refl d1 a mid)
            by_cases k1 : (a : Int) < (s : Int)
            · have k2 : ¬ (s : Int) < (mid : Int) := by omega
              first
                | (exfalso; omega)
                | have P2 := P2H.out.out (y := mid) PA.out (Nat.le_refl _) hme
                  by_cases c3 : mid < e ∧ e < b
                  · have k3 : (mid : Int) < (mid : Int) + (m : Int) - (s : Int) := by have := HZE.out; omega
                    have k4 : (mid : Int) + (m : Int) - (s : Int) < (b : Int) := by have := HZE.out; omega
                    have hI := HI.out mid e b _ _ (by omega) c3.1 c3.2 hb (PA.out.1.trans hz1.out) S2.out P2
                    rw [HZE.out] at hI
                    have HI3 := Lib.hid hI
                    clear hI P2
                    go_wp2_with fail
                    refine HI3.out.mono ?_
                    rintro ex w4 ⟨rfl, d4, hp4, hu4, hS4⟩
                    have SX := Lib.hid hS4
                    have HF := Lib.hid (Gm.both (e := e) has hsm hme heb (by have := HD.out; omega) RT.out CH.out PA.out UA.out hp4 hu4)
                    clear hp4 hu4 hS4 HI3
                    go_wp2
                    all_goals go_end0
                    all_goals exact ⟨rfl, _, HF.out.1, HF.out.2, SX.out⟩
                  · have HF := Lib.hid (Gm.both (e := e) has hsm hme heb (by have := HD.out; omega) RT.out CH.out PA.out UA.out (permIn_refl _ _ _) (Gm.skip P2 c3 hme heb))
                    clear P2
                    by_cases k3 : (mid : Int) < (mid : Int) + (m : Int) - (s : Int)
                    · have k4 : ¬ (mid : Int) + (m : Int) - (s : Int) < (b : Int) := by have := HZE.out; omega
                      go_wp2
                      all_goals go_end0
                      all_goals exact ⟨rfl, _, HF.out.1, HF.out.2, S2.out⟩
                    · go_wp2
                      all_goals go_end0
                      all_goals exact ⟨rfl, _, HF.out.1, HF.out.2, S2.out⟩
            · have k0 : True := trivial
              first
                | (exfalso; omega)
                | have P2 := P2H.out.out (y := mid) PA.out (Nat.le_refl _) hme
                  by_cases c3 : mid < e ∧ e < b
                  · have k3 : (mid : Int) < (mid : Int) + (m : Int) - (s : Int) := by have := HZE.out; omega
                    have k4 : (mid : Int) + (m : Int) - (s : Int) < (b : Int) := by have := HZE.out; omega
                    have hI := HI.out mid e b _ _ (by omega) c3.1 c3.2 hb (PA.out.1.trans hz1.out) S2.out P2
                    rw [HZE.out] at hI
                    have HI3 := Lib.hid hI
                    clear hI P2
                    go_wp2_with fail
                    refine HI3.out.mono ?_
                    rintro ex w4 ⟨rfl, d4, hp4, hu4, hS4⟩
                    have SX := Lib.hid hS4
                    have HF := Lib.hid (Gm.both (e := e) has hsm hme heb (by have := HD.out; omega) RT.out CH.out PA.out UA.out hp4 hu4)
                    clear hp4 hu4 hS4 HI3
                    go_wp2
                    all_goals go_end0
                    all_goals exact ⟨rfl, _, HF.out.1, HF.out.2, SX.out⟩
                  · have HF := Lib.hid (Gm.both (e := e) has hsm hme heb (by have := HD.out; omega) RT.out CH.out PA.out UA.out (permIn_refl _ _ _) (Gm.skip P2 c3 hme heb))
                    clear P2
                    by_cases k3 : (mid : Int) < (mid : Int) + (m : Int) - (s : Int)
                    · have k4 : ¬ (mid : Int) + (m : Int) - (s : Int) < (b : Int) := by have := HZE.out; omega
                      go_wp2
                      all_goals go_end0
                      all_goals exact ⟨rfl, _, HF.out.1, HF.out.2, S2.out⟩
                    · go_wp2
                      all_goals go_end0
                      all_goals exact ⟨rfl, _, HF.out.1, HF.out.2, S2.out⟩
        · have j0 : True := trivial
          by_cases c2 : a < s ∧ s < mid
          · have k1 : (a : Int) < (s : Int) := by omega
            have k2 : (s : Int) < (mid : Int) := by omega
            have hI := HI.out a s mid _ _ (by omega) c2.1 c2.2 (by omega) hz1.out S2.out P1H.out
            have HI2 := Lib.hid hI
            clear hI
            go_wp2_with fail
            refine HI2.out.mono ?_
            rintro ex w3 ⟨rfl, d3, hp3, hu3, hS3⟩
            have S3 := Lib.hid hS3
            have PA := Lib.hid hp3
            have UA := Lib.hid hu3
            clear hp3 hu3 hS3 HI2 S2
            first
              | (exfalso; omega)
              | have P2 := P2H.out.out (y := mid) PA.out (Nat.le_refl _) hme
                by_cases c3 : mid < e ∧ e < b
                · have k3 : (mid : Int) < (mid : Int) + (m : Int) - (s : Int) := by have := HZE.out; omega
                  have k4 : (mid : Int) + (m : Int) - (s : Int) < (b : Int) := by have := HZE.out; omega
                  have hI := HI.out mid e b _ _ (by omega) c3.1 c3.2 hb (PA.out.1.trans hz1.out) S3.out P2
                  rw [HZE.out] at hI
                  have HI3 := Lib.hid hI
                  clear hI P2
                  go_wp2_with fail
                  refine HI3.out.mono ?_
                  rintro ex w4 ⟨rfl, d4, hp4, hu4, hS4⟩
                  have SX := Lib.hid hS4
                  have HF := Lib.hid (Gm.both (e := e) has hsm hme heb (by have := HD.out; omega) RT.out CH.out PA.out UA.out hp4 hu4)
                  clear hp4 hu4 hS4 HI3
                  go_wp2
                  all_goals go_end0
                  all_goals exact ⟨rfl, _, HF.out.1, HF.out.2, SX.out⟩
                · have HF := Lib.hid (Gm.both (e := e) has hsm hme heb (by have := HD.out; omega) RT.out CH.out PA.out UA.out (permIn_refl _ _ _) (Gm.skip P2 c3 hme heb))
                  clear P2
                  by_cases k3 : (mid : Int) < (mid : Int) + (m : Int) - (s : Int)
                  · have k4 : ¬ (mid : Int) + (m : Int) - (s : Int) < (b : Int) := by have := HZE.out; omega
                    go_wp2
                    all_goals go_end0
                    all_goals exact ⟨rfl, _, HF.out.1, HF.out.2, S3.out⟩
                  · go_wp2
                    all_goals go_end0
                    all_goals exact ⟨rfl, _, HF.out.1, HF.out.2, S3.out⟩
          · have UA := Lib.hid (Gm.skip P1H.out c2 has hsm)
            have PA := Lib.hid (permIn_refl d1 a mid)
            by_cases k1 : (a : Int) < (s : Int)
            · have k2 : ¬ (s : Int) < (mid : Int) := by omega
              first
                | (exfalso; omega)
                | have P2 := P2H.out.out (y := mid) PA.out (Nat.le_refl _) hme
                  by_cases c3 : mid < e ∧ e < b
                  · have k3 : (mid : Int) < (mid : Int) + (m : Int) - (s : Int) := by have := HZE.out; omega
                    have k4 : (mid : Int) + (m : Int) - (s : Int) < (b : Int) := by have := HZE.out; omega
                    have hI := HI.out mid e b _ _ (by omega) c3.1 c3.2 hb (PA.out.1.trans hz1.out) S2.out P2
                    rw [HZE.out] at hI
                    have HI3 := Lib.hid hI
                    clear hI P2
                    go_wp2_with fail
                    refine HI3.out.mono ?_
                    rintro ex w4 ⟨rfl, d4, hp4, hu4, hS4⟩
                    have SX := Lib.hid hS4
                    have HF := Lib.hid (Gm.both (e := e) has hsm hme heb (by have := HD.out; omega) RT.out CH.out PA.out UA.out hp4 hu4)
                    clear hp4 hu4 hS4 HI3
                    go_wp2
                    all_goals go_end0
                    all_goals exact ⟨rfl, _, HF.out.1, HF.out.2, SX.out⟩
                  · have HF := Lib.hid (Gm.both (e := e) has hsm hme heb (by have := HD.out; omega) RT.out CH.out PA.out UA.out (permIn_refl _ _ _) (Gm.skip P2 c3 hme heb))
                    clear P2
                    by_cases k3 : (mid : Int) < (mid : Int) + (m : Int) - (s : Int)
                    · have k4 : ¬ (mid : Int) + (m : Int) - (s : Int) < (b : Int) := by have := HZE.out; omega
                      go_wp2
                      all_goals go_end0
                      all_goals exact ⟨rfl, _, HF.out.1, HF.out.2, S2.out⟩
                    · go_wp2
                      all_goals go_end0
                      all_goals exact ⟨rfl, _, HF.out.1, HF.out.2, S2.out⟩
            · have k0 : True := trivial
              first
                | (exfalso; omega)
                | have P2 := P2H.out.out (y := mid) PA.out (Nat.le_refl _) hme
                  by_cases c3 : mid < e ∧ e < b
                  · have k3 : (mid : Int) < (mid : Int) + (m : Int) - (s : Int) := by have := HZE.out; omega
                    have k4 : (mid : Int) + (m : Int) - (s : Int) < (b : Int) := by have := HZE.out; omega
                    have hI := HI.out mid e b _ _ (by omega) c3.1 c3.2 hb (PA.out.1.trans hz1.out) S2.out P2
                    rw [HZE.out] at hI
                    have HI3 := Lib.hid hI
                    clear hI P2
                    go_wp2_with fail
                    refine HI3.out.mono ?_
                    rintro ex w4 ⟨rfl, d4, hp4, hu4, hS4⟩
                    have SX := Lib.hid hS4
                    have HF := Lib.hid (Gm.both (e := e) has hsm hme heb (by have := HD.out; omega) RT.out CH.out PA.out UA.out hp4 hu4)
                    clear hp4 hu4 hS4 HI3
                    go_wp2
                    all_goals go_end0
                    all_goals exact ⟨rfl, _, HF.out.1, HF.out.2, SX.out⟩
                  · have HF := Lib.hid (Gm.both (e := e) has hsm hme heb (by have := HD.out; omega) RT.out CH.out PA.out UA.out (permIn_refl _ _ _) (Gm.skip P2 c3 hme heb))
                    clear P2
                    by_cases k3 : (mid : Int) < (mid : Int) + (m : Int) - (s : Int)
                    · have k4 : ¬ (mid : Int) + (m : Int) - (s : Int) < (b : Int) := by have := HZE.out; omega
                      go_wp2
                      all_goals go_end0
                      all_goals exact ⟨rfl, _, HF.out.1, HF.out.2, S2.out⟩
                    · go_wp2
                      all_goals go_end0
                      all_goals exact ⟨rfl, _, HF.out.1, HF.out.2, S2.out⟩
    
end Go.Proofs.Ytpndfmlkceplcaa
namespace Go.Proofs.Ytpndfmlkceplcaa
open Go.ChangeShapes Go.WideShapes Go.ChangeAt Go.RowKit Go.Sort Go.Shelf Go.Lib
set_option linter.unusedVariables false

set_option maxHeartbeats 8000000 in
set_option maxRecDepth 1000000 in
theorem symMerge_small (n : Nat) (g : Nat) (cb : Array Value) (cf : Nat → Nat → Int) (le : Nat → Nat → Prop) (hT : ∀ x y z, le x y → le y z → le x z) (htot : ∀ x y, le x y ∨ le y x) (eg : ∀ args w, (callFunc g args).run Try.prog w = .ok (.enter g args) w)
    (blk off cap a m b mid : Nat) (d0 d : Array Nat) (w0 w : World) (hcmp : CmpLays1 Try.prog g cb (encM n) cf blk off d0.size w0) (R : Row1 (encM n) w0 blk off d0) (hs : d.size = d0.size) (S : SW (encM n) w0 blk off d w) (h1 : a + 1 < m) (h2 : m + 1 < b) (hb : b ≤ d.size) (hsz : d.size ≤ 1000) (P : Gm.Pre le (cq cf) d a m b)
    (hmid : mid = (a + b) / 2) (hbig : m ≤ mid) (M : Nat) (hM : b - a ≤ M + 1) (hI : SmS n g cb cf le blk off cap d.size w0 M) :
    Calls Try.prog 182 #[.slice (some ⟨blk, off, none⟩) d.size cap, .int .i64 a, .int .i64 m, .int .i64 b, .func (.func g) #[] cb] w fun e w' => e = .returned (.tuple #[]) ∧ ∃ d', PermIn a b d d' ∧ Gm.Up le d' a b ∧ SW (encM n) w0 blk off d' w' := by
  have S0 := Lib.hid S
  have HP := Lib.hid P
  have HC := Lib.hid hcmp
  have HI := Lib.hid hI
  obtain ⟨D, hD⟩ : ∃ D, D = d.size := ⟨_, rfl⟩
  have HD := Lib.hid hD
  obtain ⟨lo, hi, hlh⟩ : ∃ lo hi, lo = a ∧ hi = m := ⟨_, _, rfl, rfl⟩
  have HLH : Hid (if m > mid then lo = mid + m - b ∧ hi = mid else lo = a ∧ hi = m) := by show (if _ then _ else _); rw [if_neg (by omega)]; exact hlh
  obtain ⟨N, hN⟩ : ∃ N, N = mid + m := ⟨_, rfl⟩
  obtain ⟨Q, hQ⟩ : ∃ Q, Q = N - 1 := ⟨_, rfl⟩
  have hlo1 : a ≤ lo := by omega
  have hhi1 : hi ≤ m := by omega
  have hhi2 : hi ≤ mid := by omega
  have hlohi : lo ≤ hi := by omega
  have hNb : N ≤ b + lo := by omega
  have HM3 : Hid (Gm.Mono (Gm.p3 (cq cf) d Q) lo hi) := Gm.mono3 hT htot P Q lo hi hlo1 hhi1 (by omega) (by omega)
  have HQ : Hid (Q = mid + m - 1) := by show _ = _; omega
  have HMID := Lib.hid hmid
  rw [← hD] at hsz hb HI ⊢
  have mixed : Try.prog.follows .mixedOrders = true := by kernel_rfl
  have hm0 : ((m : Int) - (a : Int) == 1) = false := by rw [beq_eq_false_iff_ne]; omega
  have hm1 : ((b : Int) - (m : Int) == 1) = false := by rw [beq_eq_false_iff_ne]; omega
  have hm0' : ¬ (m : Int) - (a : Int) = 1 := by omega
  have hm1' : ¬ (b : Int) - (m : Int) = 1 := by omega
  have q1 : IntKind.u64.wrap ((a : Int) + (b : Int)) = (a : Int) + (b : Int) := by rw [IntKind.wrap_u64]; omega
  have q2 : IntKind.i64.wrap ((a : Int) + (b : Int)) = (a : Int) + (b : Int) := by rw [IntKind.wrap_i64]; omega
  have q3 : ((a : Int) + (b : Int)) / 2 = (mid : Int) := by omega
  have zg : ¬ (mid : Int) < (m : Int) := by omega
  have zh : lo = a ∧ hi = m := hlh
  have hQ1 : Q + 1 = mid + m := by omega
  have HLO := Lib.hid hlh
  clear S hD P hcmp hI hmid hlh hQ
  go_enter Try.func182, Try.ntmps182
  go_wp2
  go_loopw [20, 21] (fun u v wr => ∃ i j : Nat, u = .int .i64 (i : Int) ∧ v = .int .i64 (j : Int) ∧ Hid (Gm.Bs (Gm.p3 (cq cf) d Q) lo hi i j) ∧ Hid (SW (encM n) w0 blk off d wr)) (fun u v _ => (intOf v).toNat - (intOf u).toNat)
  case atStart => exact ⟨lo, hi, by have := HLO.out; congr 1; omega, by have := HLO.out; congr 1; omega, Gm.Bs.start _ _ _ hlohi, S0⟩
  case round =>
    clear S0
    obtain ⟨i, j, rfl, rfl, B, S1⟩ := hrel
    have b1 := B.out.li
    have b2 := B.out.ij
    have b3 := B.out.jh
    by_cases hlt : i < j
    · have hlti : (i : Int) < (j : Int) := by omega
      obtain ⟨h, hh⟩ : ∃ h, h = (i + j) / 2 := ⟨_, rfl⟩
      obtain ⟨pq, hpq⟩ : ∃ pq, pq = Q - h := ⟨_, rfl⟩
      have r1 : IntKind.u64.wrap ((i : Int) + (j : Int)) = (i : Int) + (j : Int) := by rw [IntKind.wrap_u64]; omega
      have r2 : IntKind.i64.wrap ((i : Int) + (j : Int)) = (i : Int) + (j : Int) := by rw [IntKind.wrap_i64]; omega
      have r3 : ((i : Int) + (j : Int)) / 2 = (h : Int) := by omega
      have hhj : i ≤ h ∧ h < j := by omega
      have e1 : ((mid : Int) + (m : Int) - 1 - (h : Int)).toNat = pq := by omega
      have e2 : (0 : Int) ≤ (mid : Int) + (m : Int) - 1 - (h : Int) := by omega
      have e3 : (mid : Int) + (m : Int) - 1 - (h : Int) < (D : Int) := by omega
      have e5 : (h : Int) ≤ (mid : Int) + (m : Int) - 1 := by omega
      have e6 : ¬ ((mid : Int) + (m : Int) - 1 < (h : Int)) := by omega
      have e7 : ¬ ((D : Int) ≤ (mid : Int) + (m : Int) - 1 - (h : Int)) := by omega
      have e8 : (mid : Int) + (m : Int) - 1 < (D : Int) + (h : Int) := by omega
      have e9 : ¬ ((mid : Int) + (m : Int) - 1 - (h : Int) < 0) := by omega
      have e4 : IntKind.i64.wrap ((mid : Int) + (m : Int) - 1 - (h : Int)) = (mid : Int) + (m : Int) - 1 - (h : Int) := by rw [IntKind.wrap_i64]; omega
      obtain ⟨x, y, l1, l2, hc⟩ := cmp_facts HC.out S1.out R (HD.out.symm.trans (HD.out.trans hs)) pq h (by have := HD.out; omega) (by have := HD.out; omega)
      have hQ : Hid (Gm.p3 (cq cf) d Q h = !decide (cf d[pq]! d[h]! < 0)) := by show _ = _; unfold Gm.p3 cq; rw [hpq]
      have hu := fun hp => Lib.hid (B.out.up HM3.out (h := h) (by omega) (by omega) hp)
      have hd := fun hp => Lib.hid (B.out.down HM3.out (h := h) (by omega) (by omega) hp)
      have HU := Lib.hid hu
      have HDn := Lib.hid hd
      have bh : (h : Int) < (D : Int) := by omega
      have bp : (pq : Int) < (D : Int) := by omega
      have hH := Lib.hid hh
      clear hu hd B hh hpq b1 b2 b3
      by_cases hv : cf d[pq]! d[h]! < 0
      · obtain ⟨z, hz⟩ : ∃ z, z = cf d[pq]! d[h]! := ⟨_, rfl⟩
        rw [← hz] at hc hv hQ
        have hdv : decide (z < 0) = true := decide_eq_true hv
        have B2 := HDn.out (hQ.out.trans (by rw [hdv]; rfl))
        clear hz hQ HU HDn
        go_wp2_with fail
        go_quiet_grown (first | (go_at_fn g; refine Calls.grown_of (hc _ _)))
        have S2 : Hid (SW (encM n) w0 blk off d (grow (wr.drewN nq) osq)) := S1.out.grown nq osq
        clear l1 l2 hc S1
        generalize grow (wr.drewN nq) osq = w2 at S2 ⊢
        go_wp2
        go_roundw
        case rel => exact ⟨i, h, rfl, by go_num, B2, S2⟩
        case measure => simp [intOf]; omega
      · obtain ⟨z, hz⟩ : ∃ z, z = cf d[pq]! d[h]! := ⟨_, rfl⟩
        rw [← hz] at hc hv hQ
        have hdv : decide (z < 0) = false := decide_eq_false hv
        have B2 := HU.out (hQ.out.trans (by rw [hdv]; rfl))
        clear hz hQ HU HDn
        go_wp2_with fail
        go_quiet_grown (first | (go_at_fn g; refine Calls.grown_of (hc _ _)))
        have S2 : Hid (SW (encM n) w0 blk off d (grow (wr.drewN nq) osq)) := S1.out.grown nq osq
        clear l1 l2 hc S1
        generalize grow (wr.drewN nq) osq = w2 at S2 ⊢
        go_wp2
        go_roundw
        case rel => exact ⟨h + 1, j, by go_num, rfl, B2, S2⟩
        case measure => simp [intOf]; omega
    · obtain rfl : i = j := by omega
      obtain ⟨s, hs'⟩ : ∃ s, s = i := ⟨_, rfl⟩
      subst hs'
      obtain ⟨e, he⟩ : ∃ e, e = N - s := ⟨_, rfl⟩
      have ze : (e : Int) = (mid : Int) + (m : Int) - (s : Int) := by omega
      have ze0 : (0 : Int) ≤ (mid : Int) + (m : Int) - (s : Int) := by omega
      have ze1 : (mid : Int) + (m : Int) - (s : Int) < (1001 : Int) := by omega
      have has : a ≤ s := by omega
      have hsm : s ≤ mid := by omega
      have hsm2 : s ≤ m := by omega
      have hmm : m ≤ e := by omega
      have hme : mid ≤ e := by omega
      have heb : e ≤ b := by omega
      have hab : mid < b ∧ a < mid := by have := HMID.out; omega
      have hcut : ∀ d1, Gm.Rt d d1 s m e → Gm.Pre le (cq cf) d1 a s mid ∧ Gm.Pre le (cq cf) d1 mid e b ∧ Gm.Cr le d1 a mid mid b := fun d1 h => by
        have B3 := B.out
        rw [HQ.out] at B3
        have hE : e = mid + m - s := by omega
        rw [hE] at h ⊢
        exact Gm.cut3 hT htot HP.out mid lo hi s (by omega) (by omega) HMID.out HLH.out B3 h
      have HCUT := Lib.hid hcut
      clear hcut B b1 b2 b3
      have HROT : Hid (s < m → m < e → Calls Try.prog 199 #[.slice (some ⟨blk, off, none⟩) D cap, .int .i64 s, .int .i64 m, .int .i64 ((mid : Int) + (m : Int) - (s : Int)), .func (.func g) #[] cb] wr fun ex w' => ex = .returned (.tuple #[]) ∧ ∃ d', Gm.Rt d d' s m e ∧ SW (encM n) w0 blk off d' w') := by
        intro x1 x2
        have := rotate_any n g cb blk off cap s m e d0 d w0 wr R hs S1.out x1 x2 (by have := HD.out; omega) (by have := HD.out; omega)
        rw [← HD.out, ze] at this
        exact this
      have HZE := Lib.hid ze
      clear hQ1 q1 q2 q3 ze
      by_cases c1 : s < m ∧ m < e
      · have j1 : (s : Int) < (m : Int) := by omega
        have j2 : (m : Int) < (mid : Int) + (m : Int) - (s : Int) := by have := HZE.out; omega
        have HROT2 := Lib.hid (HROT.out c1.1 c1.2)
        clear HROT
        go_wp2_with fail
        refine HROT2.out.mono ?_
        rintro ex w2 ⟨rfl, d1, hRt, hS2⟩
        have S2 := Lib.hid hS2
        have RR := Lib.hid hRt
        clear hS2 hRt HROT2 S1
        have RT : Hid (PermIn a b d d1) := permIn_mono _ _ s e a b has heb (by have := HD.out; omega) RR.out.1
        have hz1 : Hid (d1.size = D) := RR.out.1.1.trans HD.out.symm
        have P1H := Lib.hid (HCUT.out d1 RR.out).1
        have P2H := Lib.hid (HCUT.out d1 RR.out).2.1
        have CH := Lib.hid (HCUT.out d1 RR.out).2.2
        by_cases c2 : a < s ∧ s < mid
        · have k1 : (a : Int) < (s : Int) := by omega
          have k2 : (s : Int) < (mid : Int) := by omega
          have hI := HI.out a s mid _ _ (by omega) c2.1 c2.2 (by omega) hz1.out S2.out P1H.out
          have HI2 := Lib.hid hI
          clear hI
          go_wp2_with fail
          refine HI2.out.mono ?_
          rintro ex w3 ⟨rfl, d3, hp3, hu3, hS3⟩
          have S3 := Lib.hid hS3
          have PA := Lib.hid hp3
          have UA := Lib.hid hu3
          clear hp3 hu3 hS3 HI2 S2
          first
            | (exfalso; omega)
            | have P2 := P2H.out.out (y := mid) PA.out (Nat.le_refl _) hme
              by_cases c3 : mid < e ∧ e < b
              · have k3 : (mid : Int) < (mid : Int) + (m : Int) - (s : Int) := by have := HZE.out; omega
                have k4 : (mid : Int) + (m : Int) - (s : Int) < (b : Int) := by have := HZE.out; omega
                have hI := HI.out mid e b _ _ (by omega) c3.1 c3.2 hb (PA.out.1.trans hz1.out) S3.out P2
                rw [HZE.out] at hI
                have HI3 := Lib.hid hI
                clear hI P2
                go_wp2_with fail
                refine HI3.out.mono ?_
                rintro ex w4 ⟨rfl, d4, hp4, hu4, hS4⟩
                have SX := Lib.hid hS4
                have HF := Lib.hid (Gm.both (e := e) has hsm hme heb (by have := HD.out; omega) RT.out CH.out PA.out UA.out hp4 hu4)
                clear hp4 hu4 hS4 HI3
                go_wp2
                all_goals go_end0
                all_goals exact ⟨rfl, _, HF.out.1, HF.out.2, SX.out⟩
              · have HF := Lib.hid (Gm.both (e := e) has hsm hme heb (by have := HD.out; omega) RT.out CH.out PA.out UA.out (permIn_refl _ _ _) (Gm.skip P2 c3 hme heb))
                clear P2
                by_cases k3 : (mid : Int) < (mid : Int) + (m : Int) - (s : Int)
                · have k4 : ¬ (mid : Int) + (m : Int) - (s : Int) < (b : Int) := by have := HZE.out; omega
                  go_wp2
                  all_goals go_end0
                  all_goals exact ⟨rfl, _, HF.out.1, HF.out.2, S3.out⟩
                · go_wp2
                  all_goals go_end0
                  all_goals exact ⟨rfl, _, HF.out.1, HF.out.2, S3.out⟩
        · have UA := Lib.hid (Gm.skip P1H.out c2 has hsm)
          have PA := Lib.hid (permIn_refl d1 a mid)
          by_cases k1 : (a : Int) < (s : Int)
          · have k2 : ¬ (s : Int) < (mid : Int) := by omega
            first
              | (exfalso; omega)
              | have P2 := P2H.out.out (y := mid) PA.out (Nat.le_refl _) hme
                by_cases c3 : mid < e ∧ e < b
                · have k3 : (mid : Int) < (mid : Int) + (m : Int) - (s : Int) := by have := HZE.out; omega
                  have k4 : (mid : Int) + (m : Int) - (s : Int) < (b : Int) := by have := HZE.out; omega
                  have hI := HI.out mid e b _ _ (by omega) c3.1 c3.2 hb (PA.out.1.trans hz1.out) S2.out P2
                  rw [HZE.out] at hI
                  have HI3 := Lib.hid hI
                  clear hI P2
                  go_wp2_with fail
                  refine HI3.out.mono ?_
                  rintro ex w4 ⟨rfl, d4, hp4, hu4, hS4⟩
                  have SX := Lib.hid hS4
                  have HF := Lib.hid (Gm.both (e := e) has hsm hme heb (by have := HD.out; omega) RT.out CH.out PA.out UA.out hp4 hu4)
                  clear hp4 hu4 hS4 HI3
                  go_wp2
                  all_goals go_end0
                  all_goals exact ⟨rfl, _, HF.out.1, HF.out.2, SX.out⟩
                · have HF := Lib.hid (Gm.both (e := e) has hsm hme heb (by have := HD.out; omega) RT.out CH.out PA.out UA.out (permIn_refl _ _ _) (Gm.skip P2 c3 hme heb))
                  clear P2
                  by_cases k3 : (mid : Int) < (mid : Int) + (m : Int) - (s : Int)
                  · have k4 : ¬ (mid : Int) + (m : Int) - (s : Int) < (b : Int) := by have := HZE.out; omega
                    go_wp2
                    all_goals go_end0
                    all_goals exact ⟨rfl, _, HF.out.1, HF.out.2, S2.out⟩
                  · go_wp2
                    all_goals go_end0
                    all_goals exact ⟨rfl, _, HF.out.1, HF.out.2, S2.out⟩
          · have k0 : True := trivial
            first
              | (exfalso; omega)
              | have P2 := P2H.out.out (y := mid) PA.out (Nat.le_refl _) hme
                by_cases c3 : mid < e ∧ e < b
                · have k3 : (mid : Int) < (mid : Int) + (m : Int) - (s : Int) := by have := HZE.out; omega
                  have k4 : (mid : Int) + (m : Int) - (s : Int) < (b : Int) := by have := HZE.out; omega
                  have hI := HI.out mid e b _ _ (by omega) c3.1 c3.2 hb (PA.out.1.trans hz1.out) S2.out P2
                  rw [HZE.out] at hI
                  have HI3 := Lib.hid hI
                  clear hI P2
                  go_wp2_with fail
                  refine HI3.out.mono ?_
                  rintro ex w4 ⟨rfl, d4, hp4, hu4, hS4⟩
                  have SX := Lib.hid hS4
                  have HF := Lib.hid (Gm.both (e := e) has hsm hme heb (by have := HD.out; omega) RT.out CH.out PA.out UA.out hp4 hu4)
                  clear hp4 hu4 hS4 HI3
                  go_wp2
                  all_goals go_end0
                  all_goals exact ⟨rfl, _, HF.out.1, HF.out.2, SX.out⟩
                · have HF := Lib.hid (Gm.both (e := e) has hsm hme heb (by have := HD.out; omega) RT.out CH.out PA.out UA.out (permIn_refl _ _ _) (Gm.skip P2 c3 hme heb))
                  clear P2
                  by_cases k3 : (mid : Int) < (mid : Int) + (m : Int) - (s : Int)
                  · have k4 : ¬ (mid : Int) + (m : Int) - (s : Int) < (b : Int) := by have := HZE.out; omega
                    go_wp2
                    all_goals go_end0
                    all_goals exact ⟨rfl, _, HF.out.1, HF.out.2, S2.out⟩
                  · go_wp2
                    all_goals go_end0
                    all_goals exact ⟨rfl, _, HF.out.1, HF.out.2, S2.out⟩
      · obtain ⟨d1, hd1⟩ : ∃ d1, d1 = d := ⟨_, rfl⟩
        have RR : Hid (Gm.Rt d d1 s m e) := by rw [hd1]; exact Gm.Rt.none (by omega) hsm2 hmm
        rw [← hd1] at S1
        clear HROT hd1
        have S2 := S1
        clear S1
        have RT : Hid (PermIn a b d d1) := permIn_mono _ _ s e a b has heb (by have := HD.out; omega) RR.out.1
        have hz1 : Hid (d1.size = D) := RR.out.1.1.trans HD.out.symm
        have P1H := Lib.hid (HCUT.out d1 RR.out).1
        have P2H := Lib.hid (HCUT.out d1 RR.out).2.1
        have CH := Lib.hid (HCUT.out d1 RR.out).2.2
        by_cases j1 : (s : Int) < (m : Int)
        · have j2 : ¬ (m : Int) < (mid : Int) + (m : Int) - (s : Int) := by have := HZE.out; omega
          by_cases c2 : a < s ∧ s < mid
          · have k1 : (a : Int) < (s : Int) := by omega
            have k2 : (s : Int) < (mid : Int) := by omega
            have hI := HI.out a s mid _ _ (by omega) c2.1 c2.2 (by omega) hz1.out S2.out P1H.out
            have HI2 := Lib.hid hI
            clear hI
            go_wp2_with fail
            refine HI2.out.mono ?_
            rintro ex w3 ⟨rfl, d3, hp3, hu3, hS3⟩
            have S3 := Lib.hid hS3
            have PA := Lib.hid hp3
            have UA := Lib.hid hu3
            clear hp3 hu3 hS3 HI2 S2
            first
              | (exfalso; omega)
              | have P2 := P2H.out.out (y := mid) PA.out (Nat.le_refl _) hme
                by_cases c3 : mid < e ∧ e < b
                · have k3 : (mid : Int) < (mid : Int) + (m : Int) - (s : Int) := by have := HZE.out; omega
                  have k4 : (mid : Int) + (m : Int) - (s : Int) < (b : Int) := by have := HZE.out; omega
                  have hI := HI.out mid e b _ _ (by omega) c3.1 c3.2 hb (PA.out.1.trans hz1.out) S3.out P2
                  rw [HZE.out] at hI
                  have HI3 := Lib.hid hI
                  clear hI P2
                  go_wp2_with fail
                  refine HI3.out.mono ?_
                  rintro ex w4 ⟨rfl, d4, hp4, hu4, hS4⟩
                  have SX := Lib.hid hS4
                  have HF := Lib.hid (Gm.both (e := e) has hsm hme heb (by have := HD.out; omega) RT.out CH.out PA.out UA.out hp4 hu4)
                  clear hp4 hu4 hS4 HI3
                  go_wp2
                  all_goals go_end0
                  all_goals exact ⟨rfl, _, HF.out.1, HF.out.2, SX.out⟩
                · have HF := Lib.hid (Gm.both (e := e) has hsm hme heb (by have := HD.out; omega) RT.out CH.out PA.out UA.out (permIn_refl _ _ _) (Gm.skip P2 c3 hme heb))
                  clear P2
                  by_cases k3 : (mid : Int) < (mid : Int) + (m : Int) - (s : Int)
                  · have k4 : ¬ (mid : Int) + (m : Int) - (s : Int) < (b : Int) := by have := HZE.out; omega
                    go_wp2
                    all_goals go_end0
                    all_goals exact ⟨rfl, _, HF.out.1, HF.out.2, S3.out⟩
                  · go_wp2
                    all_goals go_end0
                    all_goals exact ⟨rfl, _, HF.out.1, HF.out.2, S3.out⟩
          · have UA := Lib.hid (Gm.skip P1H.out c2 has hsm)
            have PA := Lib.hid (permIn_refl d1 a mid)
            by_cases k1 : (a : Int) < (s : Int)
            · have k2 : ¬ (s : Int) < (mid : Int) := by omega
              first
                | (exfalso; omega)
                | have P2 := P2H.out.out (y := mid) PA.out (Nat.le_refl _) hme
                  by_cases c3 : mid < e ∧ e < b
                  · have k3 : (mid : Int) < (mid : Int) + (m : Int) - (s : Int) := by have := HZE.out; omega
                    have k4 : (mid : Int) + (m : Int) - (s : Int) < (b : Int) := by have := HZE.out; omega
                    have hI := HI.out mid e b _ _ (by omega) c3.1 c3.2 hb (PA.out.1.trans hz1.out) S2.out P2
                    rw [HZE.out] at hI
                    have HI3 := Lib.hid hI
                    clear hI P2
                    go_wp2_with fail
                    refine HI3.out.mono ?_
                    rintro ex w4 ⟨rfl, d4, hp4, hu4, hS4⟩
                    have SX := Lib.hid hS4
                    have HF := Lib.hid (Gm.both (e := e) has hsm hme heb (by have := HD.out; omega) RT.out CH.out PA.out UA.out hp4 hu4)
                    clear hp4 hu4 hS4 HI3
                    go_wp2
                    all_goals go_end0
                    all_goals exact ⟨rfl, _, HF.out.1, HF.out.2, SX.out⟩
                  · have HF := Lib.hid (Gm.both (e := e) has hsm hme heb (by have := HD.out; omega) RT.out CH.out PA.out UA.out (permIn_refl _ _ _) (Gm.skip P2 c3 hme heb))
                    clear P2
                    by_cases k3 : (mid : Int) < (mid : Int) + (m : Int) - (s : Int)
                    · have k4 : ¬ (mid : Int) + (m : Int) - (s : Int) < (b : Int) := by have := HZE.out; omega
                      go_wp2
                      all_goals go_end0
                      all_goals exact ⟨rfl, _, HF.out.1, HF.out.2, S2.out⟩
                    · go_wp2
                      all_goals go_end0
                      all_goals exact ⟨rfl, _, HF.out.1, HF.out.2, S2.out⟩
            · have k0 : True := trivial
              first
                | (exfalso; omega)
                | have P2 := P2H.out.out (y := mid) PA.out (Nat.le_refl _) hme
                  by_cases c3 : mid < e ∧ e < b
                  · have k3 : (mid : Int) < (mid : Int) + (m : Int) - (s : Int) := by have := HZE.out; omega
                    have k4 : (mid : Int) + (m : Int) - (s : Int) < (b : Int) := by have := HZE.out; omega
                    have hI := HI.out mid e b _ _ (by omega) c3.1 c3.2 hb (PA.out.1.trans hz1.out) S2.out P2
                    rw [HZE.out] at hI
                    have HI3 := Lib.hid hI
                    clear hI P2
                    go_wp2_with fail
                    refine HI3.out.mono ?_
                    rintro ex w4 ⟨rfl, d4, hp4, hu4, hS4⟩
                    have SX := Lib.hid hS4
                    have HF := Lib.hid (Gm.both (e := e) has hsm hme heb (by have := HD.out; omega) RT.out CH.out PA.out UA.out hp4 hu4)
                    clear hp4 hu4 hS4 HI3
                    go_wp2
                    all_goals go_end0
                    all_goals exact ⟨rfl, _, HF.out.1, HF.out.2, SX.out⟩
                  · have HF := Lib.hid (Gm.both (e := e) has hsm hme heb (by have := HD.out; omega) RT.out CH.out PA.out UA.out (permIn_refl _ _ _) (Gm.skip P2 c3 hme heb))
                    clear P2
                    by_cases k3 : (mid : Int) < (mid : Int) + (m : Int) - (s : Int)
                    · have k4 : ¬ (mid : Int) + (m : Int) - (s : Int) < (b : Int) := by have := HZE.out; omega
                      go_wp2
                      all_goals go_end0
                      all_goals exact ⟨rfl, _, HF.out.1, HF.out.2, S2.out⟩
                    · go_wp2
                      all_goals go_end0
                      all_goals exact ⟨rfl, _, HF.out.1, HF.out.2, S2.out⟩
        · have j0 : True := trivial
          by_cases c2 : a < s ∧ s < mid
          · have k1 : (a : Int) < (s : Int) := by omega
            have k2 : (s : Int) < (mid : Int) := by omega
            have hI := HI.out a s mid _ _ (by omega) c2.1 c2.2 (by omega) hz1.out S2.out P1H.out
            have HI2 := Lib.hid hI
            clear hI
            go_wp2_with fail
            refine HI2.out.mono ?_
            rintro ex w3 ⟨rfl, d3, hp3, hu3, hS3⟩
            have S3 := Lib.hid hS3
            have PA := Lib.hid hp3
            have UA := Lib.hid hu3
            clear hp3 hu3 hS3 HI2 S2
            first
              | (exfalso; omega)
              | have P2 := P2H.out.out (y := mid) PA.out (Nat.le_refl _) hme
                by_cases c3 : mid < e ∧ e < b
                · have k3 : (mid : Int) < (mid : Int) + (m : Int) - (s : Int) := by have := HZE.out; omega
                  have k4 : (mid : Int) + (m : Int) - (s : Int) < (b : Int) := by have := HZE.out; omega
                  have hI := HI.out mid e b _ _ (by omega) c3.1 c3.2 hb (PA.out.1.trans hz1.out) S3.out P2
                  rw [HZE.out] at hI
                  have HI3 := Lib.hid hI
                  clear hI P2
                  go_wp2_with fail
                  refine HI3.out.mono ?_
                  rintro ex w4 ⟨rfl, d4, hp4, hu4, hS4⟩
                  have SX := Lib.hid hS4
                  have HF := Lib.hid (Gm.both (e := e) has hsm hme heb (by have := HD.out; omega) RT.out CH.out PA.out UA.out hp4 hu4)
                  clear hp4 hu4 hS4 HI3
                  go_wp2
                  all_goals go_end0
                  all_goals exact ⟨rfl, _, HF.out.1, HF.out.2, SX.out⟩
                · have HF := Lib.hid (Gm.both (e := e) has hsm hme heb (by have := HD.out; omega) RT.out CH.out PA.out UA.out (permIn_refl _ _ _) (Gm.skip P2 c3 hme heb))
                  clear P2
                  by_cases k3 : (mid : Int) < (mid : Int) + (m : Int) - (s : Int)
                  · have k4 : ¬ (mid : Int) + (m : Int) - (s : Int) < (b : Int) := by have := HZE.out; omega
                    go_wp2
                    all_goals go_end0
                    all_goals exact ⟨rfl, _, HF.out.1, HF.out.2, S3.out⟩
                  · go_wp2
                    all_goals go_end0
                    all_goals exact ⟨rfl, _, HF.out.1, HF.out.2, S3.out⟩
          · have UA := Lib.hid (Gm.skip P1H.out c2 has hsm)
            have PA := Lib.hid (permIn_refl d1 a mid)
            by_cases k1 : (a : Int) < (s : Int)
            · have k2 : ¬ (s : Int) < (mid : Int) := by omega
              first
                | (exfalso; omega)
                | have P2 := P2H.out.out (y := mid) PA.out (Nat.le_refl _) hme
                  by_cases c3 : mid < e ∧ e < b
                  · have k3 : (mid : Int) < (mid : Int) + (m : Int) - (s : Int) := by have := HZE.out; omega
                    have k4 : (mid : Int) + (m : Int) - (s : Int) < (b : Int) := by have := HZE.out; omega
                    have hI := HI.out mid e b _ _ (by omega) c3.1 c3.2 hb (PA.out.1.trans hz1.out) S2.out P2
                    rw [HZE.out] at hI
                    have HI3 := Lib.hid hI
                    clear hI P2
                    go_wp2_with fail
                    refine HI3.out.mono ?_
                    rintro ex w4 ⟨rfl, d4, hp4, hu4, hS4⟩
                    have SX := Lib.hid hS4
                    have HF := Lib.hid (Gm.both (e := e) has hsm hme heb (by have := HD.out; omega) RT.out CH.out PA.out UA.out hp4 hu4)
                    clear hp4 hu4 hS4 HI3
                    go_wp2
                    all_goals go_end0
                    all_goals exact ⟨rfl, _, HF.out.1, HF.out.2, SX.out⟩
                  · have HF := Lib.hid (Gm.both (e := e) has hsm hme heb (by have := HD.out; omega) RT.out CH.out PA.out UA.out (permIn_refl _ _ _) (Gm.skip P2 c3 hme heb))
                    clear P2
                    by_cases k3 : (mid : Int) < (mid : Int) + (m : Int) - (s : Int)
                    · have k4 : ¬ (mid : Int) + (m : Int) - (s : Int) < (b : Int) := by have := HZE.out; omega
                      go_wp2
                      all_goals go_end0
                      all_goals exact ⟨rfl, _, HF.out.1, HF.out.2, S2.out⟩
                    · go_wp2
                      all_goals go_end0
                      all_goals exact ⟨rfl, _, HF.out.1, HF.out.2, S2.out⟩
            · have k0 : True := trivial
              first
                | (exfalso; omega)
                | have P2 := P2H.out.out (y := mid) PA.out (Nat.le_refl _) hme
                  by_cases c3 : mid < e ∧ e < b
                  · have k3 : (mid : Int) < (mid : Int) + (m : Int) - (s : Int) := by have := HZE.out; omega
                    have k4 : (mid : Int) + (m : Int) - (s : Int) < (b : Int) := by have := HZE.out; omega
                    have hI := HI.out mid e b _ _ (by omega) c3.1 c3.2 hb (PA.out.1.trans hz1.out) S2.out P2
                    rw [HZE.out] at hI
                    have HI3 := Lib.hid hI
                    clear hI P2
                    go_wp2_with fail
                    refine HI3.out.mono ?_
                    rintro ex w4 ⟨rfl, d4, hp4, hu4, hS4⟩
                    have SX := Lib.hid hS4
                    have HF := Lib.hid (Gm.both (e := e) has hsm hme heb (by have := HD.out; omega) RT.out CH.out PA.out UA.out hp4 hu4)
                    clear hp4 hu4 hS4 HI3
                    go_wp2
                    all_goals go_end0
                    all_goals exact ⟨rfl, _, HF.out.1, HF.out.2, SX.out⟩
                  · have HF := Lib.hid (Gm.both (e := e) has hsm hme heb (by have := HD.out; omega) RT.out CH.out PA.out UA.out (permIn_refl _ _ _) (Gm.skip P2 c3 hme heb))
                    clear P2
                    by_cases k3 : (mid : Int) < (mid : Int) + (m : Int) - (s : Int)
                    · have k4 : ¬ (mid : Int) + (m : Int) - (s : Int) < (b : Int) := by have := HZE.out; omega
                      go_wp2
                      all_goals go_end0
                      all_goals exact ⟨rfl, _, HF.out.1, HF.out.2, S2.out⟩
                    · go_wp2
                      all_goals go_end0
                      all_goals exact ⟨rfl, _, HF.out.1, HF.out.2, S2.out⟩
    
end Go.Proofs.Ytpndfmlkceplcaa
namespace Go.Proofs.Ytpndfmlkceplcaa
open Go.ChangeShapes Go.WideShapes Go.ChangeAt Go.RowKit Go.Sort Go.Shelf Go.Lib
set_option linter.unusedVariables false
set_option linter.unusedSectionVars false

section
variable {α : Type} [Inhabited α]
theorem insInner_perm (lt : α → α → Bool) (a : Nat) : ∀ (j : Nat) (d : Array α), j < d.size → a ≤ j → PermIn a (j + 1) d (insInner lt a j d)
  | 0, d, _, _ => by rw [insInner]; exact permIn_refl _ _ _
  | j + 1, d, hj, ha => by
    rw [insInner]
    split
    · rename_i h
      have h1 : j + 1 > a := by have := (Bool.and_eq_true _ _ ▸ h).1; simpa using this
      have ih := insInner_perm lt a j (swp d (j + 1) j) (by rw [size_swp]; omega) (by omega)
      exact permIn_trans _ _ _ _ _ (swp_permIn d a (j + 1 + 1) (j + 1) j (by omega) (by omega) (by omega) (by omega) (by omega)) (permIn_mono _ _ a (j + 1) a (j + 1 + 1) (Nat.le_refl _) (by omega) (by rw [size_swp]; omega) ih)
    · exact permIn_refl _ _ _
theorem insInner_congr (lt lt' : α → α → Bool) (a : Nat) : ∀ (j : Nat) (d : Array α), j < d.size → (∀ p, a ≤ p → p < j → lt d[j]! d[p]! = lt' d[j]! d[p]!) → insInner lt a j d = insInner lt' a j d
  | 0, d, _, _ => by rw [insInner, insInner]
  | j + 1, d, hj, h => by
    rw [insInner, insInner]
    by_cases ha : j + 1 > a
    · have e := h j (by omega) (by omega)
      have ih := insInner_congr lt lt' a j (swp d (j + 1) j) (by rw [size_swp]; omega) (fun p h1 h2 => by
        rw [swp_right d (j + 1) j (by omega), swp_other d (j + 1) j p (by omega) (by omega)]
        exact h p h1 (by omega))
      rw [e, ih]
    · have : decide (j + 1 > a) = false := decide_eq_false ha
      rw [this]; rfl
theorem insOuter_congr (lt lt' : α → α → Bool) (a b : Nat) : ∀ (n i : Nat) (d : Array α), b - i = n → a < i → b ≤ d.size → (∀ p q, a ≤ p → p < q → i ≤ q → q < b → lt d[q]! d[p]! = lt' d[q]! d[p]!) → insOuter lt a b i d = insOuter lt' a b i d
  | 0, i, d, hn, _, _, _ => by rw [insOuter_stop _ _ _ _ _ (by omega), insOuter_stop _ _ _ _ _ (by omega)]
  | n + 1, i, d, hn, hai, hb, h => by
    have hlt : i < b := by omega
    have e := insInner_congr lt lt' a i d (by omega) (fun p h1 h2 => h p i h1 h2 (Nat.le_refl _) hlt)
    have hp := insInner_perm lt' a i d (by omega) (by omega)
    rw [insOuter_go _ _ _ _ _ hlt, insOuter_go _ _ _ _ _ hlt, e]
    refine insOuter_congr lt lt' a b n (i + 1) _ (by omega) (by omega) (by rw [hp.1]; exact hb) fun p q h1 h2 h3 h4 => ?_
    rw [hp.2.1 q (by omega)]
    by_cases c : p < i + 1
    · obtain ⟨k, k1, k2, ek⟩ := Gm.PermIn.get hp (by omega) p h1 c
      rw [ek]; exact h k q k1 (by omega) (by omega) h4
    · rw [hp.2.1 p (by omega)]; exact h p q h1 h2 (by omega) h4
theorem insertion_congr (lt lt' : α → α → Bool) (d : Array α) (a b : Nat) (hb : b ≤ d.size) (h : ∀ p q, a ≤ p → p < q → q < b → lt d[q]! d[p]! = lt' d[q]! d[p]!) : insertionSort lt d a b = insertionSort lt' d a b :=
  insOuter_congr lt lt' a b _ (a + 1) d rfl (by omega) hb fun p q h1 h2 _ h4 => h p q h1 h2 h4

/-- The order in which a row is to stand: 'less' first, or not to be told apart. -/
def leO (lt' : α → α → Bool) (x y : α) : Prop := lt' y x = false
theorem leO_trans {lt' : α → α → Bool} (h : SWO lt') : ∀ x y z, leO lt' x y → leO lt' y z → leO lt' x z := fun x y z h1 h2 => h.ntrans z y x h2 h1
theorem leO_total {lt' : α → α → Bool} (h : SWO lt') : ∀ x y, leO lt' x y ∨ leO lt' y x := fun x y => by
  cases e : lt' y x with
  | false => exact .inl e
  | true => exact .inr (h.asymmA e)
theorem up_of_sorted {lt' : α → α → Bool} {d : Array α} {a b : Nat} (h : SortedIn lt' a b d) : Gm.Up (leO lt') d a b := fun i j h1 h2 h3 => h i j h1 h2 h3

/-- One block sorted. -/
theorem one_block {lt lt' : α → α → Bool} (hS : SWO lt') (d : Array α) (a b : Nat) (hab : a ≤ b) (hb : b ≤ d.size) (h : ∀ p q, a ≤ p → p < q → q < b → lt d[q]! d[p]! = lt' d[q]! d[p]!) :
    PermIn a b d (insertionSort lt d a b) ∧ Gm.Up (leO lt') (insertionSort lt d a b) a b := by
  rw [insertion_congr lt lt' d a b hb h]
  have := insertionSort_holds hS d a b hab hb
  exact ⟨this.1, up_of_sorted this.2⟩
end

/-- Two blocks sorted: what the merge is given. -/
theorem two_blocks {cf : Nat → Nat → Int} {lt' : Nat → Nat → Bool} (hS : SWO lt') (d : Array Nat) (m : Nat) (hm : m ≤ d.size) (h : ∀ p q, p < q → q < d.size → ltOf cf d[q]! d[p]! = lt' d[q]! d[p]!) :
    PermIn 0 d.size d (insertionSort (ltOf cf) (insertionSort (ltOf cf) d 0 m) m d.size) ∧ Gm.Pre (leO lt') (cq cf) (insertionSort (ltOf cf) (insertionSort (ltOf cf) d 0 m) m d.size) 0 m d.size := by
  obtain ⟨p1, u1⟩ := one_block (lt := ltOf cf) hS d 0 m (Nat.zero_le _) hm (fun p q _ h2 h3 => h p q h2 (by omega))
  obtain ⟨d1, hd1⟩ : ∃ d1, d1 = insertionSort (ltOf cf) d 0 m := ⟨_, rfl⟩
  rw [← hd1] at p1 u1 ⊢
  obtain ⟨p2, u2⟩ := one_block (lt := ltOf cf) hS d1 m d.size hm (by rw [p1.1]; exact Nat.le_refl _) (fun p q h1 h2 h3 => by
    rw [p1.2.1 p (by omega), p1.2.1 q (by omega)]; exact h p q h2 h3)
  obtain ⟨d2, hd2⟩ : ∃ d2, d2 = insertionSort (ltOf cf) d1 m d.size := ⟨_, rfl⟩
  rw [← hd2] at p2 u2 ⊢
  refine ⟨permIn_trans _ _ _ _ _ (permIn_mono _ _ 0 m 0 d.size (Nat.le_refl _) hm (Nat.le_refl _) p1) (permIn_mono _ _ m d.size 0 d.size (Nat.zero_le _) (Nat.le_refl _) (by rw [p1.1]; exact Nat.le_refl _) p2), ⟨Gm.Up.out u1 p2 (.inl (Nat.le_refl _)), u2, ?_⟩⟩
  intro i j h1 h2 h3 h4
  rw [p2.2.1 i (by omega)]
  obtain ⟨k, k1, k2, ek⟩ := Gm.PermIn.get p1 hm i (Nat.zero_le _) h2
  obtain ⟨k', k1', k2', ek'⟩ := Gm.PermIn.get p2 (by rw [p1.1]; exact Nat.le_refl _) j h3 h4
  rw [ek, ek', p1.2.1 k' (by omega)]
  have := h k k' (by omega) k2'
  unfold cq leO
  unfold ltOf at this
  rw [this]
  cases lt' d[k']! d[k]! <;> simp

theorem symMerge_any (n : Nat) (g : Nat) (cb : Array Value) (cf : Nat → Nat → Int) (le : Nat → Nat → Prop) (hT : ∀ x y z, le x y → le y z → le x z) (htot : ∀ x y, le x y ∨ le y x) (eg : ∀ args w, (callFunc g args).run Try.prog w = .ok (.enter g args) w)
    (blk off cap : Nat) (d0 : Array Nat) (w0 : World) (hcmp : CmpLays1 Try.prog g cb (encM n) cf blk off d0.size w0) (R : Row1 (encM n) w0 blk off d0) (hsz : d0.size ≤ 1000) : ∀ M, SmS n g cb cf le blk off cap d0.size w0 M
  | 0 => fun a m b d w h1 h2 h3 => by omega
  | M + 1 => by
    intro a m b d w h1 h2 h3 h4 h5 S P
    have ih := symMerge_any n g cb cf le hT htot eg blk off cap d0 w0 hcmp R hsz M
    rw [← h5] at ih hsz h4 ⊢
    by_cases c1 : m = a + 1
    · exact symMerge_one n g cb cf le hT htot eg blk off cap a m b d0 d w0 w hcmp R h5 S c1 h3 h4 hsz P
    · by_cases c2 : b = m + 1
      · exact symMerge_last n g cb cf le hT htot eg blk off cap a m b d0 d w0 w hcmp R h5 S c2 (by omega) h4 hsz P
      · by_cases c3 : (a + b) / 2 < m
        · exact symMerge_big n g cb cf le hT htot eg blk off cap a m b _ d0 d w0 w hcmp R h5 S (by omega) (by omega) h4 hsz P rfl c3 M (by omega) ih
        · exact symMerge_small n g cb cf le hT htot eg blk off cap a m b _ d0 d w0 w hcmp R h5 S (by omega) (by omega) h4 hsz P rfl (by omega) M (by omega) ih
end Go.Proofs.Ytpndfmlkceplcaa
namespace Go.Proofs.Ytpndfmlkceplcaa
open Go.ChangeShapes Go.WideShapes Go.ChangeAt Go.RowKit Go.Sort Go.Shelf Go.Lib
set_option linter.unusedVariables false

set_option maxHeartbeats 4000000 in
set_option maxRecDepth 1000000 in
theorem stable_any (n : Nat) (g : Nat) (cb : Array Value) (cf : Nat → Nat → Int) (lt' : Nat → Nat → Bool) (hS : SWO lt') (eg : ∀ args w, (callFunc g args).run Try.prog w = .ok (.enter g args) w)
    (blk off cap : Nat) (d : Array Nat) (w : World) (hcmp : CmpLays1 Try.prog g cb (encM n) cf blk off d.size w) (R : Row1 (encM n) w blk off d) (h40 : d.size ≤ 40) (h : ∀ p q, p < q → q < d.size → ltOf cf d[q]! d[p]! = lt' d[q]! d[p]!) :
    Calls Try.prog 154 #[.slice (some ⟨blk, off, none⟩) d.size cap, .int .i64 d.size, .func (.func g) #[] cb] w fun e w' => e = .returned (.tuple #[]) ∧ ∃ d', PermIn 0 d.size d d' ∧ Gm.Up (leO lt') d' 0 d.size ∧ SW (encM n) w blk off d' w' := by
  have HIn : Hid (∀ (a b : Nat) (dk : Array Nat) (W : World), dk.size = d.size → a ≤ b → b ≤ d.size → SW (encM n) w blk off dk W → Calls Try.prog 181 #[.slice (some ⟨blk, off, none⟩) d.size cap, .int .i64 a, .int .i64 b, .func (.func g) #[] cb] W fun e w' => e = .returned (.tuple #[]) ∧ SW (encM n) w blk off (insertionSort (ltOf cf) dk a b) w') := by
    intro a b dk W hk hab hb hS
    have := Try.insertionSortCmpFunc_s (encM n) cf g cb blk off cap a b d dk w W eg hcmp R hk.symm hS hab (by omega) (by omega)
    rw [hk] at this
    exact this
  have HMg : Hid (∀ (m : Nat) (dk : Array Nat) (W : World), dk.size = d.size → 0 < m → m < d.size → SW (encM n) w blk off dk W → Gm.Pre (leO lt') (cq cf) dk 0 m d.size → Calls Try.prog 182 #[.slice (some ⟨blk, off, none⟩) d.size cap, .int .i64 (0 : Nat), .int .i64 m, .int .i64 d.size, .func (.func g) #[] cb] W fun e w' => e = .returned (.tuple #[]) ∧ ∃ d', PermIn 0 d.size dk d' ∧ Gm.Up (leO lt') d' 0 d.size ∧ SW (encM n) w blk off d' w') :=
    fun m dk W hk h0 hm hSW hP => symMerge_any n g cb cf (leO lt') (leO_trans hS) (leO_total hS) eg blk off cap d w hcmp R (by omega) d.size 0 m d.size dk W (by omega) h0 hm (Nat.le_refl _) hk hSW hP
  have S0 : Hid (SW (encM n) w blk off d w) := SW.start R.hH
  have H1 := Lib.hid fun hm => one_block (lt := ltOf cf) hS d 0 d.size hm (Nat.le_refl _) (fun p q _ h2 h3 => h p q h2 h3)
  have H2 := Lib.hid fun m hm => two_blocks (cf := cf) hS d m hm h
  have Hsz : Hid (∀ (dk : Array Nat) (a b : Nat), dk.size = d.size → a ≤ b → b ≤ d.size → (insertionSort (ltOf cf) dk a b).size = d.size) := fun dk a b hk hab hb => by
    have e : (insertionSort (ltOf cf) dk a b).size = dk.size := by
      have : ∀ (m i : Nat) (D : Array Nat), b - i = m → a < i → b ≤ D.size → (insOuter (ltOf cf) a b i D).size = D.size := by
        intro m
        induction m with
        | zero => intro i D h1 h2 h3; rw [insOuter_stop _ _ _ _ _ (by omega)]
        | succ m ih =>
          intro i D h1 h2 h3
          rw [insOuter_go _ _ _ _ _ (by omega)]
          have hp := insInner_perm (ltOf cf) a i D (by omega) (by omega)
          rw [ih (i + 1) _ (by omega) (by omega) (by rw [hp.1]; exact h3), hp.1]
      exact this _ (a + 1) dk rfl (by omega) (by omega)
    omega
  clear h hcmp
  obtain ⟨D, hD⟩ : ∃ D, D = d.size := ⟨_, rfl⟩
  rw [← hD] at HIn HMg H1 H2 Hsz h40 ⊢
  have HDD := Lib.hid hD
  clear hD
  by_cases c1 : D < 20
  · have c1i : (D : Int) < 20 := by omega
    have c2i : ¬ (20 : Int) ≤ (D : Int) := by omega
    have c3i : ¬ (20 : Int) < (D : Int) := by omega
    have hC := HIn.out 0 D d w HDD.out.symm (Nat.zero_le _) (Nat.le_refl _) S0.out
    rw [show ((0 : Nat) : Int) = 0 from rfl] at hC
    have HC := Lib.hid hC
    clear hC
    go_enter Try.func154, Try.ntmps154
    go_wp2
    refine wp_loop_rounds 1 ?_
    rw [rounds_succ]
    go_wp2_with (go_at_call 181; refine HC.out.mono ?_; rintro e w1 ⟨rfl, hS1⟩; have S1 := Lib.hid hS1; clear hS1)
    refine wp_loop_rounds 1 ?_
    rw [rounds_succ]
    go_wp2
    go_end0
    exact ⟨rfl, _, (H1.out (Nat.zero_le _)).1, (H1.out (Nat.zero_le _)).2, S1.out⟩
  · have hins0 : Hid (∀ (dk : Array Nat) (a : Nat), insertionSort (ltOf cf) dk a a = dk) := fun dk a => by unfold insertionSort; exact insOuter_stop _ _ _ _ _ (by omega)
    by_cases c2 : D = 20
    · subst c2
      have hC := HIn.out 0 20 d w HDD.out.symm (by omega) (by omega) S0.out
      have HC2 : Hid (∀ W, SW (encM n) w blk off (insertionSort (ltOf cf) d 0 20) W → _) := fun W hW => HIn.out 20 20 (insertionSort (ltOf cf) d 0 20) W (Hsz.out d 0 20 HDD.out.symm (by omega) (by omega)) (by omega) (by omega) hW
      rw [show ((0 : Nat) : Int) = 0 from rfl, show ((20 : Nat) : Int) = 20 from rfl] at hC
      simp only [show ((20 : Nat) : Int) = 20 from rfl] at HC2
      have HC := Lib.hid hC
      clear hC
      rw [show ((20 : Nat) : Int) = 20 from rfl]
      go_enter Try.func154, Try.ntmps154
      go_wp2
      refine wp_loop_rounds 2 ?_
      rw [rounds_succ]
      go_wp2_with fail
      refine HC.out.mono ?_
      rintro e w1 ⟨rfl, hS1⟩
      have HC3 := Lib.hid (HC2.out w1 hS1)
      clear hS1
      go_wp2
      rw [rounds_succ]
      go_wp2_with fail
      refine HC3.out.mono ?_
      rintro e w2 ⟨rfl, hS2⟩
      rw [hins0.out] at hS2
      have S2 := Lib.hid hS2
      clear hS2
      go_wp2
      refine wp_loop_rounds 1 ?_
      rw [rounds_succ]
      go_wp2
      go_end0
      exact ⟨rfl, _, (H1.out (by omega)).1, (H1.out (by omega)).2, S2.out⟩
    · by_cases c3 : D = 40
      · subst c3
        obtain ⟨d1, hd1⟩ : ∃ d1, d1 = insertionSort (ltOf cf) d 0 20 := ⟨_, rfl⟩
        obtain ⟨d2, hd2⟩ : ∃ d2, d2 = insertionSort (ltOf cf) d1 20 40 := ⟨_, rfl⟩
        have hz1 : d1.size = d.size := by rw [hd1]; exact (Hsz.out d 0 20 HDD.out.symm (by omega) (by omega)).trans HDD.out
        have hz2 : d2.size = d.size := by rw [hd2]; exact (Hsz.out d1 20 40 (hz1.trans HDD.out.symm) (by omega) (by omega)).trans HDD.out
        have hP := H2.out 20 (by omega)
        rw [← hd1, ← hd2] at hP
        have HP := Lib.hid hP
        have hC := HIn.out 0 20 d w HDD.out.symm (by omega) (by omega) S0.out
        rw [← hd1, show ((0 : Nat) : Int) = 0 from rfl, show ((20 : Nat) : Int) = 20 from rfl] at hC
        have HC2 : Hid (∀ W, SW (encM n) w blk off d1 W → _) := fun W hW => HIn.out 20 40 d1 W (hz1.trans HDD.out.symm) (by omega) (by omega) hW
        have HC3 : Hid (∀ W, SW (encM n) w blk off d2 W → _) := fun W hW => HIn.out 40 40 d2 W (hz2.trans HDD.out.symm) (by omega) (by omega) hW
        have HC4 : Hid (∀ W, SW (encM n) w blk off d2 W → _) := fun W hW => HMg.out 20 d2 W (hz2.trans HDD.out.symm) (by omega) (by omega) hW hP.2
        simp only [← hd2, hins0.out, show ((20 : Nat) : Int) = 20 from rfl, show ((40 : Nat) : Int) = 40 from rfl, show ((0 : Nat) : Int) = 0 from rfl] at HC2 HC3 HC4
        have HC := Lib.hid hC
        clear hC hP
        rw [show ((40 : Nat) : Int) = 40 from rfl]
        go_enter Try.func154, Try.ntmps154
        go_wp2
        refine wp_loop_rounds 3 ?_
        rw [rounds_succ]
        go_wp2_with fail
        refine HC.out.mono ?_
        rintro e w1 ⟨rfl, hS1⟩
        have HC2' := Lib.hid (HC2.out w1 hS1)
        clear hS1
        go_wp2
        rw [rounds_succ]
        go_wp2_with fail
        refine HC2'.out.mono ?_
        rintro e w2 ⟨rfl, hS2⟩
        have HC3' := Lib.hid (HC3.out w2 hS2)
        clear hS2
        go_wp2
        rw [rounds_succ]
        go_wp2_with fail
        refine HC3'.out.mono ?_
        rintro e w3 ⟨rfl, hS3⟩
        have HC4' := Lib.hid (HC4.out w3 hS3)
        clear hS3
        go_wp2
        refine wp_loop_rounds 2 ?_
        rw [rounds_succ]
        go_wp2
        refine wp_loop_rounds 2 ?_
        rw [rounds_succ]
        go_wp2_with fail
        refine HC4'.out.mono ?_
        rintro e w4 ⟨rfl, d4, hp4, hu4, hS4⟩
        have HF := Lib.hid (And.intro (permIn_trans _ _ _ _ _ (show PermIn 0 40 d d2 from HP.out.1) hp4) (And.intro hu4 hS4))
        clear hp4 hu4 hS4
        go_wp2
        rw [rounds_succ]
        go_wp2
        rw [rounds_succ]
        go_wp2
        go_end0
        exact ⟨rfl, _, HF.out.1, HF.out.2.1, HF.out.2.2⟩
      · have e1 : (20 : Int) ≤ (D : Int) := by omega
        have e2 : (20 : Int) < (D : Int) := by omega
        have e3 : ¬ (40 : Int) ≤ (D : Int) := by omega
        have e4 : ¬ (40 : Int) < (D : Int) := by omega
        obtain ⟨d1, hd1⟩ : ∃ d1, d1 = insertionSort (ltOf cf) d 0 20 := ⟨_, rfl⟩
        obtain ⟨d2, hd2⟩ : ∃ d2, d2 = insertionSort (ltOf cf) d1 20 D := ⟨_, rfl⟩
        have hz1 : d1.size = d.size := by rw [hd1]; exact (Hsz.out d 0 20 HDD.out.symm (by omega) (by omega)).trans HDD.out
        have hz2 : d2.size = d.size := by rw [hd2]; exact (Hsz.out d1 20 D (hz1.trans HDD.out.symm) (by omega) (by omega)).trans HDD.out
        have hP := H2.out 20 (by omega)
        rw [← hd1, ← hd2] at hP
        have HP := Lib.hid hP
        have hC := HIn.out 0 20 d w HDD.out.symm (by omega) (by omega) S0.out
        rw [← hd1, show ((0 : Nat) : Int) = 0 from rfl, show ((20 : Nat) : Int) = 20 from rfl] at hC
        have HC2 : Hid (∀ W, SW (encM n) w blk off d1 W → _) := fun W hW => HIn.out 20 D d1 W (hz1.trans HDD.out.symm) (by omega) (by omega) hW
        have HC4 : Hid (∀ W, SW (encM n) w blk off d2 W → _) := fun W hW => HMg.out 20 d2 W (hz2.trans HDD.out.symm) (by omega) (by omega) hW hP.2
        simp only [← hd2, show ((20 : Nat) : Int) = 20 from rfl, show ((0 : Nat) : Int) = 0 from rfl] at HC2 HC4
        have HC := Lib.hid hC
        clear hC hP
        go_enter Try.func154, Try.ntmps154
        go_wp2
        refine wp_loop_rounds 2 ?_
        rw [rounds_succ]
        go_wp2_with fail
        refine HC.out.mono ?_
        rintro e w1 ⟨rfl, hS1⟩
        have HC2' := Lib.hid (HC2.out w1 hS1)
        clear hS1
        go_wp2
        rw [rounds_succ]
        go_wp2_with fail
        refine HC2'.out.mono ?_
        rintro e w2 ⟨rfl, hS2⟩
        have HC4' := Lib.hid (HC4.out w2 hS2)
        clear hS2
        go_wp2
        refine wp_loop_rounds 2 ?_
        rw [rounds_succ]
        go_wp2
        refine wp_loop_rounds 1 ?_
        rw [rounds_succ]
        go_wp2_with fail
        refine HC4'.out.mono ?_
        rintro e w4 ⟨rfl, d4, hp4, hu4, hS4⟩
        have HF := Lib.hid (And.intro (permIn_trans _ _ _ _ _ (show PermIn 0 D d d2 from HP.out.1) hp4) (And.intro hu4 hS4))
        clear hp4 hu4 hS4
        go_wp2
        rw [rounds_succ]
        go_wp2
        go_end0
        exact ⟨rfl, _, HF.out.1, HF.out.2.1, HF.out.2.2⟩

set_option maxHeartbeats 400000 in
theorem sortStable_any (n : Nat) (g : Nat) (cb : Array Value) (cf : Nat → Nat → Int) (lt' : Nat → Nat → Bool) (hS : SWO lt') (eg : ∀ args w, (callFunc g args).run Try.prog w = .ok (.enter g args) w)
    (blk off cap : Nat) (d : Array Nat) (w : World) (hcmp : CmpLays1 Try.prog g cb (encM n) cf blk off d.size w) (R : Row1 (encM n) w blk off d) (h40 : d.size ≤ 40) (h : ∀ p q, p < q → q < d.size → ltOf cf d[q]! d[p]! = lt' d[q]! d[p]!) :
    Calls Try.prog 103 #[.slice (some ⟨blk, off, none⟩) d.size cap, .func (.func g) #[] cb] w fun e w' => e = .returned (.tuple #[]) ∧ ∃ d', PermIn 0 d.size d d' ∧ Gm.Up (leO lt') d' 0 d.size ∧ SW (encM n) w blk off d' w' := by
  have HC := Lib.hid (stable_any n g cb cf lt' hS eg blk off cap d w hcmp R h40 h)
  clear hcmp R h
  go_enter Try.func103, Try.ntmps103
  go_wp2_with fail
  refine HC.out.mono ?_
  rintro e w1 ⟨rfl, hd⟩
  have HD := Lib.hid hd
  clear hd
  go_wp2
  go_end0
  exact ⟨rfl, HD.out⟩
end Go.Proofs.Ytpndfmlkceplcaa
