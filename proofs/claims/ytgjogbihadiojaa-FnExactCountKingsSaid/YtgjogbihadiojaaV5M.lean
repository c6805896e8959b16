/-
  Plain facts on valid tours: turned, renamed, flipped, their scores and their differences. No program; no conditions.
-/
import Derived.Test.YtgjogbihadiojaaX
import Derived.Test.YtgjogbihadiojaaP
import Derived.Test.YtgjogbihadiojaaV4F
namespace Go.Proofs.Ytgjogbihadiojaa
open Go.ChangeShapes Go.WideShapes Go.ChangeAt Go.RowKit
set_option linter.unusedVariables false

/-- A valid tour with as many players as there are numbers. -/
abbrev OkL (l : List Int) : Prop := Ok (l.length : Int) l
theorem okB_L {l : List Int} (h : OkL l) : okB (l.length : Int) l = true := okB_true h
theorem OkL.le {l : List Int} (h : OkL l) : 1 ≤ l.length ∧ l.length ≤ 8 := by have := h.1; have := h.2.1; omega
theorem Ok.toL {n : Int} {l : List Int} (h : Ok n l) : OkL l := ⟨by have := h.1; have := h.2.2.1; omega, by have := h.2.1; have := h.2.2.1; omega, rfl, h.2.2.2⟩

theorem getD_map_ofNat (ys : List Nat) (i : Nat) : (ys.map Int.ofNat).getD i 0 = ((ys.getD i 0 : Nat) : Int) := by
  rw [List.getD_eq_getElem?_getD, List.getD_eq_getElem?_getD, List.getElem?_map]
  cases ys[i]? <;> rfl
theorem bt_ofNat (ys : List Nat) (i j : Nat) : bt (ys.map Int.ofNat) i j = (ys.getD i 0).testBit j := bt_nat j (getD_map_ofNat ys i)
theorem mkOk {ys : List Nat} (h1 : 1 ≤ ys.length) (h8 : ys.length ≤ 8) (hx : ∀ i, i < ys.length → ys.getD i 0 < 2 ^ ys.length)
    (hs : ∀ i, i < ys.length → (ys.getD i 0).testBit i = false) (ho : ∀ i j, i < ys.length → j < ys.length → i ≠ j → (ys.getD i 0).testBit j = !(ys.getD j 0).testBit i) : OkL (ys.map Int.ofNat) := by
  have hl : (ys.map Int.ofNat).length = ys.length := by simp
  refine ⟨by omega, by omega, rfl, ?_⟩
  intro a ha
  rw [hl] at ha
  refine ⟨?_, ?_, ?_⟩
  · rw [getD_map_ofNat, hl]
    have := hx a ha
    simp only [inSet, Bool.and_eq_true, decide_eq_true_eq]
    omega
  · exact (bt_ofNat ys a a).trans (hs a ha)
  · intro b hb
    have e := ho a b ha (by omega) (by omega)
    have e1 := bt_ofNat ys a b
    have e2 := bt_ofNat ys b a
    unfold bt at e1 e2
    rw [e1, e2, e]
    cases (ys.getD b 0).testBit a <;> decide
theorem okL_ext {l l' : List Int} (h : OkL l) (h' : OkL l') (hl : l.length = l'.length) (hb : ∀ i j, i < l.length → j < l.length → bt l i j = bt l' i j) : l = l' := by
  apply List.ext_getElem?
  intro p
  by_cases hp : p < l.length
  · have hp' : p < l'.length := by omega
    obtain ⟨x, hx, hx2, _⟩ := h.nat hp
    obtain ⟨y, hy, hy2, _⟩ := h'.nat hp'
    have : x = y := by
      apply Nat.eq_of_testBit_eq
      intro q
      by_cases hq : q < l.length
      · rw [← bt_nat q hx, ← bt_nat q hy]; exact hb p q hp hq
      · rw [Nat.testBit_lt_two_pow (Nat.lt_of_lt_of_le hx2 (pow_le_of (Nat.le_of_not_lt hq))), Nat.testBit_lt_two_pow (Nat.lt_of_lt_of_le hy2 (pow_le_of (by omega)))]
    rw [List.getD_eq_getElem?_getD, List.getElem?_eq_getElem hp] at hx
    rw [List.getD_eq_getElem?_getD, List.getElem?_eq_getElem hp'] at hy
    rw [List.getElem?_eq_getElem hp, List.getElem?_eq_getElem hp']
    simp only [Option.getD_some] at hx hy
    rw [hx, hy, this]
  · rw [List.getElem?_eq_none (by omega), List.getElem?_eq_none (by omega)]
theorem btHigh {l : List Int} (h : OkL l) {i j : Nat} (hi : i < l.length) (hj : l.length ≤ j) : bt l i j = false := by
  obtain ⟨x, hx, hx2, _⟩ := h.nat hi
  rw [bt_nat j hx]
  exact Nat.testBit_lt_two_pow (Nat.lt_of_lt_of_le hx2 (pow_le_of hj))

/-! Counting. -/
def cnt (p : Nat → Bool) : Nat → Nat
  | 0 => 0
  | k + 1 => cnt p k + if p k then 1 else 0
theorem cnt_le (p : Nat → Bool) : ∀ k, cnt p k ≤ k
  | 0 => Nat.le_refl _
  | k + 1 => by have := cnt_le p k; simp only [cnt]; split <;> omega
theorem cnt_congr {p q : Nat → Bool} : ∀ {k : Nat}, (∀ i, i < k → p i = q i) → cnt p k = cnt q k
  | 0, _ => rfl
  | k + 1, h => by simp only [cnt]; rw [cnt_congr (fun i hi => h i (by omega)), h k (by omega)]
theorem cnt_none {p : Nat → Bool} {k : Nat} (h : ∀ i, i < k → p i = false) : cnt p k = 0 := by
  induction k with
  | zero => rfl
  | succ k ih => simp only [cnt]; rw [ih (fun i hi => h i (by omega)), h k (by omega)]; rfl
theorem cnt_not (p : Nat → Bool) : ∀ k, cnt p k + cnt (fun i => !p i) k = k
  | 0 => rfl
  | k + 1 => by
    have := cnt_not p k
    simp only [cnt]
    by_cases h : p k = true <;> simp [h] <;> omega
theorem cnt_mono {p : Nat → Bool} {k m : Nat} (hk : k ≤ m) (h : ∀ i, k ≤ i → i < m → p i = false) : cnt p m = cnt p k := by
  induction m with
  | zero => obtain rfl : k = 0 := by omega
            rfl
  | succ m ih =>
    by_cases e : k = m + 1
    · subst e; rfl
    · simp only [cnt]
      rw [ih (by omega) (fun i h1 h2 => h i h1 (by omega)), h m (by omega) (by omega)]
      rfl
/-- Two tests that agree but at one place. -/
theorem cnt_one {p q : Nat → Bool} {x k : Nat} (hx : x < k) (h : ∀ i, i < k → i ≠ x → p i = q i) : cnt p k + (if q x then 1 else 0) = cnt q k + (if p x then 1 else 0) := by
  induction k with
  | zero => omega
  | succ k ih =>
    simp only [cnt]
    by_cases e : x = k
    · subst e
      rw [cnt_congr (p := p) (q := q) (fun i hi => h i (by omega) (by omega))]
      omega
    · have := ih (by omega) (fun i hi hne => h i (by omega) hne)
      rw [h k (by omega) (fun h' => e h'.symm)]
      omega
/-- A list of names that are all different. -/
def Bij (f : Nat → Nat) (m : Nat) : Prop := (∀ i, i < m → f i < m) ∧ ∀ i j, i < m → j < m → f i = f j → i = j
def bijDown (f : Nat → Nat) (m : Nat) (i : Nat) : Nat := if f i = m then f m else f i
theorem Bij.down {f : Nat → Nat} {m : Nat} (h : Bij f (m + 1)) : Bij (bijDown f m) m := by
  have hm := h.1 m (by omega)
  refine ⟨fun i hi => ?_, fun i j hi hj he => ?_⟩
  · have h1 := h.1 i (by omega)
    have h2 := h.2 i m (by omega) (by omega)
    unfold bijDown
    split
    · rename_i h3
      rcases Nat.lt_or_ge (f m) m with h4 | h4
      · exact h4
      · have := h2 (by omega); omega
    · omega
  · unfold bijDown at he
    have h1 := h.2 i j (by omega) (by omega)
    have h2 := h.2 i m (by omega) (by omega)
    have h3 := h.2 j m (by omega) (by omega)
    split at he <;> split at he
    · rename_i a b; exact h1 (a.trans b.symm)
    · exact absurd (h3 he.symm) (by omega)
    · exact absurd (h2 he) (by omega)
    · exact h1 he
theorem Bij.onto {m : Nat} : ∀ {f : Nat → Nat}, Bij f m → ∀ y, y < m → ∃ x, x < m ∧ f x = y := by
  induction m with
  | zero => intro f _ y hy; omega
  | succ m ih =>
    intro f h y hy
    by_cases e : f m = y
    · exact ⟨m, by omega, e⟩
    · have hd := ih h.down
      have hm := h.1 m (by omega)
      by_cases e2 : y = m
      · subst e2
        obtain ⟨x, hx, hfx⟩ := hd (f y) (by omega)
        unfold bijDown at hfx
        split at hfx
        · rename_i h4; exact ⟨x, by omega, h4⟩
        · have := h.2 x y (by omega) (by omega) hfx; omega
      · obtain ⟨x, hx, hfx⟩ := hd y (by omega)
        unfold bijDown at hfx
        split at hfx
        · exact absurd hfx e
        · exact ⟨x, by omega, hfx⟩
theorem Bij.cnt {m : Nat} (p : Nat → Bool) : ∀ {f : Nat → Nat}, Bij f m → cnt (fun i => p (f i)) m = Go.Proofs.Ytgjogbihadiojaa.cnt p m := by
  induction m with
  | zero => intro f _; rfl
  | succ m ih =>
    intro f h
    have hd := ih h.down
    have hm := h.1 m (by omega)
    have hs : Go.Proofs.Ytgjogbihadiojaa.cnt (fun i => p (f i)) (m + 1) = Go.Proofs.Ytgjogbihadiojaa.cnt (fun i => p (f i)) m + if p (f m) then 1 else 0 := rfl
    have ht : Go.Proofs.Ytgjogbihadiojaa.cnt p (m + 1) = Go.Proofs.Ytgjogbihadiojaa.cnt p m + if p m then 1 else 0 := rfl
    rw [hs, ht, ← hd]
    by_cases e : f m = m
    · rw [e]
      congr 1
      apply cnt_congr
      intro i hi
      unfold bijDown
      split
      · rename_i h4; have := h.2 i m (by omega) (by omega) (by omega); omega
      · rfl
    · obtain ⟨x, hx, hfx⟩ := h.onto m (by omega)
      have hxm : x < m := by
        rcases Nat.lt_or_ge x m with h5 | h5
        · exact h5
        · obtain rfl : x = m := by omega
          exact absurd hfx e
      have := cnt_one (p := fun i => p (f i)) (q := fun i => p (bijDown f m i)) hxm (by
        intro i hi hne
        unfold bijDown
        split
        · rename_i h4; exact absurd (h.2 i x (by omega) (by omega) (by omega)) hne
        · rfl)
      simp only [hfx] at this
      have e3 : bijDown f m x = f m := by unfold bijDown; rw [if_pos hfx]
      rw [e3] at this
      omega

theorem pc_cnt (x : Nat) (hx : x < 256) : pc x = cnt (fun b => x.testBit b) 8 := by
  have : ∀ x : Fin 256, pc x.val = cnt (fun b => x.val.testBit b) 8 := by decide +kernel
  exact this ⟨x, hx⟩
/-- A player's score. -/
def sc (l : List Int) (a : Nat) : Nat := cnt (fun b => bt l a b) l.length
theorem pc_sc {l : List Int} (h : OkL l) {a : Nat} (ha : a < l.length) : pc (l.getD a 0).toNat = sc l a := by
  obtain ⟨x, hx, hx2, hx8⟩ := h.nat ha
  rw [hx]
  show pc x = _
  rw [pc_cnt x hx8]
  unfold sc
  rw [cnt_mono (p := fun b => x.testBit b) (k := l.length) h.le.2 (fun i h1 _ => Nat.testBit_lt_two_pow (Nat.lt_of_lt_of_le hx2 (pow_le_of h1)))]
  exact cnt_congr (fun i _ => (bt_nat i hx).symm)
theorem sc_lt {l : List Int} (h : OkL l) {a : Nat} (ha : a < l.length) : sc l a < l.length := by
  have h1 := cnt_not (fun b => bt l a b) l.length
  have h2 : 1 ≤ cnt (fun b => !bt l a b) l.length := by
    have := cnt_one (p := fun b => !bt l a b) (q := fun b => if b = a then false else !bt l a b) ha (fun i _ hne => by simp [hne])
    simp [h.self ha] at this
    omega
  unfold sc
  omega

/-! All scores. -/
def sumN (f : Nat → Nat) : Nat → Nat
  | 0 => 0
  | k + 1 => sumN f k + f k
theorem sumN_congr {f g : Nat → Nat} : ∀ {k : Nat}, (∀ i, i < k → f i = g i) → sumN f k = sumN g k
  | 0, _ => rfl
  | k + 1, h => by simp only [sumN]; rw [sumN_congr (fun i hi => h i (by omega)), h k (by omega)]
theorem sumN_add (f g : Nat → Nat) : ∀ k, sumN (fun i => f i + g i) k = sumN f k + sumN g k
  | 0 => rfl
  | k + 1 => by simp only [sumN]; rw [sumN_add f g k]; omega
theorem sumN_cnt (p : Nat → Bool) : ∀ k, sumN (fun i => if p i then 1 else 0) k = cnt p k
  | 0 => rfl
  | k + 1 => by simp only [sumN, cnt]; rw [sumN_cnt p k]
theorem pairs (b : Nat → Nat → Bool) (m : Nat) (hs : ∀ i, i < m → b i i = false) (ho : ∀ i j, i < m → j < m → i ≠ j → b i j = !b j i) :
    ∀ k, k ≤ m → 2 * sumN (fun i => cnt (b i) k) k = k * (k - 1) := by
  intro k
  induction k with
  | zero => intro _; rfl
  | succ k ih =>
    intro hk
    have h1 := ih (by omega)
    have e1 : sumN (fun i => cnt (b i) (k + 1)) (k + 1) = sumN (fun i => cnt (b i) k) k + sumN (fun i => if b i k then 1 else 0) k + cnt (b k) k := by
      show sumN (fun i => cnt (b i) k + if b i k then 1 else 0) k + (cnt (b k) k + if b k k then 1 else 0) = _
      rw [sumN_add, hs k (by omega)]
      rfl
    rw [sumN_cnt (fun i => b i k)] at e1
    have e2 := cnt_not (fun i => b i k) k
    have e3 : cnt (fun i => !b i k) k = cnt (b k) k := cnt_congr (fun i hi => (ho k i (by omega) (by omega) (by omega)).symm)
    have e4 : (k + 1) * (k + 1 - 1) = k * (k - 1) + 2 * k := by
      cases k with
      | zero => rfl
      | succ k => simp only [Nat.add_sub_cancel, Nat.add_mul, Nat.mul_add]; omega
    omega
theorem sumScores {l : List Int} (h : OkL l) : 2 * sumN (sc l) l.length = l.length * (l.length - 1) :=
  pairs (bt l) l.length (fun i hi => h.self hi) (fun i j hi hj hne => h.other hi hj hne) l.length (Nat.le_refl _)

/-! Turned. -/
theorem turned {l : List Int} (h : OkL l) : OkL (turnR (l.length : Int) l) ∧ (turnR (l.length : Int) l).length = l.length ∧ turnN (l.length : Int) l = l.length ∧ ∀ i j, i < l.length → j < l.length → bt (turnR (l.length : Int) l) i j = bt l j i := by
  obtain ⟨e, e2⟩ := turnR_ok (okB_L h)
  rw [e]
  have hlen := turnS_len l
  have key : ∀ i j, i < l.length → ((turnS l).getD i 0).testBit j = (decide (j < l.length) && (!bt l i j && decide (j ≠ i))) := by
    intro i j hi
    obtain ⟨x, hx, hx2, _⟩ := h.nat hi
    have hself := h.self hi
    rw [bt_nat i hx] at hself
    rw [List.getD_eq_getElem?_getD, turnS_at l i x hi hx, Option.getD_some, turn_bit _ x i j h.le.2 hx2 hi hself, bt_nat j hx]
  have key2 : ∀ i j, i < l.length → j < l.length → ((turnS l).getD i 0).testBit j = bt l j i := by
    intro i j hi hj
    rw [key i j hi]
    by_cases e : j = i
    · subst e; simp [h.self hj]
    · rw [h.other hj hi e]; simp [hj, e]
  refine ⟨mkOk (by rw [hlen]; exact h.le.1) (by rw [hlen]; exact h.le.2) ?_ ?_ ?_, by simp [hlen], e2, fun i j hi hj => by rw [bt_ofNat]; exact key2 i j hi hj⟩
  · intro i hi
    rw [hlen] at hi ⊢
    obtain ⟨x, hx, hx2, _⟩ := h.nat hi
    rw [List.getD_eq_getElem?_getD, turnS_at l i x hi hx, Option.getD_some]
    exact Nat.lt_of_le_of_lt (Nat.le_trans (Nat.sub_le _ _) (Nat.sub_le _ _)) (Nat.sub_lt (Nat.two_pow_pos _) (by decide))
  · intro i hi
    rw [hlen] at hi
    rw [key2 i i hi hi, h.self hi]
  · intro i j hi hj hne
    rw [hlen] at hi hj
    rw [key2 i j hi hj, key2 j i hj hi, h.other hj hi (fun e => hne e.symm)]
theorem turned2 {l : List Int} (h : OkL l) : turnR ((turnR (l.length : Int) l).length : Int) (turnR (l.length : Int) l) = l := by
  obtain ⟨h1, h2, _, h4⟩ := turned h
  obtain ⟨k1, k2, _, k4⟩ := turned h1
  refine okL_ext k1 h (by omega) fun i j hi hj => ?_
  rw [k4 i j (by omega) (by omega), h4 j i (by omega) (by omega)]
theorem sc_turned {l : List Int} (h : OkL l) {a : Nat} (ha : a < l.length) : sc (turnR (l.length : Int) l) a + sc l a + 1 = l.length := by
  obtain ⟨h1, h2, _, h4⟩ := turned h
  have e1 : sc (turnR (l.length : Int) l) a = cnt (fun b => bt l b a) l.length := by
    unfold sc; rw [h2]; exact cnt_congr (fun i hi => h4 a i ha hi)
  have e2 := cnt_one (p := fun b => bt l b a) (q := fun b => !bt l a b) ha (fun i hi hne => by rw [h.other hi ha hne])
  have e3 := cnt_not (fun b => bt l a b) l.length
  simp only [h.self ha] at e2
  unfold sc at *
  rw [e1]
  simp at e2
  omega
end Go.Proofs.Ytgjogbihadiojaa
