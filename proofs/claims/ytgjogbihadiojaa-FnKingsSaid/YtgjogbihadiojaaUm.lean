/-
  The first one of a part that is transitive (mathematics). No program.
-/
import Derived.Test.YtgjogbihadiojaaU2
import Derived.Test.YtgjogbihadiojaaR
import Derived.Test.Ytgjogbihadiojaa8J
namespace Go.Proofs.Ytgjogbihadiojaa
open Go.ChangeShapes Go.WideShapes Go.ChangeAt Go.RowKit
set_option linter.unusedVariables false

/-- The one set without the other one. -/
def an (x w : Nat) : Nat := x &&& (2 ^ 64 - (w + 1))
theorem an_bit {x w : Nat} (hx : x < 2 ^ 64) (hw : w < 2 ^ 64) (j : Nat) : (an x w).testBit j = (x.testBit j && !w.testBit j) := by
  unfold an
  rw [Nat.testBit_and, Nat.testBit_two_pow_sub_succ hw]
  rcases Nat.lt_or_ge j 64 with h | h
  · simp [h]
  · rw [Nat.testBit_lt_two_pow (Nat.lt_of_lt_of_le hx (Nat.pow_le_pow_right (by decide) h))]; simp
theorem andNot62 (x w : Nat) (hx : x < 2 ^ 62) (hw : w < 2 ^ 62) : bits .andNot .i64 (x : Int) (w : Int) = ((an x w : Nat) : Int) := by
  show IntKind.i64.wrap ((BitVec.ofInt 64 x &&& ~~~ BitVec.ofInt 64 w).toNat : Nat) = _
  rw [BitVec.toNat_and, BitVec.toNat_not, ofInt_small x hx, ofInt_small w hw]
  rw [show 2 ^ 64 - 1 - w = 2 ^ 64 - (w + 1) by omega]
  exact wrap_small _ (Nat.lt_of_le_of_lt Nat.and_le_left hx)
theorem andNot256 (x w : Nat) (hx : x < 256) (hw : w < 256) : bits .andNot .i64 (x : Int) (w : Int) = ((an x w : Nat) : Int) := andNot62 x w (by omega) (by omega)
theorem an_lt {x w : Nat} (hx : x < 256) : an x w < 256 := Nat.lt_of_le_of_lt Nat.and_le_left hx
theorem b64 {x : Nat} (hx : x < 256) : x < 2 ^ 64 := by omega
theorem an_pow {x w a : Nat} (hx : x < 256) (hw : w < 256) : an x w = 2 ^ a ↔ ∀ j, (x.testBit j && !w.testBit j) = decide (a = j) := by
  constructor
  · intro h j
    rw [← an_bit (b64 hx) (b64 hw), h, Nat.testBit_two_pow]
  · intro h
    apply Nat.eq_of_testBit_eq
    intro j
    rw [an_bit (b64 hx) (b64 hw), h, Nat.testBit_two_pow]
theorem an_zero {x w : Nat} (hx : x < 256) (hw : w < 256) : an x w = 0 ↔ ∀ j, x.testBit j = true → w.testBit j = true := by
  constructor
  · intro h j hj
    have := an_bit (b64 hx) (b64 hw) j
    rw [h, Nat.zero_testBit, hj] at this
    cases e : w.testBit j
    · rw [e] at this; cases this
    · rfl
  · intro h
    apply Nat.eq_of_testBit_eq
    intro j
    rw [an_bit (b64 hx) (b64 hw), Nat.zero_testBit]
    cases e : x.testBit j
    · rfl
    · rw [h j e]; rfl
/-- Whether somebody beats a whole set. -/
def bbo (f : Nat → Nat) (m x : Nat) : Bool := decide (0 < Kk.cn (fun a => an x (f a) == 0) m)
/-- The model's first one of a set, as a power of two. -/
def firstTo (f : Nat → Nat) (x : Nat) : Nat → Nat
  | 0 => 0
  | k + 1 => if x.testBit k && (an x (f k) == 2 ^ k) then 2 ^ k else firstTo f x k
theorem first_uniq {f : Nat → Nat} {x m a0 : Nat} (ha : a0 < m) (h0 : (x.testBit a0 && (an x (f a0) == 2 ^ a0)) = true)
    (h1 : ∀ a, a < m → (x.testBit a && (an x (f a) == 2 ^ a)) = true → a = a0) : firstTo f x m = 2 ^ a0 := by
  have : ∀ k, k ≤ m → firstTo f x k = if a0 < k then 2 ^ a0 else 0 := by
    intro k
    induction k with
    | zero => exact fun _ => rfl
    | succ k ih =>
      intro hk
      simp only [firstTo]
      cases hc : (x.testBit k && (an x (f k) == 2 ^ k))
      · rw [ih (by omega)]
        have hne : a0 ≠ k := fun e => by rw [← e, h0] at hc; cases hc
        by_cases h : a0 < k
        · simp [h, show a0 < k + 1 by omega]
        · simp [h, show ¬ a0 < k + 1 by omega]
      · have := h1 k (by omega) hc
        subst this
        simp
  rw [this m (Nat.le_refl _), if_pos ha]

theorem numb_nb (f : Nat → Bool) : ∀ k, numb f k = Rc.nb f k
  | 0 => rfl
  | k + 1 => by simp only [numb, Rc.nb]; rw [numb_nb f k]
theorem partP_len (l : List Int) (x : Nat) : ((partL l (elems x)).map Int.ofNat).length = (elems x).length := by rw [List.length_map, partL_len]
theorem partP_at (l : List Int) (x i : Nat) (hi : i < (elems x).length) : ((partL l (elems x)).map Int.ofNat).getD i 0 = ((Rc.nb (partF l (elems x) i) (elems x).length : Nat) : Int) := by
  rw [List.getD_eq_getElem?_getD, List.getElem?_map, partL_at l _ i hi, numb_nb]; rfl
theorem partP_bt (l : List Int) (x i j : Nat) (hi : i < (elems x).length) (hj : j < (elems x).length) : bt ((partL l (elems x)).map Int.ofNat) i j = bt l ((elems x).getD i 0) ((elems x).getD j 0) := by
  show bi _ _ = _
  rw [partP_at l x i hi, bi_nat, Rc.nb_bit]
  simp only [hj, decide_true, Bool.true_and]
  rfl
theorem el_nodup (x : Nat) : (elems x).Nodup := List.Pairwise.filter _ List.nodup_range
theorem el_inj {x i j : Nat} (hi : i < (elems x).length) (hj : j < (elems x).length) (h : (elems x).getD i 0 = (elems x).getD j 0) : i = j := by
  rw [List.getD_eq_getElem?_getD, List.getD_eq_getElem?_getD, List.getElem?_eq_getElem hi, List.getElem?_eq_getElem hj] at h
  exact (List.getElem_inj (el_nodup x)).1 h
theorem el_at {x m a : Nat} (hm : m ≤ 8) (hx : x < 2 ^ m) (h : x.testBit a = true) : ∃ i, i < (elems x).length ∧ (elems x).getD i 0 = a := by
  have ha := Rc.bit_lt hx h
  obtain ⟨i, hi, e⟩ := List.mem_iff_getElem.1 (Kk.mem_el.2 ⟨by omega, h⟩)
  exact ⟨i, hi, by rw [List.getD_eq_getElem?_getD, List.getElem?_eq_getElem hi]; exact e⟩
theorem el_pos {x : Nat} {m : Nat} (hm : m ≤ 8) (h1 : 1 ≤ x) (hx : x < 2 ^ m) : 1 ≤ (elems x).length := by
  obtain ⟨a, ha⟩ := Nat.exists_testBit_of_ne_zero (show x ≠ 0 by omega)
  obtain ⟨i, hi, _⟩ := el_at hm hx ha
  omega
/-- A part of a valid tour is one. -/
theorem partP_ok {n : Int} {l : List Int} (h : Ok n l) {x : Nat} (h1 : 1 ≤ x) (hx : x < 2 ^ l.length) : Ok (((elems x).length : Nat) : Int) ((partL l (elems x)).map Int.ofNat) := by
  have hv := okVa h
  have hl := partP_len l x
  have hle : (elems x).length ≤ 8 := elTo_len x 8
  have hpos := el_pos hv.le h1 hx
  refine ⟨by omega, by omega, by rw [hl], fun i hi => ?_⟩
  rw [hl] at hi
  refine ⟨?_, ?_, fun j hj => ?_⟩
  · rw [partP_at l x i hi, hl]
    have := Rc.nb_lt (partF l (elems x) i) (elems x).length
    unfold inSet
    simp only [Bool.and_eq_true, decide_eq_true_eq]
    omega
  · have := partP_bt l x i i hi hi
    have h2 := elems_in x i l.length hx hi
    show bt _ i i = false
    rw [this]
    exact (h.2.2.2 _ h2).2.1
  · have hji : j < (elems x).length := by omega
    have e1 := partP_bt l x i j hi hji
    have e2 := partP_bt l x j i hji hi
    show bt _ i j ≠ bt _ j i
    rw [e1, e2]
    have hi2 := elems_in x i l.length hx hi
    have hj2 := elems_in x j l.length hx hji
    have hne : (elems x).getD i 0 ≠ (elems x).getD j 0 := fun e => by have := el_inj hi hji e; omega
    have := hv.other _ _ hi2 hj2 hne
    rw [bit_wwU h hi2, bit_wwU h hj2, this]
    cases (ww l ((elems x).getD j 0)).testBit ((elems x).getD i 0) <;> simp
/-- In a tour with no triangle one player beats all others. -/
theorem top_of {b : Nat → Nat → Bool} {m : Nat} (h1 : 1 ≤ m) (hself : ∀ i, i < m → b i i = false) (hoth : ∀ i j, i < m → j < m → i ≠ j → b i j = !b j i)
    (hno : ∀ i j k, i < m → j < m → k < m → b i j = true → b j k = true → b k i = true → False) : ∃ i, i < m ∧ ∀ j, j < m → j ≠ i → b i j = true := by
  have : ∀ k, k ≤ m → 1 ≤ k → ∃ i, i < k ∧ ∀ j, j < k → j ≠ i → b i j = true := by
    intro k
    induction k with
    | zero => exact fun _ h => absurd h (by omega)
    | succ k ih =>
      intro hk _
      rcases Nat.eq_zero_or_pos k with rfl | hp
      · exact ⟨0, by omega, fun j hj hne => absurd hj (by omega)⟩
      · obtain ⟨i, hi, hb⟩ := ih (by omega) hp
        cases e : b k i
        · refine ⟨i, by omega, fun j hj hne => ?_⟩
          rcases Nat.lt_or_ge j k with h | h
          · exact hb j h hne
          · obtain rfl : j = k := by omega
            rw [hoth i j (by omega) (by omega) (by omega), e]; rfl
        · refine ⟨k, by omega, fun j hj hne => ?_⟩
          have hjk : j < k := by omega
          by_cases hji : j = i
          · rw [hji]; exact e
          · cases e2 : b k j
            · exfalso
              have e3 : b j k = true := by rw [hoth j k (by omega) (by omega) (by omega), e2]; rfl
              exact hno k i j (by omega) (by omega) (by omega) e (hb j hjk hji) e3
            · rfl
  exact this m (Nat.le_refl _) h1
theorem no_tri {n : Int} {l : List Int} (h : Ok n l) (ht : triL l = []) : ∀ i j k, i < l.length → j < l.length → k < l.length → bt l i j = true → bt l j k = true → bt l k i = true → False := by
  intro i j k hi hj hk h1 h2 h3
  have hs : ∀ a, a < l.length → bt l a a = false := fun a ha => (h.2.2.2 a ha).2.1
  have hij : i ≠ j := fun e => by rw [e, hs j hj] at h1; cases h1
  have hjk : j ≠ k := fun e => by rw [e, hs k hk] at h2; cases h2
  have hki : k ≠ i := fun e => by rw [e, hs i hi] at h3; cases h3
  have key : ∀ a b c, a < l.length → b < l.length → c < l.length → a < b → a < c → c ≠ b → bt l a b = true → bt l b c = true → bt l c a = true → False := by
    intro a b c ha hb hc hab hac hcb g1 g2 g3
    have : t3 a b c ∈ triL l := mem_triL8.2 ⟨a, b, c, ha, hb, hc, hab, hac, by unfold trB; rw [g1, g2, g3]; simp [hcb], rfl⟩
    rw [ht] at this; cases this
  rcases Nat.lt_or_ge i j with g | g
  · rcases Nat.lt_or_ge i k with g2 | g2
    · exact key i j k hi hj hk g g2 (fun e => hjk e.symm) h1 h2 h3
    · exact key k i j hk hi hj (by omega) (by omega) (fun e => hij e.symm) h3 h1 h2
  · rcases Nat.lt_or_ge j k with g2 | g2
    · exact key j k i hj hk hi g2 (by omega) (fun e => hki e.symm) h2 h3 h1
    · exact key k i j hk hi hj (by omega) (by omega) (fun e => hij e.symm) h3 h1 h2
theorem su_all {p : Nat → Bool} : ∀ {m i : Nat}, i < m → (∀ j, j < m → j ≠ i → p j = true) → p i = false → Tr8.sc p m + 1 = m
  | 0, i, hi, _, _ => absurd hi (Nat.not_lt_zero _)
  | m + 1, i, hi, h, h0 => by
    show Tr8.sc p m + Tr8.v (p m) + 1 = m + 1
    by_cases e : i = m
    · subst e
      have : ∀ k, k ≤ i → Tr8.sc p k = k := by
        intro k
        induction k with
        | zero => exact fun _ => rfl
        | succ k ih =>
          intro hk
          show Tr8.sc p k + Tr8.v (p k) = k + 1
          rw [ih (by omega), h k (by omega) (by omega)]; rfl
      rw [this i (Nat.le_refl _), h0]; rfl
    · have := su_all (p := p) (m := m) (i := i) (by omega) (fun j hj => h j (by omega)) h0
      rw [h m (by omega) (by omega)]
      show Tr8.sc p m + 1 + 1 = m + 1
      omega
theorem su_all_iff {p : Nat → Bool} : ∀ {m i : Nat}, i < m → p i = false → Tr8.sc p m + 1 = m → ∀ j, j < m → j ≠ i → p j = true := by
  intro m
  have hle : ∀ k, Tr8.sc p k ≤ k := by
    intro k
    induction k with
    | zero => exact Nat.le_refl _
    | succ k ih =>
      show Tr8.sc p k + Tr8.v (p k) ≤ k + 1
      have : Tr8.v (p k) ≤ 1 := by unfold Tr8.v; split <;> omega
      omega
  have hfull : ∀ k, Tr8.sc p k = k → ∀ j, j < k → p j = true := by
    intro k
    induction k with
    | zero => exact fun _ j hj => absurd hj (Nat.not_lt_zero _)
    | succ k ih =>
      intro he j hj
      have e : Tr8.sc p k + Tr8.v (p k) = k + 1 := he
      have h1 := hle k
      have h2 : Tr8.v (p k) ≤ 1 := by unfold Tr8.v; split <;> omega
      rcases Nat.lt_or_ge j k with g | g
      · exact ih (by omega) j g
      · obtain rfl : j = k := by omega
        cases e2 : p j
        · rw [e2] at e
          have : Tr8.v false = 0 := rfl
          omega
        · rfl
  induction m with
  | zero => exact fun hi => absurd hi (Nat.not_lt_zero _)
  | succ m ih =>
    intro i hi h0 he j hj hne
    have e : Tr8.sc p m + Tr8.v (p m) + 1 = m + 1 := he
    by_cases him : i = m
    · subst him
      have hv : Tr8.v (p i) = 0 := by rw [h0]; rfl
      exact hfull i (by omega) j (by omega)
    · cases e2 : p m
      · exfalso
        have hv : Tr8.v (p m) = 0 := by rw [e2]; rfl
        have := hfull m (by omega) i (by omega)
        rw [h0] at this; cases this
      · have hv : Tr8.v (p m) = 1 := by rw [e2]; rfl
        rcases Nat.lt_or_ge j m with g | g
        · exact ih (by omega) h0 (by omega) j g hne
        · obtain rfl : j = m := by omega
          exact e2
/-- Who is put first. -/
theorem ord_first {S : List Nat} {i : Nat} (h1 : 1 ≤ S.length) (hi : i < S.length) (hs : S.getD i 0 = S.length - 1) (hu : ∀ j, j < S.length → S.getD j 0 = S.length - 1 → j = i) (hlt : ∀ j, j < S.length → S.getD j 0 < S.length) :
    (ordTo S S.length).getD 0 0 = i := by
  have : ∀ k, k ≤ S.length → (ordTo S k).getD 0 0 = if i < k then i else 0 := by
    intro k
    induction k with
    | zero => intro _; simp only [ordTo, Nat.not_lt_zero, if_false]; rw [List.getD_eq_getElem?_getD, List.getElem?_replicate]; split <;> rfl
    | succ k ih =>
      intro hk
      have ih := ih (by omega)
      simp only [ordTo]
      rw [List.getD_eq_getElem?_getD, List.getElem?_set]
      by_cases e : k = i
      · subst e
        have h0 : S.length - 1 - S.getD k 0 = 0 := by omega
        rw [h0]
        simp [ordTo_len, show 0 < S.length by omega]
      · have hne : S.length - 1 - S.getD k 0 ≠ 0 := fun e2 => e (hu k (by omega) (by have := hlt k (by omega); omega))
        rw [if_neg hne, ← List.getD_eq_getElem?_getD, ih]
        by_cases g : i < k
        · simp [g, show i < k + 1 by omega]
        · simp [g, show ¬ i < k + 1 by omega]
  rw [this _ (Nat.le_refl _), if_pos hi]
/-- The first one of a transitive part, on both sides. -/
theorem first_same {n : Int} {l : List Int} (h : Ok n l) {x : Nat} (h1 : 1 ≤ x) (hx : x < 2 ^ l.length) (ht : triL ((partL l (elems x)).map Int.ofNat) = []) :
    ∃ i, i < (elems x).length ∧ (ordTo (scoresL ((partL l (elems x)).map Int.ofNat)) (scoresL ((partL l (elems x)).map Int.ofNat)).length).getD 0 0 = i ∧ (elems x).getD i 0 < l.length ∧ firstTo (ww l) x l.length = 2 ^ (elems x).getD i 0 := by
  have hv := okVa h
  obtain ⟨P, hP⟩ : ∃ P, P = (partL l (elems x)).map Int.ofNat := ⟨_, rfl⟩
  have hok := partP_ok h h1 hx
  have hlen := partP_len l x
  have hbt := partP_bt l x
  rw [← hP] at hok hlen hbt ht ⊢
  have hx8 := pow256 hv.le hx
  have hpos := el_pos hv.le h1 hx
  have hno := no_tri hok ht
  have hva := okVa hok
  have hself : ∀ i, i < P.length → bt P i i = false := fun i hi => by rw [bit_wwU hok hi]; exact hva.self i hi
  have hoth : ∀ i j, i < P.length → j < P.length → i ≠ j → bt P i j = !bt P j i := fun i j hi hj hne => by rw [bit_wwU hok hi, bit_wwU hok hj]; exact hva.other i j hi hj hne
  obtain ⟨i, hi, htop⟩ := top_of (b := bt P) (m := P.length) (by omega) hself hoth hno
  have hie : i < (elems x).length := by omega
  have hsl := scoresL_len P
  have hsc : ∀ j, j < P.length → (scoresL P).getD j 0 = Tr8.sc (bt P j) P.length := fun j hj => score_sc hok j hj
  have ha := elems_in x i l.length hx hie
  refine ⟨i, hie, ?_, ha, ?_⟩
  · refine ord_first (by omega) (by omega) ?_ ?_ (fun j hj => by rw [hsl] at hj ⊢; exact score_lt hok j hj)
    · rw [hsc i hi, hsl]
      have := su_all hi (fun j hj hne => htop j hj hne) (hself i hi)
      omega
    · intro j hj hs
      rw [hsl] at hj hs
      rw [hsc j hj] at hs
      have hall := su_all_iff hj (hself j hj) (by omega)
      by_cases e : j = i
      · exact e
      · exfalso
        have g1 := hall i hi (fun e2 => e e2.symm)
        have g2 := htop j hj e
        rw [hoth i j hi hj (fun e2 => e e2.symm), g1] at g2; cases g2
  · have hw8 : ∀ a, a < l.length → ww l a < 256 := fun a ha => (h.ww ha).2.2
    have hbeats : ∀ j, x.testBit j = true → j ≠ (elems x).getD i 0 → (ww l ((elems x).getD i 0)).testBit j = true := by
      intro j hj hne
      obtain ⟨q, hq, rfl⟩ := el_at hv.le hx hj
      have hqi : q ≠ i := fun e => hne (by rw [e])
      have := htop q (by omega) hqi
      rw [hbt i q hie hq, bit_wwU h ha] at this
      exact this
    have hbit := elems_bit x i hie
    obtain ⟨a0, ha0⟩ : ∃ a0, a0 = (elems x).getD i 0 := ⟨_, rfl⟩
    rw [← ha0] at hbeats hbit ha ⊢
    clear ha0 htop hsc hbt
    refine first_uniq ha ?_ ?_
    · rw [hbit, Bool.true_and, beq_iff_eq, an_pow hx8 (hw8 _ ha)]
      intro j
      by_cases e : a0 = j
      · rw [← e, hbit, hv.self _ ha]; simp
      · cases hj : x.testBit j
        · simp [e]
        · rw [hbeats j hj (fun e2 => e e2.symm)]; simp [e]
    · intro a ham hc
      have hc2 := Bool.and_eq_true_iff.1 hc
      have hp := (an_pow hx8 (hw8 a ham)).1 (by simpa using hc2.2)
      by_cases e : a = a0
      · exact e
      · exfalso
        have g1 := hbeats a hc2.1 e
        have g2 := hp a0
        rw [hbit, hv.other a _ ham ha e, g1] at g2
        simp [e] at g2
end Go.Proofs.Ytgjogbihadiojaa
