/-
  'FnKings', its mathematics: kings, whom nobody covers; there is one or three of them at least; the Banks players are kings; the least dominating set (valid tours). No program.
-/
import Derived.Test.YtgjogbihadiojaaUb
import Derived.Test.YtgjogbihadiojaaUk
import Derived.Test.YtgjogbihadiojaaU7
namespace Go.Proofs.Ytgjogbihadiojaa
open Go.ChangeShapes Go.WideShapes Go.ChangeAt Go.RowKit
set_option linter.unusedVariables false

namespace Kk
theorem pc1 (x : Nat) (hx : x < 256) : pc x = 1 ↔ ∃ p, p < 8 ∧ x = 2 ^ p := by
  have h : ∀ y : Fin 256, (pc y.val == 1) = (List.range 8).any fun p => y.val == 2 ^ p := by decide +kernel
  have h2 := h ⟨x, hx⟩
  rw [Bool.eq_iff_iff] at h2
  simp only [beq_iff_eq, List.any_eq_true, List.mem_range] at h2
  exact h2
theorem pc2 (x : Nat) (hx : x < 256) (h0 : pc x = 2) : ∃ p q, p ≠ q ∧ x = 2 ^ p ||| 2 ^ q := by
  have h : ∀ y : Fin 256, (!(pc y.val == 2) || ((List.range 8).any fun p => (List.range 8).any fun q => !(p == q) && (y.val == 2 ^ p ||| 2 ^ q))) = true := by decide +kernel
  have h2 := h ⟨x, hx⟩
  rw [Bool.or_eq_true] at h2
  rcases h2 with h2 | h2
  · simp at h2; exact absurd h0 h2
  · simp only [List.any_eq_true, List.mem_range, Bool.and_eq_true, Bool.not_eq_true', beq_eq_false_iff_ne, ne_eq, beq_iff_eq] at h2
    obtain ⟨p, _, q, _, h3, h4⟩ := h2
    exact ⟨p, q, h3, h4⟩
theorem pc_pos (x : Nat) (hx : x < 256) (h0 : x ≠ 0) : 1 ≤ pc x := by
  have h : ∀ y : Fin 256, y.val ≠ 0 → 1 ≤ pc y.val := by decide +kernel
  exact h ⟨x, hx⟩ h0
theorem pc_sub (x a : Nat) (hx : x < 256) (ha : a < 8) (h : x.testBit a = true) : pc (x - 2 ^ a) < pc x ∧ x - 2 ^ a < x := by
  have h : ∀ (y : Fin 256) (b : Fin 8), y.val.testBit b.val = true → pc (y.val - 2 ^ b.val) < pc y.val ∧ y.val - 2 ^ b.val < y.val := by decide +kernel
  exact h ⟨x, hx⟩ ⟨a, ha⟩ ‹_›
section
variable {f : Nat → Nat} {m : Nat}
theorem kings_bit (a : Nat) : (kings f m).testBit a = (decide (a < m) && kingN f m a) := by unfold kings; rw [Rc.nb_bit]
theorem kings_lt2 (f : Nat → Nat) (m : Nat) : kings f m < 2 ^ m := Rc.nb_lt _ _
theorem max_king (hv : Va f m) {a : Nat} (ha : a < m) (h : ∀ j, j < m → pc (f j) ≤ pc (f a)) : kingN f m a = true := by
  cases e : kingN f m a
  · exfalso
    obtain ⟨j, hj, hc⟩ := (king_cov hv ha).1 e
    have := cov_more hv hj ha hc
    have := h j hj
    omega
  · rfl
theorem some_max (hv : Va f m) : ∀ k, 1 ≤ k → k ≤ m → ∃ a, a < k ∧ ∀ j, j < k → pc (f j) ≤ pc (f a)
  | 0, h, _ => absurd h (by omega)
  | 1, _, _ => ⟨0, by omega, fun j hj => Nat.le_of_eq (by rw [show j = 0 by omega])⟩
  | k + 2, _, hk => by
    obtain ⟨a, ha, h⟩ := some_max hv (k + 1) (by omega) (by omega)
    by_cases hc : pc (f a) ≤ pc (f (k + 1))
    · refine ⟨k + 1, by omega, fun j hj => ?_⟩
      rcases Nat.lt_or_ge j (k + 1) with g | g
      · have := h j g; omega
      · obtain rfl : j = k + 1 := by omega
        exact Nat.le_refl _
    · refine ⟨a, by omega, fun j hj => ?_⟩
      rcases Nat.lt_or_ge j (k + 1) with g | g
      · exact h j g
      · obtain rfl : j = k + 1 := by omega
        omega
theorem kings_pos (hv : Va f m) (h1 : 1 ≤ m) : 0 < kings f m := by
  obtain ⟨a, ha, h⟩ := some_max hv m h1 (Nat.le_refl _)
  have hk := max_king hv ha h
  have : (kings f m).testBit a = true := by rw [kings_bit]; simp [ha, hk]
  rcases Nat.eq_zero_or_pos (kings f m) with e | e
  · rw [e, Nat.zero_testBit] at this; cases this
  · exact e
/-- Who beats all others. -/
def Sov (f : Nat → Nat) (m s : Nat) : Prop := s < m ∧ ∀ j, j < m → j ≠ s → (f s).testBit j = true
theorem no_beater_sov (hv : Va f m) {a : Nat} (ha : a < m) : (∀ j, j < m → (f j).testBit a = false) ↔ Sov f m a := by
  constructor
  · intro h
    refine ⟨ha, fun j hj hne => ?_⟩
    rw [hv.other a j ha hj (fun e => hne e.symm), h j hj]; rfl
  · intro h j hj
    by_cases e : j = a
    · rw [e]; exact hv.self a ha
    · rw [hv.other j a hj ha e, h.2 j hj e]; rfl
theorem sov_one (hv : Va f m) {s t : Nat} (hs : Sov f m s) (ht : Sov f m t) : s = t := by
  by_cases e : s = t
  · exact e
  · exfalso
    have h1 := hs.2 t ht.1 (fun e2 => e e2.symm)
    have h2 := ht.2 s hs.1 e
    rw [hv.other s t hs.1 ht.1 e, h2] at h1; cases h1
theorem sov_kings (hv : Va f m) {s : Nat} (hs : Sov f m s) : kings f m = 2 ^ s := by
  apply Rc.eq_bits
  intro a
  rw [kings_bit, Nat.testBit_two_pow, decide_eq_true_iff, Bool.and_eq_true, decide_eq_true_iff]
  constructor
  · rintro ⟨ha, hk⟩
    by_cases e : s = a
    · exact e
    · exfalso
      rcases (king_iff hv ha).1 hk s hs.1 with h | h | ⟨c, hc, h1, h2⟩
      · exact e h
      · rw [hv.other a s ha hs.1 (fun e2 => e e2.symm), hs.2 a ha (fun e2 => e e2.symm)] at h; cases h
      · rw [(no_beater_sov hv hs.1).2 hs c hc] at h2; cases h2
  · rintro rfl
    exact ⟨hs.1, (king_iff hv hs.1).2 fun j hj => if e : j = s then .inl e else .inr (.inl (hs.2 j hj e))⟩
theorem one_king_sov (hv : Va f m) {p : Nat} (h : kings f m = 2 ^ p) : Sov f m p := by
  have hb : (kings f m).testBit p = true := by rw [h, Nat.testBit_two_pow_self]
  rw [kings_bit, Bool.and_eq_true, decide_eq_true_iff] at hb
  refine (no_beater_sov hv hb.1).1 fun j hj => ?_
  cases e : (f j).testBit p
  · rfl
  · exfalso
    have hne : step f m p ≠ p := fun e2 => by rw [(step_self hv hb.1).1 e2 j hj] at e; cases e
    have hk := step_king hv hb.1 hne
    have : (kings f m).testBit (step f m p) = true := by rw [kings_bit, hk]; simp [step_lt hv hb.1]
    rw [h, Nat.testBit_two_pow, decide_eq_true_iff] at this
    exact hne this.symm
theorem one_iff (hv : Va f m) (h1 : 1 ≤ m) : pc (kings f m) = 1 ↔ ∃ s, Sov f m s := by
  have hlt : kings f m < 256 := Nat.lt_of_lt_of_le (kings_lt2 f m) (pow_le m hv.le)
  rw [pc1 _ hlt]
  constructor
  · rintro ⟨p, _, h⟩; exact ⟨p, one_king_sov hv h⟩
  · rintro ⟨s, hs⟩; exact ⟨s, by have := hs.1; have := hv.le; omega, sov_kings hv hs⟩
theorem not_two (hv : Va f m) : pc (kings f m) ≠ 2 := by
  intro h
  have hlt : kings f m < 256 := Nat.lt_of_lt_of_le (kings_lt2 f m) (pow_le m hv.le)
  obtain ⟨p, q, hne, he⟩ := pc2 _ hlt h
  have hb : ∀ a, (kings f m).testBit a = true ↔ a = p ∨ a = q := fun a => by
    rw [he, Nat.testBit_or, Bool.or_eq_true, Nat.testBit_two_pow, Nat.testBit_two_pow, decide_eq_true_iff, decide_eq_true_iff]
    exact ⟨fun h => h.imp Eq.symm Eq.symm, fun h => h.imp Eq.symm Eq.symm⟩
  have hk : ∀ a, (kings f m).testBit a = true ↔ a < m ∧ kingN f m a = true := fun a => by rw [kings_bit, Bool.and_eq_true, decide_eq_true_iff]
  have key : ∀ p q, p ≠ q → (∀ a, (kings f m).testBit a = true ↔ a = p ∨ a = q) → (f p).testBit q = true → False := by
    intro p q hne hb hpq
    obtain ⟨hp, hpk⟩ := (hk p).1 ((hb p).2 (.inl rfl))
    obtain ⟨hq, hqk⟩ := (hk q).1 ((hb q).2 (.inr rfl))
    have hno : ∀ j, j < m → (f j).testBit p = false := by
      intro j hj
      cases e : (f j).testBit p
      · rfl
      · exfalso
        have hs : step f m p ≠ p := fun e2 => by rw [(step_self hv hp).1 e2 j hj] at e; cases e
        have h1 := step_king hv hp hs
        have h2 := (step_beats hv hp hs).1
        rcases (hb _).1 ((hk _).2 ⟨step_lt hv hp, h1⟩) with h3 | h3
        · exact hs h3
        · rw [h3, hv.other q p hq hp (fun e => hne e.symm), hpq] at h2; cases h2
    rcases (king_iff hv hq).1 hqk p hp with h | h | ⟨c, hc, h1, h2⟩
    · exact hne h
    · rw [hno q hq] at h; cases h
    · rw [hno c hc] at h2; cases h2
  obtain ⟨hp, _⟩ := (hk p).1 ((hb p).2 (.inl rfl))
  obtain ⟨hq, _⟩ := (hk q).1 ((hb q).2 (.inr rfl))
  cases e : (f p).testBit q
  · have : (f q).testBit p = true := by rw [hv.other q p hq hp (fun e => hne e.symm), e]; rfl
    exact key q p (fun e => hne e.symm) (fun a => (hb a).trans ⟨Or.symm, Or.symm⟩) this
  · exact key p q hne hb e
/-- The kings dominate. -/
theorem kings_dom (hv : Va f m) : domN f m (kings f m) = true := by
  rw [dom_iff hv.le (kings_lt2 f m) hv.lt]
  intro j hj
  cases e : kingN f m j
  · obtain ⟨h1, h2⟩ := king_step hv hj e
    exact .inr ⟨step f m j, step_lt hv hj, by rw [kings_bit, h2]; simp [step_lt hv hj], (step_beats hv hj h1).1⟩
  · exact .inl (by rw [kings_bit, e]; simp [hj])
/-- The least dominating set. -/
def least (f : Nat → Nat) (m : Nat) : Nat := leastTo f m (2 ^ m - 1)
theorem all_dom (hv : Va f m) : domN f m (2 ^ m - 1) = true := by
  have h1 : 1 ≤ 2 ^ m := Nat.one_le_two_pow
  rw [dom_iff hv.le (by omega) hv.lt]
  exact fun j hj => .inl (by simp [Nat.testBit_two_pow_sub_one, hj])
theorem least_dom (hv : Va f m) : domN f m (least f m) = true := by
  unfold least
  rcases least_spec f m (2 ^ m - 1) with h | h
  · rw [h]; exact all_dom hv
  · exact h.2
theorem least_lt (hv : Va f m) : least f m < 2 ^ m := by
  have h1 : 1 ≤ 2 ^ m := Nat.one_le_two_pow
  unfold least
  rcases least_spec f m (2 ^ m - 1) with h | h
  · rw [h]; omega
  · omega
theorem least_min (hv : Va f m) {x : Nat} (hx : x < 2 ^ m) (hd : domN f m x = true) : pc (least f m) ≤ pc x := by
  by_cases e : x < 2 ^ m - 1
  · exact least_le f m _ x e hd
  · obtain rfl : x = 2 ^ m - 1 := by omega
    by_cases e2 : least f m = 2 ^ m - 1
    · rw [e2]; exact Nat.le_refl _
    · have h1 := least_lt hv
      exact Nat.le_of_lt (pc_full m _ hv.le (by omega))
theorem least_one (hv : Va f m) (h1 : 1 ≤ m) : pc (least f m) = 1 ↔ ∃ s, Sov f m s := by
  have hlt : least f m < 256 := Nat.lt_of_lt_of_le (least_lt hv) (pow_le m hv.le)
  constructor
  · intro h
    obtain ⟨p, hp8, hp⟩ := (pc1 _ hlt).1 h
    have hd := least_dom hv
    have hl := least_lt hv
    rw [hp] at hd hl
    have hpm : p < m := (Nat.pow_lt_pow_iff_right (by decide)).1 hl
    refine ⟨p, hpm, fun j hj hne => ?_⟩
    rcases (dom_iff hv.le hl hv.lt).1 hd j hj with h' | ⟨a, ha, h2, h3⟩
    · rw [Nat.testBit_two_pow, decide_eq_true_iff] at h'; exact absurd h'.symm hne
    · rw [Nat.testBit_two_pow, decide_eq_true_iff] at h2
      rw [h2]; exact h3
  · rintro ⟨s, hs⟩
    have hsl : 2 ^ s < 2 ^ m := Nat.pow_lt_pow_right (by decide) hs.1
    have hd : domN f m (2 ^ s) = true := by
      rw [dom_iff hv.le hsl hv.lt]
      intro j hj
      by_cases e : j = s
      · exact .inl (by rw [e, Nat.testBit_two_pow_self])
      · exact .inr ⟨s, hs.1, Nat.testBit_two_pow_self, hs.2 j hj e⟩
    have h2 := least_min hv hsl hd
    have h3 : pc (2 ^ s) = 1 := (pc1 _ (Nat.lt_of_lt_of_le hsl (pow_le m hv.le))).2 ⟨s, by have := hs.1; have := hv.le; omega, rfl⟩
    have h4 : least f m ≠ 0 := by
      intro e
      have := least_dom hv
      rw [e, dom_zero f m h1] at this; cases this
    have h5 := pc_pos _ hlt h4
    omega
/-- No player of the least set can be left out. -/
theorem least_tight (hv : Va f m) {a : Nat} (ha : a < m) (h : (least f m).testBit a = true) : domN f m (least f m - 2 ^ a) = false := by
  cases e : domN f m (least f m - 2 ^ a)
  · rfl
  · exfalso
    have hlt : least f m < 256 := Nat.lt_of_lt_of_le (least_lt hv) (pow_le m hv.le)
    have h8 := hv.le
    obtain ⟨h1, h2⟩ := pc_sub _ a hlt (by omega) h
    have := least_min hv (by have := least_lt hv; omega) e
    omega
theorem cn_n {p : Nat → Bool} {k : Nat} (h : p k = false) : cn p (k + 1) = cn p k := by simp [cn, h]
theorem cn_y {p : Nat → Bool} {k : Nat} (h : p k = true) : cn p (k + 1) = cn p k + 1 := by simp [cn, h]
theorem cn_sc (p : Nat → Bool) : ∀ k, cn p k = Tr8.sc p k
  | 0 => rfl
  | k + 1 => by
    show cn p k + (if p k then 1 else 0) = Tr8.sc p k + Tr8.v (p k)
    rw [cn_sc p k]; rfl
theorem sov_score (hv : Va f m) {s : Nat} (hs : s < m) : pc (f s) + 1 = m ↔ Sov f m s := by
  rw [pc_cn _ m hv.le (hv.lt s hs), cn_sc]
  constructor
  · exact fun h => ⟨hs, su_all_iff hs (hv.self s hs) h⟩
  · exact fun h => su_all hs h.2 (hv.self s hs)
end
end Kk

section
variable {l : List Int}
theorem sovR_some {n : Int} (h : Ok n l) {s : Nat} (hs : Kk.Sov (ww l) l.length s) : sovR n l = (s : Int) := by
  obtain rfl : n = (l.length : Int) := h.2.2.1.symm
  have hv := okVa h
  unfold sovR resS
  rw [okB_iff.2 h]
  simp only [if_true]
  have hlen : ((scoresL l).map Int.ofNat).length = l.length := by rw [List.length_map, scoresL_len]
  have hg : ∀ k, k < l.length → ((scoresL l).map Int.ofNat).getD k 0 = ((pc (ww l k) : Nat) : Int) := fun k hk => by
    have e := scoresL_at l k (ww l k) hk (h.ww hk).1
    rw [List.getD_eq_getElem?_getD, List.getElem?_map, e]; rfl
  rw [fx_yes _ _ 0 s (by rw [hlen]; exact hs.1) (by rw [hg s hs.1]; have := (Kk.sov_score hv hs.1).2 hs; omega) (fun j hj e => ?_), Nat.zero_add]
  have hjl : j < l.length := by have := hs.1; omega
  rw [hg j hjl] at e
  have := Kk.sov_one hv hs ((Kk.sov_score hv hjl).1 (by omega))
  omega
theorem sovR_none {n : Int} (h : Ok n l) (hs : ¬ ∃ s, Kk.Sov (ww l) l.length s) : sovR n l = -1 := by
  obtain rfl : n = (l.length : Int) := h.2.2.1.symm
  have hv := okVa h
  unfold sovR resS
  rw [okB_iff.2 h]
  simp only [if_true]
  have hlen : ((scoresL l).map Int.ofNat).length = l.length := by rw [List.length_map, scoresL_len]
  refine fx_no _ _ 0 (fun j hj e => hs ⟨j, ?_⟩)
  rw [hlen] at hj
  have e2 := scoresL_at l j (ww l j) hj (h.ww hj).1
  rw [List.getD_eq_getElem?_getD, List.getElem?_map, e2] at e
  have e3 : ((pc (ww l j) : Nat) : Int) = (l.length : Int) - 1 := e
  exact (Kk.sov_score hv hj).1 (by omega)

/-! The Banks set. -/
theorem banks_bit (l : List Int) : ∀ k a, (banksTo l k).testBit a = true ↔ ∃ x, x < k ∧ ckB l x = true ∧ (firstTo (ww l) x l.length).testBit a = true
  | 0, a => by
    show (0 : Nat).testBit a = true ↔ _
    rw [Nat.zero_testBit]
    exact ⟨fun h => (by cases h), fun ⟨x, h, _⟩ => absurd h (Nat.not_lt_zero _)⟩
  | k + 1, a => by
    have ih := banks_bit l k a
    cases hc : ckB l k
    · rw [banks_no hc, ih]
      constructor
      · rintro ⟨x, h1, h2⟩; exact ⟨x, by omega, h2⟩
      · rintro ⟨x, h1, h2⟩
        rcases Nat.lt_or_ge x k with g | g
        · exact ⟨x, g, h2⟩
        · obtain rfl : x = k := by omega
          rw [hc] at h2; cases h2.1
    · rw [banks_yes hc, Nat.testBit_or, Bool.or_eq_true, ih]
      constructor
      · rintro (⟨x, h1, h2⟩ | h)
        · exact ⟨x, by omega, h2⟩
        · exact ⟨k, by omega, hc, h⟩
      · rintro ⟨x, h1, h2⟩
        rcases Nat.lt_or_ge x k with g | g
        · exact .inl ⟨x, g, h2⟩
        · obtain rfl : x = k := by omega
          exact .inr h2.2
theorem first_cond {f : Nat → Nat} {x : Nat} : ∀ {k : Nat}, firstTo f x k ≠ 0 → ∃ a, a < k ∧ x.testBit a = true ∧ an x (f a) = 2 ^ a ∧ firstTo f x k = 2 ^ a
  | 0, h => absurd rfl h
  | k + 1, h => by
    simp only [firstTo] at h ⊢
    cases hc : (x.testBit k && (an x (f k) == 2 ^ k))
    · rw [hc] at h
      obtain ⟨a, ha, h1, h2, h3⟩ := first_cond (f := f) (x := x) (k := k) (by simpa using h)
      exact ⟨a, by omega, h1, h2, by simpa using h3⟩
    · have := Bool.and_eq_true_iff.1 hc
      exact ⟨k, by omega, this.1, by simpa using this.2, by simp⟩
theorem bbo_iff {f : Nat → Nat} {m x : Nat} (hx : x < 256) (hf : ∀ a, a < m → f a < 256) : bbo f m x = true ↔ ∃ c, c < m ∧ ∀ j, x.testBit j = true → (f c).testBit j = true := by
  unfold bbo
  rw [decide_eq_true_iff]
  have key : ∀ k, k ≤ m → (0 < Kk.cn (fun a => an x (f a) == 0) k ↔ ∃ c, c < k ∧ ∀ j, x.testBit j = true → (f c).testBit j = true) := by
    intro k
    induction k with
    | zero => exact fun _ => ⟨fun h => absurd h (Nat.lt_irrefl 0), fun ⟨c, h, _⟩ => absurd h (Nat.not_lt_zero _)⟩
    | succ k ih =>
      intro hk
      have ih := ih (by omega)
      cases hc : (an x (f k) == 0)
      · rw [Kk.cn_n (p := fun a => an x (f a) == 0) hc, ih]
        constructor
        · rintro ⟨c, h1, h2⟩; exact ⟨c, by omega, h2⟩
        · rintro ⟨c, h1, h2⟩
          rcases Nat.lt_or_ge c k with g | g
          · exact ⟨c, g, h2⟩
          · obtain rfl : c = k := by omega
            exfalso
            have := (an_zero hx (hf c (by omega))).2 h2
            rw [this] at hc; cases hc
      · rw [Kk.cn_y (p := fun a => an x (f a) == 0) hc]
        refine ⟨fun _ => ⟨k, by omega, (an_zero hx (hf k (by omega))).1 (by simpa using hc)⟩, fun _ => by omega⟩
  exact key m (Nat.le_refl _)
theorem ck_parts {x : Nat} (h : ckB l x = true) : 1 ≤ x ∧ triL (prt l x) = [] ∧ bbo (ww l) l.length x = false := by
  unfold ckB at h
  simp only [Bool.and_eq_true, decide_eq_true_eq, Bool.not_eq_true'] at h
  exact ⟨h.1, h.2.1, h.2.2⟩
/-- A set without a triangle. -/
def Tra (l : List Int) (x : Nat) : Prop := ∀ i j k, x.testBit i = true → x.testBit j = true → x.testBit k = true → (ww l i).testBit j = true → (ww l j).testBit k = true → (ww l k).testBit i = true → False
theorem tra_tri {n : Int} (h : Ok n l) {x : Nat} (h1 : 1 ≤ x) (hx : x < 2 ^ l.length) (ht : Tra l x) : triL (prt l x) = [] := by
  cases e : triL (prt l x) with
  | nil => rfl
  | cons r rest =>
    exfalso
    have hm : r ∈ triL (prt l x) := by rw [e]; simp
    obtain ⟨a, b, c, ha, hb, hc, hab, hac, htr, _⟩ := mem_triL8.1 hm
    rw [prt_len] at ha hb hc
    unfold trB at htr
    simp only [Bool.and_eq_true, Bool.not_eq_true', beq_eq_false_iff_ne, ne_eq] at htr
    obtain ⟨_, h2, h3, h4⟩ := htr
    have ea := elems_in x a l.length hx ha
    have eb := elems_in x b l.length hx hb
    have ec := elems_in x c l.length hx hc
    rw [show prt l x = (partL l (elems x)).map Int.ofNat from rfl, partP_bt l x _ _ ha hb, bit_wwU h ea] at h2
    rw [show prt l x = (partL l (elems x)).map Int.ofNat from rfl, partP_bt l x _ _ hb hc, bit_wwU h eb] at h3
    rw [show prt l x = (partL l (elems x)).map Int.ofNat from rfl, partP_bt l x _ _ hc ha, bit_wwU h ec] at h4
    exact ht _ _ _ (elems_bit x a ha) (elems_bit x b hb) (elems_bit x c hc) h2 h3 h4
theorem grow_tra {n : Int} (h : Ok n l) : ∀ (d x : Nat), 2 ^ l.length - x ≤ d → 1 ≤ x → x < 2 ^ l.length → Tra l x → ∃ y, 1 ≤ y ∧ y < 2 ^ l.length ∧ Tra l y ∧ bbo (ww l) l.length y = false
  | 0, x, hd, _, hx, _ => absurd hd (by omega)
  | d + 1, x, hd, h1, hx, ht => by
    have hv := okVa h
    have hx8 := pow256 hv.le hx
    have hw8 : ∀ a, a < l.length → ww l a < 256 := fun a ha => (h.ww ha).2.2
    cases e : bbo (ww l) l.length x
    · exact ⟨x, h1, hx, ht, e⟩
    · obtain ⟨c, hc, hall⟩ := (bbo_iff hx8 hw8).1 e
      have hcx : x.testBit c = false := by
        cases e2 : x.testBit c
        · rfl
        · have := hall c e2
          rw [hv.self c hc] at this; cases this
      have hlt : x < x ||| 2 ^ c := by
        rcases Nat.lt_or_eq_of_le (Nat.left_le_or (n := x) (m := 2 ^ c)) with g | g
        · exact g
        · exfalso
          have : (x ||| 2 ^ c).testBit c = true := by rw [Nat.testBit_or, Nat.testBit_two_pow_self, Bool.or_true]
          rw [← g, hcx] at this; cases this
      have hlt2 : x ||| 2 ^ c < 2 ^ l.length := Nat.or_lt_two_pow hx (Nat.pow_lt_pow_right (by decide) hc)
      refine grow_tra h d (x ||| 2 ^ c) (by omega) (by omega) hlt2 ?_
      have hb : ∀ j, (x ||| 2 ^ c).testBit j = true → j = c ∨ x.testBit j = true := fun j hj => by
        rw [Nat.testBit_or, Bool.or_eq_true, Nat.testBit_two_pow, decide_eq_true_iff] at hj
        exact hj.symm.imp Eq.symm id
      have hno : ∀ j, (x ||| 2 ^ c).testBit j = true → (ww l j).testBit c = true → False := by
        intro j hj hjc
        rcases hb j hj with rfl | hj
        · rw [hv.self j hc] at hjc; cases hjc
        · have hjm := Rc.bit_lt hx hj
          have hne : j ≠ c := fun e2 => by rw [e2, hcx] at hj; cases hj
          rw [hv.other j c hjm hc hne, hall j hj] at hjc; cases hjc
      intro i j k hi hj hk g1 g2 g3
      rcases hb i hi with rfl | hi'
      · exact hno k hk g3
      · rcases hb j hj with rfl | hj'
        · exact hno i hi g1
        · rcases hb k hk with rfl | hk'
          · exact hno j hj g2
          · exact ht i j k hi' hj' hk' g1 g2 g3
theorem banks_pos {n : Int} (h : Ok n l) : 0 < banksTo l (2 ^ l.length) := by
  have hv := okVa h
  have hl1 : 1 ≤ l.length := by have := h.1; have := h.2.2.1; omega
  have hx : 1 < 2 ^ l.length := Nat.lt_of_lt_of_le (by decide) (Nat.pow_le_pow_right (by decide) hl1 : 2 ^ 1 ≤ _)
  have ht : Tra l 1 := by
    intro i j k hi hj hk g1 _ _
    have hi0 : i = 0 := by
      have := Rc.bit_lt (s := 1) (N := 1) (by decide) hi; omega
    have hj0 : j = 0 := by
      have := Rc.bit_lt (s := 1) (N := 1) (by decide) hj; omega
    subst hi0; subst hj0
    rw [hv.self 0 (by omega)] at g1; cases g1
  obtain ⟨y, h1, h2, h3, h4⟩ := grow_tra h _ 1 (Nat.le_refl _) (Nat.le_refl _) hx ht
  have htri := tra_tri h h1 h2 h3
  obtain ⟨i, hi, _, ha, hf⟩ := first_same h h1 h2 htri
  have hck := ck_yes h1 htri h4
  have : (banksTo l (2 ^ l.length)).testBit ((elems y).getD i 0) = true := (banks_bit l _ _).2 ⟨y, h2, hck, by rw [hf, Nat.testBit_two_pow_self]⟩
  rcases Nat.eq_zero_or_pos (banksTo l (2 ^ l.length)) with e | e
  · rw [e, Nat.zero_testBit] at this; cases this
  · exact e
theorem banks_kings {n : Int} (h : Ok n l) : ∀ a, (banksTo l (2 ^ l.length)).testBit a = true → (Kk.kings (ww l) l.length).testBit a = true := by
  intro a ha
  have hv := okVa h
  have hw8 : ∀ a, a < l.length → ww l a < 256 := fun a ha => (h.ww ha).2.2
  obtain ⟨x, hx, hc, hb⟩ := (banks_bit l _ a).1 ha
  have hx8 := pow256 hv.le hx
  obtain ⟨h1, _, h3⟩ := ck_parts hc
  have hne : firstTo (ww l) x l.length ≠ 0 := fun e => by rw [e, Nat.zero_testBit] at hb; cases hb
  obtain ⟨a0, ha0, g1, g2, g3⟩ := first_cond hne
  rw [g3, Nat.testBit_two_pow, decide_eq_true_iff] at hb
  subst hb
  rw [Kk.kings_bit, Bool.and_eq_true, decide_eq_true_iff]
  refine ⟨ha0, ?_⟩
  cases e : Kk.kingN (ww l) l.length a0
  · exfalso
    obtain ⟨j, hj, hcov⟩ := (Kk.king_cov hv ha0).1 e
    have : bbo (ww l) l.length x = true := by
      refine (bbo_iff hx8 hw8).2 ⟨j, hj, fun i hi => ?_⟩
      have h5 := (an_pow hx8 (hw8 a0 ha0)).1 g2 i
      rw [hi, Bool.true_and] at h5
      by_cases e2 : a0 = i
      · rw [← e2]; exact hcov.1
      · refine hcov.2 i ?_
        simp [e2] at h5
        exact h5
    rw [h3] at this; cases this
  · rfl
theorem banks_lt {n : Int} (h : Ok n l) : banksTo l (2 ^ l.length) < 2 ^ l.length := by
  refine Nat.lt_of_le_of_lt (Rc.Sub.le (t := Kk.kings (ww l) l.length) (banks_kings h)) (Kk.kings_lt2 _ _)
theorem sov_banks {n : Int} (h : Ok n l) {s : Nat} (hs : Kk.Sov (ww l) l.length s) : banksTo l (2 ^ l.length) = Kk.kings (ww l) l.length := by
  have hv := okVa h
  have hk := Kk.sov_kings hv hs
  have hp := banks_pos h
  obtain ⟨a, ha⟩ := Nat.exists_testBit_of_ne_zero (show banksTo l (2 ^ l.length) ≠ 0 by omega)
  have hak := banks_kings h a ha
  rw [hk, Nat.testBit_two_pow, decide_eq_true_iff] at hak
  subst hak
  apply Rc.eq_bits
  intro j
  refine ⟨banks_kings h j, fun hj => ?_⟩
  rw [hk, Nat.testBit_two_pow, decide_eq_true_iff] at hj
  rw [← hj]; exact ha
end

/-! The counts of kings. -/
/-- The sum of the first k numbers. -/
def sm (g : Nat → Nat) : Nat → Nat
  | 0 => 0
  | k + 1 => sm g k + g k
theorem tot4 : ((List.range 5).all fun n => (n == 0) || ((sm (fun k => bc (fun c => kc n (tourF n c) == k) (Tmpm.prN n) 0) (n + 1) == 2 ^ Tmpm.prN n) && ((decide (n < 2)) || (bc (fun c => kc n (tourF n c) == 2) (Tmpm.prN n) 0 == 0)))) = true := by decide +kernel
theorem cnt_F {n k : Nat} (h5 : n ≤ 5) : cntK tourL n k = bc (fun c => kc n (tourF n c) == k) (Tmpm.prN n) 0 := by
  have e2 := bc_cn (fun c => kc n (tourF n c) == k) (Tmpm.prN n) 0
  rw [Nat.zero_add] at e2
  have e3 : (fun c => kc n (tourL n c) == k) = (fun c => kc n (tourF n c) == k) := by funext c; rw [tourL_F n c h5]
  show Kk.cn (fun c => kc n (tourL n c) == k) (2 ^ Tmpm.prN n) = _
  rw [e3, e2]
  simp [Kk.cn]
theorem sm_congr {f g : Nat → Nat} (h : ∀ k, f k = g k) : ∀ k, sm f k = sm g k
  | 0 => rfl
  | k + 1 => by simp only [sm]; rw [sm_congr h k, h k]
theorem kings_tot {n : Nat} (h1 : 1 ≤ n) (h4 : n ≤ 4) : sm (fun k => cntK tourL n k) (n + 1) = 2 ^ Tmpm.prN n ∧ (2 ≤ n → cntK tourL n 2 = 0) := by
  have h := tot4
  rw [List.all_eq_true] at h
  have h2 := h n (by simp; omega)
  simp only [Bool.or_eq_true, Bool.and_eq_true, beq_iff_eq, decide_eq_true_eq] at h2
  rcases h2 with h2 | ⟨h2, h3⟩
  · omega
  · refine ⟨?_, fun h => ?_⟩
    · rw [← h2]; exact sm_congr (fun k => cnt_F (by omega)) _
    · rw [cnt_F (by omega)]; omega
end Go.Proofs.Ytgjogbihadiojaa
