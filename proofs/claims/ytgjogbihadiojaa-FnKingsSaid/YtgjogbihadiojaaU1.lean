/-
  Kings, whom nobody covers; sets that dominate; the step to a king (mathematics of relations and of sets of bits). No program.
-/
import Derived.Test.YtgjogbihadiojaaK
import Derived.Test.Ytgjogbihadiojaa8C
namespace Go.Proofs.Ytgjogbihadiojaa.Kk
open Go.ChangeShapes Go.WideShapes Go.ChangeAt Go.RowKit
set_option linter.unusedVariables false

/-- A set together with what f names for each of a list. -/
def orW (f : Nat → Nat) (x : Nat) (es : List Nat) : Nat := es.foldl (fun s a => s ||| f a) x
theorem orW_snoc (f : Nat → Nat) (x : Nat) (es : List Nat) (a : Nat) : orW f x (es ++ [a]) = orW f x es ||| f a := by simp [orW]
theorem orW_bit (f : Nat → Nat) (j : Nat) : ∀ (es : List Nat) (x : Nat), (orW f x es).testBit j = (x.testBit j || es.any fun a => (f a).testBit j)
  | [], x => by simp [orW]
  | a :: es, x => by
    have := orW_bit f j es (x ||| f a)
    simp only [orW, List.foldl_cons, List.any_cons] at this ⊢
    rw [this, Nat.testBit_or, Bool.or_assoc]
theorem orW_lt {f : Nat → Nat} {m : Nat} : ∀ {es : List Nat} {x : Nat}, x < 2 ^ m → (∀ a ∈ es, f a < 2 ^ m) → orW f x es < 2 ^ m
  | [], x, hx, _ => hx
  | a :: es, x, hx, h => by
    have := orW_lt (f := f) (m := m) (es := es) (x := x ||| f a) (Nat.or_lt_two_pow hx (h a (by simp))) (fun b hb => h b (by simp [hb]))
    simpa [orW] using this
theorem orW_take (f : Nat → Nat) (x : Nat) (es : List Nat) (k : Nat) (h : k < es.length) : orW f x (es.take (k + 1)) = orW f x (es.take k) ||| f (es.getD k 0) := by
  rw [List.take_add_one, List.getElem?_eq_getElem h, List.getD_eq_getElem?_getD, List.getElem?_eq_getElem h]
  exact orW_snoc _ _ _ _
theorem mem_el {x a : Nat} : a ∈ elems x ↔ a < 8 ∧ x.testBit a = true := by simp [elems, elTo]
theorem el_one : ∀ a : Fin 8, elems (2 ^ a.val) = [a.val] := by decide +kernel
theorem wb_one (f : Nat → Nat) (a : Nat) (ha : a < 8) : orW f (2 ^ a) (elems (2 ^ a)) = 2 ^ a ||| f a := by
  rw [el_one ⟨a, ha⟩]; rfl
/-- A set with all whom its players beat. -/
def wb (f : Nat → Nat) (x : Nat) : Nat := orW f x (elems x)
theorem wb_bit {f : Nat → Nat} {m x : Nat} (hm : m ≤ 8) (hx : x < 2 ^ m) (j : Nat) : (wb f x).testBit j = true ↔ x.testBit j = true ∨ ∃ a, a < m ∧ x.testBit a = true ∧ (f a).testBit j = true := by
  unfold wb
  rw [orW_bit, Bool.or_eq_true, List.any_eq_true]
  constructor
  · rintro (h | ⟨a, ha, h⟩)
    · exact .inl h
    · exact .inr ⟨a, Rc.bit_lt hx (mem_el.1 ha).2, (mem_el.1 ha).2, h⟩
  · rintro (h | ⟨a, ha, h, h2⟩)
    · exact .inl h
    · exact .inr ⟨a, mem_el.2 ⟨by omega, h⟩, h2⟩
theorem wb_lt {f : Nat → Nat} {m x : Nat} (hm : m ≤ 8) (hx : x < 2 ^ m) (hf : ∀ a, a < m → f a < 2 ^ m) : wb f x < 2 ^ m :=
  orW_lt hx fun a ha => hf a (Rc.bit_lt hx (mem_el.1 ha).2)
/-- Whether a set dominates. -/
def domN (f : Nat → Nat) (m x : Nat) : Bool := wb f x == 2 ^ m - 1
theorem full_bits {m x : Nat} (hx : x < 2 ^ m) : x = 2 ^ m - 1 ↔ ∀ j, j < m → x.testBit j = true := by
  constructor
  · rintro rfl j hj; simp [Nat.testBit_two_pow_sub_one, hj]
  · intro h
    apply Rc.eq_bits
    intro j
    rw [Nat.testBit_two_pow_sub_one, decide_eq_true_iff]
    exact ⟨fun h' => Rc.bit_lt hx h', h j⟩
theorem dom_iff {f : Nat → Nat} {m x : Nat} (hm : m ≤ 8) (hx : x < 2 ^ m) (hf : ∀ a, a < m → f a < 2 ^ m) : domN f m x = true ↔ ∀ j, j < m → x.testBit j = true ∨ ∃ a, a < m ∧ x.testBit a = true ∧ (f a).testBit j = true := by
  unfold domN
  rw [beq_iff_eq, full_bits (wb_lt hm hx hf)]
  exact ⟨fun h j hj => (wb_bit hm hx j).1 (h j hj), fun h j hj => (wb_bit hm hx j).2 (h j hj)⟩
theorem dom_zero (f : Nat → Nat) (m : Nat) (h : 1 ≤ m) : domN f m 0 = false := by
  have : 2 ^ 1 ≤ 2 ^ m := Nat.pow_le_pow_right (by decide) h
  unfold domN wb orW
  rw [show elems 0 = [] by decide]
  simp only [List.foldl_nil, beq_eq_false_iff_ne, ne_eq]
  omega
/-- Whether a player is a king. -/
def kingN (f : Nat → Nat) (m a : Nat) : Bool := orW f (f a ||| 2 ^ a) (elems (f a)) == 2 ^ m - 1
theorem king_wb (f : Nat → Nat) (m a : Nat) (ha : a < 8) : domN f m (2 ^ a ||| f a) = kingN f m a := by
  unfold domN kingN
  rw [show wb f (2 ^ a ||| f a) = orW f (f a ||| 2 ^ a) (elems (f a)) from ?_]
  apply Rc.eq_bits
  intro j
  unfold wb
  rw [orW_bit, orW_bit, Bool.or_eq_true, Bool.or_eq_true, List.any_eq_true, List.any_eq_true, Nat.or_comm]
  constructor
  · rintro (h | ⟨b, hb, h⟩)
    · exact .inl h
    · rw [mem_el, Nat.testBit_or, Bool.or_eq_true, Nat.testBit_two_pow, decide_eq_true_iff] at hb
      rcases hb.2 with h' | rfl
      · exact .inr ⟨b, mem_el.2 ⟨hb.1, h'⟩, h⟩
      · exact .inl (by rw [Nat.testBit_or, h]; rfl)
  · rintro (h | ⟨b, hb, h⟩)
    · exact .inl h
    · exact .inr ⟨b, mem_el.2 ⟨(mem_el.1 hb).1, by rw [Nat.testBit_or, (mem_el.1 hb).2]; rfl⟩, h⟩
section
variable {f : Nat → Nat} {m : Nat}
/-- A valid tour, as sets of bits. -/
structure Va (f : Nat → Nat) (m : Nat) : Prop where
  le : m ≤ 8
  lt : ∀ a, a < m → f a < 2 ^ m
  self : ∀ a, a < m → (f a).testBit a = false
  other : ∀ a b, a < m → b < m → a ≠ b → (f a).testBit b = !(f b).testBit a
theorem king_iff (hv : Va f m) {a : Nat} (ha : a < m) : kingN f m a = true ↔ ∀ j, j < m → j = a ∨ (f a).testBit j = true ∨ ∃ c, c < m ∧ (f a).testBit c = true ∧ (f c).testBit j = true := by
  rw [← king_wb f m a (Nat.lt_of_lt_of_le ha hv.le), dom_iff hv.le (Nat.or_lt_two_pow (Nat.pow_lt_pow_right (by decide) ha) (hv.lt a ha)) hv.lt]
  have hb : ∀ j, (2 ^ a ||| f a).testBit j = true ↔ j = a ∨ (f a).testBit j = true := fun j => by
    rw [Nat.testBit_or, Bool.or_eq_true, Nat.testBit_two_pow, decide_eq_true_iff]
    exact ⟨fun h => h.imp Eq.symm id, fun h => h.imp Eq.symm id⟩
  refine ⟨fun h j hj => ?_, fun h j hj => ?_⟩
  · rcases h j hj with h' | ⟨c, hc, h1, h2⟩
    · rcases (hb j).1 h' with h'' | h''
      · exact .inl h''
      · exact .inr (.inl h'')
    · rcases (hb c).1 h1 with rfl | h1
      · exact .inr (.inl h2)
      · exact .inr (.inr ⟨c, hc, h1, h2⟩)
  · rcases h j hj with h' | h' | ⟨c, hc, h1, h2⟩
    · exact .inl ((hb j).2 (.inl h'))
    · exact .inl ((hb j).2 (.inr h'))
    · exact .inr ⟨c, hc, (hb c).2 (.inr h1), h2⟩
/-- A player covers another one. -/
def Cov (f : Nat → Nat) (a b : Nat) : Prop := (f a).testBit b = true ∧ ∀ x, (f b).testBit x = true → (f a).testBit x = true
theorem king_cov (hv : Va f m) {a : Nat} (ha : a < m) : kingN f m a = false ↔ ∃ j, j < m ∧ Cov f j a := by
  constructor
  · intro h
    have h1 : ¬ ∀ j, j < m → j = a ∨ (f a).testBit j = true ∨ ∃ c, c < m ∧ (f a).testBit c = true ∧ (f c).testBit j = true := fun h' => by
      rw [(king_iff hv ha).2 h'] at h; cases h
    obtain ⟨j, h2⟩ := Classical.not_forall.1 h1
    obtain ⟨hj, h3⟩ := Classical.not_imp.1 h2
    have hne : j ≠ a := fun e => h3 (.inl e)
    have hb : (f a).testBit j = false := by
      cases e : (f a).testBit j
      · rfl
      · exact absurd (.inr (.inl e)) h3
    refine ⟨j, hj, by rw [hv.other j a hj ha hne, hb]; rfl, fun x hx => ?_⟩
    have hxm := Rc.bit_lt (hv.lt a ha) hx
    have hxj : x ≠ j := fun e => by rw [e, hb] at hx; cases hx
    cases e : (f x).testBit j
    · rw [hv.other j x hj hxm (fun e => hxj e.symm), e]; rfl
    · exact absurd (.inr (.inr ⟨x, hxm, hx, e⟩)) h3
  · rintro ⟨j, hj, h1, h2⟩
    cases e : kingN f m a
    · rfl
    · exfalso
      have hne : j ≠ a := fun e => by rw [e, hv.self a ha] at h1; cases h1
      rcases (king_iff hv ha).1 e j hj with h | h | ⟨c, hc, h3, h4⟩
      · exact hne h
      · rw [hv.other a j ha hj (fun e => hne e.symm), h1] at h; cases h
      · have h5 := h2 c h3
        have hcj : c ≠ j := fun e => by rw [e, hv.self j hj] at h5; cases h5
        rw [hv.other j c hj hc (fun e => hcj e.symm), h4] at h5; cases h5
/-- How many digits below k are set. -/
def cn (p : Nat → Bool) : Nat → Nat
  | 0 => 0
  | k + 1 => cn p k + if p k then 1 else 0
theorem cn_le {p q : Nat → Bool} : ∀ {k : Nat}, (∀ x, x < k → p x = true → q x = true) → cn p k ≤ cn q k
  | 0, _ => Nat.le_refl _
  | k + 1, h => by
    have := cn_le (p := p) (q := q) (k := k) fun x hx => h x (by omega)
    have h2 := h k (by omega)
    simp only [cn]
    cases e : p k
    · simp; omega
    · rw [h2 e]; simpa using this
theorem cn_lt {p q : Nat → Bool} : ∀ {k : Nat}, (∀ x, x < k → p x = true → q x = true) → (∃ x, x < k ∧ q x = true ∧ p x = false) → cn p k < cn q k
  | 0, _, ⟨x, hx, _⟩ => absurd hx (Nat.not_lt_zero _)
  | k + 1, h, ⟨x, hx, h1, h2⟩ => by
    simp only [cn]
    by_cases e : x = k
    · subst e
      have := cn_le (p := p) (q := q) (k := x) fun y hy => h y (by omega)
      rw [h1, h2]; simp; omega
    · have := cn_lt (p := p) (q := q) (k := k) (fun y hy => h y (by omega)) ⟨x, by omega, h1, h2⟩
      have h3 := h k (by omega)
      cases e : p k
      · simp; omega
      · rw [h3 e]; simp; omega
theorem cn_more {p : Nat → Bool} {m : Nat} : ∀ {d : Nat}, (∀ x, m ≤ x → p x = false) → cn p (m + d) = cn p m
  | 0, _ => rfl
  | d + 1, h => by
    rw [show m + (d + 1) = m + d + 1 from rfl]
    simp only [cn]
    rw [cn_more (d := d) h, h (m + d) (by omega)]; simp
theorem pc_cn (x m : Nat) (hm : m ≤ 8) (hx : x < 2 ^ m) : pc x = cn x.testBit m := by
  have h8 : ∀ y : Fin 256, pc y.val = cn y.val.testBit 8 := by decide +kernel
  have hx8 : x < 256 := Nat.lt_of_lt_of_le hx (by rw [show 256 = 2 ^ 8 from rfl]; exact Nat.pow_le_pow_right (by decide) hm)
  rw [h8 ⟨x, hx8⟩]
  show cn x.testBit 8 = _
  obtain ⟨d, hd⟩ : ∃ d, 8 = m + d := ⟨8 - m, by omega⟩
  rw [hd]
  exact cn_more fun y hy => Nat.testBit_lt_two_pow (Nat.lt_of_lt_of_le hx (Nat.pow_le_pow_right (by decide) hy))
theorem cov_more (hv : Va f m) {a b : Nat} (ha : a < m) (hb : b < m) (h : Cov f a b) : pc (f b) < pc (f a) := by
  rw [pc_cn _ m hv.le (hv.lt a ha), pc_cn _ m hv.le (hv.lt b hb)]
  exact cn_lt (fun x _ hx => h.2 x hx) ⟨b, hb, h.1, hv.self b hb⟩
/-- The best one among the first k of those who beat a, or a itself. -/
def stepTo (b : Nat → Nat → Bool) (s : Nat → Nat) (a : Nat) : Nat → Nat
  | 0 => a
  | k + 1 => if b k a && (stepTo b s a k == a || decide (s (stepTo b s a k) < s k)) then k else stepTo b s a k
theorem step_spec {b : Nat → Nat → Bool} {s : Nat → Nat} {a : Nat} (h0 : b a a = false) : ∀ k, (stepTo b s a k = a ∧ ∀ j, j < k → b j a = false) ∨ (stepTo b s a k < k ∧ b (stepTo b s a k) a = true ∧ ∀ j, j < k → b j a = true → s j ≤ s (stepTo b s a k))
  | 0 => .inl ⟨rfl, fun j h => absurd h (Nat.not_lt_zero _)⟩
  | k + 1 => by
    have ih := step_spec (s := s) h0 k
    simp only [stepTo]
    cases hk : b k a
    · simp only [Bool.false_and, Bool.false_eq_true, if_false]
      rcases ih with ⟨h1, h2⟩ | ⟨h1, h2, h3⟩
      · refine .inl ⟨h1, fun j hj => ?_⟩
        rcases Nat.lt_or_ge j k with h | h
        · exact h2 j h
        · obtain rfl : j = k := by omega
          exact hk
      · refine .inr ⟨by omega, h2, fun j hj hb => ?_⟩
        rcases Nat.lt_or_ge j k with h | h
        · exact h3 j h hb
        · obtain rfl : j = k := by omega
          rw [hk] at hb; cases hb
    · simp only [Bool.true_and]
      rcases ih with ⟨h1, h2⟩ | ⟨h1, h2, h3⟩
      · rw [if_pos (by simp [h1])]
        refine .inr ⟨by omega, hk, fun j hj hb => ?_⟩
        rcases Nat.lt_or_ge j k with h | h
        · rw [h2 j h] at hb; cases hb
        · obtain rfl : j = k := by omega
          exact Nat.le_refl _
      · have hne : (stepTo b s a k == a) = false := by
          rw [beq_eq_false_iff_ne]
          intro e
          rw [e, h0] at h2; cases h2
        rw [hne, Bool.false_or]
        by_cases hlt : s (stepTo b s a k) < s k
        · rw [if_pos (by simpa using hlt)]
          refine .inr ⟨by omega, hk, fun j hj hb => ?_⟩
          rcases Nat.lt_or_ge j k with h | h
          · have := h3 j h hb; omega
          · obtain rfl : j = k := by omega
            exact Nat.le_refl _
        · rw [if_neg (by simpa using hlt)]
          refine .inr ⟨by omega, h2, fun j hj hb => ?_⟩
          rcases Nat.lt_or_ge j k with h | h
          · exact h3 j h hb
          · obtain rfl : j = k := by omega
            omega
/-- The step of a tour. -/
def step (f : Nat → Nat) (m a : Nat) : Nat := stepTo (fun x y => (f x).testBit y) (fun x => pc (f x)) a m
theorem step_lt (hv : Va f m) {a : Nat} (ha : a < m) : step f m a < m := by
  rcases step_spec (b := fun x y => (f x).testBit y) (s := fun x => pc (f x)) (hv.self a ha) m with ⟨h, _⟩ | ⟨h, _⟩
  · unfold step; rw [h]; exact ha
  · exact h
theorem step_self (hv : Va f m) {a : Nat} (ha : a < m) : step f m a = a ↔ ∀ j, j < m → (f j).testBit a = false := by
  rcases step_spec (b := fun x y => (f x).testBit y) (s := fun x => pc (f x)) (hv.self a ha) m with ⟨h, h2⟩ | ⟨h, h2, h3⟩
  · exact ⟨fun _ => h2, fun _ => h⟩
  · constructor
    · intro e
      unfold step at e
      rw [e] at h2
      rw [hv.self a ha] at h2; cases h2
    · intro h4
      rw [h4 _ h] at h2; cases h2
theorem step_beats (hv : Va f m) {a : Nat} (ha : a < m) (hne : step f m a ≠ a) : (f (step f m a)).testBit a = true ∧ ∀ j, j < m → (f j).testBit a = true → pc (f j) ≤ pc (f (step f m a)) := by
  rcases step_spec (b := fun x y => (f x).testBit y) (s := fun x => pc (f x)) (hv.self a ha) m with ⟨h, h2⟩ | ⟨h, h2, h3⟩
  · exact absurd h hne
  · exact ⟨h2, h3⟩
/-- Who beats a player with the greatest score of those who do is a king. -/
theorem step_king (hv : Va f m) {a : Nat} (ha : a < m) (hne : step f m a ≠ a) : kingN f m (step f m a) = true := by
  cases e : kingN f m (step f m a)
  · exfalso
    obtain ⟨j, hj, hc⟩ := (king_cov hv (step_lt hv ha)).1 e
    obtain ⟨h1, h2⟩ := step_beats hv ha hne
    have h3 := cov_more hv hj (step_lt hv ha) hc
    have h4 := h2 j hj (hc.2 a h1)
    omega
  · rfl
theorem king_step (hv : Va f m) {a : Nat} (ha : a < m) (hk : kingN f m a = false) : step f m a ≠ a ∧ kingN f m (step f m a) = true := by
  have hne : step f m a ≠ a := by
    intro e
    obtain ⟨j, hj, hc⟩ := (king_cov hv ha).1 hk
    have := (step_self hv ha).1 e j hj
    rw [hc.1] at this; cases this
  exact ⟨hne, step_king hv ha hne⟩
/-- Where the climb ends. -/
def climb (f : Nat → Nat) (m a : Nat) : Nat := if kingN f m a then a else step f m a
theorem climb_king (hv : Va f m) {a : Nat} (ha : a < m) : kingN f m (climb f m a) = true ∧ climb f m a < m := by
  unfold climb
  cases h : kingN f m a
  · exact ⟨(king_step hv ha h).2, step_lt hv ha⟩
  · exact ⟨h, ha⟩
/-- The set of the kings. -/
def kings (f : Nat → Nat) (m : Nat) : Nat := Rc.nb (kingN f m) m
theorem nb_or (p : Nat → Bool) (k : Nat) : Rc.nb p (k + 1) = if p k then Rc.nb p k ||| 2 ^ k else Rc.nb p k := by
  cases h : p k
  · simp [Rc.nb, h]
  · simp only [if_true]
    apply Rc.eq_bits
    intro x
    rw [Rc.nb_bit, Nat.testBit_or, Rc.nb_bit, Nat.testBit_two_pow]
    simp only [Bool.or_eq_true, Bool.and_eq_true, decide_eq_true_iff]
    constructor
    · rintro ⟨h1, h2⟩
      rcases Nat.lt_or_ge x k with h' | h'
      · exact .inl ⟨h', h2⟩
      · exact .inr (by omega)
    · rintro (⟨h1, h2⟩ | rfl)
      · exact ⟨by omega, h2⟩
      · exact ⟨by omega, h⟩
/-- The least dominating set among the numbers below k, or all players. -/
def leastTo (f : Nat → Nat) (m : Nat) : Nat → Nat
  | 0 => 2 ^ m - 1
  | k + 1 => if domN f m k && decide (pc k < pc (leastTo f m k)) then k else leastTo f m k
theorem least_spec (f : Nat → Nat) (m : Nat) : ∀ k, leastTo f m k = 2 ^ m - 1 ∨ (leastTo f m k < k ∧ domN f m (leastTo f m k) = true)
  | 0 => .inl rfl
  | k + 1 => by
    simp only [leastTo]
    split
    · rename_i h
      exact .inr ⟨by omega, (Bool.and_eq_true_iff.1 h).1⟩
    · rcases least_spec f m k with h | h
      · exact .inl h
      · exact .inr ⟨by omega, h.2⟩
theorem least_le (f : Nat → Nat) (m : Nat) : ∀ k, ∀ x, x < k → domN f m x = true → pc (leastTo f m k) ≤ pc x
  | 0, x, h, _ => absurd h (Nat.not_lt_zero _)
  | k + 1, x, h, hd => by
    simp only [leastTo]
    by_cases hx : x = k
    · subst hx
      rw [hd]
      by_cases hlt : pc x < pc (leastTo f m x)
      · simp [hlt]
      · simp [hlt]; omega
    · have ih := least_le f m k x (by omega) hd
      split
      · rename_i h2
        have := (Bool.and_eq_true_iff.1 h2).2
        simp at this; omega
      · exact ih
theorem pc_full (m x : Nat) (hm : m ≤ 8) (hx : x < 2 ^ m - 1) : pc x < pc (2 ^ m - 1) := by
  have : ∀ m : Fin 9, ∀ x : Fin 256, x.val < 2 ^ m.val - 1 → pc x.val < pc (2 ^ m.val - 1) := by decide +kernel
  have h2 : 2 ^ m ≤ 2 ^ 8 := Nat.pow_le_pow_right (by decide) hm
  exact this ⟨m, by omega⟩ ⟨x, by omega⟩ hx
/-- The model asks more, and takes the same. -/
theorem least_same (f : Nat → Nat) (m k : Nat) (hm : m ≤ 8) (hk : k < 2 ^ m - 1) : (pc k = pc (leastTo f m k) ∧ k < leastTo f m k) → False := by
  rintro ⟨h1, h2⟩
  rcases least_spec f m k with h | h
  · rw [h] at h1
    have := pc_full m k hm hk
    omega
  · omega
end
end Go.Proofs.Ytgjogbihadiojaa.Kk
