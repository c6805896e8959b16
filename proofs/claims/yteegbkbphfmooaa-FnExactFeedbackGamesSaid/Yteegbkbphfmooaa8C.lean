/-
  Whom a player reaches, and the strong parts (mathematics of sets of bits). No program.
-/
import Derived.WalkKit
namespace Go.Proofs.Yteegbkbphfmooaa.Rc
set_option linter.unusedVariables false

/-- The number whose digits f names. -/
def nb (f : Nat → Bool) : Nat → Nat
  | 0 => 0
  | k + 1 => nb f k + if f k then 2 ^ k else 0
theorem nb_lt (f : Nat → Bool) : ∀ k, nb f k < 2 ^ k
  | 0 => by simp [nb]
  | k + 1 => by
    have := nb_lt f k
    simp only [nb, Nat.pow_succ]
    split <;> omega
theorem nb_bit (f : Nat → Bool) : ∀ k x, (nb f k).testBit x = (decide (x < k) && f x)
  | 0, x => by simp [nb]
  | k + 1, x => by
    have ih := nb_bit f k x
    have hlt := nb_lt f k
    simp only [nb]
    cases hf : f k
    · simp only [Bool.false_eq_true, if_false, Nat.add_zero]
      rw [ih]
      rcases Nat.lt_trichotomy x k with h | h | h
      · simp [h, Nat.lt_succ_of_lt h]
      · subst h; simp [hf]
      · simp [Nat.not_lt.2 (Nat.le_of_lt h), show ¬ x < k + 1 by omega]
    · simp only [if_true]
      rw [Nat.add_comm, show 2 ^ k + nb f k = 2 ^ k * 1 + nb f k by omega, Nat.two_pow_add_eq_or_of_lt hlt, Nat.mul_one, Nat.testBit_or, Nat.testBit_two_pow, ih]
      rcases Nat.lt_trichotomy x k with h | h | h
      · simp [h, Nat.lt_succ_of_lt h, show ¬ k = x by omega]
      · subst h; simp [hf]
      · simp [Nat.not_lt.2 (Nat.le_of_lt h), show ¬ x < k + 1 by omega, show ¬ k = x by omega]
theorem bit_lt {s N x : Nat} (hs : s < 2 ^ N) (h : s.testBit x = true) : x < N := by
  rcases Nat.lt_or_ge x N with h' | h'
  · exact h'
  · rw [Nat.testBit_lt_two_pow (Nat.lt_of_lt_of_le hs (Nat.pow_le_pow_right (by decide) h'))] at h; cases h
theorem eq_bits {s t : Nat} (h : ∀ x, s.testBit x = true ↔ t.testBit x = true) : s = t := by
  apply Nat.eq_of_testBit_eq
  intro x
  have := h x
  cases h1 : s.testBit x <;> cases h2 : t.testBit x <;> simp_all
/-- One set lies in the other one. -/
def Sub (s t : Nat) : Prop := ∀ x, s.testBit x = true → t.testBit x = true
theorem Sub.or {s t : Nat} (h : Sub s t) : s ||| t = t := by
  apply eq_bits
  intro x
  rw [Nat.testBit_or, Bool.or_eq_true]
  exact ⟨fun h' => h'.elim (h x) id, .inr⟩
theorem Sub.le {s t : Nat} (h : Sub s t) : s ≤ t := by rw [← h.or]; exact Nat.left_le_or
theorem Sub.antisymm {s t : Nat} (h : Sub s t) (k : Sub t s) : s = t := eq_bits fun x => ⟨h x, k x⟩

/-- The one player reaches the other one. -/
inductive R (ws : Nat → Nat) : Nat → Nat → Prop
  | refl (a : Nat) : R ws a a
  | step {a c d : Nat} : R ws a c → (ws c).testBit d = true → R ws a d
theorem R.trans {ws : Nat → Nat} {a b c : Nat} (h : R ws a b) (k : R ws b c) : R ws a c := by
  induction k with
  | refl => exact h
  | step _ hb ih => exact ih.step hb
theorem R.one {ws : Nat → Nat} {a b : Nat} (h : (ws a).testBit b = true) : R ws a b := (R.refl a).step h
theorem R.lt {ws : Nat → Nat} {N a b : Nat} (hw : ∀ c, c < N → ws c < 2 ^ N) (ha : a < N) (h : R ws a b) : b < N := by
  induction h with
  | refl => exact ha
  | step _ hb ih => exact bit_lt (hw _ ih) hb

/-- The set of those whom a player reaches. -/
noncomputable def rs (N : Nat) (ws : Nat → Nat) (a : Nat) : Nat := nb (fun x => by classical exact decide (R ws a x)) N
theorem rs_lt (N : Nat) (ws : Nat → Nat) (a : Nat) : rs N ws a < 2 ^ N := nb_lt _ _
theorem rs_bit {N : Nat} {ws : Nat → Nat} (hw : ∀ c, c < N → ws c < 2 ^ N) {a : Nat} (ha : a < N) (x : Nat) : (rs N ws a).testBit x = true ↔ R ws a x := by
  unfold rs
  rw [nb_bit, Bool.and_eq_true]
  simp only [decide_eq_true_eq]
  exact ⟨fun h => h.2, fun h => ⟨h.lt hw ha, h⟩⟩
theorem rs_eq {N : Nat} {ws : Nat → Nat} (hw : ∀ c, c < N → ws c < 2 ^ N) {a : Nat} (ha : a < N) {s : Nat} (h : ∀ x, s.testBit x = true ↔ R ws a x) : s = rs N ws a :=
  eq_bits fun x => (h x).trans (rs_bit hw ha x).symm

/-! The model's way: whoever is beaten by one of the set comes to it, until none is new. -/
def nx (ws : Nat → Nat) (s : Nat) : Nat → Nat
  | 0 => s
  | k + 1 => if s.testBit k then nx ws s k ||| ws k else nx ws s k
theorem nx_bit (ws : Nat → Nat) (s : Nat) : ∀ k x, (nx ws s k).testBit x = true ↔ s.testBit x = true ∨ ∃ b, b < k ∧ s.testBit b = true ∧ (ws b).testBit x = true
  | 0, x => by simp [nx]
  | k + 1, x => by
    have ih := nx_bit ws s k x
    unfold nx
    cases hk : s.testBit k
    · simp only [Bool.false_eq_true, if_false]
      rw [ih]
      constructor
      · rintro (h | ⟨b, h1, h2⟩)
        · exact .inl h
        · exact .inr ⟨b, by omega, h2⟩
      · rintro (h | ⟨b, h1, h2, h3⟩)
        · exact .inl h
        · refine .inr ⟨b, ?_, h2, h3⟩
          have : b ≠ k := by intro e; subst e; rw [hk] at h2; cases h2
          omega
    · simp only [if_true]
      rw [Nat.testBit_or, Bool.or_eq_true, ih]
      constructor
      · rintro ((h | ⟨b, h1, h2⟩) | h)
        · exact .inl h
        · exact .inr ⟨b, by omega, h2⟩
        · exact .inr ⟨k, by omega, hk, h⟩
      · rintro (h | ⟨b, h1, h2, h3⟩)
        · exact .inl (.inl h)
        · rcases Nat.lt_or_ge b k with h' | h'
          · exact .inl (.inr ⟨b, h', h2, h3⟩)
          · have : b = k := by omega
            subst this; exact .inr h3
theorem nx_lt {ws : Nat → Nat} {N s : Nat} (hw : ∀ c, c < N → ws c < 2 ^ N) (hs : s < 2 ^ N) : ∀ k, k ≤ N → nx ws s k < 2 ^ N
  | 0, _ => hs
  | k + 1, h => by
    unfold nx
    split
    · exact Nat.or_lt_two_pow (nx_lt hw hs k (by omega)) (hw k (by omega))
    · exact nx_lt hw hs k (by omega)
theorem nx_le (ws : Nat → Nat) (s k : Nat) : s ≤ nx ws s k := Sub.le fun x h => (nx_bit ws s k x).2 (.inl h)
theorem nx_keep {ws : Nat → Nat} {a s : Nat} (h : ∀ x, s.testBit x = true → R ws a x) (k : Nat) : ∀ x, (nx ws s k).testBit x = true → R ws a x := by
  intro x hx
  rcases (nx_bit ws s k x).1 hx with h1 | ⟨b, _, h2, h3⟩
  · exact h x h1
  · exact (h b h2).step h3
theorem nx_fix {N : Nat} {ws : Nat → Nat} (hw : ∀ c, c < N → ws c < 2 ^ N) {a : Nat} (ha : a < N) {s : Nat} (hs : s < 2 ^ N) (h0 : s.testBit a = true) (h : ∀ x, s.testBit x = true → R ws a x) (hf : nx ws s N = s) : s = rs N ws a := by
  refine rs_eq hw ha fun x => ⟨h x, fun hr => ?_⟩
  induction hr with
  | refl => exact h0
  | step hc hb ih =>
    have := (nx_bit ws s N _).2 (.inr ⟨_, bit_lt hs ih, ih, hb⟩)
    rw [hf] at this; exact this

/-! The program's way: each one visited puts itself into the set, and then all whom it beats are visited. -/
/-- What a visit makes of the set. -/
structure Vs (ws : Nat → Nat) (r r2 b : Nat) : Prop where
  sub : Sub r r2
  has : r2.testBit b = true
  new : ∀ x, r2.testBit x = true → r.testBit x = true ∨ R ws b x
  shut : ∀ x, r2.testBit x = true → r.testBit x = false → Sub (ws x) r2
/-- What visits of a list make of it. -/
structure Vl (ws : Nat → Nat) (r r2 b : Nat) (es : List Nat) : Prop where
  sub : Sub r r2
  has : ∀ c ∈ es, r2.testBit c = true
  new : ∀ x, r2.testBit x = true → r.testBit x = true ∨ R ws b x
  shut : ∀ x, r2.testBit x = true → r.testBit x = false → Sub (ws x) r2
theorem Vs.again {ws : Nat → Nat} {r b : Nat} (h : r.testBit b = true) : Vs ws r r b := ⟨fun _ h => h, h, fun _ h => .inl h, fun x h k => by rw [h] at k; cases k⟩
theorem Vl.nil {ws : Nat → Nat} {r b : Nat} : Vl ws r r b [] := ⟨fun _ h => h, by simp, fun _ h => .inl h, fun x h k => by rw [h] at k; cases k⟩
theorem Vl.snoc {ws : Nat → Nat} {r r1 r2 b c : Nat} {es : List Nat} (h : Vl ws r r1 b es) (k : Vs ws r1 r2 c) (hc : (ws b).testBit c = true) : Vl ws r r2 b (es ++ [c]) := by
  refine ⟨fun x hx => k.sub x (h.sub x hx), ?_, ?_, ?_⟩
  · intro x hx
    rcases List.mem_append.1 hx with h1 | h1
    · exact k.sub x (h.has x h1)
    · have : x = c := by simpa using h1
      subst this; exact k.has
  · intro x hx
    rcases k.new x hx with h1 | h1
    · exact h.new x h1
    · exact .inr ((R.one hc).trans h1)
  · intro x hx hr y hy
    cases h1 : r1.testBit x
    · exact k.shut x hx h1 y hy
    · exact k.sub y (h.shut x h1 hr y hy)
theorem Vs.of {ws : Nat → Nat} {r r1 r2 b : Nat} {es : List Nat} (hr1 : r1 = r ||| 2 ^ b) (h : Vl ws r1 r2 b es) (hes : ∀ c, (ws b).testBit c = true → c ∈ es) : Vs ws r r2 b := by
  have hb1 : ∀ x, r1.testBit x = true ↔ r.testBit x = true ∨ x = b := by
    intro x
    rw [hr1, Nat.testBit_or, Nat.testBit_two_pow, Bool.or_eq_true, decide_eq_true_iff]
    exact ⟨fun h => h.imp id Eq.symm, fun h => h.imp id Eq.symm⟩
  refine ⟨fun x hx => h.sub x ((hb1 x).2 (.inl hx)), h.sub b ((hb1 b).2 (.inr rfl)), ?_, ?_⟩
  · intro x hx
    rcases h.new x hx with h1 | h1
    · rcases (hb1 x).1 h1 with h2 | h2
      · exact .inl h2
      · subst h2; exact .inr (.refl _)
    · exact .inr h1
  · intro x hx hr
    cases h1 : r1.testBit x
    · exact h.shut x hx h1
    · rcases (hb1 x).1 h1 with h2 | h2
      · rw [hr] at h2; cases h2
      · subst h2; exact fun y hy => h.has y (hes y hy)
theorem Vs.whole {N : Nat} {ws : Nat → Nat} (hw : ∀ c, c < N → ws c < 2 ^ N) {a : Nat} (ha : a < N) {s : Nat} (h : Vs ws 0 s a) : s = rs N ws a := by
  refine rs_eq hw ha fun x => ⟨fun hx => ?_, fun hr => ?_⟩
  · rcases h.new x hx with h1 | h1
    · simp at h1
    · exact h1
  · induction hr with
    | refl => exact h.has
    | step _ hb ih => exact h.shut _ ih (by simp) _ hb
theorem Vs.lt {N : Nat} {ws : Nat → Nat} (hw : ∀ c, c < N → ws c < 2 ^ N) {b r r2 : Nat} (hb : b < N) (hr : r < 2 ^ N) (h : Vs ws r r2 b) : r2 < 2 ^ N := by
  apply Nat.lt_pow_two_of_testBit
  intro i hi
  cases hx : r2.testBit i
  · rfl
  · rcases h.new i hx with h1 | h1
    · have := bit_lt hr h1; omega
    · have := h1.lt hw hb; omega

/-! The strong parts. -/
/-- A tour of N players. -/
structure Va (N : Nat) (ws : Nat → Nat) : Prop where
  lt : ∀ c, c < N → ws c < 2 ^ N
  one : ∀ i j, i < N → j < N → i ≠ j → (ws i).testBit j = true ∨ (ws j).testBit i = true
section
variable {N : Nat} {ws : Nat → Nat} (h : Va N ws)
include h
theorem rs_self {a : Nat} (ha : a < N) : (rs N ws a).testBit a = true := (rs_bit h.lt ha a).2 (.refl a)
theorem rs_sub {a b : Nat} (ha : a < N) (hb : (rs N ws a).testBit b = true) : Sub (rs N ws b) (rs N ws a) := by
  have hr := (rs_bit h.lt ha b).1 hb
  intro x hx
  exact (rs_bit h.lt ha x).2 (hr.trans ((rs_bit h.lt (hr.lt h.lt ha) x).1 hx))
theorem rs_tot {a b : Nat} (ha : a < N) (hb : b < N) : Sub (rs N ws a) (rs N ws b) ∨ Sub (rs N ws b) (rs N ws a) := by
  by_cases hab : a = b
  · subst hab; exact .inl fun _ h => h
  · rcases h.one a b ha hb hab with h1 | h1
    · exact .inr (rs_sub h ha ((rs_bit h.lt ha b).2 (.one h1)))
    · exact .inl (rs_sub h hb ((rs_bit h.lt hb a).2 (.one h1)))
theorem rs_le {a b : Nat} (ha : a < N) (hb : b < N) (hle : rs N ws a ≤ rs N ws b) : Sub (rs N ws a) (rs N ws b) := by
  rcases rs_tot h ha hb with h1 | h1
  · exact h1
  · have : rs N ws a = rs N ws b := Nat.le_antisymm hle h1.le
    rw [this]; exact fun _ h => h
end
/-- The sets that players reach, the greatest first. -/
structure Chain (N : Nat) (ws : Nat → Nat) (ds : List Nat) : Prop where
  down : ds.Pairwise (· > ·)
  mem : ∀ x, x ∈ ds ↔ ∃ a, a < N ∧ x = rs N ws a
/-- Those of a set who reach just that set. -/
noncomputable def fi (N : Nat) (ws : Nat → Nat) (s : Nat) : Nat := nb (fun a => s.testBit a && rs N ws a == s) N
/-- Of a set those who are not in the next one. -/
def df (ds : List Nat) (i : Nat) : Nat := ds.getD i 0 ^^^ (ds.getD i 0 &&& ds.getD (i + 1) 0)
def dfs (ds : List Nat) : List Nat := (List.range ds.length).map (df ds)
theorem dfs_len (ds : List Nat) : (dfs ds).length = ds.length := by simp [dfs]
theorem dfs_at (ds : List Nat) (i : Nat) (h : i < ds.length) : (dfs ds)[i]? = some (df ds i) := by simp [dfs, h]
theorem at_mem {ds : List Nat} {i : Nat} (h : i < ds.length) : ds.getD i 0 ∈ ds := by
  rw [List.getD_eq_getElem?_getD, List.getElem?_eq_getElem h]; exact List.getElem_mem h
theorem mem_at {ds : List Nat} {x : Nat} (h : x ∈ ds) : ∃ i, i < ds.length ∧ ds.getD i 0 = x := by
  obtain ⟨i, hi, e⟩ := List.mem_iff_getElem.1 h
  exact ⟨i, hi, by rw [List.getD_eq_getElem?_getD, List.getElem?_eq_getElem hi]; exact e⟩
theorem out_at {ds : List Nat} {i : Nat} (h : ds.length ≤ i) : ds.getD i 0 = 0 := by
  rw [List.getD_eq_getElem?_getD, List.getElem?_eq_none h]; rfl
section
variable {N : Nat} {ws : Nat → Nat} {ds : List Nat} (hv : Va N ws) (h : Chain N ws ds)
include hv h
omit hv in
theorem Chain.lt {i j : Nat} (hij : i < j) (hj : j < ds.length) : ds.getD j 0 < ds.getD i 0 := by
  have := List.pairwise_iff_getElem.1 h.down i j (by omega) hj hij
  rw [List.getD_eq_getElem?_getD, List.getD_eq_getElem?_getD, List.getElem?_eq_getElem hj, List.getElem?_eq_getElem (show i < ds.length by omega)]
  exact this
theorem Chain.sub {i j : Nat} (hij : i ≤ j) (hi : i < ds.length) : Sub (ds.getD j 0) (ds.getD i 0) := by
  rcases Nat.lt_or_ge j ds.length with hj | hj
  · obtain ⟨a, ha, ea⟩ := (h.mem _).1 (at_mem hi)
    obtain ⟨b, hb, eb⟩ := (h.mem _).1 (at_mem hj)
    have hle : ds.getD j 0 ≤ ds.getD i 0 := by
      rcases Nat.lt_or_ge i j with h1 | h1
      · exact Nat.le_of_lt (h.lt h1 hj)
      · have : i = j := by omega
        rw [this]; exact Nat.le_refl _
    rw [ea, eb] at hle ⊢
    exact rs_le hv hb ha hle
  · rw [out_at hj]; intro x hx; simp at hx
omit hv in
theorem Chain.size {i : Nat} : ds.getD i 0 < 2 ^ N := by
  rcases Nat.lt_or_ge i ds.length with hi | hi
  · obtain ⟨a, ha, ea⟩ := (h.mem _).1 (at_mem hi)
    rw [ea]; exact rs_lt _ _ _
  · rw [out_at hi]; exact Nat.two_pow_pos N
theorem Chain.pos {i : Nat} (hi : i < ds.length) : 0 < ds.getD i 0 := by
  obtain ⟨a, ha, ea⟩ := (h.mem _).1 (at_mem hi)
  rw [ea]
  exact Nat.pos_of_ne_zero fun e => by have := rs_self hv ha; rw [e] at this; simp at this
/-- The one who is in a set reaches that set or one after it. -/
theorem Chain.who {i a : Nat} (hi : i < ds.length) (ha : (ds.getD i 0).testBit a = true) : a < N ∧ ∃ j, i ≤ j ∧ j < ds.length ∧ rs N ws a = ds.getD j 0 := by
  have haN : a < N := bit_lt h.size ha
  refine ⟨haN, ?_⟩
  obtain ⟨x, hx, ex⟩ := (h.mem _).1 (at_mem hi)
  rw [ex] at ha
  have hs := rs_sub hv hx ha
  obtain ⟨j, hj, ej⟩ := mem_at ((h.mem _).2 ⟨a, haN, rfl⟩)
  refine ⟨j, ?_, hj, ej.symm⟩
  rcases Nat.lt_or_ge j i with h1 | h1
  · have h2 := h.lt h1 hi
    have h3 := hs.le
    rw [ej, ex] at h2
    omega
  · exact h1
theorem Chain.first {i : Nat} (hi : i < ds.length) : fi N ws (ds.getD i 0) = df ds i := by
  apply eq_bits
  intro a
  unfold fi df
  rw [nb_bit, Nat.testBit_xor, Nat.testBit_and, Bool.and_eq_true, Bool.and_eq_true, decide_eq_true_iff, beq_iff_eq]
  constructor
  · rintro ⟨haN, ha, he⟩
    have hno : (ds.getD (i + 1) 0).testBit a = false := by
      cases hb : (ds.getD (i + 1) 0).testBit a
      · rfl
      · exfalso
        rcases Nat.lt_or_ge (i + 1) ds.length with h1 | h1
        · obtain ⟨_, j, hj, hjl, ej⟩ := h.who hv h1 hb
          rw [he] at ej
          have := h.lt (show i < j by omega) hjl
          omega
        · rw [out_at h1] at hb; simp at hb
    rw [ha, hno]; rfl
  · intro hx
    cases ha : (ds.getD i 0).testBit a
    · rw [ha] at hx; simp at hx
    · rw [ha] at hx
      have hno : (ds.getD (i + 1) 0).testBit a = false := by
        cases hb : (ds.getD (i + 1) 0).testBit a
        · rfl
        · rw [hb] at hx; simp at hx
      obtain ⟨haN, j, hj, hjl, ej⟩ := h.who hv hi ha
      refine ⟨haN, rfl, ?_⟩
      rcases Nat.lt_or_ge i j with h1 | h1
      · exfalso
        have h2 := h.sub hv (show i + 1 ≤ j by omega) (show i + 1 < ds.length by omega)
        have h3 := h2 a (by rw [← ej]; exact rs_self hv haN)
        rw [hno] at h3; cases h3
      · have : i = j := by omega
        rw [ej, this]
theorem Chain.head (hN : 0 < N) : ds.getD 0 0 = 2 ^ N - 1 ∧ 0 < ds.length := by
  have hl : 0 < ds.length := by
    obtain ⟨j, hj, _⟩ := mem_at ((h.mem _).2 ⟨0, hN, rfl⟩)
    omega
  refine ⟨?_, hl⟩
  apply eq_bits
  intro x
  rw [Nat.testBit_two_pow_sub_one, decide_eq_true_iff]
  constructor
  · exact fun hx => bit_lt h.size hx
  · intro hx
    obtain ⟨j, hj, e⟩ := mem_at ((h.mem _).2 ⟨x, hx, rfl⟩)
    exact h.sub hv (Nat.zero_le j) hl x (by rw [e]; exact rs_self hv hx)
/-- One part: all reach all. -/
theorem Chain.one (hN : 0 < N) : ds.length = 1 ↔ ∀ a, a < N → rs N ws a = 2 ^ N - 1 := by
  obtain ⟨h0, hl⟩ := h.head hv hN
  constructor
  · intro h1 a ha
    obtain ⟨j, hj, e⟩ := mem_at ((h.mem _).2 ⟨a, ha, rfl⟩)
    have : j = 0 := by omega
    rw [← e, this, h0]
  · intro hall
    rcases Nat.lt_or_ge 1 ds.length with h1 | h1
    · exfalso
      have := h.lt (show 0 < 1 by decide) h1
      obtain ⟨a, ha, e⟩ := (h.mem _).1 (at_mem h1)
      rw [e, hall a ha, h0] at this
      omega
    · omega
end
theorem df_sub : ((List.range 256).all fun a => (List.range 256).all fun b => !(a &&& b == b) || (a - (a ^^^ (a &&& b)) == b)) = true := by decide +kernel
theorem sub_df {a b : Nat} (ha : a < 256) (hb : b < 256) (h : Sub b a) : a - (a ^^^ (a &&& b)) = b := by
  have h1 := List.all_eq_true.1 (List.all_eq_true.1 df_sub a (List.mem_range.2 ha)) b (List.mem_range.2 hb)
  have h2 : a &&& b = b := by
    apply eq_bits; intro x
    rw [Nat.testBit_and, Bool.and_eq_true]
    exact ⟨fun h' => h'.2, fun h' => ⟨h x h', h'⟩⟩
  rw [h2] at h1
  rw [h2]
  simpa using h1
/-- What is left behind a part. -/
theorem Chain.next {N : Nat} {ws : Nat → Nat} {ds : List Nat} (hv : Va N ws) (h : Chain N ws ds) (hN : N ≤ 8) {i : Nat} (hi : i < ds.length) : ds.getD i 0 - df ds i = ds.getD (i + 1) 0 := by
  have hp : 2 ^ N ≤ 256 := Nat.pow_le_pow_right (n := 2) (by decide) hN
  exact sub_df (Nat.lt_of_lt_of_le h.size hp) (Nat.lt_of_lt_of_le h.size hp) (h.sub hv (Nat.le_succ i) hi)
end Go.Proofs.Yteegbkbphfmooaa.Rc
