/-
  Stage 10's mathematics: sums of integers, weights, balances as the games come in, the first least number, greatest common divisors. No conditions on the program.
-/
import Derived.Test.YtpndfmlkceplcaaL
namespace Go.Proofs.Ytpndfmlkceplcaa
set_option linter.unusedVariables false

/-- A sum of integers. -/
def sZ (f : Nat → Int) : Nat → Int
  | 0 => 0
  | k + 1 => sZ f k + f k
theorem sZ_congr {f g : Nat → Int} : ∀ m, (∀ i, i < m → f i = g i) → sZ f m = sZ g m
  | 0, _ => rfl
  | m + 1, h => by rw [sZ, sZ, sZ_congr m (fun i hi => h i (by omega)), h m (by omega)]
theorem sZ_sub (f g : Nat → Int) : ∀ m, sZ (fun i => f i - g i) m = sZ f m - sZ g m
  | 0 => by simp [sZ]
  | m + 1 => by rw [sZ, sZ, sZ, sZ_sub f g m]; omega
theorem sZ_one (c : Nat → Int) (i : Nat) : ∀ m, sZ (fun b => if b = i then c b else 0) m = if i < m then c i else 0
  | 0 => by simp [sZ]
  | m + 1 => by
    rw [sZ, sZ_one c i m]
    by_cases h : m = i
    · subst h; rw [if_neg (Nat.lt_irrefl _), if_pos rfl, if_pos (Nat.lt_succ_self _)]; omega
    · rw [if_neg h]
      by_cases h2 : i < m
      · rw [if_pos h2, if_pos (by omega)]; omega
      · rw [if_neg h2, if_neg (by omega)]; rfl
theorem sZ_zero : ∀ m, sZ (fun _ => 0) m = 0
  | 0 => rfl
  | m + 1 => by rw [sZ, sZ_zero m]; rfl
theorem sZ_le (f : Nat → Int) (M : Int) : ∀ m, (∀ i, i < m → -M ≤ f i ∧ f i ≤ M) → -(m * M) ≤ sZ f m ∧ sZ f m ≤ m * M
  | 0, _ => by simp [sZ]
  | m + 1, h => by
    have ih := sZ_le f M m (fun i hi => h i (by omega))
    have h1 := h m (by omega)
    rw [sZ]
    have e : ((m + 1 : Nat) : Int) * M = m * M + M := by rw [Int.natCast_add, Int.add_mul]; simp
    rw [e]; omega

/-- A weight. -/
def wOk (x : Int) : Bool := decide (0 ≤ x) && decide (x ≤ 100000)
theorem wOk_iff {x : Int} : wOk x = true ↔ 0 ≤ x ∧ x ≤ 100000 := by simp [wOk]

/-- What a player gains or loses by the first players' weights. -/
def balT (q : Nat → Nat → Bool) (x : Nat → Int) (b : Nat) : Nat → Int := sZ fun a => (if q a b = true then x a else 0) - (if q b a = true then x a else 0)
theorem balT_bd (q : Nat → Nat → Bool) (x : Nat → Int) (b m : Nat) (h : ∀ i, i < m → 0 ≤ x i ∧ x i ≤ 100000) : -(m * 100000 : Int) ≤ balT q x b m ∧ balT q x b m ≤ m * 100000 := by
  refine sZ_le _ 100000 m fun i hi => ?_
  have := h i hi
  split <;> split <;> omega

/-- The balances while the games come in. -/
def balStep (x : Nat → Int) (ys : List Int) (p : Nat × Nat) : List Int :=
  (ys.set p.2 (ys.getD p.2 0 + x p.1)).set p.1 ((ys.set p.2 (ys.getD p.2 0 + x p.1)).getD p.1 0 - x p.2)
theorem getD_setI (ys : List Int) (i j : Nat) (v : Int) : (ys.set i v).getD j 0 = if i = j ∧ i < ys.length then v else ys.getD j 0 := by
  rw [List.getD_eq_getElem?_getD, List.getD_eq_getElem?_getD, List.getElem?_set]
  by_cases h : i = j
  · subst h
    by_cases h2 : i < ys.length
    · simp [h2]
    · simp [h2]
  · simp [h]
theorem balStep_len (x : Nat → Int) (ys : List Int) (p : Nat × Nat) : (balStep x ys p).length = ys.length := by simp [balStep]
theorem balStep_at (x : Nat → Int) (ys : List Int) (p : Nat × Nat) (i : Nat) (h1 : p.1 < ys.length) (h2 : p.2 < ys.length) : (balStep x ys p).getD i 0 = ys.getD i 0 + ((if p.2 = i then x p.1 else 0) - (if p.1 = i then x p.2 else 0)) := by
  unfold balStep
  rw [getD_setI, getD_setI, getD_setI, List.length_set]
  by_cases c1 : p.1 = i
  · rw [if_pos ⟨c1, h1⟩]
    by_cases c2 : p.2 = i
    · rw [if_pos ⟨by omega, h2⟩, if_pos c2, if_pos c1, c2]; omega
    · rw [if_neg (by omega), if_neg c2, if_pos c1, c1]; omega
  · rw [if_neg (by omega)]
    by_cases c2 : p.2 = i
    · rw [if_pos ⟨c2, h2⟩, if_pos c2, if_neg c1, c2]; omega
    · rw [if_neg (by omega), if_neg c2, if_neg c1]; omega
def balF (m : Nat) (x : Nat → Int) (pre : List (Nat × Nat)) : List Int := pre.foldl (balStep x) (List.replicate m 0)
theorem balF_snoc (m : Nat) (x : Nat → Int) (pre : List (Nat × Nat)) (p : Nat × Nat) : balF m x (pre ++ [p]) = balStep x (balF m x pre) p := by simp [balF]
theorem balFold_len (x : Nat → Int) : ∀ (L : List (Nat × Nat)) (ys : List Int), (L.foldl (balStep x) ys).length = ys.length
  | [], _ => rfl
  | p :: L, ys => by rw [List.foldl_cons, balFold_len x L, balStep_len]
theorem balF_len (m : Nat) (x : Nat → Int) (pre : List (Nat × Nat)) : (balF m x pre).length = m := by unfold balF; rw [balFold_len]; simp
theorem balFold_at (x : Nat → Int) (i : Nat) : ∀ (L : List (Nat × Nat)) (ys : List Int), (∀ p ∈ L, p.1 < ys.length ∧ p.2 < ys.length) → (L.foldl (balStep x) ys).getD i 0 = ys.getD i 0 + (L.map fun p => (if p.2 = i then x p.1 else 0) - (if p.1 = i then x p.2 else 0)).sum
  | [], ys, _ => by simp
  | p :: L, ys, h => by
    have hp := h p (List.mem_cons_self ..)
    rw [List.foldl_cons, balFold_at x i L _ (fun q hq => by rw [balStep_len]; exact h q (List.mem_cons_of_mem _ hq)), balStep_at x ys p i hp.1 hp.2, List.map_cons, List.sum_cons]; omega
theorem balF_bd (m : Nat) (x : Nat → Int) (pre : List (Nat × Nat)) (hp : ∀ p ∈ pre, p.1 < m ∧ p.2 < m) (h : ∀ i, i < m → 0 ≤ x i ∧ x i ≤ 100000) (i : Nat) (hi : i < m) : -(pre.length * 100000 : Int) ≤ (balF m x pre).getD i 0 ∧ (balF m x pre).getD i 0 ≤ pre.length * 100000 := by
  unfold balF
  rw [balFold_at x i pre _ (by simpa using hp)]
  have e0 : (List.replicate m (0 : Int)).getD i 0 = 0 := by rw [List.getD_eq_getElem?_getD, List.getElem?_replicate]; split <;> rfl
  rw [e0]
  have : ∀ L : List (Nat × Nat), (∀ p ∈ L, p.1 < m ∧ p.2 < m) → -(L.length * 100000 : Int) ≤ (L.map fun p => (if p.2 = i then x p.1 else 0) - (if p.1 = i then x p.2 else 0)).sum ∧ (L.map fun p => (if p.2 = i then x p.1 else 0) - (if p.1 = i then x p.2 else 0)).sum ≤ (L.length * 100000 : Int) := by
    intro L
    induction L with
    | nil => intro _; simp
    | cons p L ih =>
      intro hL
      have := ih fun q hq => hL q (List.mem_cons_of_mem _ hq)
      have hp := hL p (List.mem_cons_self ..)
      have h1 := h _ hp.1
      have h2 := h _ hp.2
      rw [List.map_cons, List.sum_cons, List.length_cons]
      have : (if p.2 = i then x p.1 else 0) - (if p.1 = i then x p.2 else 0) ≤ 100000 ∧ -100000 ≤ (if p.2 = i then x p.1 else 0) - (if p.1 = i then x p.2 else 0) := by
        split <;> split <;> omega
      omega
  have := this pre hp
  omega
/-- All games, by winner and loser in ascending order. -/
def gmT (m : Nat) (q : Nat → Nat → Bool) (k : Nat) : List (Nat × Nat) := (List.range k).flatMap fun a => ((List.range m).filter (q a)).map fun b => (a, b)
theorem sum_filter (p : Nat → Bool) (f : Nat → Int) : ∀ m, (((List.range m).filter p).map f).sum = sZ (fun b => if p b = true then f b else 0) m
  | 0 => rfl
  | m + 1 => by
    rw [List.range_succ, List.filter_append, List.map_append, List.sum_append, sum_filter p f m, sZ]
    congr 1
    by_cases h : p m = true <;> simp [h]
theorem gm_sum (m : Nat) (q : Nat → Nat → Bool) (f : Nat × Nat → Int) : ∀ k, ((gmT m q k).map f).sum = sZ (fun a => sZ (fun b => if q a b = true then f (a, b) else 0) m) k
  | 0 => rfl
  | k + 1 => by
    have e : gmT m q (k + 1) = gmT m q k ++ ((List.range m).filter (q k)).map fun b => (k, b) := by simp [gmT, List.range_succ]
    rw [e, List.map_append, List.sum_append, gm_sum m q f k, sZ, List.map_map, ← sum_filter]; rfl
theorem gm_mem (m : Nat) (q : Nat → Nat → Bool) (k : Nat) (hk : k ≤ m) : ∀ p ∈ gmT m q k, p.1 < m ∧ p.2 < m := by
  intro p hp
  unfold gmT at hp
  obtain ⟨a, ha, hb⟩ := List.mem_flatMap.1 hp
  obtain ⟨b, hb2, rfl⟩ := List.mem_map.1 hb
  have h1 := List.mem_range.1 ha
  have h2 := List.mem_range.1 (List.mem_filter.1 hb2).1
  exact ⟨by omega, h2⟩
theorem balF_all (m : Nat) (q : Nat → Nat → Bool) (x : Nat → Int) : balF m x (gmT m q m) = (List.range m).map fun b => balT q x b m := by
  apply List.ext_getElem (by rw [balF_len]; simp)
  intro i h1 h2
  have hi : i < m := by rw [balF_len] at h1; exact h1
  have e1 : (balF m x (gmT m q m))[i] = (balF m x (gmT m q m)).getD i 0 := by rw [List.getD_eq_getElem?_getD, List.getElem?_eq_getElem h1]; rfl
  rw [e1, balF, balFold_at x i _ _ (by simpa using gm_mem m q m (Nat.le_refl _)), gm_sum]
  have e0 : (List.replicate m (0 : Int)).getD i 0 = 0 := by rw [List.getD_eq_getElem?_getD, List.getElem?_replicate]; split <;> rfl
  rw [e0]
  simp only [List.getElem_map, List.getElem_range]
  have hrow : ∀ a, sZ (fun b => if q a b = true then (if b = i then x a else 0) - (if a = i then x b else 0) else 0) m = (if q a i = true then x a else 0) - (if a = i then sZ (fun b => if q i b = true then x b else 0) m else 0) := by
    intro a
    have e2 : sZ (fun b => if q a b = true then (if b = i then x a else 0) - (if a = i then x b else 0) else 0) m = sZ (fun b => (if b = i then (fun b => if q a b = true then x a else 0) b else 0) - (if q a b = true then (if a = i then x b else 0) else 0)) m := by
      refine sZ_congr m fun b _ => ?_
      by_cases c : q a b = true
      · simp [c]
      · simp [c]
    rw [e2, sZ_sub, sZ_one (fun b => if q a b = true then x a else 0) i m, if_pos hi]
    congr 1
    by_cases c : a = i
    · subst c; simp
    · simp only [c, if_false]
      rw [sZ_congr (g := fun _ => 0) m (fun b _ => by simp), sZ_zero]
  rw [sZ_congr m (fun a _ => hrow a), sZ_sub, sZ_one (fun _ => sZ (fun b => if q i b = true then x b else 0) m) i m, if_pos hi, ← sZ_sub]
  unfold balT
  simp

/-- The first number that is least. -/
def bst (f : Nat → Int) : Nat → Nat
  | 0 => 0
  | k + 1 => if f k < f (bst f k) then k else bst f k
theorem bst_lt (f : Nat → Int) : ∀ k, 0 < k → bst f k < k
  | 0, h => by omega
  | k + 1, _ => by
    rw [bst]
    split
    · omega
    · rcases Nat.eq_zero_or_pos k with h | h
      · subst h; simp [bst]
      · have := bst_lt f k h; omega
theorem bst_le (f : Nat → Int) : ∀ k, ∀ j, j < k → f (bst f k) ≤ f j
  | 0, j, h => by omega
  | k + 1, j, h => by
    rw [bst]
    rcases Nat.lt_or_ge j k with hj | hj
    · have := bst_le f k j hj
      split <;> omega
    · obtain rfl : j = k := by omega
      split <;> omega
theorem bst_first (f : Nat → Int) : ∀ k, ∀ j, j < bst f k → f (bst f k) < f j
  | 0, j, h => by simp [bst] at h
  | k + 1, j, h => by
    rw [bst] at h ⊢
    split
    · rename_i c
      rw [if_pos c] at h
      have := bst_le f k j (by omega)
      omega
    · rename_i c
      rw [if_neg c] at h
      exact bst_first f k j h
theorem bst_eq (f : Nat → Int) (m i : Nat) (hi : i < m) (h1 : ∀ j, j < m → f i ≤ f j) (h2 : ∀ j, j < i → f j ≠ f i) : bst f m = i := by
  have a1 := bst_lt f m (by omega)
  have a2 := bst_le f m i hi
  have a3 := h1 _ a1
  rcases Nat.lt_trichotomy (bst f m) i with h | h | h
  · exact absurd (by omega) (h2 _ h)
  · exact h
  · have := bst_first f m i h; omega

/-- The greatest common divisor of the first numbers. -/
def gq (u : Nat → Nat) : Nat → Nat
  | 0 => 0
  | k + 1 => Nat.gcd (gq u k) (u k)
theorem gq_le (u : Nat → Nat) (M : Nat) : ∀ k, (∀ i, i < k → u i ≤ M) → gq u k ≤ M
  | 0, _ => Nat.zero_le _
  | k + 1, h => by
    rw [gq]
    have ih := gq_le u M k (fun i hi => h i (by omega))
    rcases Nat.eq_zero_or_pos (u k) with c | c
    · rw [c, Nat.gcd_zero_right]; exact ih
    · exact Nat.le_trans (Nat.le_of_dvd c (Nat.gcd_dvd_right _ _)) (h k (by omega))
theorem gq_zero (u : Nat → Nat) : ∀ k, gq u k = 0 → ∀ i, i < k → u i = 0
  | 0, _, i, h => by omega
  | k + 1, h, i, hi => by
    rw [gq] at h
    have := Nat.gcd_eq_zero_iff.1 h
    rcases Nat.lt_or_ge i k with c | c
    · exact gq_zero u k this.1 i c
    · obtain rfl : i = k := by omega
      exact this.2

/-! The games as the iterator hands them over. -/
def vP {m : Nat} (x : Pl m) : Nat × Nat := (x.1.val, x.2.val)
theorem losersY (m : Nat) (l : List Int) (a : Nat) : (losers m l a).map Fin.val = (List.range m).filter (bt l a) := by
  have e2 : (List.finRange m).map Fin.val = List.range m := List.ext_getElem (by simp) (by intro i h1 h2; simp)
  unfold losers
  rw [← e2, List.filter_map]
  rfl
theorem games_v (m : Nat) (l : List Int) : ∀ k, k ≤ m → (gamesTo m l k).map vP = gmT m (bt l) k
  | 0, _ => by simp [gamesTo, gmT]
  | k + 1, hk => by
    have e : gmT m (bt l) (k + 1) = gmT m (bt l) k ++ ((List.range m).filter (bt l k)).map fun b => (k, b) := by simp [gmT, List.range_succ]
    rw [gamesTo_succ m l k (by omega), List.map_append, games_v m l k (by omega), e, ← losersY]
    congr 1
    unfold rowG
    rw [List.map_map, List.map_map]
    rfl
theorem games_vL (m : Nat) (l : List Int) : (gamesL m l).map vP = gmT m (bt l) m := games_v m l m (Nat.le_refl _)
theorem games_lenY (m : Nat) (l : List Int) : ∀ k, k ≤ m → (gamesTo m l k).length ≤ k * m
  | 0, _ => by simp [gamesTo]
  | k + 1, hk => by
    rw [gamesTo_succ m l k (by omega), List.length_append, Nat.add_mul]
    have h1 := games_lenY m l k (by omega)
    have h2 : (rowG m l ⟨k, by omega⟩).length ≤ m := by
      unfold rowG losers
      rw [List.length_map]
      exact Nat.le_trans (List.length_filter_le _ _) (by simp)
    omega
theorem games_64Y {m : Nat} (l : List Int) (h : m ≤ 8) : (gamesL m l).length ≤ 64 := by
  have h1 := games_lenY m l m (Nat.le_refl _)
  have h2 : m * m ≤ 8 * 8 := Nat.mul_le_mul h h
  unfold gamesL
  omega

/-- A strategy. -/
noncomputable def stB (n : Int) (l ns : List Int) : Bool := okB n l && (decide (ns.length = l.length) && (ns.all wOk && ns.any fun x => decide (0 < x)))
theorem stB_ok {n : Int} {l ns : List Int} (h : stB n l ns = true) : okB n l = true ∧ ns.length = l.length ∧ ns.all wOk = true := by
  unfold stB at h
  simp only [Bool.and_eq_true, decide_eq_true_eq] at h
  exact ⟨h.1, h.2.1, h.2.2.1⟩
theorem all_at {ns : List Int} (h : ns.all wOk = true) (i : Nat) (hi : i < ns.length) : 0 ≤ ns.getD i 0 ∧ ns.getD i 0 ≤ 100000 := by
  rw [List.getD_eq_getElem?_getD, List.getElem?_eq_getElem hi]
  exact wOk_iff.1 (List.all_eq_true.1 h _ (List.getElem_mem hi))
theorem sZ_nonneg (f : Nat → Int) : ∀ m, (∀ i, i < m → 0 ≤ f i) → 0 ≤ sZ f m
  | 0, _ => Int.le_refl _
  | m + 1, h => by have := sZ_nonneg f m (fun i hi => h i (by omega)); have := h m (by omega); rw [sZ]; omega
theorem sZ_pos (f : Nat → Int) : ∀ m, (∀ i, i < m → 0 ≤ f i) → (0 < sZ f m ↔ ∃ i, i < m ∧ 0 < f i)
  | 0, _ => by simp [sZ]
  | m + 1, h => by
    have h0 := sZ_nonneg f m (fun i hi => h i (by omega))
    have ih := sZ_pos f m (fun i hi => h i (by omega))
    have hm := h m (by omega)
    rw [sZ]
    constructor
    · intro hp
      by_cases c : 0 < f m
      · exact ⟨m, by omega, c⟩
      · obtain ⟨i, hi, hf⟩ := ih.1 (by omega)
        exact ⟨i, by omega, hf⟩
    · rintro ⟨i, hi, hf⟩
      rcases Nat.lt_or_ge i m with c | c
      · have := ih.2 ⟨i, c, hf⟩; omega
      · obtain rfl : i = m := by omega
        omega
theorem any_pos (ns : List Int) : (ns.any fun x => decide (0 < x)) = true ↔ ∃ i, i < ns.length ∧ 0 < ns.getD i 0 := by
  rw [List.any_eq_true]
  constructor
  · rintro ⟨x, hx, hp⟩
    obtain ⟨i, hi, rfl⟩ := List.mem_iff_getElem.1 hx
    exact ⟨i, hi, by rw [List.getD_eq_getElem?_getD, List.getElem?_eq_getElem hi]; simpa using hp⟩
  · rintro ⟨i, hi, hp⟩
    rw [List.getD_eq_getElem?_getD, List.getElem?_eq_getElem hi] at hp
    exact ⟨ns[i], List.getElem_mem hi, by simpa using hp⟩
theorem sum_pos {ns : List Int} (h : ns.all wOk = true) : decide (0 < sZ (fun i => ns.getD i 0) ns.length) = ns.any fun x => decide (0 < x) := by
  rw [Bool.eq_iff_iff, decide_eq_true_eq, sZ_pos _ _ (fun i hi => (all_at h i hi).1), any_pos]

/-- What both sides answer. -/
def balZ (l ns : List Int) (b : Nat) : Int := balT (bt l) (fun i => ns.getD i 0) b l.length
noncomputable def balR (n : Int) (l ns : List Int) (b : Int) : Int := if stB n l ns = true ∧ 0 ≤ b ∧ b < n then balZ l ns b.toNat else 0
noncomputable def safeR (n : Int) (l ns : List Int) : Bool := stB n l ns && (List.range l.length).all fun b => decide (0 ≤ balZ l ns b)
noncomputable def bestR (n : Int) (l ns : List Int) : Int := if stB n l ns = true then (bst (balZ l ns) l.length : Int) else -1
theorem balZ_bd {l ns : List Int} (hl : l.length ≤ 8) (hn : ns.length = l.length) (h : ns.all wOk = true) (b : Nat) : -800000 ≤ balZ l ns b ∧ balZ l ns b ≤ 800000 := by
  have := balT_bd (bt l) (fun i => ns.getD i 0) b l.length (fun i hi => all_at h i (by omega))
  unfold balZ
  omega
end Go.Proofs.Ytpndfmlkceplcaa
