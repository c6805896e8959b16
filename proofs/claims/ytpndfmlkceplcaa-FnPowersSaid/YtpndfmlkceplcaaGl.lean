/-
  Defeats: sums over those whom a player beats and over those by whom they are beaten; a tour with all results reversed. No conditions on the program.
-/
import Derived.Test.YtpndfmlkceplcaaGj
namespace Go.Proofs.Ytpndfmlkceplcaa
set_option linter.unusedVariables false

/-- A sum over the numbers that a test takes. -/
def sI (p : Nat → Bool) (f : Nat → Nat) : Nat → Nat
  | 0 => 0
  | k + 1 => sI p f k + if p k then f k else 0
theorem sI_filter (p : Nat → Bool) (f : Nat → Nat) : ∀ m, (((List.range m).filter p).map f).sum = sI p f m
  | 0 => by simp [sI]
  | m + 1 => by
    rw [List.range_succ, List.filter_append, List.map_append, List.sum_append, sI_filter p f m, sI]
    congr 1
    by_cases h : p m = true
    · simp [h]
    · simp [h]
theorem sI_congr {p q : Nat → Bool} {f g : Nat → Nat} : ∀ m, (∀ i, i < m → p i = q i) → (∀ i, i < m → p i = true → f i = g i) → sI p f m = sI q g m
  | 0, _, _ => rfl
  | m + 1, h1, h2 => by
    rw [sI, sI, sI_congr m (fun i hi => h1 i (by omega)) (fun i hi => h2 i (by omega)), h1 m (by omega)]
    by_cases h : q m = true
    · rw [if_pos h, if_pos h, h2 m (by omega) (by rw [h1 m (by omega)]; exact h)]
    · rw [if_neg h, if_neg h]
theorem losers_range (m : Nat) (l : List Int) (a : Nat) : (losers m l a).map Fin.val = (List.range m).filter (bt l a) := by
  have e2 : (List.finRange m).map Fin.val = List.range m := List.ext_getElem (by simp) (by intro i h1 h2; simp)
  unfold losers
  rw [← e2, List.filter_map]
  rfl
theorem sums_at {n : Int} {l : List Int} (hok : Ok n l) (xs : List Nat) {a : Nat} (ha : a < l.length) : (sumsL l xs).getD a 0 = sI (bt l a) (fun b => xs.getD b 0) l.length := by
  have hl8 : l.length ≤ 8 := by have := hok.2.1; have := hok.2.2.1; omega
  obtain ⟨x, hx, hin, hx8⟩ := hok.nat ha
  have hla : l[a] = (x : Int) := by rw [← hx, List.getD_eq_getElem?_getD, List.getElem?_eq_getElem ha]; rfl
  unfold sumsL
  rw [List.getD_eq_getElem?_getD, List.getElem?_map, List.getElem?_eq_getElem ha]
  simp only [Option.map_some, Option.getD_some, hla, Int.toNat_natCast]
  rw [elems_losers l.length l a x hl8 hx hin, losers_range, sI_filter]
/-- A score as a sum. -/
theorem pc_el : ∀ x : Fin 256, pc x.val = (elems x.val).length := by decide +kernel
theorem score_at {n : Int} {l : List Int} (hok : Ok n l) {a : Nat} (ha : a < l.length) : (scoresL l).getD a 0 = sI (bt l a) (fun _ => 1) l.length := by
  have hl8 : l.length ≤ 8 := by have := hok.2.1; have := hok.2.2.1; omega
  obtain ⟨x, hx, hin, hx8⟩ := hok.nat ha
  have hla : l[a] = (x : Int) := by rw [← hx, List.getD_eq_getElem?_getD, List.getElem?_eq_getElem ha]; rfl
  unfold scoresL
  rw [List.getD_eq_getElem?_getD, List.getElem?_map, List.getElem?_eq_getElem ha]
  simp only [Option.map_some, Option.getD_some, hla, Int.toNat_natCast]
  have e := pc_el ⟨x, hx8⟩
  have e2 : pc x = (elems x).length := e
  rw [e2, elems_losers l.length l a x hl8 hx hin, losers_range, ← sI_filter]
  induction (List.range l.length).filter (bt l a) with
  | nil => rfl
  | cons y L ih => rw [List.length_cons, ih, List.map_cons, List.sum_cons]; omega

/-! A valid tour: nobody beats themselves, and of two players one beats the other. -/
theorem Ok.one {n : Int} {l : List Int} (h : Ok n l) {i j : Nat} (hi : i < l.length) (hj : j < l.length) : bt l i i = false ∧ (j ≠ i → bt l j i = !bt l i j) := by
  refine ⟨(h.2.2.2 i hi).2.1, fun hne => ?_⟩
  rcases Nat.lt_or_ge j i with c | c
  · have := (h.2.2.2 i hi).2.2 j c
    unfold bt
    cases e1 : bi (l.getD i 0) j <;> cases e2 : bi (l.getD j 0) i <;> simp_all
  · have := (h.2.2.2 j hj).2.2 i (by omega)
    unfold bt
    cases e1 : bi (l.getD i 0) j <;> cases e2 : bi (l.getD j 0) i <;> simp_all
theorem count_all {m : Nat} (p q : Nat → Bool) (i : Nat) : ∀ k, (∀ j, j < k → j ≠ i → q j = !p j) → p i = false → q i = false → sI p (fun _ => 1) k + sI q (fun _ => 1) k + (if i < k then 1 else 0) = k
  | 0, _, _, _ => by simp [sI]
  | k + 1, h, h1, h2 => by
    have ih := count_all (m := m) p q i k (fun j hj => h j (by omega)) h1 h2
    rw [sI, sI]
    by_cases e : k = i
    · subst e
      rw [h1, h2, if_neg (show ¬ k < k by omega)] at *
      rw [if_pos (show k < k + 1 by omega)]
      simp only [Bool.false_eq_true, if_false]
      omega
    · have hq := h k (by omega) e
      rw [hq]
      have hi : (if i < k + 1 then 1 else 0) = (if i < k then 1 else 0) := by
        by_cases c : i < k
        · rw [if_pos c, if_pos (by omega)]
        · rw [if_neg c, if_neg (by omega)]
      rw [hi]
      cases p k <;> simp <;> omega

/-! All results reversed. -/
theorem turn_test {m : Nat} (i j : Nat) : ∀ (G : List (Pl m)) (ys : List Nat), i < ys.length →
    ((G.foldl turnStep ys).getD i 0).testBit j = ((ys.getD i 0).testBit j || G.any fun x => x.2.val == i && x.1.val == j) := by
  intro G
  induction G with
  | nil => intro ys _; simp
  | cons x G ih =>
    intro ys hi
    rw [List.foldl_cons, ih _ (by simpa [turnStep] using hi), List.any_cons]
    have e : ((turnStep ys x).getD i 0).testBit j = ((ys.getD i 0).testBit j || (x.2.val == i && x.1.val == j)) := by
      unfold turnStep
      rw [List.getD_eq_getElem?_getD, List.getElem?_set]
      by_cases h : x.2.val = i
      · rw [if_pos h, if_pos (by rw [h]; exact hi), h, Option.getD_some, Nat.testBit_or, Nat.testBit_two_pow]
        simp only [List.getD_eq_getElem?_getD, beq_self_eq_true, Bool.true_and]
        congr 1
      · rw [if_neg h, ← List.getD_eq_getElem?_getD]
        simp [h]
    rw [e, Bool.or_assoc]
theorem turnF_len {m : Nat} (G : List (Pl m)) : (turnF G).length = m := by
  have : ∀ (L : List (Pl m)) (ys : List Nat), (L.foldl turnStep ys).length = ys.length := by
    intro L
    induction L with
    | nil => intro ys; rfl
    | cons x L ih => intro ys; rw [List.foldl_cons, ih]; simp [turnStep]
  rw [turnF, this]; simp
theorem games_mem (m : Nat) (l : List Int) (i j : Nat) (hi : i < m) (hj : j < m) : ((gamesL m l).any fun x => x.2.val == i && x.1.val == j) = bt l j i := by
  rw [Bool.eq_iff_iff, List.any_eq_true]
  constructor
  · rintro ⟨x, hx, hp⟩
    simp only [Bool.and_eq_true, beq_iff_eq] at hp
    unfold gamesL gamesTo at hx
    obtain ⟨f, _, hf⟩ := List.mem_flatMap.1 hx
    unfold rowG losers at hf
    obtain ⟨b, hb, rfl⟩ := List.mem_map.1 hf
    have := (List.mem_filter.1 hb).2
    rw [← hp.1, ← hp.2]; exact this
  · intro h
    refine ⟨(⟨j, hj⟩, ⟨i, hi⟩), ?_, by simp⟩
    unfold gamesL gamesTo
    refine List.mem_flatMap.2 ⟨⟨j, hj⟩, by rw [List.take_of_length_le (by simp)]; exact List.mem_finRange _, ?_⟩
    unfold rowG losers
    exact List.mem_map.2 ⟨⟨i, hi⟩, List.mem_filter.2 ⟨List.mem_finRange _, h⟩, rfl⟩
theorem turn_bt (m : Nat) (l : List Int) (i j : Nat) (hi : i < m) (hj : j < m) : ((turnF (gamesL m l)).getD i 0).testBit j = bt l j i := by
  rw [turnF, turn_test i j _ _ (by simpa using hi), games_mem m l i j hi hj]
  rw [List.getD_eq_getElem?_getD, List.getElem?_replicate, if_pos hi]
  simp

/-- The tour with all results reversed. -/
def turnD (l : List Int) : List Int := (turnF (gamesL l.length l)).map Int.ofNat
theorem turnL_len (l : List Int) : (turnD l).length = l.length := by unfold turnD; rw [List.length_map, turnF_len]
theorem turnL_at (l : List Int) (i : Nat) : (turnD l).getD i 0 = (((turnF (gamesL l.length l)).getD i 0 : Nat) : Int) := by
  unfold turnD
  rw [List.getD_eq_getElem?_getD, List.getD_eq_getElem?_getD, List.getElem?_map]
  cases (turnF (gamesL l.length l))[i]? <;> rfl
theorem turnL_bt (l : List Int) (i j : Nat) (hi : i < l.length) (hj : j < l.length) : bt (turnD l) i j = bt l j i := by
  unfold bt
  rw [turnL_at, bi_nat, turn_bt _ _ _ _ hi hj]
  rfl
theorem turnL_ok {n : Int} {l : List Int} (h : Ok n l) : Ok n (turnD l) := by
  have hl := turnL_len l
  refine ⟨h.1, h.2.1, by rw [hl]; exact h.2.2.1, fun a ha => ?_⟩
  rw [hl] at ha
  refine ⟨?_, ?_, fun b hb => ?_⟩
  · rw [turnL_at, hl]
    have hlt : (turnF (gamesL l.length l)).getD a 0 < 2 ^ l.length := by
      apply Nat.lt_pow_two_of_testBit
      intro j hj
      rw [turnF, turn_test a j _ _ (by simpa using ha), List.getD_eq_getElem?_getD, List.getElem?_replicate, if_pos ha]
      simp only [Option.getD_some, Nat.zero_testBit, Bool.false_or]
      rw [List.any_eq_false]
      intro x _
      have := x.1.isLt
      simp only [Bool.and_eq_true, beq_iff_eq, not_and]
      intro _ e
      omega
    unfold inSet
    simp only [Bool.and_eq_true, decide_eq_true_eq]
    omega
  · have := turnL_bt l a a ha ha
    have h2 := (h.one ha ha).1
    rw [h2] at this
    exact this
  · have hbl : b < l.length := by omega
    have e1 := turnL_bt l a b ha hbl
    have e2 := turnL_bt l b a hbl ha
    have e3 := (h.one ha hbl).2 (by omega)
    show bt (turnD l) a b ≠ bt (turnD l) b a
    rw [e1, e2, e3]
    cases bt l a b <;> simp

/-- What both 'DefeatScores' give a player. -/
def defTo (l : List Int) (a z : Nat) : Int := ((sI (bt l a) (fun b => (scoresL l).getD b 0) z : Nat) : Int) - ((sI (fun b => bt l b a) (fun b => l.length - 1 - (scoresL l).getD b 0) z : Nat) : Int)
def defL (l : List Int) : List Int := (List.range l.length).map fun a => defTo l a l.length
theorem ones {n : Int} {l : List Int} (h : Ok n l) {a : Nat} (ha : a < l.length) : (powTo l 1).getD a 0 = (scoresL l).getD a 0 := by
  rw [score_at h ha]
  show (sumsL l (powTo l 0)).getD a 0 = _
  rw [sums_at h _ ha]
  refine sI_congr l.length (fun _ _ => rfl) (fun i hi _ => ?_)
  rw [powTo, List.getD_eq_getElem?_getD, List.getElem?_replicate, if_pos hi]; rfl
theorem score_turn {n : Int} {l : List Int} (h : Ok n l) {a : Nat} (ha : a < l.length) : (scoresL (turnD l)).getD a 0 + (scoresL l).getD a 0 + 1 = l.length := by
  have hl := turnL_len l
  rw [score_at h ha, score_at (turnL_ok h) (by rw [hl]; exact ha), hl]
  have e : sI (bt (turnD l) a) (fun _ => 1) l.length = sI (fun b => bt l b a) (fun _ => 1) l.length := sI_congr _ (fun i hi => turnL_bt l a i ha hi) (fun _ _ _ => rfl)
  rw [e]
  have := count_all (m := l.length) (bt l a) (fun b => bt l b a) a l.length (fun j hj hne => (h.one ha hj).2 hne) (h.one ha ha).1 (h.one ha ha).1
  rw [if_pos ha] at this
  omega
theorem score_lt {n : Int} {l : List Int} (h : Ok n l) {a : Nat} (ha : a < l.length) : (scoresL l).getD a 0 < l.length := by have := score_turn h ha; omega
theorem defeat_at {n : Int} {l : List Int} (h : Ok n l) {a : Nat} (ha : a < l.length) : (((powTo l 2).getD a 0 : Nat) : Int) - (((powTo (turnD l) 2).getD a 0 : Nat) : Int) = defTo l a l.length := by
  have hl := turnL_len l
  have e1 : (powTo l 2).getD a 0 = sI (bt l a) (fun b => (scoresL l).getD b 0) l.length := by
    show (sumsL l (powTo l 1)).getD a 0 = _
    rw [sums_at h _ ha]
    exact sI_congr _ (fun _ _ => rfl) (fun i hi _ => ones h hi)
  have e2 : (powTo (turnD l) 2).getD a 0 = sI (fun b => bt l b a) (fun b => l.length - 1 - (scoresL l).getD b 0) l.length := by
    show (sumsL (turnD l) (powTo (turnD l) 1)).getD a 0 = _
    rw [sums_at (turnL_ok h) _ (by rw [hl]; exact ha), hl]
    refine sI_congr _ (fun i hi => turnL_bt l a i ha hi) (fun i hi _ => ?_)
    rw [ones (turnL_ok h) (by rw [hl]; exact hi)]
    have := score_turn h hi
    omega
  unfold defTo
  rw [e1, e2]
theorem defTo_succ (l : List Int) (a z : Nat) : defTo l a (z + 1) = defTo l a z + (if bt l a z then (((scoresL l).getD z 0 : Nat) : Int) else 0) - (if bt l z a then ((l.length - 1 - (scoresL l).getD z 0 : Nat) : Int) else 0) := by
  unfold defTo
  rw [sI, sI]
  cases bt l a z <;> cases bt l z a <;> simp <;> omega
/-- What both 'DefeatScores' answer. -/
noncomputable def defR (n : Int) (l : List Int) : List Int := if okB n l then defL l else []
theorem defR_le (n : Int) (l : List Int) : (defR n l).length ≤ 8 := by
  unfold defR defL
  split
  · rename_i h
    have hk := okB_iff.1 h
    have := hk.2.1; have := hk.2.2.1
    rw [List.length_map, List.length_range]; omega
  · simp
end Go.Proofs.Ytpndfmlkceplcaa
