/-
  Plain facts on valid tours, on: renamed, flipped, parts, their texts, their differences. No program; no conditions.
-/
import Derived.Test.YtgjogbihadiojaaV5M
namespace Go.Proofs.Ytgjogbihadiojaa
open Go.ChangeShapes Go.WideShapes Go.ChangeAt Go.RowKit
set_option linter.unusedVariables false

/-! Renamed. -/
theorem renF_ltm {m : Nat} {ns : List Int} (h : permB m ns = true) (pre : List (Pl m)) : ∀ y ∈ renF ns pre, y < 2 ^ m := by
  have : ∀ (L : List (Pl m)) (ys : List Nat), (∀ y ∈ ys, y < 2 ^ m) → ∀ y ∈ L.foldl (renStep ns) ys, y < 2 ^ m := by
    intro L
    induction L with
    | nil => exact fun ys h => h
    | cons x L ih =>
      refine fun ys hy => ih _ ?_
      intro y hy'
      unfold renStep at hy'
      rcases List.mem_or_eq_of_mem_set hy' with h1 | h1
      · exact hy y h1
      · rw [h1]
        refine Nat.or_lt_two_pow ?_ (Nat.pow_lt_pow_right (by decide) (nm_val h x.2.isLt).2)
        rw [List.getD_eq_getElem?_getD]
        cases e : ys[nm ns x.1.val]? with
        | none => exact Nat.two_pow_pos _
        | some z => exact hy z (List.mem_of_getElem? e)
  exact this pre _ (by intro y hy; rw [(List.mem_replicate.1 hy).2]; exact Nat.two_pow_pos _)
theorem renF_all {m : Nat} {ns : List Int} (h : permB m ns = true) (a b : Fin m) (pre : List (Pl m)) : ((renF ns pre).getD (nm ns a.val) 0).testBit (nm ns b.val) = decide ((a, b) ∈ pre) := by
  have key : ∀ (L : List (Pl m)) (ys : List Nat), ys.length = m → ((L.foldl (renStep ns) ys).getD (nm ns a.val) 0).testBit (nm ns b.val) = ((ys.getD (nm ns a.val) 0).testBit (nm ns b.val) || decide ((a, b) ∈ L)) := by
    intro L
    induction L with
    | nil => intro ys _; simp
    | cons x L ih =>
      intro ys hy
      rw [List.foldl_cons, ih _ (by rw [renStep_len]; exact hy)]
      have hd : decide ((a, b) ∈ x :: L) = (decide ((a, b) = x) || decide ((a, b) ∈ L)) := by simp only [List.mem_cons]; exact Bool.decide_or _ _
      rw [hd, ← Bool.or_assoc]
      congr 1
      unfold renStep
      by_cases e : x.1 = a
      · obtain ⟨x1, x2⟩ := x
        simp only at e
        subst e
        rw [List.getD_eq_getElem?_getD, List.getElem?_set_self (by rw [hy]; exact (nm_val h x1.isLt).2)]
        simp only [Option.getD_some, Nat.testBit_or, Nat.testBit_two_pow]
        congr 1
        rw [decide_eq_decide]
        constructor
        · intro e2
          have : x2 = b := Fin.ext (nm_inj h x2.isLt b.isLt e2)
          rw [this]
        · intro e2
          have : b = x2 := congrArg Prod.snd e2
          rw [this]
      · have hv : nm ns x.1.val ≠ nm ns a.val := fun h' => e (Fin.ext (nm_inj h x.1.isLt a.isLt h'))
        rw [List.getD_eq_getElem?_getD, List.getElem?_set_ne hv, ← List.getD_eq_getElem?_getD]
        have : ¬ (a, b) = x := fun e2 => e (by rw [← e2])
        simp [this]
  have := key pre (List.replicate m 0) (by simp)
  have hz : ((List.replicate m 0).getD (nm ns a.val) 0).testBit (nm ns b.val) = false := by
    rw [List.getD_eq_getElem?_getD, List.getElem?_eq_getElem (by simpa using (nm_val h a.isLt).2)]; simp
  rw [hz, Bool.false_or] at this
  exact this
theorem nm_bij {m : Nat} {ns : List Int} (h : permB m ns = true) : Bij (nm ns) m := ⟨fun i hi => (nm_val h hi).2, fun i j hi hj he => nm_inj h hi hj he⟩
theorem renamed0 {l ns : List Int} (h : OkL l) (hp : permB l.length ns = true) : OkL ((renF ns (gamesL l.length l)).map Int.ofNat) ∧ ((renF ns (gamesL l.length l)).map Int.ofNat).length = l.length ∧ ∀ a b, a < l.length → b < l.length → bt ((renF ns (gamesL l.length l)).map Int.ofNat) (nm ns a) (nm ns b) = bt l a b := by
  have hlen : (renF ns (gamesL l.length l)).length = l.length := renF_len _ _
  have key : ∀ a b, a < l.length → b < l.length → ((renF ns (gamesL l.length l)).getD (nm ns a) 0).testBit (nm ns b) = bt l a b := by
    intro a b ha hb
    have := renF_all hp ⟨a, ha⟩ ⟨b, hb⟩ (gamesL l.length l)
    rw [this, Bool.eq_iff_iff, decide_eq_true_eq]
    exact mem_games l.length l (⟨a, ha⟩, ⟨b, hb⟩)
  refine ⟨mkOk (by rw [hlen]; exact h.le.1) (by rw [hlen]; exact h.le.2) ?_ ?_ ?_, by simp [hlen], fun a b ha hb => by rw [bt_ofNat]; exact key a b ha hb⟩
  · intro i hi
    rw [List.getD_eq_getElem?_getD, List.getElem?_eq_getElem hi, hlen]
    exact renF_ltm hp _ _ (List.getElem_mem _)
  · intro i hi
    rw [hlen] at hi
    obtain ⟨a, ha, rfl⟩ := (nm_bij hp).onto i hi
    rw [key a a ha ha, h.self ha]
  · intro i j hi hj hne
    rw [hlen] at hi hj
    obtain ⟨a, ha, rfl⟩ := (nm_bij hp).onto i hi
    obtain ⟨b, hb, rfl⟩ := (nm_bij hp).onto j hj
    rw [key a b ha hb, key b a hb ha, h.other ha hb (fun e => hne (by rw [e]))]
theorem renB_L {l ns : List Int} (h : OkL l) (hp : permB l.length ns = true) : renB (l.length : Int) l ns = true := by unfold renB; rw [okB_L h, hp]; rfl
theorem renamed {l ns : List Int} (h : OkL l) (hp : permB l.length ns = true) : OkL (renR (l.length : Int) l ns) ∧ (renR (l.length : Int) l ns).length = l.length ∧ renN (l.length : Int) l ns = l.length ∧ ∀ a b, a < l.length → b < l.length → bt (renR (l.length : Int) l ns) (nm ns a) (nm ns b) = bt l a b := by
  have e : renR (l.length : Int) l ns = (renF ns (gamesL l.length l)).map Int.ofNat := by unfold renR; rw [if_pos (renB_L h hp)]
  obtain ⟨h1, h2, h3⟩ := renamed0 h hp
  rw [e]
  exact ⟨h1, h2, by unfold renN; rw [if_pos (renB_L h hp)], h3⟩
theorem sc_renamed {l ns : List Int} (h : OkL l) (hp : permB l.length ns = true) {a : Nat} (ha : a < l.length) : sc (renR (l.length : Int) l ns) (nm ns a) = sc l a := by
  obtain ⟨h1, h2, _, h4⟩ := renamed h hp
  unfold sc
  rw [h2, ← (nm_bij hp).cnt (fun b => bt (renR (l.length : Int) l ns) (nm ns a) b)]
  exact cnt_congr (fun i hi => h4 a i ha hi)

/-! Flipped. -/
def isG (p q i j : Nat) : Bool := (decide (i = p) && decide (j = q)) || (decide (i = q) && decide (j = p))
theorem flipAt_bit (ys : List Nat) (p q i j : Nat) (hp : p < ys.length) : ((flipAt ys p q).getD i 0).testBit j = ((ys.getD i 0).testBit j ^^ (decide (i = p) && decide (j = q))) := by
  unfold flipAt
  by_cases e : p = i
  · subst e
    rw [List.getD_eq_getElem?_getD, List.getElem?_set_self hp]
    simp only [Option.getD_some, Nat.testBit_xor, Nat.testBit_two_pow, decide_true, Bool.true_and]
    congr 1
    rw [decide_eq_decide]
    exact ⟨fun h => h.symm, fun h => h.symm⟩
  · rw [List.getD_eq_getElem?_getD, List.getElem?_set_ne e, ← List.getD_eq_getElem?_getD]
    have : ¬ i = p := fun h => e h.symm
    simp [this]
theorem flipL_len (l : List Int) (p q : Nat) : (flipL l p q).length = l.length := by simp [flipL, flipAt_len]
theorem flipped0 {l : List Int} (h : OkL l) {p q : Nat} (hp : p < l.length) (hq : q < l.length) (hne : p ≠ q) : OkL (flipL l p q) ∧ ∀ i j, i < l.length → j < l.length → bt (flipL l p q) i j = (bt l i j ^^ isG p q i j) := by
  have hlen : (flipAt (flipAt (l.map Int.toNat) p q) q p).length = l.length := by simp [flipAt_len]
  have key : ∀ i j, i < l.length → ((flipAt (flipAt (l.map Int.toNat) p q) q p).getD i 0).testBit j = (bt l i j ^^ isG p q i j) := by
    intro i j hi
    obtain ⟨x, hx, hx2, _⟩ := h.nat hi
    have e0 : (l.map Int.toNat).getD i 0 = x := by
      rw [List.getD_eq_getElem?_getD, List.getElem?_eq_getElem hi] at hx
      simp only [Option.getD_some] at hx
      rw [List.getD_eq_getElem?_getD, List.getElem?_map, List.getElem?_eq_getElem hi]
      simp only [Option.map_some, Option.getD_some]
      rw [hx]; rfl
    rw [flipAt_bit _ q p i j (by rw [flipAt_len]; simpa using hq), flipAt_bit _ p q i j (by simpa using hp), e0, bt_nat j hx, Bool.xor_assoc]
    congr 1
    unfold isG
    by_cases h1 : i = p
    · subst h1
      simp [hne]
    · simp [h1]
  have hr : ∀ i j, i < l.length → j < l.length → isG p q i j = isG p q j i := by
    intro i j _ _
    unfold isG
    rw [Bool.or_comm]
    congr 1 <;> rw [Bool.and_comm]
  refine ⟨mkOk (by rw [hlen]; exact h.le.1) (by rw [hlen]; exact h.le.2) ?_ ?_ ?_, fun i j hi hj => by unfold flipL; rw [bt_ofNat]; exact key i j hi⟩
  · intro i hi
    rw [hlen] at hi ⊢
    apply Nat.lt_pow_two_of_testBit
    intro j hj
    rw [key i j hi, btHigh h hi hj]
    unfold isG
    have e1 : ¬ j = q := by omega
    have e2 : ¬ j = p := by omega
    simp [e1, e2]
  · intro i hi
    rw [hlen] at hi
    rw [key i i hi, h.self hi]
    unfold isG
    by_cases h1 : i = p
    · subst h1; simp [hne]
    · simp [h1]
  · intro i j hi hj hij
    rw [hlen] at hi hj
    rw [key i j hi, key j i hj, h.other hi hj hij, hr i j hi hj]
    cases bt l j i <;> cases isG p q j i <;> rfl
theorem flipB_L {l : List Int} (h : OkL l) {p q : Nat} (hp : p < l.length) (hq : q < l.length) (hne : p ≠ q) : flipB (l.length : Int) l p q = true := by
  have e1 : pl (l.length : Int) (p : Int) = true := pl_iff.2 (by omega)
  have e2 : pl (l.length : Int) (q : Int) = true := pl_iff.2 (by omega)
  have e3 : ((p : Int) == (q : Int)) = false := by rw [beq_eq_false_iff_ne]; omega
  unfold flipB
  rw [okB_L h, e1, e2, e3]; rfl
theorem flipped {l : List Int} (h : OkL l) {p q : Nat} (hp : p < l.length) (hq : q < l.length) (hne : p ≠ q) : OkL (flipR (l.length : Int) l p q) ∧ (flipR (l.length : Int) l p q).length = l.length ∧ flipN (l.length : Int) l p q = l.length ∧ ∀ i j, i < l.length → j < l.length → bt (flipR (l.length : Int) l p q) i j = (bt l i j ^^ isG p q i j) := by
  have e : flipR (l.length : Int) l p q = flipL l p q := by unfold flipR; rw [if_pos (flipB_L h hp hq hne)]; rfl
  obtain ⟨h1, h2⟩ := flipped0 h hp hq hne
  rw [e]
  exact ⟨h1, flipL_len _ _ _, by unfold flipN; rw [if_pos (flipB_L h hp hq hne)], h2⟩
theorem isG_swap (p q i j : Nat) : isG q p i j = isG p q i j := by unfold isG; rw [Bool.or_comm]
theorem flipped2 {l : List Int} (h : OkL l) {p q : Nat} (hp : p < l.length) (hq : q < l.length) (hne : p ≠ q) : flipR ((flipR (l.length : Int) l p q).length : Int) (flipR (l.length : Int) l p q) q p = l := by
  obtain ⟨h1, h2, _, h4⟩ := flipped h hp hq hne
  obtain ⟨k1, k2, _, k4⟩ := flipped h1 (p := q) (q := p) (by omega) (by omega) (fun e => hne e.symm)
  refine okL_ext k1 h (by omega) fun i j hi hj => ?_
  rw [k4 i j (by omega) (by omega), h4 i j (by omega) (by omega), isG_swap]
  cases bt l i j <;> cases isG q p i j <;> rfl

/-! Differences. -/
theorem dTo_sum (l lu : List Int) : ∀ k, dTo l lu k = sumN (fun i => pc (andn (l.getD i 0).toNat (lu.getD i 0).toNat)) k
  | 0 => rfl
  | k + 1 => by simp only [dTo, sumN]; rw [dTo_sum l lu k]
theorem pc_diff {l lu : List Int} (h : OkL l) (hu : OkL lu) (hl : l.length = lu.length) {a : Nat} (ha : a < l.length) : pc (andn (l.getD a 0).toNat (lu.getD a 0).toNat) = cnt (fun b => bt l a b && !bt lu a b) l.length := by
  obtain ⟨x, hx, hx2, hx8⟩ := h.nat ha
  obtain ⟨y, hy, hy2, _⟩ := hu.nat (show a < lu.length by omega)
  rw [hx, hy]
  show pc (andn x y) = _
  rw [pc_cnt _ (andn_lt x y hx8), cnt_mono (p := fun b => (andn x y).testBit b) (k := l.length) h.le.2 (fun i h1 _ => by
    rw [andn_bit, Nat.testBit_lt_two_pow (Nat.lt_of_lt_of_le hx2 (pow_le_of h1))]; rfl)]
  exact cnt_congr (fun i _ => by rw [andn_bit, bt_nat i hx, bt_nat i hy])
theorem cdB_L {l lu : List Int} (h : OkL l) (hu : OkL lu) (hl : l.length = lu.length) : cdB (l.length : Int) l (lu.length : Int) lu = true := by
  have : ((l.length : Int) == (lu.length : Int)) = true := by rw [hl]; exact beq_self_eq_true _
  unfold cdB; rw [okB_L h, okB_L hu, this]; rfl
theorem cdR_sum {l lu : List Int} (h : OkL l) (hu : OkL lu) (hl : l.length = lu.length) : cdR (l.length : Int) l (lu.length : Int) lu = (sumN (fun a => cnt (fun b => bt l a b && !bt lu a b) l.length) l.length : Nat) := by
  unfold cdR
  rw [if_pos (cdB_L h hu hl), dTo_sum]
  congr 1
  exact sumN_congr (fun i hi => pc_diff h hu hl hi)
theorem sumN_zero {f : Nat → Nat} {k : Nat} (h : ∀ i, i < k → f i = 0) : sumN f k = 0 := by
  induction k with
  | zero => rfl
  | succ k ih => simp only [sumN]; rw [ih (fun i hi => h i (by omega)), h k (by omega)]
theorem sumN_one {f : Nat → Nat} {x k : Nat} (hx : x < k) (h : ∀ i, i < k → i ≠ x → f i = 0) : sumN f k = f x := by
  induction k with
  | zero => omega
  | succ k ih =>
    simp only [sumN]
    by_cases e : x = k
    · subst e
      rw [sumN_zero (fun i hi => h i (by omega) (by omega)), Nat.zero_add]
    · rw [ih (by omega) (fun i hi hne => h i (by omega) hne), h k (by omega) (fun h' => e h'.symm), Nat.add_zero]
theorem cnt_single {p : Nat → Bool} {x k : Nat} (hx : x < k) (hp : p x = true) (h : ∀ i, i < k → i ≠ x → p i = false) : cnt p k = 1 := by
  have := cnt_one (p := p) (q := fun _ => false) hx h
  rw [cnt_none (fun _ _ => rfl), hp] at this
  simpa using this
theorem cd_same {l : List Int} (h : OkL l) : cdR (l.length : Int) l (l.length : Int) l = 0 := by
  rw [cdR_sum h h rfl, sumN_zero (fun i _ => cnt_none (fun j _ => by cases bt l i j <;> rfl))]; rfl
theorem cd_turned {l : List Int} (h : OkL l) : ∃ K : Nat, 2 * K = l.length * (l.length - 1) ∧ cdR (l.length : Int) l ((turnR (l.length : Int) l).length : Int) (turnR (l.length : Int) l) = (K : Int) := by
  obtain ⟨h1, h2, _, h4⟩ := turned h
  refine ⟨_, sumScores h, ?_⟩
  rw [cdR_sum h h1 h2.symm]
  congr 1
  refine sumN_congr (fun i hi => cnt_congr (fun j hj => ?_))
  rw [h4 i j hi hj]
  by_cases e : i = j
  · subst e; rw [h.self hi]; rfl
  · rw [h.other hi hj e]
    cases bt l j i <;> rfl
theorem cd_flipped {l : List Int} (h : OkL l) {p q : Nat} (hp : p < l.length) (hq : q < l.length) (hne : p ≠ q) : cdR ((flipR (l.length : Int) l p q).length : Int) (flipR (l.length : Int) l p q) (l.length : Int) l = 1 := by
  obtain ⟨h1, h2, _, h4⟩ := flipped h hp hq hne
  obtain ⟨F, hF⟩ : ∃ F, F = flipR (l.length : Int) l p q := ⟨_, rfl⟩
  rw [← hF] at h1 h2 h4 ⊢
  rw [cdR_sum h1 h h2, h2]
  have hother := h.other hp hq hne
  have key : ∀ i j, i < l.length → j < l.length → (bt F i j && !bt l i j) = (isG p q i j && !bt l i j) := by
    intro i j hi hj
    rw [h4 i j hi hj]
    cases bt l i j <;> cases isG p q i j <;> rfl
  have one : ∀ x y, x < l.length → y < l.length → x ≠ y → (∀ i j, isG p q i j = isG x y i j) → bt l x y = false → sumN (fun a => cnt (fun b => bt F a b && !bt l a b) l.length) l.length = 1 := by
    intro x y hx hy hxy hg hb
    have hb2 : bt l y x = true := by rw [h.other hy hx (fun e => hxy e.symm), hb]; rfl
    rw [sumN_one hx (fun i hi hne => ?_)]
    · refine cnt_single hy ?_ (fun j hj hne => ?_)
      · show (bt F x y && !bt l x y) = true
        rw [key x y hx hy, hg, hb]; unfold isG; simp
      · show (bt F x j && !bt l x j) = false
        rw [key x j hx hj, hg]; unfold isG; simp [hne, hxy]
    · refine cnt_none (fun j hj => ?_)
      rw [key i j hi hj, hg]
      unfold isG
      by_cases e : i = y
      · subst e
        by_cases e2 : j = x
        · subst e2; rw [hb2]; simp
        · simp [e2, hne]
      · simp [e, hne]
  have : sumN (fun a => cnt (fun b => bt F a b && !bt l a b) l.length) l.length = 1 := by
    cases hb : bt l p q
    · exact one p q hp hq hne (fun _ _ => rfl) hb
    · refine one q p hq hp (fun e => hne e.symm) (fun i j => (isG_swap p q i j).symm) ?_
      rw [hb] at hother
      cases h5 : bt l q p
      · rfl
      · rw [h5] at hother; cases hother
  rw [this]; rfl
end Go.Proofs.Ytgjogbihadiojaa
