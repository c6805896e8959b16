/-
  The library's sort that keeps equals in order ('stableCmpFunc', 'SortStableFunc') on a row of at most forty numbers: the row is permuted, and stands in the order that the question and the places before give. Conditions: at most forty places.
-/
import Derived.Test.YtmeojedfokahmaaGs
namespace Go.Proofs.Ytmeojedfokahmaa
open Go.ChangeShapes Go.WideShapes Go.ChangeAt Go.RowKit Go.Sort Go.Shelf Go.Lib
set_option linter.unusedVariables false
set_option linter.unusedSectionVars false

section
variable {α : Type} [Inhabited α]
theorem insInner_perm (lt : α → α → Bool) (a : Nat) : ∀ (j : Nat) (d : Array α), j < d.size → a ≤ j → PermIn a (j + 1) d (insInner lt a j d)
  | 0, d, _, _ => by rw [insInner]; exact permIn_refl _ _ _
  | j + 1, d, hj, ha => by
    rw [insInner]
    split
    · rename_i h
      have h1 : j + 1 > a := by have := (Bool.and_eq_true _ _ ▸ h).1; simpa using this
      have ih := insInner_perm lt a j (swp d (j + 1) j) (by rw [size_swp]; omega) (by omega)
      exact permIn_trans _ _ _ _ _ (swp_permIn d a (j + 1 + 1) (j + 1) j (by omega) (by omega) (by omega) (by omega) (by omega)) (permIn_mono _ _ a (j + 1) a (j + 1 + 1) (Nat.le_refl _) (by omega) (by rw [size_swp]; omega) ih)
    · exact permIn_refl _ _ _
theorem insInner_congr (lt lt' : α → α → Bool) (a : Nat) : ∀ (j : Nat) (d : Array α), j < d.size → (∀ p, a ≤ p → p < j → lt d[j]! d[p]! = lt' d[j]! d[p]!) → insInner lt a j d = insInner lt' a j d
  | 0, d, _, _ => by rw [insInner, insInner]
  | j + 1, d, hj, h => by
    rw [insInner, insInner]
    by_cases ha : j + 1 > a
    · have e := h j (by omega) (by omega)
      have ih := insInner_congr lt lt' a j (swp d (j + 1) j) (by rw [size_swp]; omega) (fun p h1 h2 => by
        rw [swp_right d (j + 1) j (by omega), swp_other d (j + 1) j p (by omega) (by omega)]
        exact h p h1 (by omega))
      rw [e, ih]
    · have : decide (j + 1 > a) = false := decide_eq_false ha
      rw [this]; rfl
theorem insOuter_congr (lt lt' : α → α → Bool) (a b : Nat) : ∀ (n i : Nat) (d : Array α), b - i = n → a < i → b ≤ d.size → (∀ p q, a ≤ p → p < q → i ≤ q → q < b → lt d[q]! d[p]! = lt' d[q]! d[p]!) → insOuter lt a b i d = insOuter lt' a b i d
  | 0, i, d, hn, _, _, _ => by rw [insOuter_stop _ _ _ _ _ (by omega), insOuter_stop _ _ _ _ _ (by omega)]
  | n + 1, i, d, hn, hai, hb, h => by
    have hlt : i < b := by omega
    have e := insInner_congr lt lt' a i d (by omega) (fun p h1 h2 => h p i h1 h2 (Nat.le_refl _) hlt)
    have hp := insInner_perm lt' a i d (by omega) (by omega)
    rw [insOuter_go _ _ _ _ _ hlt, insOuter_go _ _ _ _ _ hlt, e]
    refine insOuter_congr lt lt' a b n (i + 1) _ (by omega) (by omega) (by rw [hp.1]; exact hb) fun p q h1 h2 h3 h4 => ?_
    rw [hp.2.1 q (by omega)]
    by_cases c : p < i + 1
    · obtain ⟨k, k1, k2, ek⟩ := Gm.PermIn.get hp (by omega) p h1 c
      rw [ek]; exact h k q k1 (by omega) (by omega) h4
    · rw [hp.2.1 p (by omega)]; exact h p q h1 h2 (by omega) h4
theorem insertion_congr (lt lt' : α → α → Bool) (d : Array α) (a b : Nat) (hb : b ≤ d.size) (h : ∀ p q, a ≤ p → p < q → q < b → lt d[q]! d[p]! = lt' d[q]! d[p]!) : insertionSort lt d a b = insertionSort lt' d a b :=
  insOuter_congr lt lt' a b _ (a + 1) d rfl (by omega) hb fun p q h1 h2 _ h4 => h p q h1 h2 h4

/-- The order in which a row is to stand: 'less' first, or not to be told apart. -/
def leO (lt' : α → α → Bool) (x y : α) : Prop := lt' y x = false
theorem leO_trans {lt' : α → α → Bool} (h : SWO lt') : ∀ x y z, leO lt' x y → leO lt' y z → leO lt' x z := fun x y z h1 h2 => h.ntrans z y x h2 h1
theorem leO_total {lt' : α → α → Bool} (h : SWO lt') : ∀ x y, leO lt' x y ∨ leO lt' y x := fun x y => by
  cases e : lt' y x with
  | false => exact .inl e
  | true => exact .inr (h.asymmA e)
theorem up_of_sorted {lt' : α → α → Bool} {d : Array α} {a b : Nat} (h : SortedIn lt' a b d) : Gm.Up (leO lt') d a b := fun i j h1 h2 h3 => h i j h1 h2 h3

/-- One block sorted. -/
theorem one_block {lt lt' : α → α → Bool} (hS : SWO lt') (d : Array α) (a b : Nat) (hab : a ≤ b) (hb : b ≤ d.size) (h : ∀ p q, a ≤ p → p < q → q < b → lt d[q]! d[p]! = lt' d[q]! d[p]!) :
    PermIn a b d (insertionSort lt d a b) ∧ Gm.Up (leO lt') (insertionSort lt d a b) a b := by
  rw [insertion_congr lt lt' d a b hb h]
  have := insertionSort_holds hS d a b hab hb
  exact ⟨this.1, up_of_sorted this.2⟩
end

/-- Two blocks sorted: what the merge is given. -/
theorem two_blocks {cf : Nat → Nat → Int} {lt' : Nat → Nat → Bool} (hS : SWO lt') (d : Array Nat) (m : Nat) (hm : m ≤ d.size) (h : ∀ p q, p < q → q < d.size → ltOf cf d[q]! d[p]! = lt' d[q]! d[p]!) :
    PermIn 0 d.size d (insertionSort (ltOf cf) (insertionSort (ltOf cf) d 0 m) m d.size) ∧ Gm.Pre (leO lt') (cq cf) (insertionSort (ltOf cf) (insertionSort (ltOf cf) d 0 m) m d.size) 0 m d.size := by
  obtain ⟨p1, u1⟩ := one_block (lt := ltOf cf) hS d 0 m (Nat.zero_le _) hm (fun p q _ h2 h3 => h p q h2 (by omega))
  obtain ⟨d1, hd1⟩ : ∃ d1, d1 = insertionSort (ltOf cf) d 0 m := ⟨_, rfl⟩
  rw [← hd1] at p1 u1 ⊢
  obtain ⟨p2, u2⟩ := one_block (lt := ltOf cf) hS d1 m d.size hm (by rw [p1.1]; exact Nat.le_refl _) (fun p q h1 h2 h3 => by
    rw [p1.2.1 p (by omega), p1.2.1 q (by omega)]; exact h p q h2 h3)
  obtain ⟨d2, hd2⟩ : ∃ d2, d2 = insertionSort (ltOf cf) d1 m d.size := ⟨_, rfl⟩
  rw [← hd2] at p2 u2 ⊢
  refine ⟨permIn_trans _ _ _ _ _ (permIn_mono _ _ 0 m 0 d.size (Nat.le_refl _) hm (Nat.le_refl _) p1) (permIn_mono _ _ m d.size 0 d.size (Nat.zero_le _) (Nat.le_refl _) (by rw [p1.1]; exact Nat.le_refl _) p2), ⟨Gm.Up.out u1 p2 (.inl (Nat.le_refl _)), u2, ?_⟩⟩
  intro i j h1 h2 h3 h4
  rw [p2.2.1 i (by omega)]
  obtain ⟨k, k1, k2, ek⟩ := Gm.PermIn.get p1 hm i (Nat.zero_le _) h2
  obtain ⟨k', k1', k2', ek'⟩ := Gm.PermIn.get p2 (by rw [p1.1]; exact Nat.le_refl _) j h3 h4
  rw [ek, ek', p1.2.1 k' (by omega)]
  have := h k k' (by omega) k2'
  unfold cq leO
  unfold ltOf at this
  rw [this]
  cases lt' d[k']! d[k]! <;> simp

theorem symMerge_any (n : Nat) (g : Nat) (cb : Array Value) (cf : Nat → Nat → Int) (le : Nat → Nat → Prop) (hT : ∀ x y z, le x y → le y z → le x z) (htot : ∀ x y, le x y ∨ le y x) (eg : ∀ args w, (callFunc g args).run Try.prog w = .ok (.enter g args) w)
    (blk off cap : Nat) (d0 : Array Nat) (w0 : World) (hcmp : CmpLays1 Try.prog g cb (encM n) cf blk off d0.size w0) (R : Row1 (encM n) w0 blk off d0) (hsz : d0.size ≤ 1000) : ∀ M, SmS n g cb cf le blk off cap d0.size w0 M
  | 0 => fun a m b d w h1 h2 h3 => by omega
  | M + 1 => by
    intro a m b d w h1 h2 h3 h4 h5 S P
    have ih := symMerge_any n g cb cf le hT htot eg blk off cap d0 w0 hcmp R hsz M
    rw [← h5] at ih hsz h4 ⊢
    by_cases c1 : m = a + 1
    · exact symMerge_one n g cb cf le hT htot eg blk off cap a m b d0 d w0 w hcmp R h5 S c1 h3 h4 hsz P
    · by_cases c2 : b = m + 1
      · exact symMerge_last n g cb cf le hT htot eg blk off cap a m b d0 d w0 w hcmp R h5 S c2 (by omega) h4 hsz P
      · by_cases c3 : (a + b) / 2 < m
        · exact symMerge_big n g cb cf le hT htot eg blk off cap a m b _ d0 d w0 w hcmp R h5 S (by omega) (by omega) h4 hsz P rfl c3 M (by omega) ih
        · exact symMerge_small n g cb cf le hT htot eg blk off cap a m b _ d0 d w0 w hcmp R h5 S (by omega) (by omega) h4 hsz P rfl (by omega) M (by omega) ih
end Go.Proofs.Ytmeojedfokahmaa
