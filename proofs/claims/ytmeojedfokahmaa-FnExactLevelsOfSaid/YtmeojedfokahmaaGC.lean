/-
  Groups of equal elements: the order cut where the elements change. No conditions.
-/
import Derived.Test.YtmeojedfokahmaaGy
namespace Go.Proofs.Ytmeojedfokahmaa
set_option linter.unusedVariables false

/-- Whether an index bears the same element. -/
def eqK (l : List Int) (x y : Nat) : Bool := decide (l.getD y 0 = l.getD x 0)
/-- The groups. -/
def lvl (l : List Int) : Nat → List Nat → List (List Nat)
  | 0, _ => []
  | _ + 1, [] => []
  | f + 1, x :: r => (x :: r.takeWhile (eqK l x)) :: lvl l f (r.dropWhile (eqK l x))
def lvlF (l : List Int) (L : List Nat) : List (List Nat) := lvl l L.length L
theorem drop_le (p : Nat → Bool) (r : List Nat) : (r.dropWhile p).length ≤ r.length := (List.dropWhile_sublist p).length_le
theorem lvl_fuel (l : List Int) : ∀ (f g : Nat) (L : List Nat), L.length ≤ f → L.length ≤ g → lvl l f L = lvl l g L
  | 0, 0, _, _, _ => rfl
  | 0, g + 1, [], _, _ => rfl
  | 0, g + 1, _ :: _, h, _ => absurd h (by simp)
  | f + 1, 0, [], _, _ => rfl
  | f + 1, 0, _ :: _, _, h => absurd h (by simp)
  | f + 1, g + 1, [], _, _ => rfl
  | f + 1, g + 1, x :: r, h1, h2 => by
    have hd := drop_le (eqK l x) r
    simp only [List.length_cons] at h1 h2
    rw [lvl, lvl, lvl_fuel l f g _ (by omega) (by omega)]
theorem lvlF_cons (l : List Int) (x : Nat) (r : List Nat) : lvlF l (x :: r) = (x :: r.takeWhile (eqK l x)) :: lvlF l (r.dropWhile (eqK l x)) := by
  have hd := drop_le (eqK l x) r
  show lvl l (r.length + 1) (x :: r) = _
  rw [lvl]
  unfold lvlF
  rw [lvl_fuel l r.length (r.dropWhile (eqK l x)).length _ hd (Nat.le_refl _)]
/-- How long the first group is. -/
def gl (l : List Int) : List Nat → Nat
  | [] => 0
  | x :: r => (r.takeWhile (eqK l x)).length + 1
theorem gl_cut (l : List Int) (x : Nat) (r : List Nat) : (x :: r).take (gl l (x :: r)) = x :: r.takeWhile (eqK l x) ∧ (x :: r).drop (gl l (x :: r)) = r.dropWhile (eqK l x) := by
  have e : r.takeWhile (eqK l x) ++ r.dropWhile (eqK l x) = r := List.takeWhile_append_dropWhile
  unfold gl
  rw [List.take_succ_cons, List.drop_succ_cons]
  generalize r.takeWhile (eqK l x) = T at e ⊢
  generalize r.dropWhile (eqK l x) = U at e ⊢
  subst e
  exact ⟨by rw [List.take_left' rfl], by rw [List.drop_left' rfl]⟩
theorem lvlF_cut (l : List Int) (L : List Nat) (h : 0 < L.length) : lvlF l L = L.take (gl l L) :: lvlF l (L.drop (gl l L)) := by
  cases L with
  | nil => simp at h
  | cons x r => rw [lvlF_cons, (gl_cut l x r).1, (gl_cut l x r).2]
theorem gl_le (l : List Int) (L : List Nat) : gl l L ≤ L.length := by
  cases L with
  | nil => exact Nat.le_refl _
  | cons x r =>
    have := (List.takeWhile_sublist (eqK l x) (l := r)).length_le
    simp only [gl, List.length_cons]; omega
theorem gl_pos (l : List Int) (L : List Nat) (h : 0 < L.length) : 1 ≤ gl l L := by
  cases L with
  | nil => simp at h
  | cons x r => simp [gl]
theorem cnt_take (p : Nat → Bool) (L : List Nat) : ∀ k, k ≤ L.length → cnt (fun i => p (L.getD i 0)) k = (L.take k).countP p
  | 0, _ => by simp [cnt]
  | k + 1, h => by
    rw [cnt, cnt_take p L k (by omega), List.take_add_one, List.countP_append, List.getD_eq_getElem?_getD, List.getElem?_eq_getElem (by omega : k < L.length)]
    simp only [Option.getD_some, Option.toList_some]
    by_cases hp : p L[k] = true
    · rw [if_pos hp, List.countP_cons_of_pos hp]; simp
    · rw [if_neg hp, List.countP_cons_of_neg hp]; simp
/-- In an order by falling elements, all equal ones stand in front. -/
theorem gl_count {l : List Int} {L : List Nat} (hs : L.Pairwise (leI l)) (h : 0 < L.length) : cnt (fun i => eqK l (L.getD 0 0) (L.getD i 0)) L.length = gl l L := by
  rw [cnt_take (eqK l (L.getD 0 0)) L L.length (Nat.le_refl _), List.take_length]
  cases L with
  | nil => simp at h
  | cons x r =>
    have e : r.takeWhile (eqK l x) ++ r.dropWhile (eqK l x) = r := List.takeWhile_append_dropWhile
    have hx : (x :: r).getD 0 0 = x := rfl
    rw [hx, List.countP_cons_of_pos (by simp [eqK])]
    conv => lhs; rw [← e]
    rw [List.countP_append]
    have h1 : (r.takeWhile (eqK l x)).countP (eqK l x) = (r.takeWhile (eqK l x)).length := List.countP_eq_length.2 (fun a ha => by
      have := List.all_takeWhile (l := r) (p := eqK l x)
      exact List.all_eq_true.1 this a ha)
    have h2 : (r.dropWhile (eqK l x)).countP (eqK l x) = 0 := by
      rw [List.countP_eq_zero]
      intro y hy
      obtain ⟨hxr, hr⟩ := List.pairwise_cons.1 hs
      cases hd : r.dropWhile (eqK l x) with
      | nil => rw [hd] at hy; simp at hy
      | cons z t =>
        have hz : eqK l x z = false := by
          have := List.head?_dropWhile_not (eqK l x) r
          rw [hd] at this
          simpa using this
        have hzr : z ∈ r := (List.dropWhile_sublist (eqK l x)).subset (by rw [hd]; exact List.mem_cons_self)
        have hxz := hxr z hzr
        have hpw : (z :: t).Pairwise (leI l) := by rw [← hd]; exact hr.sublist (List.dropWhile_sublist _)
        rw [hd] at hy
        unfold eqK at hz ⊢
        rw [decide_eq_false_iff_not] at hz
        unfold leI at hxz
        rcases List.mem_cons.1 hy with rfl | hyt
        · simpa using hz
        · have hzy := (List.pairwise_cons.1 hpw).1 y hyt
          unfold leI at hzy
          simp only [decide_eq_true_eq]
          omega
    rw [h1, h2]
    simp [gl]

/-- The model's step. -/
def stepM (l : List Int) (out : List (List Nat)) (i : Nat) : List (List Nat) :=
  if out ≠ [] ∧ l.getD ((out.getLastD []).getD 0 0) 0 = l.getD i 0 then out.dropLast ++ [out.getLastD [] ++ [i]] else out ++ [[i]]
theorem stepM_more (l : List Int) (x : Nat) : ∀ (T : List Nat) (out : List (List Nat)) (G : List Nat), (∀ y ∈ T, eqK l x y = true) → T.foldl (stepM l) (out ++ [x :: G]) = out ++ [x :: (G ++ T)]
  | [], out, G, _ => by simp
  | y :: T, out, G, h => by
    have hy := h y List.mem_cons_self
    unfold eqK at hy
    rw [decide_eq_true_eq] at hy
    have e : stepM l (out ++ [x :: G]) y = out ++ [x :: (G ++ [y])] := by
      unfold stepM
      rw [if_pos (by
        refine ⟨by simp, ?_⟩
        rw [List.getLastD_concat]
        exact hy.symm)]
      simp
    rw [List.foldl_cons, e, stepM_more l x T out (G ++ [y]) (fun z hz => h z (List.mem_cons_of_mem _ hz)), List.append_assoc]
    rfl
theorem fold_lvl (l : List Int) : ∀ (n : Nat) (L : List Nat) (out : List (List Nat)), L.length ≤ n → (∀ x r, L = x :: r → out = [] ∨ l.getD ((out.getLastD []).getD 0 0) 0 ≠ l.getD x 0) → L.foldl (stepM l) out = out ++ lvlF l L
  | 0, L, out, h, _ => by
    obtain rfl := List.eq_nil_of_length_eq_zero (Nat.le_zero.1 h)
    simp [lvlF, lvl]
  | n + 1, [], out, _, _ => by simp [lvlF, lvl]
  | n + 1, x :: r, out, h, hne => by
    have e : r.takeWhile (eqK l x) ++ r.dropWhile (eqK l x) = r := List.takeWhile_append_dropWhile
    have hd := drop_le (eqK l x) r
    have h0 : stepM l out x = out ++ [[x]] := by
      unfold stepM
      rw [if_neg]
      rintro ⟨h1, h2⟩
      rcases hne x r rfl with h3 | h3
      · exact h1 h3
      · exact h3 h2
    rw [List.foldl_cons, h0, lvlF_cons]
    conv => lhs; rw [← e]
    rw [List.foldl_append, stepM_more l x _ out [] (fun y hy => List.all_eq_true.1 List.all_takeWhile y hy), List.nil_append]
    rw [fold_lvl l n _ _ (by simp only [List.length_cons] at h; omega) ?_]
    · simp
    · intro z t hz
      right
      have := List.head?_dropWhile_not (eqK l x) r
      rw [hz] at this
      simp [eqK] at this
      simp
      exact fun h => this h.symm
/-- What both 'LevelsOf' answer. -/
def levR (l : List Int) : List (List Int) := if l.length ≤ 40 then (lvlF l (ordL l)).map niG else []
end Go.Proofs.Ytmeojedfokahmaa
