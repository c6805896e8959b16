/-
  The model's best order ('l08Best'). No conditions but the bounds that Go gives a slice.
-/
import Derived.Test.YteegbkbphfmooaaQH
namespace Go.Proofs.Yteegbkbphfmooaa
open Go.ChangeShapes Go.WideShapes Go.ChangeAt Go.RowKit Go.Sort
set_option linter.unusedVariables false
namespace Rv
/-- Whether a player may be the first one of a best order of a set. -/
def fst? (f : Nat → Nat → Bool) (s a : Nat) : Bool := gm f (s - 2 ^ a) + (elems (s - 2 ^ a)).countP (fun b => f b a) == gm f s
def t1 (f : Nat → Nat → Bool) (s a : Nat) : Nat × Nat × Nat := (gm f (s - 2 ^ a) + (elems (s - 2 ^ a)).countP (fun b => f b a), gn f (s - 2 ^ a), a * 8 ^ (pc s - 1) + gv f (s - 2 ^ a))
theorem G_t1 (f : Nat → Nat → Bool) {s : Nat} (hs : s < 256) (h0 : 0 < pc s) : sm ((elems s).map fun a => some (t1 f s a)) = some (gm f s, gn f s, gv f s) := by
  have h := pt_all f hs h0
  rw [G_eq f hs] at h
  rw [← h]
  unfold pt
  rw [List.take_of_length_le (Nat.le_refl _)]
  rfl
theorem fil_t1 (f : Nat → Nat → Bool) (s a : Nat) : fil (gm f s) (some (t1 f s a)) = if fst? f s a then some (t1 f s a) else none := by
  unfold fil fst? t1
  simp only [beq_iff_eq]
theorem fst_some (f : Nat → Nat → Bool) {s : Nat} (hs : s < 256) (h0 : 0 < pc s) : ∃ a ∈ elems s, fst? f s a = true := by
  obtain ⟨h1, _⟩ := (sm_min _).2 _ (G_t1 f hs h0)
  refine Classical.byContradiction fun hno => ?_
  have h2 : sm (((elems s).map fun a => some (t1 f s a)).map (fil (gm f s))) = none := by
    rw [List.map_map]
    refine sm_none fun x hx => ?_
    obtain ⟨a, ha, rfl⟩ := List.mem_map.1 hx
    simp only [Function.comp, fil_t1]
    rw [if_neg (fun hh => hno ⟨a, ha, hh⟩)]
  have h1' : sm (((elems s).map fun a => some (t1 f s a)).map (fil (gm f s))) = some (gm f s, gn f s, gv f s) := h1
  rw [h2] at h1'
  cases h1'
theorem sm_low (r K : Nat) : ∀ (L : List (Option (Nat × Nat × Nat))), (∀ x ∈ L, ∀ t, x = some t → t.1 = r ∧ K ≤ t.2.2) → ∀ t, sm L = some t → t.1 = r ∧ K ≤ t.2.2
  | [], _, t, h => by cases h
  | x :: L, hx, t, h => by
    have ih := sm_low r K L (fun y hy => hx y (List.mem_cons_of_mem _ hy))
    have h0 := hx x (List.mem_cons_self ..)
    rw [sm_cons] at h
    cases x with
    | none => exact ih t h
    | some u =>
      cases hr : sm L with
      | none => rw [hr] at h; obtain rfl : u = t := Option.some.inj h; exact h0 u rfl
      | some v =>
        rw [hr] at h
        obtain rfl : cm u v = t := Option.some.inj h
        have h1 := h0 u rfl
        have h2 := ih v hr
        unfold cm
        rw [if_neg (by omega), if_neg (by omega)]
        exact ⟨h1.1, show K ≤ min _ _ by omega⟩
theorem elems_up (s : Nat) : (elems s).Pairwise (· < ·) := by
  unfold elems elTo
  exact List.Pairwise.filter _ List.pairwise_lt_range
theorem first_gv (f : Nat → Nat → Bool) {s j a : Nat} (hs : s < 256) (hj : j < (elems s).length) (ha : a = (elems s).getD j 0) (hf : fst? f s a = true) (hno : ∀ i, i < j → fst? f s ((elems s).getD i 0) = false) :
    gv f s = a * 8 ^ (pc s - 1) + gv f (s - 2 ^ a) := by
  have hmem : a ∈ elems s := by rw [ha, List.getD_eq_getElem?_getD, List.getElem?_eq_getElem hj]; exact List.getElem_mem hj
  have hae := Hw.mem_elems.1 hmem
  have hpt := pc_take hs hae.1 hae.2
  have h0 : 0 < pc s := by omega
  obtain ⟨h1, _⟩ := (sm_min _).2 _ (G_t1 f hs h0)
  have h1' : sm (((elems s).map fun a => some (t1 f s a)).map (fil (gm f s))) = some (gm f s, gn f s, gv f s) := h1
  have hdec : elems s = (elems s).take j ++ a :: (elems s).drop (j + 1) := by
    rw [ha, ← Rv.drop_cons 0 hj, List.take_append_drop]
  have hup := elems_up s
  rw [hdec] at hup
  have hrest : ∀ b ∈ (elems s).drop (j + 1), a < b := fun b hb => (List.pairwise_cons.1 (List.pairwise_append.1 hup).2.1).1 b hb
  rw [List.map_map, hdec, List.map_append, sm_append, List.map_cons, sm_cons] at h1'
  have e1 : sm (((elems s).take j).map ((fil (gm f s)) ∘ fun a => some (t1 f s a))) = none := by
    refine sm_none fun x hx => ?_
    obtain ⟨b, hb, rfl⟩ := List.mem_map.1 hx
    obtain ⟨i, hi, he⟩ := List.getElem_of_mem hb
    rw [List.length_take] at hi
    rw [List.getElem_take] at he
    have h3 := hno i (by omega)
    rw [List.getD_eq_getElem?_getD, List.getElem?_eq_getElem (show i < (elems s).length by omega)] at h3
    simp only [Option.getD_some] at h3
    rw [he] at h3
    simp only [Function.comp, fil_t1, h3]
    rfl
  have e2 : ((fil (gm f s)) ∘ fun a => some (t1 f s a)) a = some (t1 f s a) := by
    simp only [Function.comp, fil_t1, hf, if_true]
  rw [e1, e2, none_co] at h1'
  have hfa : (t1 f s a).1 = gm f s := by
    have := hf
    unfold fst? at this
    exact beq_iff_eq.1 this
  have hlow := sm_low (gm f s) ((a + 1) * 8 ^ (pc s - 1)) (((elems s).drop (j + 1)).map ((fil (gm f s)) ∘ fun a => some (t1 f s a))) (fun x hx t ht => by
    obtain ⟨b, hb, rfl⟩ := List.mem_map.1 hx
    simp only [Function.comp] at ht
    unfold fil at ht
    simp only at ht
    split at ht
    · rename_i h4
      obtain rfl := Option.some.inj ht
      refine ⟨h4, ?_⟩
      have h5 := Nat.mul_le_mul_right (8 ^ (pc s - 1)) (show a + 1 ≤ b from hrest b hb)
      show (a + 1) * 8 ^ (pc s - 1) ≤ b * 8 ^ (pc s - 1) + gv f (s - 2 ^ b)
      omega
    · cases ht)
  have hgl := gv_lt f (sub_lt (s := s) (a := a) hs)
  rw [show pc (s - 2 ^ a) = pc s - 1 by omega] at hgl
  have h6 : (a + 1) * 8 ^ (pc s - 1) = a * 8 ^ (pc s - 1) + 8 ^ (pc s - 1) := by rw [Nat.add_mul, Nat.one_mul]
  cases hr : sm (((elems s).drop (j + 1)).map ((fil (gm f s)) ∘ fun a => some (t1 f s a))) with
  | none =>
    rw [hr] at h1'
    have h7 : t1 f s a = (gm f s, gn f s, gv f s) := Option.some.inj h1'
    have h8 : (t1 f s a).2.2 = gv f s := by rw [h7]
    exact h8.symm
  | some v =>
    obtain ⟨h9, h10⟩ := hlow v hr
    rw [hr] at h1'
    have h7 : cm (t1 f s a) v = (gm f s, gn f s, gv f s) := Option.some.inj h1'
    unfold cm at h7
    rw [if_neg (by omega), if_neg (by omega)] at h7
    have h8 : min (t1 f s a).2.2 v.2.2 = gv f s := congrArg (fun t : Nat × Nat × Nat => t.2.2) h7
    have h11 : (t1 f s a).2.2 = a * 8 ^ (pc s - 1) + gv f (s - 2 ^ a) := rfl
    rw [h11] at h8
    omega
theorem dc_first {k a v : Nat} (ha : a < 8) (hv : v < 8 ^ k) : dc (k + 1) (a * 8 ^ k + v) = a :: dc k v := by
  have h := dc_vl (k + 1) (a :: dc k v) (by simp [dc_len]) (fun x hx => by
    rcases List.mem_cons.1 hx with rfl | hx
    · exact ha
    · exact dc_lt8 k v x hx)
  rw [vl_cons, dc_len, vl_dc k v hv] at h
  exact h
end Rv
end Go.Proofs.Yteegbkbphfmooaa
