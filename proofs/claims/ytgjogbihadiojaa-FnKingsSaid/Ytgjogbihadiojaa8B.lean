/-
  A valid tour has no triangle exactly if 'CountTriangles' is 0 there (mathematics). Condition: the tour is valid.
-/
import Derived.Test.Ytgjogbihadiojaa8A
import Derived.Test.Ytgjogbihadiojaa3C
import Derived.Test.YtgjogbihadiojaaE
import Derived.Test.YtgjogbihadiojaaK
import Derived.Test.YtgjogbihadiojaaWc
namespace Go.Proofs.Ytgjogbihadiojaa
open Go.ChangeShapes Go.WideShapes Go.ChangeAt Go.RowKit
set_option linter.unusedVariables false

theorem mem_triL8 {l : List Int} {r : List Int} : r ∈ triL l ↔ ∃ a b c, a < l.length ∧ b < l.length ∧ c < l.length ∧ a < b ∧ a < c ∧ trB l a b c = true ∧ r = t3 a b c := by
  unfold triL triA triB triC
  simp only [List.mem_flatMap, List.mem_range]
  constructor
  · rintro ⟨a, ha, b, hb, hm⟩
    by_cases hab : a < b
    · rw [if_pos hab] at hm
      obtain ⟨c, hc, rfl⟩ := List.mem_map.1 hm
      rw [List.mem_filter, List.mem_range, Bool.and_eq_true, decide_eq_true_iff] at hc
      exact ⟨a, b, c, ha, hb, hc.1, hab, hc.2.1, hc.2.2, rfl⟩
    · rw [if_neg hab] at hm; cases hm
  · rintro ⟨a, b, c, ha, hb, hc, hab, hac, ht, rfl⟩
    refine ⟨a, ha, b, hb, ?_⟩
    rw [if_pos hab]
    exact List.mem_map.2 ⟨c, by rw [List.mem_filter, List.mem_range, Bool.and_eq_true, decide_eq_true_iff]; exact ⟨hc, hac, ht⟩, rfl⟩

theorem Ok.other8 {n : Int} {l : List Int} (h : Ok n l) {a b : Nat} (ha : a < l.length) (hb : b < l.length) (hne : a ≠ b) : bt l a b = !bt l b a := by
  rcases Nat.lt_or_gt_of_ne hne with h1 | h1
  · have := (h.2.2.2 b hb).2.2 a h1
    change bt l b a ≠ bt l a b at this
    revert this
    cases bt l a b <;> cases bt l b a <;> simp
  · have := (h.2.2.2 a ha).2.2 b h1
    change bt l a b ≠ bt l b a at this
    revert this
    cases bt l a b <;> cases bt l b a <;> simp
theorem Ok.self8 {n : Int} {l : List Int} (h : Ok n l) {a : Nat} (ha : a < l.length) : bt l a a = false := (h.2.2.2 a ha).2.1
theorem Ok.va8 {n : Int} {l : List Int} (h : Ok n l) : Tr8.Va (bt l) l.length := ⟨fun i hi => h.self8 hi, fun i j hi hj hne => h.other8 hi hj hne⟩
theorem pc_elems (z : Nat) (h : z < 256) : pc z = (elems z).length := by
  have : ∀ z : Fin 256, pc z.val = (elems z.val).length := by decide +kernel
  exact this ⟨z, h⟩
/-- A score is the number of those whom the player beats. -/
theorem score_sc {n : Int} {l : List Int} (h : Ok n l) (x : Nat) (hx : x < l.length) : (scoresL l).getD x 0 = Tr8.sc (bt l x) l.length := by
  have h8 : l.length ≤ 8 := by have := h.2.1; have := h.2.2.1; omega
  obtain ⟨z, hz, hz2, hz8⟩ := h.nat hx
  have h1 := scoresL_at l x z hx hz
  rw [List.getD_eq_getElem?_getD, h1]
  show pc z = _
  rw [pc_elems z hz8, ← Tr8.len_sc]
  have hm : ∀ k, z.testBit k = bt l x k := fun k => by unfold bt; rw [hz, bi_nat]
  unfold elems elTo
  have e1 : (8 : Nat) = l.length + (8 - l.length) := by omega
  rw [e1, List.range_add, List.filter_append]
  rw [show (List.map (l.length + ·) (List.range (8 - l.length))).filter (fun i => z.testBit i) = [] from by
    rw [List.filter_eq_nil_iff]
    intro b hb
    obtain ⟨c, _, rfl⟩ := List.mem_map.1 hb
    rw [Nat.testBit_lt_two_pow (Nat.lt_of_lt_of_le hz2 (Nat.pow_le_pow_right (by decide) (by omega)))]
    simp]
  rw [List.append_nil]
  congr 1
  exact List.filter_congr fun k _ => hm k
theorem triR_T {n : Int} {l : List Int} (h : Ok n l) : triR n l = (Tr8.Tn (bt l) l.length : Int) := by
  have h8 : l.length ≤ 8 := by have := h.2.1; have := h.2.2.1; omega
  have ht := Tr8.total h.va8
  unfold triR
  rw [okB_iff.2 h]
  simp only [if_true]
  unfold triK c3
  rw [← Tr8.su_pr l.length (by omega), ← ht]
  have e : (((scoresL l).take (scoresL l).length).map Tmpm.prN).sum = Tr8.Sn (bt l) l.length := by
    rw [List.take_length]
    have h1 := Tr8.sum_su ((scoresL l).map Tmpm.prN) ((scoresL l).map Tmpm.prN).length (Nat.le_refl _)
    rw [List.take_length] at h1
    rw [h1, List.length_map, scoresL_len]
    unfold Tr8.Sn
    apply Tr8.su_congr
    intro x hx
    rw [← score_sc h x hx]
    have hxl : x < (scoresL l).length := by rw [scoresL_len]; exact hx
    rw [List.getD_eq_getElem?_getD, List.getElem?_map, List.getD_eq_getElem?_getD, List.getElem?_eq_getElem hxl]
    show Tmpm.prN _ = Tr8.pr _
    rw [Tr8.pr_prN]
    · rfl
    · have := scoresL_le l _ (List.getElem_mem hxl)
      simpa using (by omega : (scoresL l)[x] < 10)
  rw [e]
  omega
theorem tri_none {n : Int} {l : List Int} (h : Ok n l) : triL l = [] ↔ triR n l = 0 := by
  rw [triR_T h]
  have hz : ((Tr8.Tn (bt l) l.length : Nat) : Int) = 0 ↔ Tr8.Tn (bt l) l.length = 0 := by omega
  rw [hz, Tr8.Tn_zero]
  constructor
  · intro he i j k hij hjk hk
    rw [Tr8.cy_zero]
    constructor
    · cases hc : (bt l i j && (bt l j k && bt l k i))
      · rfl
      · have : t3 i j k ∈ triL l := mem_triL8.2 ⟨i, j, k, by omega, by omega, hk, hij, by omega, by
          unfold trB; rw [hc]; simp; omega, rfl⟩
        rw [he] at this; cases this
    · cases hc : (bt l i k && (bt l k j && bt l j i))
      · rfl
      · have : t3 i k j ∈ triL l := mem_triL8.2 ⟨i, k, j, by omega, by omega, by omega, by omega, by omega, by
          unfold trB; rw [hc]; simp; omega, rfl⟩
        rw [he] at this; cases this
  · intro hc
    rw [List.eq_nil_iff_forall_not_mem]
    intro r hr
    obtain ⟨a, b, c, ha, hb, hcl, hab, hac, ht, _⟩ := mem_triL8.1 hr
    unfold trB at ht
    simp only [Bool.and_eq_true, Bool.not_eq_true', beq_eq_false_iff_ne] at ht
    obtain ⟨hne, h1, h2, h3⟩ := ht
    rcases Nat.lt_or_gt_of_ne hne with hlt | hgt
    · have := (Tr8.cy_zero.1 (hc a c b hac hlt hb)).2
      rw [h1, h2, h3] at this; cases this
    · have := (Tr8.cy_zero.1 (hc a b c hab hgt hcl)).1
      rw [h1, h2, h3] at this; cases this
end Go.Proofs.Ytgjogbihadiojaa
