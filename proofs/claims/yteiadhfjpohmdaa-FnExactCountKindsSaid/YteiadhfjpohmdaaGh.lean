/-
  Appends to rows of integers of the call's own, of any number of integers; the parts of a slice. No conditions but the bounds that Go gives a slice.
-/
import Derived.Test.YteiadhfjpohmdaaI
import Derived.Test.YteiadhfjpohmdaaGc
namespace Go.Proofs.Yteiadhfjpohmdaa
open Go.ChangeShapes Go.WideShapes Go.ChangeAt Go.RowKit Go.Sort
set_option linter.unusedVariables false

theorem iv_cells {w : World} {ad : Addr} {M : List Int} {m : Nat} (hM : M.length = m) (h : ∀ j, j < m → w.cell? (ad.add j) = some (iv (M.getD j 0))) : ∀ j u, (M.map iv)[j]? = some u → w.cell? (ad.add j) = some u := by
  intro j u hj
  have hjm : j < M.length := by have := (List.getElem?_eq_some_iff.1 hj).1; simpa using this
  rw [h j (by omega), ← hj, List.getElem?_map, List.getD_eq_getElem?_getD, List.getElem?_eq_getElem hjm]; rfl
theorem iv_one (M : List Int) : ∀ u ∈ M.map iv, u.oneCell' = true := by
  intro u hu; obtain ⟨x, _, rfl⟩ := List.mem_map.1 hu; rfl
theorem not_nil_slice {w : World} {B n : Nat} {e : TypeId} {v : Value} {xs : List Value} (h : w.ownsRow B e 1 v n xs) (hv : v ≠ .slice none 0 0) : ∃ g c, v = .slice (some ⟨g, 0, none⟩) n c := by
  rcases h.2 with ⟨rfl, _⟩ | ⟨g, c, _, rfl, _⟩
  · exact absurd rfl hv
  · exact ⟨g, c, rfl⟩

theorem list_append_int (w : World) {ops : Array Oper} {rest : List Oper} {o : Oper} {a : Act} {Q : Exit → Act → World → Prop} (hgd : o.guard = none) (s x : Operand)
    (ho : o.op = .call { callee := .builtin .append, args := #[s, x], argTypes := #[22, 22] })
    (B g n c0 : Nat) (L : List Int) (hs : a.eval s = .slice (some ⟨g, 0, none⟩) n c0) (hown : w.ownsRow B 3 1 (.slice (some ⟨g, 0, none⟩) n c0) n (L.map iv))
    (ad : Addr) (m c : Nat) (M : List Int) (hx : a.eval x = .slice (some ad) m c) (hM : M.length = m) (hcell : ∀ j, j < m → w.cell? (ad.add j) = some (iv (M.getD j 0)))
    (h64 : n + m ≤ 1000) (hB : B ≤ w.heap.size) (N : Nat) (hN : n + m = N)
    (h : ∀ g' c' w', w'.ownsRow B 3 1 (.slice (some ⟨g', 0, none⟩) N c') N ((L ++ M).map iv) → w.grownBy w' (some g) → Below B w w' → wpList Try.prog ops Q rest (a.put o.dst (.slice (some ⟨g', 0, none⟩) N c')) w') :
    wpList Try.prog ops Q (o :: rest) a w := by
  subst hN
  obtain ⟨i0, hi, hz0, hz1, hz2⟩ := info_parts infoInt
  have hgB := hown.lt g rfl
  refine wpList_append_own w hgd s x _ ho B 3 i0 (.int .i64 0) 1 8 Try.underlying22 hi hz0 hz1 hz2 rfl (by decide) _ n (L.map iv) hs hown ad m c (M.map iv) hx (by simp [hM]) (iv_cells hM hcell) (iv_one M) (by unfold maxLen; omega) (by omega) hB ?_
  intro v' w' hown' hg hnil
  obtain ⟨g', c', rfl⟩ := not_nil_slice hown' (fun e => by have := hnil.1 e; cases this.1)
  rw [← List.map_append] at hown'
  exact h g' c' w' hown' hg ((Below.refl B w).grown hg hB (fun k hk => by cases hk; exact hgB.1))

theorem step_append_int (w : World) {ops : Array Oper} {o : Oper} {a : Act} {K : Act → World → Prop} {Q : Exit → Act → World → Prop} {E : Prop} (hw : Region.wanted o (yielded ops a.tmps) = true) (s x : Operand)
    (ho : o.op = .call { callee := .builtin .append, args := #[s, x], argTypes := #[22, 22] })
    (B g n c0 : Nat) (L : List Int) (hs : a.eval s = .slice (some ⟨g, 0, none⟩) n c0) (hown : w.ownsRow B 3 1 (.slice (some ⟨g, 0, none⟩) n c0) n (L.map iv))
    (ad : Addr) (m c : Nat) (M : List Int) (hx : a.eval x = .slice (some ad) m c) (hM : M.length = m) (hcell : ∀ j, j < m → w.cell? (ad.add j) = some (iv (M.getD j 0)))
    (h64 : n + m ≤ 1000) (hB : B ≤ w.heap.size) (N : Nat) (hN : n + m = N)
    (h : ∀ g' c' w', w'.ownsRow B 3 1 (.slice (some ⟨g', 0, none⟩) N c') N ((L ++ M).map iv) → w.grownBy w' (some g) → Below B w w' → K (a.put o.dst (.slice (some ⟨g', 0, none⟩) N c')) w') :
    if Region.wanted o (yielded ops a.tmps) = true then Oper.wp Try.prog o a w K Q else E := by
  rw [if_pos hw]
  subst hN
  obtain ⟨i0, hi, hz0, hz1, hz2⟩ := info_parts infoInt
  have hgB := hown.lt g rfl
  refine wp_append_own w s x _ ho B 3 i0 (.int .i64 0) 1 8 Try.underlying22 hi hz0 hz1 hz2 rfl (by decide) _ n (L.map iv) hs hown ad m c (M.map iv) hx (by simp [hM]) (iv_cells hM hcell) (iv_one M) (by unfold maxLen; omega) (by omega) hB ?_
  intro v' w' hown' hg hnil
  obtain ⟨g', c', rfl⟩ := not_nil_slice hown' (fun e => by have := hnil.1 e; cases this.1)
  rw [← List.map_append] at hown'
  exact h g' c' w' hown' hg ((Below.refl B w).grown hg hB (fun k hk => by cases hk; exact hgB.1))

/-- The two parts of a slice. -/
theorem slice_to (g off m c k : Nat) (hk : k ≤ m) (hc : m ≤ c) (hc2 : c ≤ maxLen) : ∀ W : World, (Instr.sliceAt 22 (.slice (some ⟨g, off, none⟩) m c) none (some (.int .i64 (k : Int))) none).run Try.prog W = .ok (.slice (some ⟨g, off, none⟩) k c) W := by
  unfold maxLen at hc2
  have h0 : (0 : Int) ≤ (k : Int) := by omega
  have hmi : (k : Int) ≤ (c : Int) := by omega
  have hkc : k ≤ c := by omega
  intro W
  simp [go_sem, Try.underlying22, Try.sizeOf3, hkc]
theorem slice_rest (g off m c k : Nat) (hk : k ≤ m) (hc : m ≤ c) (hc2 : c ≤ maxLen) : ∃ ad : Addr, (k < m → ad = ⟨g, off + k, none⟩) ∧ ∀ W : World, (Instr.sliceAt 22 (.slice (some ⟨g, off, none⟩) m c) (some (.int .i64 (k : Int))) none none).run Try.prog W = .ok (.slice (some ad) (m - k) (c - k)) W := by
  unfold maxLen at hc2
  have hmi : (k : Int) ≤ (m : Int) := by omega
  by_cases h : c = k
  · subst h
    obtain rfl : m = c := by omega
    refine ⟨⟨g, off, none⟩, fun h => absurd h (by omega), fun W => ?_⟩
    simp [go_sem, Try.underlying22, Try.sizeOf3]
  · refine ⟨⟨g, off + k, none⟩, fun _ => rfl, fun W => ?_⟩
    simp [go_sem, Try.underlying22, Try.sizeOf3, hmi, h]
theorem slice_rest1 (g off m c k : Nat) (hk : k + 1 ≤ m) (hc : m ≤ c) (hc2 : c ≤ maxLen) : ∃ ad : Addr, (k + 1 < m → ad = ⟨g, off + (k + 1), none⟩) ∧ ∀ W : World, (Instr.sliceAt 22 (.slice (some ⟨g, off, none⟩) m c) (some (.int .i64 ((k : Int) + 1))) none none).run Try.prog W = .ok (.slice (some ad) (m - (k + 1)) (c - (k + 1))) W := by
  obtain ⟨ad, h1, h2⟩ := slice_rest g off m c (k + 1) hk hc hc2
  exact ⟨ad, h1, fun W => h2 W⟩
theorem own_cap {w : World} {B g n c : Nat} {e : TypeId} {xs : List Value} (h : w.ownsRow B e 1 (.slice (some ⟨g, 0, none⟩) n c) n xs) : n ≤ c ∧ c ≤ maxLen := by
  rcases h.2 with ⟨hn, _⟩ | ⟨g2, c2, cur, he, _, _, h1, h2, _⟩
  · cases hn
  · simp only [Value.slice.injEq, true_and] at he
    obtain ⟨_, rfl⟩ := he
    exact ⟨h1, h2⟩
theorem takeD (L : List Int) (k j : Nat) (h : j < k) : (L.take k).getD j 0 = L.getD j 0 := by
  rw [List.getD_eq_getElem?_getD, List.getD_eq_getElem?_getD, List.getElem?_take, if_pos h]
theorem dropD (L : List Int) (k j : Nat) : (L.drop k).getD j 0 = L.getD (k + j) 0 := by
  rw [List.getD_eq_getElem?_getD, List.getD_eq_getElem?_getD, List.getElem?_drop]
theorem cell_own {w : World} {B g n c : Nat} {L : List Int} (h : w.ownsRow B 3 1 (.slice (some ⟨g, 0, none⟩) n c) n (L.map iv)) {j : Nat} (hj : j < n) : w.cell? ⟨g, j, none⟩ = some (iv (L.getD j 0)) := by
  have hl : L.length = n := by have := h.1; simpa using this
  rw [h.cellAt j (by omega), List.getElem?_map, List.getD_eq_getElem?_getD, List.getElem?_eq_getElem (show j < L.length by omega)]; rfl

end Go.Proofs.Yteiadhfjpohmdaa
