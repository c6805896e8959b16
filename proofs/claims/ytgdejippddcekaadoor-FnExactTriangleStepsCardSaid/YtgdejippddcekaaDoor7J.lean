/-
  A further tour in what the model's search holds. Conditions: those named.
-/
import Derived.Test.YtgdejippddcekaaDoor7H
namespace Go.Proofs.YtgdejippddcekaaDoor
open Go.ChangeShapes Go.WideShapes Go.ChangeAt Go.RowKit
set_option linter.unusedVariables false

theorem own_type2 {W : World} {B1 B2 n1 n2 c1 c2 s1 s2 : Nat} {e1 e2 : TypeId} {a1 a2 : Option Addr} {x1 x2 : List Value} (h1 : W.ownsRow B1 e1 s1 (.slice a1 n1 c1) n1 x1) (h2 : W.ownsRow B2 e2 s2 (.slice a2 n2 c2) n2 x2) (he : e1 ≠ e2) {k : Nat} (hk1 : blk a1 = some k) (hk2 : blk a2 = some k) : False := by
  rcases h1.2 with ⟨hn, _⟩ | ⟨g, cap, cur, e, hb, hg, _⟩
  · simp only [Value.slice.injEq] at hn; rw [hn.1] at hk1; cases hk1
  rcases h2.2 with ⟨hn, _⟩ | ⟨g2, cap2, cur2, e', hb2, hg2, _⟩
  · simp only [Value.slice.injEq] at hn; rw [hn.1] at hk2; cases hk2
  simp only [Value.slice.injEq] at e e'
  rw [e.1] at hk1
  rw [e'.1] at hk2
  simp only [blk, Option.map_some, Option.some.injEq] at hk1 hk2
  rw [hk1] at hg
  rw [hk2, hg] at hg2
  simp only [Option.some.injEq, Obj.cells.injEq] at hg2
  exact he hg2.2.1
theorem getD_of {α : Type} {L : List α} {i : Nat} {p : α} {d : α} (h : L[i]? = some p) : L.getD i d = p := by rw [List.getD_eq_getElem?_getD, h]; rfl
/-- A further tour. -/
theorem Sd.push {w W W3 : World} {B m go co : Nat} {al : Option Addr} {cl : Nat} {D : Bf.Fd (List Int)} {Q : List (Option Addr × Nat)} {xs : List Int} (h : Sd w W B m go co al cl D Q xs) (h5 : m ≤ 5) {x : List Int} (hx : Ok (m : Int) x) (hn : x ∉ D.map Prod.fst) (e : Nat)
    {B2 gx cx g3 c3 : Nat} {tmp : Obj} (hrow : W.ownsRow B2 3 1 (.slice (some ⟨gx, 0, none⟩) m cx) m (x.map iv)) (hB2 : B ≤ B2) (hgx : gx ≠ go)
    (hg : ((W.setCell ⟨go, numL x, none⟩ (iv (e : Int))).alloc tmp).grownBy W3 (blk al))
    (ho : W3.ownsRow B 27 2 (.slice (some ⟨g3, 0, none⟩) (D.length + 1) c3) (D.length + 1) (cellsQ m Q ++ [.int .i64 (m : Int), .slice (some ⟨gx, 0, none⟩) m cx])) :
    Sd w W3 B m go co (some ⟨g3, 0, none⟩) c3 (D ++ [(x, e)]) (Q ++ [(some ⟨gx, 0, none⟩, cx)]) (xs.set (numL x) (e : Int)) := by
  have hgo := h.out.lt go rfl
  have g1 : W.grownBy (W.setCell ⟨go, numL x, none⟩ (iv (e : Int))) (some go) := (h.out.stored (numL x) (iv (e : Int))).2
  have o1 := (h.out.stored (numL x) (iv (e : Int))).1
  rw [← List.map_set] at o1
  have g2 : (W.setCell ⟨go, numL x, none⟩ (iv (e : Int))).grownBy ((W.setCell ⟨go, numL x, none⟩ (iv (e : Int))).alloc tmp) none := World.grownBy_alloc _ tmp none
  have l1 : (W.setCell ⟨go, numL x, none⟩ (iv (e : Int))).ownsRow B 27 2 (.slice al D.length cl) D.length (cellsQ m Q) := by
    refine h.lst.kept g1 ?_
    rw [blk_own]
    cases hal : blk al with
    | none => exact .inl rfl
    | some k => exact .inr fun e2 => own_type2 h.lst h.out (by decide) hal (by rw [e2]; rfl)
  have l2 := l1.alloc tmp
  have o2 := o1.alloc tmp
  have hne : ∀ {n2 c2 : Nat} {a2 : Option Addr} {ys : List Value}, ((W.setCell ⟨go, numL x, none⟩ (iv (e : Int))).alloc tmp).ownsRow B 3 1 (.slice a2 n2 c2) n2 ys → ∀ k, blk a2 = some k → blk al ≠ some k := fun h2 k hk hal => own_type2 l2 h2 (by decide) hal hk
  have hm := hx.m.2.2
  have hgk : ∀ k, blk (some ⟨gx, 0, none⟩) = some k → some go ≠ some k := fun k hk e2 => hgx (by simp [blk] at hk e2; omega)
  have hr1 : ((W.setCell ⟨go, numL x, none⟩ (iv (e : Int))).alloc tmp).ownsRow B 3 1 (.slice (some ⟨gx, 0, none⟩) m cx) m (x.map iv) :=
    (own_grE (own_grE hrow g1 hgk) g2 (fun k hk e2 => by cases e2)).mono hB2
  have hq := h.ql
  refine ⟨?_, ?_, h.lB, own_grE o2 hg (fun k hk e2 => hne o2 k hk e2), ?_, by simp [hq], ?_, h.dis.put h5 hx hn e⟩
  · have b1 := h.hb.setCell (p := ⟨go, numL x, none⟩) (show w.heap.size ≤ go by have := h.lB; omega) (iv (e : Int))
    have b2 := b1.alloc b1.size tmp
    exact b2.grown hg b2.size (fun k e2 => by have := (l2.lt k (by rw [blk_own]; exact e2)).1; have := h.lB; omega)
  · have := hg.size; have := h.sB; simp at *; omega
  · have e1 : (D ++ [(x, e)]).length = D.length + 1 := by simp
    rw [e1, cellsQ_snoc]; exact ho
  · intro i p q hp hq2
    rcases Nat.lt_or_ge i D.length with hi | hi
    · rw [List.getElem?_append_left hi] at hp
      rw [List.getElem?_append_left (by omega)] at hq2
      have r0 := h.rows i p q hp hq2
      have r1 := r0.grown g1 (fun k c e2 _ hk => e2)
      have r2 := r1.grown g2 (fun k c e2 => by cases e2)
      exact r2.grown hg (fun k c e2 h2 hk => absurd e2 (hne h2 k hk))
    · have hi2 : i = D.length := by
        have := (List.getElem?_eq_some_iff.1 hp).1
        simp at this; omega
      subst hi2
      rw [List.getElem?_append_right (Nat.le_refl _)] at hp
      rw [List.getElem?_append_right (by omega), hq] at hq2
      simp at hp hq2
      subst hp hq2
      refine .inr ⟨cx, ?_, hgk⟩
      simp only [hm]
      exact own_grE hr1 hg (fun k hk e2 => hne hr1 k hk e2)
theorem Sd.lst_set {w W : World} {B m go co : Nat} {al : Option Addr} {cl : Nat} {D : Bf.Fd (List Int)} {Q : List (Option Addr × Nat)} {xs : List Int} (h : Sd w W B m go co al cl D Q xs) (k : Nat) (v : Value) : (W.setCell ⟨go, k, none⟩ v).ownsRow B 27 2 (.slice al D.length cl) D.length (cellsQ m Q) := by
  refine h.lst.kept (h.out.stored k v).2 ?_
  rw [blk_own]
  cases hal : blk al with
  | none => exact .inl rfl
  | some k => exact .inr fun e2 => own_type2 h.lst h.out (by decide) hal (by rw [e2]; rfl)
theorem cell_two_new (W : World) (v0 v1 : Value) (t : TypeId) : ∀ j u, [v0, v1][j]? = some u → (W.alloc (.cells #[v0, v1] t)).cell? ((⟨W.heap.size, 0, none⟩ : Addr).add j) = some u := by
  intro j u hu
  have h := cell_box2 W v0 v1 t
  have ha : (⟨W.heap.size, 0, none⟩ : Addr).add j = ⟨W.heap.size, j, none⟩ := by unfold Addr.add; split <;> simp_all
  rw [ha]
  match j, hu with
  | 0, hu => simp at hu; rw [← hu]; exact h.1
  | 1, hu => simp at hu; rw [← hu]; exact h.2
theorem run_le {α : Type} [DecidableEq α] (d : Nat) (L : List α) (D : Bf.Fd α) (j : Nat) : (Bf.run d (L.take j) D).length ≤ (Bf.run d L D).length := by
  have e : Bf.run d L D = Bf.run d (L.drop j) (Bf.run d (L.take j) D) := by
    unfold Bf.run
    rw [← List.foldl_append, List.take_append_drop]
  obtain ⟨A, hA, _⟩ := Bf.run_split d (L.drop j) (Bf.run d (L.take j) D)
  rw [e, hA, List.length_append]; omega
theorem up_next {u : List Int} {k : Nat} {p : List Int × Nat} (hp : (up u k)[k]? = some p) : up u (k + 1) = Bf.run p.2 (nbL p.1) (up u k) := by
  show Bf.row nbL (up u k) k = _
  unfold Bf.row
  rw [hp]
theorem cut_len {m : Nat} (h5 : m ≤ 5) {u : List Int} (hu : Ok (m : Int) u) {k : Nat} {p : List Int × Nat} (hp : (up u k)[k]? = some p) (hn : ((up u k).map Prod.fst).Nodup) {j : Nat} {D : Bf.Fd (List Int)} (hD : D = Bf.run p.2 ((nbL p.1).take j) (up u k)) : D.length ≤ 1024 := by
  have h1 := run_le p.2 (nbL p.1) (up u k) j
  have h2 := up_len h5 hu (k + 1) (by rw [up_next hp]; exact Bf.run_nodup hn)
  rw [up_next hp] at h2
  rw [hD]
  exact Nat.le_trans h1 h2
theorem tri_at {l r : List Int} (h : r ∈ triL l) : ∃ x y z : Nat, r = [(x : Int), (y : Int), (z : Int)] ∧ x < l.length ∧ y < l.length ∧ z < l.length ∧ x < y ∧ x < z ∧ y ≠ z := by
  obtain ⟨a, b, c, ha, hb, hc, hab, hac, ht, rfl⟩ := mem_triL.1 h
  unfold trB at ht
  simp only [Bool.and_eq_true, Bool.not_eq_true', beq_eq_false_iff_ne] at ht
  exact ⟨a, b, c, rfl, ha, hb, hc, hab, hac, fun e => ht.1 e.symm⟩
/-- A distance is at most the place. -/
theorem up_dist (u : List Int) (k : Nat) (h : ∀ j, j < k → j < (up u j).length) : ∀ (i : Nat) (p : List Int × Nat), (up u k)[i]? = some p → p.2 ≤ i := by
  induction k with
  | zero =>
    intro i p hp
    have e : up u 0 = [(u, 0)] := rfl
    rw [e] at hp
    have := (List.getElem?_eq_some_iff.1 hp).1
    simp at this
    subst this
    simp at hp
    rw [← hp]; exact Nat.le_refl _
  | succ k ih =>
    have ih2 := ih (fun j hj => h j (by omega))
    have hk := h k (by omega)
    intro i p hp
    obtain ⟨A, hA, hA2⟩ := Bf.run_split (up u k)[k].2 (nbL (up u k)[k].1) (up u k)
    have e : up u (k + 1) = up u k ++ A := by
      show Bf.row nbL (up u k) k = _
      unfold Bf.row
      rw [List.getElem?_eq_getElem hk]; exact hA
    rw [e] at hp
    rcases Nat.lt_or_ge i (up u k).length with hi | hi
    · rw [List.getElem?_append_left hi] at hp
      exact ih2 i p hp
    · rw [List.getElem?_append_right hi] at hp
      have := (hA2 p (List.mem_of_getElem? hp)).1
      have h3 := ih2 k _ (List.getElem?_eq_getElem hk)
      omega
end Go.Proofs.YtgdejippddcekaaDoor
