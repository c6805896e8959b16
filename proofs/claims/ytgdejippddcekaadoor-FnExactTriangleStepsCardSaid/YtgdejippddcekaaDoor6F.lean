/-
  'slices.Collect' over the triangles; 'TrianglesOf' of the program. No conditions but the bounds that Go gives a slice.
-/
import Derived.Test.YtgdejippddcekaaDoor6D
namespace Go.Proofs.YtgdejippddcekaaDoor
open Go.ChangeShapes Go.WideShapes Go.ChangeAt Go.RowKit Go.Shelf
attribute [local go_sem] Oper.semAt_some
set_option linter.unusedVariables false

theorem own_turn {A C : World} {row : Option Nat} {B n : Nat} {e : TypeId} {v : Value} {xs : List Value} (h : A.ownsRow B e 1 v n xs) (hg : A.grownBy C row) (hr : ∀ r, row = some r → ∃ o : Obj, A.heap[r]? = some o ∧ o.isCells = false) : C.ownsRow B e 1 v n xs := by
  rcases h.2 with ⟨hn, h0⟩ | ⟨g, cap, cur, he, hB, hgc, q⟩
  · exact ⟨h.1, .inl ⟨hn, h0⟩⟩
  · exact ⟨h.1, .inr ⟨g, cap, cur, he, hB, (grownBy_keeps_cells hg hr hgc rfl).trans hgc, q⟩⟩
theorem OwnSS.turn {A C : World} {row : Option Nat} {B : Nat} {a : Option Addr} {c : Nat} {gs : List (Nat × Nat)} {Ls : List (List Int)} (h : OwnSS A B a c gs Ls) (hg : A.grownBy C row) (hr : ∀ r, row = some r → ∃ o : Obj, A.heap[r]? = some o ∧ o.isCells = false) : OwnSS C B a c gs Ls :=
  ⟨h.len, own_turn h.out hg hr, fun i hi => own_turn (h.inn i hi) hg hr, h.nd⟩
/-- A block of a row bears one type. -/
theorem own_type {W : World} {B1 B2 n1 n2 c1 c2 : Nat} {e1 e2 : TypeId} {a1 a2 : Option Addr} {x1 x2 : List Value} (h1 : W.ownsRow B1 e1 1 (.slice a1 n1 c1) n1 x1) (h2 : W.ownsRow B2 e2 1 (.slice a2 n2 c2) n2 x2) (he : e1 ≠ e2) {k : Nat} (hk1 : blk a1 = some k) (hk2 : blk a2 = some k) : False := by
  rcases h1.2 with ⟨hn, _⟩ | ⟨g, cap, cur, e, hb, hg, _⟩
  · simp only [Value.slice.injEq] at hn; rw [hn.1] at hk1; cases hk1
  rcases h2.2 with ⟨hn, _⟩ | ⟨g2, cap2, cur2, e', hb2, hg2, _⟩
  · simp only [Value.slice.injEq] at hn; rw [hn.1] at hk2; cases hk2
  simp only [Value.slice.injEq] at e e'
  rw [e.1] at hk1
  rw [e'.1] at hk2
  simp only [blk, Option.map_some, Option.some.injEq] at hk1 hk2
  rw [hk1] at hg
  rw [hk2, hg] at hg2
  simp only [Option.some.injEq, Obj.cells.injEq] at hg2
  exact he hg2.2.1
/-- A further row, whose block is none of those before. -/
theorem OwnSS.pushR {W W1 W2 : World} {B : Nat} {a : Option Addr} {c : Nat} {gs : List (Nat × Nat)} {Ls : List (List Int)} {g gn cn c2 : Nat} {l : List Int} (h : OwnSS W B a c gs Ls) (hg : W.grownBy W1 none)
    (hn : W1.ownsRow B 3 1 (.slice (some ⟨gn, 0, none⟩) l.length cn) l.length (l.map iv)) (hnew : ∀ i, i < Ls.length → (gs.getD i (0, 0)).1 ≠ gn)
    (hg2 : W1.grownBy W2 (blk a)) (ho : W2.ownsRow B 22 1 (.slice (some ⟨g, 0, none⟩) (Ls.length + 1) c2) (Ls.length + 1) (svs gs Ls ++ [sv (gn, cn) l])) :
    OwnSS W2 B (some ⟨g, 0, none⟩) c2 (gs ++ [(gn, cn)]) (Ls ++ [l]) := by
  have h1 := h.aside hg (fun k e => by cases e)
  have hlen : (Ls ++ [l]).length = Ls.length + 1 := by simp
  have ga : ∀ i, i < Ls.length → (gs ++ [(gn, cn)]).getD i (0, 0) = gs.getD i (0, 0) := fun i hi => by
    rw [List.getD_eq_getElem?_getD, List.getD_eq_getElem?_getD, List.getElem?_append_left (by rw [h.len]; exact hi)]
  have gb : (gs ++ [(gn, cn)]).getD Ls.length (0, 0) = (gn, cn) := by
    rw [List.getD_eq_getElem?_getD, ← h.len, List.getElem?_append_right (Nat.le_refl _)]; simp
  have la : ∀ i, i < Ls.length → (Ls ++ [l]).getD i [] = Ls.getD i [] := fun i hi => by
    rw [List.getD_eq_getElem?_getD, List.getD_eq_getElem?_getD, List.getElem?_append_left hi]
  have lb : (Ls ++ [l]).getD Ls.length [] = l := by
    rw [List.getD_eq_getElem?_getD, List.getElem?_append_right (Nat.le_refl _)]; simp
  refine ⟨by simp [h.len], by rw [hlen, svs_snoc h.len]; exact ho, fun i hi => ?_, fun i j hi hj hij => ?_⟩
  · rw [hlen] at hi
    rcases Nat.lt_or_ge i Ls.length with hil | hil
    · rw [ga i hil, la i hil]
      exact own_grE (h1.inn i hil) hg2 (fun k hk e => h1.apart i hil (by rw [e, ← hk]; rfl))
    · obtain rfl : i = Ls.length := by omega
      rw [gb, lb]
      exact own_grE hn hg2 (fun k hk e => own_type h1.out hn (by decide) e hk)
  · rw [hlen] at hi hj
    rcases Nat.lt_or_ge i Ls.length with hil | hil
    · rcases Nat.lt_or_ge j Ls.length with hjl | hjl
      · rw [ga i hil, ga j hjl]; exact h.nd i j hil hjl hij
      · obtain rfl : j = Ls.length := by omega
        rw [ga i hil, gb]
        exact hnew i hil
    · obtain rfl : i = Ls.length := by omega
      rw [gb, ga j (by omega)]
      exact (hnew j (by omega)).symm

/-- What has been collected: the box, the rows. -/
def gsT (pre : List Tr) : List (Nat × Nat) := pre.map fun y => (y.2, 3)
structure Col (W : World) (B bx : Nat) (a : Option Addr) (c : Nat) (pre : List Tr) : Prop where
  bx : Boxed W bx 31 (.slice a pre.length c)
  ss : OwnSS W B a c (gsT pre) (pre.map Prod.fst)
theorem Col.turn {A C : World} {row : Option Nat} {B bx : Nat} {a : Option Addr} {c : Nat} {pre : List Tr} (h : Col A B bx a c pre) (hg : A.grownBy C row) (hr : ∀ r, row = some r → ∃ o : Obj, A.heap[r]? = some o ∧ o.isCells = false) : Col C B bx a c pre :=
  ⟨Boxed.turn h.bx hg hr, h.ss.turn hg hr⟩
theorem svT (pre : List Tr) (h : ∀ y ∈ pre, y.1.length = 3) : svs (gsT pre) (pre.map Prod.fst) = pre.map fun y => .slice (some ⟨y.2, 0, none⟩) 3 3 := by
  induction pre with
  | nil => rfl
  | cons y pre ih =>
    have := ih (fun z hz => h z (by simp [hz]))
    have h3 := h y (by simp)
    unfold svs gsT at this ⊢
    simp only [List.map_cons, List.zipWith_cons_cons, this]
    unfold sv
    rw [h3]
theorem row_own {W : World} {B g : Nat} {r : List Int} (hr : W.heap[g]? = some (.cells (r.map iv).toArray 3 (0, 0))) (hB : B ≤ g) (h3 : r.length = 3) : W.ownsRow B 3 1 (.slice (some ⟨g, 0, none⟩) r.length 3) r.length (r.map iv) :=
  ⟨by simp, .inr ⟨g, 3, _, rfl, hB, hr, by omega, by unfold maxLen; omega, by simp [h3], List.take_of_length_le (by simp)⟩⟩
/-- What an append of a further triangle leaves. -/
theorem Col.push {W w1 : World} {B bx : Nat} {a : Option Addr} {c : Nat} {pre : List Tr} {x : Tr} {tmp : Obj} {g c2 : Nat} {R : Nat → Obj → Prop} (h : Col W B bx a c pre) (hB : B ≤ W.heap.size) (hbx : B ≤ bx)
    (hrow : W.heap[x.2]? = some (.cells (x.1.map iv).toArray 3 (0, 0))) (hx3 : x.1.length = 3) (hlow : B ≤ x.2) (haf : ∀ y ∈ pre, y.2 < x.2)
    (hR : ∀ g cur t, B ≤ g → (t = 22 ∨ t = 31) → ¬ R g (.cells cur t (0, 0)))
    (ho : w1.ownsRow B 22 1 (.slice (some ⟨g, 0, none⟩) (pre.length + 1) c2) (pre.length + 1) (svs (gsT pre) (pre.map Prod.fst) ++ [.slice (some ⟨x.2, 0, none⟩) 3 3]))
    (hg : (W.alloc tmp).grownBy w1 (blk a)) :
    Col (w1.setCell ⟨bx, 0, none⟩ (.slice (some ⟨g, 0, none⟩) (pre.length + 1) c2)) B bx (some ⟨g, 0, none⟩) c2 (pre ++ [x]) ∧ Boxed w1 bx 31 (.slice a pre.length c) ∧
      KeepsOthers W (w1.setCell ⟨bx, 0, none⟩ (.slice (some ⟨g, 0, none⟩) (pre.length + 1) c2)) ∧ Below B W (w1.setCell ⟨bx, 0, none⟩ (.slice (some ⟨g, 0, none⟩) (pre.length + 1) c2)) ∧
      KeepR R W (w1.setCell ⟨bx, 0, none⟩ (.slice (some ⟨g, 0, none⟩) (pre.length + 1) c2)) := by
  have hlen : (pre.map Prod.fst).length = pre.length := by simp
  have hout : W.ownsRow B 22 1 (.slice a pre.length c) pre.length (svs (gsT pre) (pre.map Prod.fst)) := by rw [← hlen]; exact h.ss.out
  have hg0 : (W.alloc tmp).grownBy w1 (Value.slice a pre.length c).ownBlock := by rw [blk_own]; exact hg
  obtain ⟨k1, k2, k3, k4, k5⟩ := Boxed.appended h.bx (by decide) hout hB hbx ho hg0
  have hW1 : W.grownBy (W.alloc tmp) none := World.grownBy_alloc W tmp none
  have hss : OwnSS w1 B (some ⟨g, 0, none⟩) c2 (gsT pre ++ [(x.2, 3)]) (pre.map Prod.fst ++ [x.1]) := by
    refine h.ss.pushR hW1 (own_grE (row_own hrow hlow hx3) hW1 (fun k hk e => by cases e)) (fun i hi => ?_) hg ?_
    · have hi2 : i < pre.length := by simpa using hi
      have : (gsT pre).getD i (0, 0) = ((pre[i]).2, 3) := by
        unfold gsT
        rw [List.getD_eq_getElem?_getD, List.getElem?_map, List.getElem?_eq_getElem hi2]; rfl
      rw [this]
      have := haf pre[i] (List.getElem_mem hi2)
      simp only; omega
    · rw [hlen, show sv (x.2, 3) x.1 = .slice (some ⟨x.2, 0, none⟩) 3 3 from by unfold sv; rw [hx3]]; exact ho
  have hset := grownBy_setCell' w1 bx (.slice (some ⟨g, 0, none⟩) (pre.length + 1) c2)
  have hnb : ∀ {n : Nat} {a2 : Option Addr} {c3 : Nat} {xs : List Value} {e : TypeId}, w1.ownsRow B e 1 (.slice a2 n c3) n xs → 31 ≠ e → blk a2 ≠ some bx := by
    intro n a2 c3 xs e ho2 hne hk
    exact Boxed.not_row k1 hne ho2 (by rw [blk_own]; exact hk.symm)
  refine ⟨⟨?_, ?_⟩, k1, k4, k5, ?_⟩
  · have : (pre ++ [x]).length = pre.length + 1 := by simp
    rw [this]; exact k2
  · have e1 : gsT (pre ++ [x]) = gsT pre ++ [(x.2, 3)] := by simp [gsT]
    have e2 : (pre ++ [x]).map Prod.fst = pre.map Prod.fst ++ [x.1] := by simp
    rw [e1, e2]
    refine hss.aside hset (fun k e => ?_)
    cases e
    exact ⟨hnb hss.out (by decide), fun i hi e => hnb (hss.inn i hi) (by decide) (by rw [← e]; rfl)⟩
  · refine ((KeepR.grown hW1 (fun g o e => by cases e)).trans (KeepR.grown hg (fun g2 o e ho2 hn => ?_))).trans (KeepR.grown hset (fun g2 o e ho2 hn => ?_))
    · rcases (own_grE hout hW1 (fun k _ e => by cases e)).2 with ⟨hn2, _⟩ | ⟨g3, cap, cur, he, hb, hgc, _⟩
      · simp only [Value.slice.injEq] at hn2; rw [hn2.1] at e; cases e
      · simp only [Value.slice.injEq] at he
        rw [he.1] at e
        have : g3 = g2 := by simpa [blk] using e
        subst this
        rw [hgc] at ho2; cases ho2
        exact hR _ _ _ hb (.inl rfl) hn
    · cases e
      rw [show w1.heap[bx]? = _ from k1] at ho2; cases ho2
      exact hR _ _ _ hbx (.inr rfl) hn
end Go.Proofs.YtgdejippddcekaaDoor
