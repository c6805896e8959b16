/-
  'PackTriangles' of the model. No conditions but the bounds that Go gives a slice.
-/
import Derived.Test.YtgdejippddcekaaWh
import Derived.Maps.AppendAt
namespace Go.Proofs.Ytgdejippddcekaa
open Go.ChangeShapes Go.WideShapes Go.ChangeAt Go.RowKit
set_option linter.unusedVariables false

/-- Rows of two types lie apart. -/
theorem own_apart {w : World} {B B2 : Nat} {e1 e2 : TypeId} {a : Option Addr} {n c n2 k c2 : Nat} {xs ys : List Value} (h : w.ownsRow B e1 1 (.slice a n c) n xs) (h2 : w.ownsRow B2 e2 1 (.slice (some ⟨k, 0, none⟩) n2 c2) n2 ys) (hne : e1 ≠ e2) : blk a ≠ some k := by
  intro hk
  rcases h.2 with ⟨hn, _⟩ | ⟨g, cap, cur, he, hb, hg, _⟩
  · have : a = none := by simp at hn; exact hn.1
    subst this; cases hk
  · rcases h2.2 with ⟨hn2, _⟩ | ⟨g2, cap2, cur2, he2, hb2, hg2, _⟩
    · cases hn2
    · simp only [Value.slice.injEq] at he
      obtain ⟨rfl, _⟩ := he
      simp only [Value.slice.injEq, Option.some.injEq, Addr.mk.injEq] at he2
      have e1' : g = k := by simpa [blk] using hk
      rw [e1', he2.1.1, hg2] at hg
      simp only [Option.some.injEq, Obj.cells.injEq] at hg
      exact hne hg.2.1.symm
theorem grown_set (w : World) (p : Addr) (u : Value) : w.grownBy (w.setCell p u) (some p.block) := ⟨rfl, rfl, rfl, by simp [World.setCell], fun k hk hn => heap_setCell_other w p k u (fun e => hn (by rw [e]))⟩
section
variable {W W' : World} {B : Nat} {a : Option Addr} {c : Nat} {gs : List (Nat × Nat)} {Ls : List (List Int)}
theorem snoc_at {α : Type} (l : List α) (x d : α) (i : Nat) : (l ++ [x]).getD i d = if i < l.length then l.getD i d else if i = l.length then x else d := by
  rw [List.getD_eq_getElem?_getD, List.getD_eq_getElem?_getD]
  split
  · rw [List.getElem?_append_left (by assumption)]
  · split
    · rename_i h; subst h; rw [List.getElem?_append_right (Nat.le_refl _)]; simp
    · rw [List.getElem?_eq_none (by simp; omega)]; rfl
/-- A further row that is there already. -/
theorem OwnSS.push2 {g c' : Nat} {p : Nat × Nat} {l : List Int} (h : OwnSS W B a c gs Ls) (hn : W.ownsRow B 3 1 (sv p l) l.length (l.map iv)) (hnd : ∀ i, i < Ls.length → (gs.getD i (0, 0)).1 ≠ p.1) (G : W.grownBy W' (blk a))
    (ho : W'.ownsRow B 22 1 (.slice (some ⟨g, 0, none⟩) (Ls.length + 1) c') (Ls.length + 1) (svs gs Ls ++ [sv p l])) : OwnSS W' B (some ⟨g, 0, none⟩) c' (gs ++ [p]) (Ls ++ [l]) := by
  have hlen : (Ls ++ [l]).length = Ls.length + 1 := by simp
  have hl := h.len
  refine ⟨by simp [h.len], ?_, fun i hi => ?_, fun i j hi hj hij => ?_⟩
  · rw [hlen, svs_snoc h.len]; exact ho
  · rw [hlen] at hi
    rw [snoc_at, snoc_at, hl]
    by_cases hil : i < Ls.length
    · rw [if_pos hil, if_pos hil]
      exact own_grE (h.inn i hil) G (fun k hk e => h.apart i hil (by rw [e, ← hk]; rfl))
    · rw [if_neg hil, if_neg hil, if_pos (by omega), if_pos (by omega)]
      exact own_grE hn G (fun k hk e => own_apart h.out hn (by decide) (by rw [e, ← hk]; rfl))
  · rw [hlen] at hi hj
    rw [snoc_at, snoc_at, hl]
    by_cases hil : i < Ls.length
    · by_cases hjl : j < Ls.length
      · rw [if_pos hil, if_pos hjl]; exact h.nd i j hil hjl hij
      · rw [if_pos hil, if_neg hjl, if_pos (by omega)]; exact hnd i hil
    · by_cases hjl : j < Ls.length
      · rw [if_neg hil, if_pos hjl, if_pos (by omega)]; exact fun e => hnd j hjl e.symm
      · omega
end

/-- What PackTriangles holds of the memory. -/
structure Pz (w W : World) (m : Nat) (a0 : Option Addr) (c0 : Nat) (gs : List (Nat × Nat)) (Ls : List (List Int)) (gu : Nat) (U : List Nat) (a1 : Option Addr) (c1 : Nat) (hs : List (Nat × Nat)) (R : List (List Int)) (x : Nat) : Prop where
  hb : Below w.heap.size w W
  all : OwnSS W w.heap.size a0 c0 gs Ls
  us : W.ownsRow w.heap.size 3 1 (.slice (some ⟨gu, 0, none⟩) m m) m (U.map nv)
  out : OwnSS W w.heap.size a1 c1 hs R
  gi : ∀ i, i < Ls.length → (gs.getD i (0, 0)).1 ≠ gu
  oo : ∀ k, blk a1 = some k → blk a0 ≠ some k
  sub : ∀ j, j < R.length → ∃ i, i < x ∧ i < Ls.length ∧ hs.getD j (0, 0) = gs.getD i (0, 0)
section
variable {w W W' : World} {m : Nat} {a0 : Option Addr} {c0 : Nat} {gs : List (Nat × Nat)} {Ls : List (List Int)} {gu : Nat} {U : List Nat} {a1 : Option Addr} {c1 : Nat} {hs : List (Nat × Nat)} {R : List (List Int)} {x : Nat}
theorem Pz.next (h : Pz w W m a0 c0 gs Ls gu U a1 c1 hs R x) : Pz w W m a0 c0 gs Ls gu U a1 c1 hs R (x + 1) :=
  ⟨h.hb, h.all, h.us, h.out, h.gi, h.oo, fun j hj => by obtain ⟨i, h1, h2, h3⟩ := h.sub j hj; exact ⟨i, by omega, h2, h3⟩⟩
theorem Pz.drew (h : Pz w W m a0 c0 gs Ls gu U a1 c1 hs R x) : Pz w W.drew m a0 c0 gs Ls gu U a1 c1 hs R x :=
  ⟨h.hb.drew, h.all.below (Below.refl _ _).drew, h.us.drew, h.out.below (Below.refl _ _).drew, h.gi, h.oo, h.sub⟩
theorem Pz.set (h : Pz w W m a0 c0 gs Ls gu U a1 c1 hs R x) (p v : Nat) : Pz w (W.setCell ⟨gu, p, none⟩ (.int .i64 (v : Int))) m a0 c0 gs Ls gu (U.set p v) a1 c1 hs R x := by
  have hgu := (h.us.lt gu rfl).1
  refine ⟨h.hb.setCell (p := ⟨gu, p, none⟩) hgu _, ?_, ?_, ?_, h.gi, h.oo, h.sub⟩
  · refine h.all.aside (grown_set W ⟨gu, p, none⟩ _) (fun k e => ?_)
    obtain rfl : gu = k := by simpa using e
    exact ⟨own_apart h.all.out h.us (by decide), h.gi⟩
  · have := (h.us.stored p (nv v)).1
    rw [← List.map_set] at this
    exact this
  · refine h.out.aside (grown_set W ⟨gu, p, none⟩ _) (fun k e => ?_)
    obtain rfl : gu = k := by simpa using e
    refine ⟨own_apart h.out.out h.us (by decide), fun j hj => ?_⟩
    obtain ⟨i, _, h2, h3⟩ := h.sub j hj
    rw [h3]; exact h.gi i h2
theorem Pz.push (h : Pz w W m a0 c0 gs Ls gu U a1 c1 hs R x) (hx : x < Ls.length) {g c' : Nat} {o : Obj} (hg : (W.alloc o).grownBy W' (blk a1)) (hat : blk a1 = some g ∨ g = W.heap.size + 1)
    (ho : W'.ownsRow w.heap.size 22 1 (.slice (some ⟨g, 0, none⟩) (R.length + 1) c') (R.length + 1) (svs hs R ++ [sv (gs.getD x (0, 0)) (Ls.getD x [])])) : Pz w W' m a0 c0 gs Ls gu U (some ⟨g, 0, none⟩) c' (hs ++ [gs.getD x (0, 0)]) (R ++ [Ls.getD x []]) (x + 1) := by
  have G : W.grownBy W' (blk a1) := (World.grownBy_alloc W o (blk a1)).trans hg
  have hsub := h.sub
  refine ⟨h.hb.grown G h.hb.size (fun k e => (h.out.blkO e).1), ?_, ?_, ?_, h.gi, ?_, ?_⟩
  · exact h.all.aside G (fun k e => ⟨h.oo k e, fun i hi e2 => own_apart h.out.out (h.all.inn i hi) (by decide) (by rw [e, ← e2])⟩)
  · exact own_grE h.us G (fun k hk e => own_apart h.out.out h.us (by decide) (by rw [e, ← hk]; rfl))
  · refine h.out.push2 (h.all.inn x hx) (fun j hj => ?_) G ho
    obtain ⟨i, h1, h2, h3⟩ := hsub j hj
    rw [h3]; exact h.all.nd i x h2 hx (by omega)
  · intro k hk
    obtain rfl : g = k := by simpa [blk] using hk
    rcases hat with e | e
    · exact h.oo g e
    · intro e2; have := (h.all.blkO e2).2; omega
  · intro j hj
    have hl := h.out.len
    rw [snoc_at, hl]
    simp only [List.length_append, List.length_cons, List.length_nil] at hj
    by_cases hjl : j < R.length
    · rw [if_pos hjl]
      obtain ⟨i, h1, h2, h3⟩ := hsub j hjl
      exact ⟨i, by omega, h2, h3⟩
    · rw [if_neg hjl, if_pos (by omega)]
      exact ⟨x, by omega, hx, rfl⟩
/-- A player's set that takes two players more. -/
theorem Pz.at (h : Pz w W m a0 c0 gs Ls gu U a1 c1 hs R x) (hlt : ∀ y ∈ U, y < 256) {i j k : Nat} (hi : i < m) (hj : j < 8) (hk : k < 8) :
    ∃ v z : Int, W.frozen? ⟨gu, i, none⟩ = false ∧ bits .or .i64 ((U.getD i 0 : Nat) : Int) (wrap64 (2 ^ j)) = v ∧ bits .or .i64 v (wrap64 (2 ^ k)) = z ∧
      Pz w (W.setCell ⟨gu, i, none⟩ (.int .i64 z)) m a0 c0 gs Ls gu (U.set i (U.getD i 0 ||| 2 ^ j ||| 2 ^ k)) a1 c1 hs R x := by
  have hlen : U.length = m := by simpa using h.us.1
  have hu : U.getD i 0 < 256 := by rw [List.getD_eq_getElem?_getD, List.getElem?_eq_getElem (by omega)]; exact hlt _ (List.getElem_mem (by omega))
  have hpj := pow_le j (by omega)
  have hpk := pow_le k (by omega)
  have h1 : U.getD i 0 ||| 2 ^ j < 512 := Nat.or_lt_two_pow (n := 9) (by omega) (by omega)
  refine ⟨((U.getD i 0 ||| 2 ^ j : Nat) : Int), ((U.getD i 0 ||| 2 ^ j ||| 2 ^ k : Nat) : Int), h.us.frozenAt i, ?_, ?_, h.set i _⟩
  · rw [wrapPow j (by omega)]; exact i64_or _ _ (by omega) (by omega)
  · rw [wrapPow k (by omega)]; exact i64_or _ _ (by omega) (by omega)
theorem Pz.val (h : Pz w W m a0 c0 gs Ls gu U a1 c1 hs R x) {i : Nat} (hi : i < m) : W.cell? ⟨gu, i, none⟩ = some (.int .i64 ((U.getD i 0 : Nat) : Int)) := by
  have hlen : U.length = m := by simpa using h.us.1
  have hc := h.us.cellAt i (by omega)
  rw [List.getElem?_map, show U[i]? = some (U.getD i 0) by rw [List.getD_eq_getElem?_getD, List.getElem?_eq_getElem (by omega)]; rfl] at hc
  exact hc
end
theorem mark_lt1 {U : List Nat} (hlt : ∀ y ∈ U, y < 256) {m i j k : Nat} (hl : U.length = m) (hi : i < m) (hj : j < 8) (hk : k < 8) : (∀ y ∈ U.set i (U.getD i 0 ||| 2 ^ j ||| 2 ^ k), y < 256) ∧ (U.set i (U.getD i 0 ||| 2 ^ j ||| 2 ^ k)).length = m := by
  refine ⟨fun y hy => ?_, by simp [hl]⟩
  rcases List.mem_or_eq_of_mem_set hy with h | h
  · exact hlt y h
  · rw [h]
    exact or3_lt (by rw [List.getD_eq_getElem?_getD, List.getElem?_eq_getElem (by omega)]; exact hlt _ (List.getElem_mem (by omega))) hj hk
theorem mark_eq {U : List Nat} {x y z : Nat} (hx : x < U.length) (hy : y < U.length) (hz : z < U.length) (hxy : x ≠ y) (hyz : y ≠ z) (hxz : x ≠ z) :
    (((U.set x (U.getD x 0 ||| 2 ^ y ||| 2 ^ z)).set y ((U.set x (U.getD x 0 ||| 2 ^ y ||| 2 ^ z)).getD y 0 ||| 2 ^ x ||| 2 ^ z)).set z (((U.set x (U.getD x 0 ||| 2 ^ y ||| 2 ^ z)).set y ((U.set x (U.getD x 0 ||| 2 ^ y ||| 2 ^ z)).getD y 0 ||| 2 ^ x ||| 2 ^ z)).getD z 0 ||| 2 ^ x ||| 2 ^ y)) = mark3 U x y z := by
  unfold mark3
  rw [getD_set U x y _ hx, if_neg hxy, getD_set _ y z _ (by simpa using hy), if_neg hyz, getD_set U x z _ hx, if_neg hxz]
end Go.Proofs.Ytgdejippddcekaa
