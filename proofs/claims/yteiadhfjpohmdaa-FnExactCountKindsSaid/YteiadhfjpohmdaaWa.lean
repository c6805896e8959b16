/-
  Slices of slices of numbers that a call has made: what is known of them. No conditions.
-/
import Derived.Test.YteiadhfjpohmdaaG
import Derived.Maps.AppendAt
namespace Go.Proofs.Yteiadhfjpohmdaa
open Go.ChangeShapes Go.WideShapes Go.ChangeAt Go.RowKit
set_option linter.unusedVariables false

theorem infoSl : (Try.prog.info? 22).map (fun i => (i.zero, i.size, i.bytes)) = some (some (.slice none 0 0), 1, 24) := by kernel_rfl
/-- The value of a row: its block, its capacity; its numbers. -/
def sv (p : Nat × Nat) (l : List Int) : Value := .slice (some ⟨p.1, 0, none⟩) l.length p.2
def svs (gs : List (Nat × Nat)) (Ls : List (List Int)) : List Value := List.zipWith sv gs Ls
theorem svs_len {gs : List (Nat × Nat)} {Ls : List (List Int)} (h : gs.length = Ls.length) : (svs gs Ls).length = Ls.length := by simp [svs, h]
theorem svs_at {gs : List (Nat × Nat)} {Ls : List (List Int)} (h : gs.length = Ls.length) (i : Nat) (hi : i < Ls.length) : (svs gs Ls)[i]? = some (sv (gs.getD i (0, 0)) (Ls.getD i [])) := by
  unfold svs
  rw [List.getElem?_zipWith, List.getElem?_eq_getElem (by omega), List.getElem?_eq_getElem hi, List.getD_eq_getElem?_getD, List.getD_eq_getElem?_getD, List.getElem?_eq_getElem (by omega), List.getElem?_eq_getElem hi]
  rfl
theorem svs_snoc {gs : List (Nat × Nat)} {Ls : List (List Int)} (h : gs.length = Ls.length) (p : Nat × Nat) (l : List Int) : svs (gs ++ [p]) (Ls ++ [l]) = svs gs Ls ++ [sv p l] := by
  unfold svs
  rw [List.zipWith_append h]
  rfl
theorem own_grE {e : TypeId} {w w' : World} {B : Nat} {a : Option Addr} {n c : Nat} {xs : List Value} {row : Option Nat} (h : w.ownsRow B e 1 (.slice a n c) n xs) (hg : w.grownBy w' row) (hne : ∀ k, blk a = some k → row ≠ some k) : w'.ownsRow B e 1 (.slice a n c) n xs := by
  refine h.kept hg ?_
  rw [blk_own]
  cases ha : blk a with
  | none => exact .inl rfl
  | some k => exact .inr fun e => hne k ha e.symm
theorem own_blkE {e : TypeId} {w : World} {B n c : Nat} {a : Option Addr} {xs : List Value} (h : w.ownsRow B e 1 (.slice a n c) n xs) {k : Nat} (hk : blk a = some k) : B ≤ k ∧ k < w.heap.size := by
  cases a with
  | none => cases hk
  | some ad =>
    have h0 := h
    rcases h.2 with ⟨hn, _⟩ | ⟨g, cap, cur, he, hb, hg, _⟩
    · cases hn
    · cases he
      have : g = k := by simpa [blk] using hk
      subst this
      exact h0.lt g rfl

/-- A slice of slices that lies in blocks of the call's own, from block B on. -/
structure OwnSS (W : World) (B : Nat) (a : Option Addr) (c : Nat) (gs : List (Nat × Nat)) (Ls : List (List Int)) : Prop where
  len : gs.length = Ls.length
  out : W.ownsRow B 22 1 (.slice a Ls.length c) Ls.length (svs gs Ls)
  inn : ∀ i, i < Ls.length → W.ownsRow B 3 1 (sv (gs.getD i (0, 0)) (Ls.getD i [])) (Ls.getD i []).length ((Ls.getD i []).map iv)
  nd : ∀ i j, i < Ls.length → j < Ls.length → i ≠ j → (gs.getD i (0, 0)).1 ≠ (gs.getD j (0, 0)).1
section
variable {W W' : World} {B : Nat} {a : Option Addr} {c : Nat} {gs : List (Nat × Nat)} {Ls : List (List Int)}
theorem OwnSS.nil (W : World) (B : Nat) : OwnSS W B none 0 [] [] := ⟨rfl, World.ownsRow_nil _ _ _ _, fun i h => absurd h (Nat.not_lt_zero _), fun i j h => absurd h (Nat.not_lt_zero _)⟩
theorem OwnSS.mono (h : OwnSS W B a c gs Ls) {B' : Nat} (hB : B' ≤ B) : OwnSS W B' a c gs Ls := ⟨h.len, h.out.mono hB, fun i hi => (h.inn i hi).mono hB, h.nd⟩
theorem OwnSS.blkO (h : OwnSS W B a c gs Ls) {k : Nat} (hk : blk a = some k) : B ≤ k ∧ k < W.heap.size := own_blkE h.out hk
theorem OwnSS.blkI (h : OwnSS W B a c gs Ls) (i : Nat) (hi : i < Ls.length) : B ≤ (gs.getD i (0, 0)).1 ∧ (gs.getD i (0, 0)).1 < W.heap.size := own_blkE (h.inn i hi) rfl
/-- The outer row is none of the inner ones: its cells are of another type. -/
theorem OwnSS.apart (h : OwnSS W B a c gs Ls) (i : Nat) (hi : i < Ls.length) : blk a ≠ some (gs.getD i (0, 0)).1 := by
  intro hk
  rcases h.out.2 with ⟨hn, _⟩ | ⟨g, cap, cur, he, hb, hg, _⟩
  · have : a = none := by simp at hn; exact hn.1
    subst this; cases hk
  · rcases (h.inn i hi).2 with ⟨hn2, _⟩ | ⟨g2, cap2, cur2, he2, hb2, hg2, _⟩
    · cases hn2
    · simp only [Value.slice.injEq] at he
      obtain ⟨rfl, _⟩ := he
      have e1 : g = (gs.getD i (0, 0)).1 := by simpa [blk] using hk
      have e2 : (gs.getD i (0, 0)).1 = g2 := by
        unfold sv at he2
        simp only [Value.slice.injEq, Option.some.injEq, Addr.mk.injEq] at he2
        exact he2.1.1
      rw [e1, e2, hg2] at hg
      simp at hg
theorem OwnSS.aside (h : OwnSS W B a c gs Ls) {row : Option Nat} (hg : W.grownBy W' row) (hr : ∀ k, row = some k → blk a ≠ some k ∧ ∀ i, i < Ls.length → (gs.getD i (0, 0)).1 ≠ k) : OwnSS W' B a c gs Ls :=
  ⟨h.len, own_grE h.out hg (fun k hk e => (hr k e).1 hk), fun i hi => own_grE (h.inn i hi) hg (fun k hk e => (hr k e).2 i hi (by simpa [blk] using hk)), h.nd⟩
theorem OwnSS.below (h : OwnSS W B a c gs Ls) (hb : Below W.heap.size W W') : OwnSS W' B a c gs Ls := h.aside (grown_of_below hb) (fun k e => by cases e)
/-- What lies below a bound stays where all that changes lies from it on. -/
theorem OwnSS.kept (h : OwnSS W B a c gs Ls) {B' : Nat} (hb : Below B' W W') (ho : ∀ k, blk a = some k → k < B') (hi : ∀ i, i < Ls.length → (gs.getD i (0, 0)).1 < B') : OwnSS W' B a c gs Ls := by
  refine ⟨h.len, ?_, fun i hil => ?_, h.nd⟩
  · rcases h.out.2 with ⟨hn, h0⟩ | ⟨g, cap, cur, he, hB, hg, q⟩
    · exact ⟨h.out.1, .inl ⟨hn, h0⟩⟩
    · refine ⟨h.out.1, .inr ⟨g, cap, cur, he, hB, ?_, q⟩⟩
      simp only [Value.slice.injEq] at he
      exact (hb.block g (ho g (by rw [he.1]; rfl))).trans hg
  · have hr := h.inn i hil
    rcases hr.2 with ⟨hn, h0⟩ | ⟨g, cap, cur, he, hB, hg, q⟩
    · exact ⟨hr.1, .inl ⟨hn, h0⟩⟩
    · refine ⟨hr.1, .inr ⟨g, cap, cur, he, hB, ?_, q⟩⟩
      unfold sv at he
      simp only [Value.slice.injEq, Option.some.injEq, Addr.mk.injEq] at he
      have := hi i hil
      rw [he.1.1] at this
      exact (hb.block g this).trans hg
theorem OwnSS.base (h : OwnSS W B a c gs Ls) (hp : 0 < Ls.length) : ∃ g, a = some ⟨g, 0, none⟩ ∧ g < W.heap.size := by
  rcases h.out.2 with ⟨_, h0⟩ | ⟨g, cap, cur, he, hb, hg, _⟩
  · omega
  · simp only [Value.slice.injEq] at he
    exact ⟨g, he.1, (Array.getElem?_eq_some_iff.1 hg).1⟩
theorem OwnSS.cell {g : Nat} (h : OwnSS W B (some ⟨g, 0, none⟩) c gs Ls) (i : Nat) (hi : i < Ls.length) : W.cell? ⟨g, i, none⟩ = some (.slice (some ⟨(gs.getD i (0, 0)).1, 0, none⟩) (Ls.getD i []).length (gs.getD i (0, 0)).2) := by
  rw [h.out.cellAt i (by omega), svs_at h.len i hi]; rfl
theorem OwnSS.row (h : OwnSS W B a c gs Ls) (i : Nat) (hi : i < Ls.length) : IntRow W (some ⟨(gs.getD i (0, 0)).1, 0, none⟩) (Ls.getD i []) := own_int (h.inn i hi)
/-- A further row. -/
theorem OwnSS.push {W1 : World} {g gn cn c' : Nat} {l : List Int} (h : OwnSS W B a c gs Ls) (hg : W.grownBy W1 none)
    (hn : W1.ownsRow B 3 1 (.slice (some ⟨gn, 0, none⟩) l.length cn) l.length (l.map iv)) (hnew : W.heap.size ≤ gn)
    (hg2 : W1.grownBy W' (blk a)) (ho : W'.ownsRow B 22 1 (.slice (some ⟨g, 0, none⟩) (Ls.length + 1) c') (Ls.length + 1) (svs gs Ls ++ [sv (gn, cn) l])) :
    OwnSS W' B (some ⟨g, 0, none⟩) c' (gs ++ [(gn, cn)]) (Ls ++ [l]) := by
  have h1 := h.aside hg (fun k e => by cases e)
  have hlen : (Ls ++ [l]).length = Ls.length + 1 := by simp
  have ga : ∀ i, i < Ls.length → (gs ++ [(gn, cn)]).getD i (0, 0) = gs.getD i (0, 0) := fun i hi => by
    rw [List.getD_eq_getElem?_getD, List.getD_eq_getElem?_getD, List.getElem?_append_left (by rw [h.len]; exact hi)]
  have gb : (gs ++ [(gn, cn)]).getD Ls.length (0, 0) = (gn, cn) := by
    rw [List.getD_eq_getElem?_getD, ← h.len, List.getElem?_append_right (Nat.le_refl _)]; simp
  have la : ∀ i, i < Ls.length → (Ls ++ [l]).getD i [] = Ls.getD i [] := fun i hi => by
    rw [List.getD_eq_getElem?_getD, List.getD_eq_getElem?_getD, List.getElem?_append_left hi]
  have lb : (Ls ++ [l]).getD Ls.length [] = l := by
    rw [List.getD_eq_getElem?_getD, List.getElem?_append_right (Nat.le_refl _)]; simp
  have hna : ∀ k, blk a = some k → k ≠ gn := fun k hk => by have := h.blkO hk; omega
  refine ⟨by simp [h.len], ?_, fun i hi => ?_, fun i j hi hj hij => ?_⟩
  · rw [hlen, svs_snoc h.len]; exact ho
  · rw [hlen] at hi
    rcases Nat.lt_or_ge i Ls.length with hil | hil
    · rw [ga i hil, la i hil]
      exact own_grE (h1.inn i hil) hg2 (fun k hk e => h1.apart i hil (by rw [e, ← hk]; rfl))
    · obtain rfl : i = Ls.length := by omega
      rw [gb, lb]
      exact own_grE hn hg2 (fun k hk e => hna k e (by have : gn = k := by simpa [blk] using hk
                                                      exact this.symm))
  · rw [hlen] at hi hj
    rcases Nat.lt_or_ge i Ls.length with hil | hil
    · rcases Nat.lt_or_ge j Ls.length with hjl | hjl
      · rw [ga i hil, ga j hjl]; exact h.nd i j hil hjl hij
      · obtain rfl : j = Ls.length := by omega
        rw [ga i hil, gb]
        have := h.blkI i hil
        simp only; omega
    · obtain rfl : i = Ls.length := by omega
      rw [gb, ga j (by omega)]
      have := h.blkI j (by omega)
      simp only; omega
end
end Go.Proofs.Yteiadhfjpohmdaa
