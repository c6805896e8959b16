/-
  'FullWay' of the program. No conditions but the bounds that Go gives a slice.
-/
import Derived.Test.YtnlpfajncpbjpaaJR
namespace Go.Proofs.Ytnlpfajncpbjpaa
open Go.ChangeShapes Go.WideShapes Go.ChangeAt Go.RowKit Go.Shelf
set_option linter.unusedVariables false

/-- What 'FullWay' answers. -/
noncomputable def fwR (n : Int) (l : List Int) : List Nat := if okB n l then Hw.fwL (ww l) l.length else []
theorem insW_at {f : Nat → Nat} {a : Nat} : ∀ (L : List Nat) (i : Nat), i ≤ L.length → (∀ j, j < i → (f a).testBit (L.getD j 0) = false) → (i < L.length → (f a).testBit (L.getD i 0) = true) → Hw.insW f a L = L.take i ++ a :: L.drop i := by
  intro L
  induction L with
  | nil => intro i hi _ _; simp at hi; subst hi; rfl
  | cons x L ih =>
    intro i hi h1 h2
    unfold Hw.insW
    cases i with
    | zero =>
      have := h2 (by simp)
      rw [if_pos (by simpa using this)]; rfl
    | succ i =>
      have := h1 0 (by omega)
      rw [if_neg (by rw [show (x :: L).getD 0 0 = x from rfl] at this; rw [this]; simp)]
      rw [ih i (by simpa using hi) (fun j hj => h1 (j + 1) (by omega)) (fun h => h2 (by simpa using h))]
      rfl
theorem ins_getD (L : List Nat) (i x j : Nat) (hi : i ≤ L.length) : (L.take i ++ x :: L.drop i).getD j 0 = if j < i then L.getD j 0 else if j = i then x else L.getD (j - 1) 0 := by
  have ht : (L.take i).length = i := by simp; omega
  split
  · rename_i h
    rw [List.getD_eq_getElem?_getD, List.getElem?_append_left (by omega), List.getElem?_take, if_pos h, List.getD_eq_getElem?_getD]
  · rename_i h
    rw [List.getD_eq_getElem?_getD, List.getElem?_append_right (by omega), ht]
    split
    · rename_i h2; rw [h2, Nat.sub_self]; rfl
    · rename_i h2
      obtain ⟨d, hd⟩ : ∃ d, j - i = d + 1 := ⟨j - i - 1, by omega⟩
      rw [hd, List.getElem?_cons_succ, List.getElem?_drop, show i + d = j - 1 by omega, List.getD_eq_getElem?_getD]
theorem ins_len (L : List Nat) (i x : Nat) (hi : i ≤ L.length) : (L.take i ++ x :: L.drop i).length = L.length + 1 := by
  simp; omega
/-- The pointer cells of a chain: the first one's variable, the links' own. -/
def atB (gs : List Nat) (Bf i : Nat) : Nat := if i = 0 then Bf else gs.getD (i - 1) 0
def atO (i : Nat) : Nat := if i = 0 then 0 else 1
/-- Where the loop stands: a chain of the call's own. -/
structure Fw (w : World) (n : Int) (a : Option Addr) (cap : Nat) (l : List Int) (Bf : Nat) (ps gs : List Nat) (W : World) : Prop where
  ch : Ch W gs ps (.pointer none)
  nd : gs.Nodup
  lo : ∀ g ∈ gs, Bf < g ∧ g < W.heap.size
  fst : Boxed W Bf 69 (pV gs 0 (.pointer none))
  xt : Box W w.heap.size 25 (.int .i64 n) (.slice a l.length cap)
  hb : Below w.heap.size w W
  bf : w.heap.size < Bf
section
variable {w W W2 : World} {n : Int} {a : Option Addr} {cap : Nat} {l : List Int} {Bf : Nat} {ps gs : List Nat}
theorem Fw.below (h : Fw w n a cap l Bf ps gs W) (hb : Below W.heap.size W W2) : Fw w n a cap l Bf ps gs W2 :=
  ⟨h.ch.below hb, h.nd, fun g hg => ⟨(h.lo g hg).1, Nat.lt_of_lt_of_le (h.lo g hg).2 hb.size⟩, (hb.block _ h.fst.lt).trans h.fst, h.xt.below hb h.xt.lt, h.hb.trans (hb.mono h.hb.size), h.bf⟩
/-- The pointer cell at a place. -/
theorem Fw.at (h : Fw w n a cap l Bf ps gs W) {i : Nat} (hi : i ≤ ps.length) : W.cell? ⟨atB gs Bf i, atO i, none⟩ = some (pV gs i (.pointer none)) ∧ W.frozen? ⟨atB gs Bf i, atO i, none⟩ = false ∧ atB gs Bf i < W.heap.size ∧ Bf ≤ atB gs Bf i := by
  unfold atB atO
  by_cases h0 : i = 0
  · subst h0
    exact ⟨h.fst.cell, h.fst.frozen, h.fst.lt, Nat.le_refl _⟩
  · rw [if_neg h0, if_neg h0]
    have hn := h.ch.node (i - 1) (by omega)
    rw [show i - 1 + 1 = i by omega] at hn
    have hlo := h.lo (gs.getD (i - 1) 0) (getD_mem (by have := h.ch.len; omega))
    exact ⟨hn.c1, hn.f1, hlo.2, Nat.le_of_lt hlo.1⟩
/-- A further link at a place. -/
theorem Fw.ins (h : Fw w n a cap l Bf ps gs W) {i x : Nat} (hi : i ≤ ps.length) {W3 : World} (hW3 : W3 = (W.alloc (.cells #[.int .i64 (x : Int), pV gs i (.pointer none)] 72)).setCell ⟨atB gs Bf i, atO i, none⟩ (.pointer (some ⟨W.heap.size, 0, none⟩))) :
    Fw w n a cap l Bf (ps.take i ++ x :: ps.drop i) (gs.take i ++ W.heap.size :: gs.drop i) W3 := by
  have hlen := h.ch.len
  have hat := h.at hi
  obtain ⟨W2, hW2⟩ : ∃ W2, W2 = W.alloc (.cells #[.int .i64 (x : Int), pV gs i (.pointer none)] 72) := ⟨_, rfl⟩
  rw [← hW2] at hW3
  have b2 : Below W.heap.size W W2 := by rw [hW2]; exact (Below.refl _ _).alloc (Nat.le_refl _) _
  have hg3 : W2.grownBy W3 (some (atB gs Bf i)) := by rw [hW3]; exact grownBy_setAt W2 _ _ _
  have xn : Box W2 W.heap.size 72 (.int .i64 (x : Int)) (pV gs i (.pointer none)) := by rw [hW2]; exact Box.new _ _ _ _
  have xn3 := xn.grown hg3 (fun e => by have := Option.some.inj e; have := hat.2.2.1; omega)
  have h2 := h.below b2
  have s3 : W3.heap.size = W.heap.size + 1 := by
    have h1 : W2.heap.size = W.heap.size + 1 := by rw [hW2]; simp
    rw [hW3]; simp [h1]
  -- a link that is not turned
  have keep : ∀ j, j < ps.length → (i ≠ j + 1) → Box W3 (gs.getD j 0) 72 (.int .i64 ((ps.getD j 0 : Nat) : Int)) (pV gs (j + 1) (.pointer none)) := fun j hj hne => by
    refine (h2.ch.node j hj).grown hg3 (fun e => ?_)
    have e2 : atB gs Bf i = gs.getD j 0 := Option.some.inj e
    unfold atB at e2
    split at e2
    · have := (h.lo (gs.getD j 0) (getD_mem (by omega))).1; omega
    · exact getD_ne h.nd (i := i - 1) (j := j) (by omega) (by omega) (by omega) e2
  refine ⟨⟨by rw [ins_len _ _ _ (by omega), ins_len _ _ _ hi, hlen], fun j hj => ?_⟩, ?_, fun g hg => ?_, ?_, ?_, ?_, h.bf⟩
  · rw [ins_len _ _ _ hi] at hj
    rw [ins_getD _ _ _ _ (by omega), ins_getD _ _ _ _ hi]
    have hpv : pV (gs.take i ++ W.heap.size :: gs.drop i) (j + 1) (.pointer none) = if j + 1 < i then pV gs (j + 1) (.pointer none) else if j + 1 = i then .pointer (some ⟨W.heap.size, 0, none⟩) else pV gs j (.pointer none) := by
      unfold pV
      rw [ins_len _ _ _ (by omega), ins_getD _ _ _ _ (by omega)]
      split
      · rename_i h1
        by_cases h3 : j + 1 < i
        · rw [if_pos h3, if_pos h3, if_pos (by omega)]
        · rw [if_neg h3, if_neg h3]
          by_cases h4 : j + 1 = i
          · rw [if_pos h4, if_pos h4]
          · rw [if_neg h4, if_neg h4, if_pos (by omega), Nat.add_sub_cancel]
      · rename_i h1
        rw [if_neg (by omega), if_neg (by omega), if_neg (by omega)]
    rw [hpv]
    by_cases h1 : j < i
    · rw [if_pos h1, if_pos h1]
      by_cases h3 : j + 1 < i
      · rw [if_pos h3]; exact keep j (by omega) (by omega)
      · obtain rfl : i = j + 1 := by omega
        rw [if_neg (by omega), if_pos rfl]
        have hn := h2.ch.node j (by omega)
        have e : atB gs Bf (j + 1) = gs.getD j 0 := by unfold atB; rw [if_neg (by omega), Nat.add_sub_cancel]
        have e2 : atO (j + 1) = 1 := by unfold atO; rw [if_neg (by omega)]
        rw [hW3, e, e2]
        exact hn.set1 _
    · rw [if_neg h1, if_neg h1]
      by_cases h3 : j = i
      · subst h3
        rw [if_pos rfl, if_pos rfl, if_neg (by omega), if_neg (by omega)]
        exact xn3
      · rw [if_neg h3, if_neg h3, if_neg (by omega), if_neg (by omega)]
        have := keep (j - 1) (by omega) (by omega)
        rw [show j - 1 + 1 = j by omega] at this
        exact this
  · refine (List.perm_middle (a := W.heap.size) (l₁ := gs.take i) (l₂ := gs.drop i)).nodup_iff.2 ?_
    rw [List.take_append_drop, List.nodup_cons]
    exact ⟨fun hm => by have := (h.lo _ hm).2; omega, h.nd⟩
  · have hm := (List.perm_middle (a := W.heap.size) (l₁ := gs.take i) (l₂ := gs.drop i)).mem_iff.1 hg
    rw [List.take_append_drop] at hm
    rcases List.mem_cons.1 hm with rfl | hm
    · have := h.fst.lt; omega
    · have := h.lo g hm; omega
  · have hp0 : pV (gs.take i ++ W.heap.size :: gs.drop i) 0 (.pointer none) = if i = 0 then .pointer (some ⟨W.heap.size, 0, none⟩) else pV gs 0 (.pointer none) := by
      unfold pV
      rw [ins_len _ _ _ (by omega), ins_getD _ _ _ _ (by omega), if_pos (by omega)]
      by_cases h0 : i = 0
      · rw [if_pos h0, if_neg (by omega), if_pos h0.symm]
      · rw [if_neg h0, if_pos (by omega), if_pos (by omega)]
    rw [hp0]
    by_cases h0 : i = 0
    · rw [if_pos h0, hW3]
      subst h0
      exact h2.fst.set _
    · rw [if_neg h0]
      refine h2.fst.kept hg3 (fun e => ?_)
      have e2 : Bf = atB gs Bf i := by simpa using e
      unfold atB at e2
      rw [if_neg h0] at e2
      have := (h.lo (gs.getD (i - 1) 0) (getD_mem (by omega))).1
      omega
  · exact h2.xt.grown hg3 (fun e => by have := Option.some.inj e; have := h.bf; have := hat.2.2.2; omega)
  · exact h2.hb.grown hg3 h2.hb.size (fun k e => by have := Option.some.inj e; have := h.bf; have := hat.2.2.2; omega)
end
/-- How far the pointer has come. -/
def posn (gs : List Nat) : Value → Nat
  | .pointer (some p) => if p.off = 0 then 0 else gs.idxOf p.block + 1
  | _ => 0
theorem posn_at {gs : List Nat} (hnd : gs.Nodup) (Bf : Nat) {i : Nat} (hi : i ≤ gs.length) : posn gs (.pointer (some ⟨atB gs Bf i, atO i, none⟩)) = i := by
  unfold posn atB atO
  by_cases h0 : i = 0
  · rw [if_pos h0]; simp [h0]
  · rw [if_neg h0, if_neg h0]
    simp only [if_neg (show ¬ (1 : Nat) = 0 by omega)]
    have hlt : i - 1 < gs.length := by omega
    rw [List.getD_eq_getElem?_getD, List.getElem?_eq_getElem hlt, Option.getD_some, hnd.idxOf_getElem]
    omega
end Go.Proofs.Ytnlpfajncpbjpaa
