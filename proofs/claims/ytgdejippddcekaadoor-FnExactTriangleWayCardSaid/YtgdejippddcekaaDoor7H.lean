/-
  What the model's search holds: distances by number, tours in a row. No conditions but those named.
-/
import Derived.Test.YtgdejippddcekaaDoor7D
import Derived.Test.YtgdejippddcekaaDoor7G
import Derived.Test.YtgdejippddcekaaDoorWg
import Derived.Test.YtgdejippddcekaaDoor6D
namespace Go.Proofs.YtgdejippddcekaaDoor
open Go.ChangeShapes Go.WideShapes Go.ChangeAt Go.RowKit
set_option linter.unusedVariables false

theorem rows_count (l : List Int) (m : Nat) (hl : l.length = m) (k : Nat) (hk : k ≤ m) : 2 * (rowsTo l k).length + k * (k + 1) = 2 * (k * m) := by
  induction k with
  | zero => simp [rowsTo]
  | succ k ih =>
    have h := ih (by omega)
    rw [rowsTo_succ, List.length_append, rowBits_len, hl]
    simp only [Nat.add_mul, Nat.mul_add, Nat.mul_one, Nat.one_mul] at h ⊢
    omega
/-- How many tours of m players there are. -/
def nP (m : Nat) : Nat := m * (m - 1) / 2
def nN (m : Nat) : Nat := 2 ^ nP m
theorem nP5 (m : Nat) (h : m ≤ 5) : nP m ≤ 10 := by
  have : ∀ m : Fin 6, nP m.val ≤ 10 := by decide
  exact this ⟨m, by omega⟩
theorem nN5 (m : Nat) (h : m ≤ 5) : 1 ≤ nN m ∧ nN m ≤ 1024 := by
  have h1 : 2 ^ nP m ≤ 2 ^ 10 := Nat.pow_le_pow_right (by decide) (nP5 m h)
  have h2 := Nat.one_le_two_pow (n := nP m)
  exact ⟨h2, h1⟩
theorem numL_lt {m : Nat} {l : List Int} (h : Ok (m : Int) l) (h5 : m ≤ 5) : numL l < nN m := by
  have hl := h.m.2.2
  have h1 := rows_count l m hl m (Nat.le_refl _)
  have h2 := val_lt (rowsTo l l.length)
  have e : (rowsTo l l.length).length = nP m := by
    rw [hl]
    have h0 := h.m.1
    unfold nP
    have : m = 1 ∨ m = 2 ∨ m = 3 ∨ m = 4 ∨ m = 5 := by omega
    rcases this with rfl | rfl | rfl | rfl | rfl <;> omega
  rw [e] at h2
  exact h2

def dI (D : Bf.Fd (List Int)) (l : List Int) : Int := match Bf.dst D l with | some d => (d : Int) | none => -1
namespace Bf
theorem dst_snoc {α : Type} [DecidableEq α] (D : Fd α) (x l : α) (e : Nat) (hx : x ∉ D.map Prod.fst) : dst (D ++ [(x, e)]) l = if l = x then some e else dst D l := by
  by_cases h : l = x
  · subst h
    rw [if_pos rfl]
    unfold dst
    rw [List.find?_append]
    have : D.find? (fun p => p.1 == l) = none := by
      rw [List.find?_eq_none]
      intro p hp e2
      exact hx (List.mem_map.2 ⟨p, hp, by simpa using e2⟩)
    rw [this]
    simp
  · rw [if_neg h]
    unfold dst
    rw [List.find?_append]
    have h3 : ¬ (x = l) := fun e => h e.symm
    have h2 : [(x, e)].find? (fun p : α × Nat => p.1 == l) = none := by simp [h3]
    rw [h2]
    simp
theorem dst_one {α : Type} [DecidableEq α] (u l : α) (e : Nat) : dst [(u, e)] l = if l = u then some e else none := by
  have := dst_snoc [] u l e (by simp)
  simpa [dst] using this
end Bf
structure Dis (m : Nat) (D : Bf.Fd (List Int)) (xs : List Int) : Prop where
  len : xs.length = nN m
  at_ : ∀ l, Ok (m : Int) l → xs.getD (numL l) 0 = dI D l
theorem getD_setI (xs : List Int) (i k : Nat) (v : Int) (h : i < xs.length) : (xs.set i v).getD k 0 = if i = k then v else xs.getD k 0 := by
  rw [List.getD_eq_getElem?_getD, List.getElem?_set]
  split
  · rename_i e; subst e; simp
  · rw [List.getD_eq_getElem?_getD]
theorem dis_start {m : Nat} (h5 : m ≤ 5) {u : List Int} (hu : Ok (m : Int) u) : Dis m (up u 0) ((List.replicate (nN m) (-1)).set (numL u) 0) := by
  have hlt := numL_lt hu h5
  refine ⟨by simp, fun l hl => ?_⟩
  rw [getD_setI _ _ _ _ (by simpa using hlt)]
  have e : up u 0 = [(u, 0)] := rfl
  unfold dI
  rw [e, Bf.dst_one]
  by_cases h : l = u
  · subst h; simp
  · have h2 : numL u ≠ numL l := fun e => h (numL_inj hu hl e).symm
    rw [if_neg h2, if_neg h]
    have h4 := numL_lt hl h5
    simp [List.getD_eq_getElem?_getD, h4]
theorem Dis.put {m : Nat} (h5 : m ≤ 5) {D : Bf.Fd (List Int)} {xs : List Int} (h : Dis m D xs) {x : List Int} (hx : Ok (m : Int) x) (hn : x ∉ D.map Prod.fst) (e : Nat) : Dis m (D ++ [(x, e)]) (xs.set (numL x) (e : Int)) := by
  have hlt := numL_lt hx h5
  refine ⟨by simp [h.len], fun l hl => ?_⟩
  rw [getD_setI _ _ _ _ (by rw [h.len]; exact hlt)]
  unfold dI
  rw [Bf.dst_snoc D x l e hn]
  by_cases h1 : l = x
  · subst h1; simp
  · have h2 : numL x ≠ numL l := fun e => h1 (numL_inj hx hl e).symm
    rw [if_neg h2, if_neg h1]
    exact h.at_ l hl
theorem dI_neg {D : Bf.Fd (List Int)} {l : List Int} : decide (dI D l < 0) = decide (l ∉ D.map Prod.fst) := by
  unfold dI
  cases h : Bf.dst D l with
  | none =>
    have := Bf.dst_none.1 h
    simp [this]
  | some d =>
    have : l ∈ D.map Prod.fst := by
      rcases Classical.em (l ∈ D.map Prod.fst) with h1 | h1
      · exact h1
      · rw [Bf.dst_none.2 h1] at h; cases h
    simp only [this, not_true_eq_false, decide_false]
    rw [decide_eq_false_iff_not]; omega

/-- The cells of a row of tours. -/
def cellsQ (m : Nat) (Q : List (Option Addr × Nat)) : List Value := Q.flatMap fun q => [.int .i64 (m : Int), .slice q.1 m q.2]
theorem cellsQ_len (m : Nat) (Q : List (Option Addr × Nat)) : (cellsQ m Q).length = Q.length * 2 := by
  induction Q with
  | nil => rfl
  | cons q Q ih =>
    unfold cellsQ at ih ⊢
    rw [List.flatMap_cons, List.length_append, ih, List.length_cons]; simp; omega
theorem cellsQ_snoc (m : Nat) (Q : List (Option Addr × Nat)) (q : Option Addr × Nat) : cellsQ m (Q ++ [q]) = cellsQ m Q ++ [.int .i64 (m : Int), .slice q.1 m q.2] := by simp [cellsQ]
theorem cellsQ_at (m : Nat) (Q : List (Option Addr × Nat)) (i : Nat) (q : Option Addr × Nat) (h : Q[i]? = some q) : (cellsQ m Q)[i * 2]? = some (.int .i64 (m : Int)) ∧ (cellsQ m Q)[i * 2 + 1]? = some (.slice q.1 m q.2) := by
  induction Q generalizing i with
  | nil => simp at h
  | cons p Q ih =>
    have e : cellsQ m (p :: Q) = .int .i64 (m : Int) :: .slice p.1 m p.2 :: cellsQ m Q := by unfold cellsQ; rw [List.flatMap_cons]; rfl
    rw [e]
    cases i with
    | zero => simp at h; subst h; exact ⟨rfl, rfl⟩
    | succ i =>
      have h2 : Q[i]? = some q := by simpa using h
      obtain ⟨a, b⟩ := ih i h2
      rw [show (i + 1) * 2 = i * 2 + 1 + 1 from by omega]
      exact ⟨by simpa using a, by simpa using b⟩
/-- A row that lies below a bound, or that the call owns beside another one. -/
def RowAt (w W : World) (B : Nat) (bo : Option Nat) (a : Option Addr) (l : List Int) : Prop :=
  IntRow w a l ∨ ∃ c, W.ownsRow B 3 1 (.slice a l.length c) l.length (l.map iv) ∧ ∀ k, blk a = some k → bo ≠ some k
theorem RowAt.row {w W : World} {B : Nat} {bo : Option Nat} {a : Option Addr} {l : List Int} (h : RowAt w W B bo a l) (hb : Below w.heap.size w W) : IntRow W a l := by
  rcases h with h | ⟨c, h, _⟩
  · exact h.below hb (Nat.le_refl _)
  · exact own_int h
theorem RowAt.grown {w W W2 : World} {B : Nat} {bo row : Option Nat} {a : Option Addr} {l : List Int} (h : RowAt w W B bo a l) (hg : W.grownBy W2 row) (hr : ∀ k c, row = some k → W.ownsRow B 3 1 (.slice a l.length c) l.length (l.map iv) → blk a = some k → bo = some k) : RowAt w W2 B bo a l := by
  rcases h with h | ⟨c, h, hne⟩
  · exact .inl h
  · refine .inr ⟨c, own_grE h hg (fun k hk e => ?_), hne⟩
    exact hne k hk (hr k c e h hk)
/-- What the search holds of the memory. -/
structure Sd (w W : World) (B m : Nat) (go co : Nat) (al : Option Addr) (cl : Nat) (D : Bf.Fd (List Int)) (Q : List (Option Addr × Nat)) (xs : List Int) : Prop where
  hb : Below w.heap.size w W
  sB : B ≤ W.heap.size
  lB : w.heap.size ≤ B
  out : W.ownsRow B 3 1 (.slice (some ⟨go, 0, none⟩) (nN m) co) (nN m) (xs.map iv)
  lst : W.ownsRow B 27 2 (.slice al D.length cl) D.length (cellsQ m Q)
  ql : Q.length = D.length
  rows : ∀ (i : Nat) (p : List Int × Nat) (q : Option Addr × Nat), D[i]? = some p → Q[i]? = some q → RowAt w W B (some go) q.1 p.1
  dis : Dis m D xs
section
variable {w W W2 : World} {B m go co : Nat} {al : Option Addr} {cl : Nat} {D : Bf.Fd (List Int)} {Q : List (Option Addr × Nat)} {xs : List Int}
theorem Sd.below (h : Sd w W B m go co al cl D Q xs) (hb : Below W.heap.size W W2) : Sd w W2 B m go co al cl D Q xs :=
  ⟨h.hb.trans (hb.mono h.hb.size), Nat.le_trans h.sB hb.size, h.lB, own_below h.out hb, own_below h.lst hb, h.ql, fun i p q hp hq => (h.rows i p q hp hq).grown (grown_of_below hb) (fun k c e => by cases e), h.dis⟩
end
end Go.Proofs.YtgdejippddcekaaDoor
