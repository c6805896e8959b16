/-
  Chapter 8's functions of the program over valid tours, as the law 'FnKings' calls them. Condition: the tour is valid.
-/
import Derived.Test.YtgjogbihadiojaaUs
import Derived.Test.YtgjogbihadiojaaU9
import Derived.Test.YtgjogbihadiojaaU5
import Derived.Test.YtgjogbihadiojaaUq
import Derived.Test.YtgjogbihadiojaaVF
namespace Go.Proofs.Ytgjogbihadiojaa
open Go.ChangeShapes Go.WideShapes Go.ChangeAt Go.RowKit
set_option linter.unusedVariables false

section
variable {m : Nat} {l : List Int}
theorem Vt.okm (h : Vt m l) : Ok (m : Int) l := by obtain ⟨hok, rfl⟩ := h; exact hok
theorem Vt.va (h : Vt m l) : Kk.Va (ww l) m := by obtain ⟨hok, rfl⟩ := h; exact okVa hok
theorem Vt.okb (h : Vt m l) : okB (m : Int) l = true := okB_iff.2 h.okm
theorem plm {i : Nat} (hi : i < m) : pl (m : Int) (i : Int) = true := pl_iff.2 ⟨by omega, by omega⟩
/-- One player covers another one. -/
def cvB (l : List Int) (c a : Nat) : Bool := (ww l c).testBit a && (an (ww l a) (ww l c) == 0)
theorem cv_iff (h : Vt m l) {c a : Nat} (hc : c < m) (ha : a < m) : cvB l c a = true ↔ Kk.Cov (ww l) c a := by
  have hv := h.va
  have h8 : ∀ x, x < m → ww l x < 256 := fun x hx => pow256 hv.le (hv.lt x hx)
  unfold cvB Kk.Cov
  rw [Bool.and_eq_true, beq_iff_eq, an_zero (h8 a ha) (h8 c hc)]
/-- Whether one of the first k covers a player. -/
def cvTo (l : List Int) (a : Nat) : Nat → Bool
  | 0 => false
  | k + 1 => cvTo l a k || cvB l k a
theorem cvTo_iff (l : List Int) (a : Nat) : ∀ k, cvTo l a k = true ↔ ∃ c, c < k ∧ cvB l c a = true
  | 0 => ⟨fun h => (by cases h), fun ⟨c, h, _⟩ => absurd h (Nat.not_lt_zero _)⟩
  | k + 1 => by
    simp only [cvTo, Bool.or_eq_true]
    rw [cvTo_iff l a k]
    constructor
    · rintro (⟨c, h1, h2⟩ | h)
      · exact ⟨c, by omega, h2⟩
      · exact ⟨k, by omega, h⟩
    · rintro ⟨c, h1, h2⟩
      rcases Nat.lt_or_ge c k with g | g
      · exact .inl ⟨c, g, h2⟩
      · obtain rfl : c = k := by omega
        exact .inr h2
theorem cvTo_king (h : Vt m l) {a : Nat} (ha : a < m) : cvTo l a m = !Kk.kingN (ww l) m a := by
  have h1 := Kk.king_cov h.va ha
  have h2 := cvTo_iff l a m
  cases e : Kk.kingN (ww l) m a
  · obtain ⟨j, hj, hc⟩ := h1.1 e
    exact h2.2 ⟨j, hj, (cv_iff h hj ha).2 hc⟩
  · cases e2 : cvTo l a m
    · rfl
    · obtain ⟨j, hj, hc⟩ := h2.1 e2
      rw [h1.2 ⟨j, hj, (cv_iff h hj ha).1 hc⟩] at e; cases e
theorem k_kings (a : Option Addr) (ct : Nat) (W : World) (h : Vt m l) (hr : IntRow W a l) :
    Calls Try.prog 27 #[.agg #[.int .i64 (m : Int), .slice a m ct]] W fun e W' => e = .returned (.int .i64 ((Kk.kings (ww l) m : Nat) : Int)) ∧ Below W.heap.size W W' := by
  have h1 := h.okb; have h2 := h.max
  obtain ⟨hok, rfl⟩ := h
  have h3 := implKingsOf (l.length : Int) a l ct W hr h2
  rw [show kingsR (l.length : Int) l = ((Kk.kings (ww l) l.length : Nat) : Int) by unfold kingsR; rw [h1]; rfl] at h3
  exact h3
theorem k_sov (a : Option Addr) (ct : Nat) (W : World) (h : Vt m l) (hr : IntRow W a l) :
    Calls Try.prog 28 #[.agg #[.int .i64 (m : Int), .slice a m ct]] W fun e W' => e = .returned (.int .i64 (sovR (m : Int) l)) ∧ Below W.heap.size W W' := by
  have h2 := h.max
  obtain ⟨hok, rfl⟩ := h
  exact implSovereign (l.length : Int) a l ct W hr h2
theorem k_banks (a : Option Addr) (ct : Nat) (W : World) (h : Vt m l) (hr : IntRow W a l) :
    Calls Try.prog 29 #[.agg #[.int .i64 (m : Int), .slice a m ct]] W fun e W' => e = .returned (.int .i64 ((banksTo l (2 ^ m) : Nat) : Int)) ∧ Below W.heap.size W W' := by
  have h1 := h.okb; have h2 := h.max
  obtain ⟨hok, rfl⟩ := h
  have h3 := implBanks (l.length : Int) a l ct W hr h2
  rw [show banksR (l.length : Int) l = ((banksTo l (2 ^ l.length) : Nat) : Int) by unfold banksR; rw [h1]; rfl] at h3
  exact h3
theorem k_score (a : Option Addr) (ct i : Nat) (W : World) (h : Vt m l) (hr : IntRow W a l) (hi : i < m) :
    Calls Try.prog 31 #[.agg #[.int .i64 (m : Int), .slice a m ct], .int .i64 (i : Int)] W fun e W' => e = .returned (.int .i64 ((pc (ww l i) : Nat) : Int)) ∧ Below W.heap.size W W' := by
  have h1 := h.okb; have h2 := h.max; have h3 := plm hi
  obtain ⟨hok, rfl⟩ := h
  have h4 := implScoreOf (l.length : Int) a l ct (i : Int) W hr h2
  rw [show scoreR (l.length : Int) l (i : Int) = ((pc (ww l i) : Nat) : Int) by unfold scoreR; rw [h1, h3]; rfl] at h4
  exact h4
theorem k_beat (a : Option Addr) (ct i j : Nat) (W : World) (h : Vt m l) (hr : IntRow W a l) (hi : i < m) (hj : j < m) :
    Calls Try.prog 36 #[.agg #[.int .i64 (m : Int), .slice a m ct], .int .i64 (i : Int), .int .i64 (j : Int)] W fun e W' => e = .returned (.bool ((ww l i).testBit j)) ∧ Below W.heap.size W W' := by
  have h1 := h.okb; have h2 := h.max; have h3 := plm hi; have h4 := plm hj
  obtain ⟨hok, rfl⟩ := h
  have h5 := implDoesBeat (l.length : Int) a l ct (i : Int) (j : Int) W hr h2
  rw [show dbB (l.length : Int) l (i : Int) (j : Int) = (ww l i).testBit j by unfold dbB; rw [h1, h3, h4]; exact bit_wwU hok hi] at h5
  exact h5
theorem k_cov (a : Option Addr) (ct i j : Nat) (W : World) (h : Vt m l) (hr : IntRow W a l) (hi : i < m) (hj : j < m) :
    Calls Try.prog 32 #[.agg #[.int .i64 (m : Int), .slice a m ct], .int .i64 (i : Int), .int .i64 (j : Int)] W fun e W' => e = .returned (.bool (cvB l i j)) ∧ Below W.heap.size W W' := by
  have h1 := h.okb; have h2 := h.max; have h3 := plm hi; have h4 := plm hj
  obtain ⟨hok, rfl⟩ := h
  have h5 := implDoesCover (l.length : Int) a l ct (i : Int) (j : Int) W hr h2
  have e1 : dbB (l.length : Int) l (i : Int) (j : Int) = (ww l i).testBit j := by unfold dbB; rw [h1, h3, h4]; exact bit_wwU hok hi
  have e2 : allOf (l.getD (j : Int).toNat 0) (l.getD (i : Int).toNat 0) = (an (ww l j) (ww l i) == 0) := by
    show allOf (l.getD j 0) (l.getD i 0) = _
    unfold allOf
    rw [(hok.ww hj).1, (hok.ww hi).1, andNot256 _ _ (hok.ww hj).2.2 (hok.ww hi).2.2, Bool.eq_iff_iff, beq_iff_eq, beq_iff_eq]
    omega
  rw [show covR (l.length : Int) l (i : Int) (j : Int) = cvB l i j by unfold covR cvB; rw [e1, e2]] at h5
  exact h5
theorem k_king (a : Option Addr) (ct i : Nat) (W : World) (h : Vt m l) (hr : IntRow W a l) (hi : i < m) :
    Calls Try.prog 35 #[.agg #[.int .i64 (m : Int), .slice a m ct], .int .i64 (i : Int)] W fun e W' => e = .returned (.bool (Kk.kingN (ww l) m i)) ∧ Below W.heap.size W W' := by
  have h1 := h.okb; have h2 := h.max; have h3 := plm hi
  obtain ⟨hok, rfl⟩ := h
  have h4 := implIsKing (l.length : Int) a l ct (i : Int) W hr h2
  rw [show kingR (l.length : Int) l (i : Int) = Kk.kingN (ww l) l.length i by unfold kingR; rw [h1, h3]; rfl] at h4
  exact h4
theorem k_step (a : Option Addr) (ct i : Nat) (W : World) (h : Vt m l) (hr : IntRow W a l) (hi : i < m) :
    Calls Try.prog 34 #[.agg #[.int .i64 (m : Int), .slice a m ct], .int .i64 (i : Int)] W fun e W' => e = .returned (.int .i64 ((Kk.step (ww l) m i : Nat) : Int)) ∧ Below W.heap.size W W' := by
  have h1 := h.okb; have h2 := h.max; have h3 := plm hi
  obtain ⟨hok, rfl⟩ := h
  have h4 := implStep (l.length : Int) a l ct (i : Int) W hr h2
  rw [show stepR (l.length : Int) l (i : Int) = ((Kk.step (ww l) l.length i : Nat) : Int) by unfold stepR; rw [h1, h3]; rfl] at h4
  exact h4
theorem k_climb (a : Option Addr) (ct i : Nat) (W : World) (h : Vt m l) (hr : IntRow W a l) (hi : i < m) :
    Calls Try.prog 33 #[.agg #[.int .i64 (m : Int), .slice a m ct], .int .i64 (i : Int)] W fun e W' => e = .returned (.int .i64 ((Kk.climb (ww l) m i : Nat) : Int)) ∧ Below W.heap.size W W' := by
  have h1 := h.okb; have h2 := h.max; have h3 := plm hi
  obtain ⟨hok, rfl⟩ := h
  have h4 := implClimb (l.length : Int) a l ct (i : Int) W hr h2
  rw [show climbR (l.length : Int) l (i : Int) = ((Kk.climb (ww l) l.length i : Nat) : Int) by unfold climbR; rw [h1, h3]; rfl] at h4
  exact h4
theorem k_least (a : Option Addr) (ct : Nat) (W : World) (h : Vt m l) (hr : IntRow W a l) :
    Calls Try.prog 37 #[.agg #[.int .i64 (m : Int), .slice a m ct]] W fun e W' => e = .returned (.int .i64 ((Kk.least (ww l) m : Nat) : Int)) ∧ Below W.heap.size W W' := by
  have h1 := h.okb; have h2 := h.max
  obtain ⟨hok, rfl⟩ := h
  have h3 := implLeast (l.length : Int) a l ct W hr h2
  rw [show leastR (l.length : Int) l = ((Kk.least (ww l) l.length : Nat) : Int) by unfold leastR; rw [h1]; rfl] at h3
  exact h3
theorem k_dom (a : Option Addr) (ct x : Nat) (W : World) (h : Vt m l) (hr : IntRow W a l) (hx : x < 2 ^ m) :
    Calls Try.prog 38 #[.agg #[.int .i64 (m : Int), .slice a m ct], .int .i64 (x : Int)] W fun e W' => e = .returned (.bool (Kk.domN (ww l) m x)) ∧ Below W.heap.size W W' := by
  have h1 := h.okb; have h2 := h.max
  obtain ⟨hok, rfl⟩ := h
  have h3 : inSet (x : Int) l.length = true := by unfold inSet; simp only [Bool.and_eq_true, decide_eq_true_eq]; omega
  have h4 := implIsDominating (l.length : Int) a l ct (x : Int) W hr h2
  rw [show domR (l.length : Int) l (x : Int) = Kk.domN (ww l) l.length x by unfold domR; rw [h1, h3]; rfl] at h4
  exact h4
theorem k_count (n k : Nat) (W : World) (h1 : 1 ≤ n) (h5 : n ≤ 5) (hk : k ≤ n) :
    Calls Try.prog 40 #[.int .i64 (n : Int), .int .i64 (k : Int)] W fun e W' => e = .returned (.int .i64 ((cntK tourL n k : Nat) : Int)) ∧ Below W.heap.size W W' := by
  have h := implCountKings (n : Int) (k : Int) W
  rw [cntR_yes h1 h5 hk] at h
  exact h
theorem sm_le (g : Nat → Nat) : ∀ {i j : Nat}, i ≤ j → sm g i ≤ sm g j
  | i, 0, h => by obtain rfl : i = 0 := (by omega); exact Nat.le_refl _
  | i, j + 1, h => by
    rcases Nat.lt_or_ge i (j + 1) with g1 | g1
    · have := sm_le g (i := i) (j := j) (by omega)
      simp only [sm]; omega
    · obtain rfl : i = j + 1 := (by omega)
      exact Nat.le_refl _
end
end Go.Proofs.Ytgjogbihadiojaa
