/-
  'FnWays': chapter 7's functions of the program over valid tours, and what the law asks of their answers. Condition: the tour is valid.
-/
import Derived.Test.YtgjogbihadiojaaFWb
import Derived.Test.YtgjogbihadiojaaFWa
import Derived.Test.YtgjogbihadiojaaVQ
import Derived.Test.YtgjogbihadiojaaVI
import Derived.Test.YtgjogbihadiojaaVS
import Derived.Test.YtgjogbihadiojaaWc
namespace Go.Proofs.Ytgjogbihadiojaa
open Go.ChangeShapes Go.WideShapes Go.ChangeAt Go.RowKit
set_option linter.unusedVariables false

section
variable {m : Nat} {l : List Int}
theorem Vt.okw (h : Vt m l) : Ok (m : Int) l := by obtain ⟨hok, rfl⟩ := h; exact hok
theorem Vt.okbw (h : Vt m l) : okB (m : Int) l = true := okB_iff.2 h.okw
/-- The full way that is built, and the first one. -/
def wP (m : Nat) (l : List Int) : List Nat := Hw.fwL (ww l) m
def wF (m : Nat) (l : List Int) : List Nat := (Hw.full (ww l) m).head?.getD []
theorem Vt.tot (h : Vt m l) : Hw.Tot (ww l) m := fun a b ha hb hne h0 => by
  have h1 := h.tn a b ha hb hne
  unfold relW at h1
  rw [h0] at h1
  cases e : (ww l b).testBit a
  · rw [e] at h1; cases h1
  · rfl
theorem Vt.pfull (h : Vt m l) : wP m l ∈ Hw.full (ww l) m := Hw.fwL_full h.tot h.le.1 h.le.2
theorem Vt.fhead (h : Vt m l) : (Hw.full (ww l) m).head? = some (wF m l) := by
  have := Hw.full_ne h.tot h.le.1 h.le.2
  unfold wF
  cases e : Hw.full (ww l) m with
  | nil => exact absurd e this
  | cons x L => rfl
theorem Vt.ffull (h : Vt m l) : wF m l ∈ Hw.full (ww l) m := List.mem_of_head? h.fhead
theorem Vt.full_is (h : Vt m l) {w : List Nat} (hw : w ∈ Hw.full (ww l) m) : w.Nodup ∧ w.length = m ∧ (∀ x ∈ w, x < m) ∧ Hw.Way (ww l) w := by
  obtain ⟨h1, h2, h3, h4⟩ := (Ry.mem_full h.le.2 h.le.1 h.low).1 hw
  exact ⟨h1, h2, h3, Hw.way_iff.2 ⟨h1, (Ry.ch_iff w).2 h4⟩⟩
theorem nat_back (w : List Nat) : (w.map Int.ofNat).map Int.toNat = w := by
  rw [List.map_map]
  conv => rhs; rw [← List.map_id w]
  exact List.map_congr_left fun x _ => rfl
theorem Vt.good (h : Vt m l) {w : List Nat} (hw : w ∈ Hw.full (ww l) m) : Good l (w.map Int.ofNat) := by
  obtain ⟨_, _, h3, h4⟩ := h.full_is hw
  refine ⟨fun x hx => ?_, by rw [nat_back]; exact h4⟩
  obtain ⟨y, hy, rfl⟩ := List.mem_map.1 hx
  have := h3 y hy
  rw [h.2]
  exact ⟨Int.natCast_nonneg y, by show ((y : Nat) : Int) < (m : Int); omega⟩
theorem Vt.isway (h : Vt m l) {w : List Nat} (hw : w ∈ Hw.full (ww l) m) : isW (m : Int) l (w.map Int.ofNat) = true := isW_true ⟨h.okw, h.good hw⟩
theorem Vt.ispart (h : Vt m l) {w : List Nat} (hw : w ∈ Hw.full (ww l) m) (j : Nat) : isW (m : Int) l ((w.map Int.ofNat).take j) = true := isW_true ⟨h.okw, (h.good hw).take j⟩
theorem Vt.notway (h : Vt m l) {w : List Nat} (hw : w ∈ Hw.full (ww l) m) : isW (m : Int) l (w.map Int.ofNat ++ [((w.getD 0 0 : Nat) : Int)]) = false := by
  refine isW_false fun hg => ?_
  have h2 := hg.2.2.1
  obtain ⟨_, h3, _, _⟩ := h.full_is hw
  rw [List.map_append, nat_back] at h2
  have h4 := (List.nodup_append.1 h2).2.2 (w.getD 0 0) ?_ (w.getD 0 0) (by simp)
  · exact h4 rfl
  · have := h.le.1
    rw [List.getD_eq_getElem?_getD, List.getElem?_eq_getElem (by omega)]
    exact List.getElem_mem _
theorem Vt.nobef (h : Vt m l) : befB (wP m l) (wF m l) = false := by
  rcases Ry.full_first h.le.2 h.fhead h.pfull with e | e
  · rw [e]; exact befB_self _
  · exact befB_not e
/-- How many ways start at a player; the sum of the first k ones. -/
def cw (m : Nat) (l : List Int) (a : Nat) : Nat := (Hw.ways (ww l) (m : Int) a).length
def sw (m : Nat) (l : List Int) : Nat → Nat
  | 0 => 0
  | k + 1 => sw m l k + cw m l k
theorem sw_sum (m : Nat) (l : List Int) : ∀ k, ((List.range k).map fun a => (Hw.ways (ww l) (m : Int) a).length).sum = sw m l k
  | 0 => rfl
  | k + 1 => by
    rw [List.range_succ, List.map_append, List.sum_append, sw_sum m l k]
    simp [sw, cw]
theorem sw_le (m : Nat) (l : List Int) : ∀ k, sw m l k ≤ k * 2097152
  | 0 => Nat.le_refl _
  | k + 1 => by
    have h1 := sw_le m l k
    have h2 := Hw.ways_len (ww l) (m : Int) k
    simp only [sw, cw]; omega
theorem Vt.sw (h : Vt m l) : Go.Proofs.Ytgjogbihadiojaa.sw m l m = hNum l := by
  rw [← sw_sum, ← Ry.full_sum]
  unfold hNum
  rw [h.2]
theorem Vt.first_le (h : Vt m l) {a : Nat} (ha : a < m) (hc : 0 < cw m l a) : (wF m l).getD 0 0 ≤ a := by
  have h8 := h.le.2
  unfold cw at hc
  obtain ⟨w, hw⟩ := List.exists_mem_of_length_pos hc
  have hwf : w ∈ Hw.full (ww l) m := by
    unfold Hw.full
    exact List.mem_flatMap.2 ⟨a, List.mem_range.2 ha, hw⟩
  obtain ⟨_, _, _, q, hq⟩ := (Hw.ways_mem (by omega)).1 hw
  rcases Ry.full_first h.le.2 h.fhead hwf with e | ⟨p, b, c, u, v, e1, e2, hbc⟩
  · rw [← e, hq]; exact Nat.le_refl _
  · rw [hq] at e2
    cases p with
    | nil =>
      rw [e1]
      have : a = c := by simpa using (List.cons.inj e2).1
      show b ≤ a
      omega
    | cons x p =>
      rw [e1]
      have : a = x := (List.cons.inj e2).1
      show x ≤ a
      omega

/-! The calls. -/
theorem w_full (a : Option Addr) (ct : Nat) (W : World) (h : Vt m l) (hr : IntRow W a l) :
    Calls Try.prog 16 #[.agg #[.int .i64 (m : Int), .slice a m ct]] W fun e W' => (∃ g c, e = .returned (.slice (some ⟨g, 0, none⟩) m c) ∧ m ≤ c ∧ IntRow W' (some ⟨g, 0, none⟩) ((wP m l).map Int.ofNat)) ∧ Below W.heap.size W W' := by
  have h1 := h.okbw; have h2 := h.max; have h3 := h.le
  have hlen : (wP m l).length = m := Hw.fwL_len _ _
  obtain ⟨hok, rfl⟩ := h
  refine (implFullWay (l.length : Int) a l ct W hr h2).mono ?_
  rintro e W' ⟨⟨v, rfl, ho⟩, hb⟩
  rw [show fwR (l.length : Int) l = wP l.length l by unfold fwR wP; rw [h1]; rfl, hlen, nv_iv] at ho
  obtain ⟨Q, hQ⟩ : ∃ Q, Q = (wP l.length l).map Int.ofNat := ⟨_, rfl⟩
  have hQl : Q.length = l.length := by rw [hQ, List.length_map, hlen]
  rw [← hQ] at ho ⊢
  obtain ⟨k, hk⟩ : ∃ k, l.length = k + 1 := ⟨l.length - 1, by omega⟩
  refine ⟨?_, hb⟩
  rw [hk] at ho
  obtain ⟨g, c, rfl, _, _, hc⟩ := own_someE4 ho
  refine ⟨g, c, by rw [hk], by omega, ?_⟩
  have hl2 : Q.length = k + 1 := by rw [hQl, hk]
  have ho2 : W'.ownsRow W.heap.size 3 1 (.slice (some ⟨g, 0, none⟩) Q.length c) Q.length (Q.map iv) := by rw [hl2]; exact ho
  exact IntRow.of_own ho2
theorem w_first (a : Option Addr) (ct : Nat) (W : World) (h : Vt m l) (hr : IntRow W a l) :
    Calls Try.prog 17 #[.agg #[.int .i64 (m : Int), .slice a m ct]] W fun e W' => (∃ g c, e = .returned (.slice (some ⟨g, 0, none⟩) m c) ∧ IntRow W' (some ⟨g, 0, none⟩) ((wF m l).map Int.ofNat)) ∧ Below W.heap.size W W' := by
  have h1 := h.okbw; have h2 := h.max; have h3 := h.le
  have hlen : (wF m l).length = m := (h.full_is h.ffull).2.1
  obtain ⟨hok, rfl⟩ := h
  refine (implFirstFullWay (l.length : Int) a l ct W hr h2).mono ?_
  rintro e W' ⟨⟨v, rfl, ho⟩, hb⟩
  rw [show ffR (l.length : Int) l = wF l.length l by unfold ffR wF; rw [h1]; rfl, hlen, nv_iv] at ho
  obtain ⟨Q, hQ⟩ : ∃ Q, Q = (wF l.length l).map Int.ofNat := ⟨_, rfl⟩
  have hQl : Q.length = l.length := by rw [hQ, List.length_map, hlen]
  rw [← hQ] at ho ⊢
  obtain ⟨k, hk⟩ : ∃ k, l.length = k + 1 := ⟨l.length - 1, by omega⟩
  refine ⟨?_, hb⟩
  rw [hk] at ho
  obtain ⟨g, c, rfl, _, _, hc⟩ := own_someE4 ho
  refine ⟨g, c, by rw [hk], ?_⟩
  have hl2 : Q.length = k + 1 := by rw [hQl, hk]
  have ho2 : W'.ownsRow W.heap.size 3 1 (.slice (some ⟨g, 0, none⟩) Q.length c) Q.length (Q.map iv) := by rw [hl2]; exact ho
  exact IntRow.of_own ho2
theorem w_count (a : Option Addr) (ct : Nat) (W : World) (h : Vt m l) (hr : IntRow W a l) :
    Calls Try.prog 18 #[.agg #[.int .i64 (m : Int), .slice a m ct]] W fun e W' => e = .returned (.int .i64 ((hNum l : Nat) : Int)) ∧ Below W.heap.size W W' := by
  have h1 := h.okbw; have h2 := h.max
  obtain ⟨hok, rfl⟩ := h
  have h3 := implCountFullWays (l.length : Int) a l ct W hr h2
  rw [show cfR (l.length : Int) l = ((hNum l : Nat) : Int) by unfold cfR hNum; rw [h1]; rfl] at h3
  exact h3
theorem w_from (a : Option Addr) (ct i : Nat) (W : World) (h : Vt m l) (hr : IntRow W a l) (hi : i < m) :
    Calls Try.prog 19 #[.agg #[.int .i64 (m : Int), .slice a m ct], .int .i64 (i : Int)] W fun e W' => e = .returned (.int .i64 ((cw m l i : Nat) : Int)) ∧ Below W.heap.size W W' := by
  have h1 := h.okbw; have h2 := h.max
  have h3 : pl (m : Int) (i : Int) = true := pl_iff.2 ⟨by omega, by omega⟩
  obtain ⟨hok, rfl⟩ := h
  have h4 := implCountWaysFrom (l.length : Int) a l ct (i : Int) W hr h2
  rw [show cwR (l.length : Int) l (i : Int) = ((cw l.length l i : Nat) : Int) by unfold cwR cw; rw [h1, h3]; rfl] at h4
  exact h4
theorem w_cycles (a : Option Addr) (ct : Nat) (W : World) (h : Vt m l) (hr : IntRow W a l) :
    Calls Try.prog 25 #[.agg #[.int .i64 (m : Int), .slice a m ct]] W fun e W' => e = .returned (.int .i64 ((cNum l : Nat) : Int)) ∧ Below W.heap.size W W' := by
  have h1 := h.okbw; have h2 := h.max
  obtain ⟨hok, rfl⟩ := h
  have h3 := implCountFullCycles (l.length : Int) a l ct W hr h2
  rw [show ccR (l.length : Int) l = ((cNum l : Nat) : Int) by unfold ccR cNum; rw [h1]; rfl] at h3
  exact h3
theorem w_strong (a : Option Addr) (ct : Nat) (W : World) (h : Vt m l) (hr : IntRow W a l) (h3 : 3 ≤ m) :
    Calls Try.prog 26 #[.agg #[.int .i64 (m : Int), .slice a m ct]] W fun e W' => e = .returned (.bool (decide (0 < cNum l))) ∧ Below W.heap.size W W' := by
  have h1 := h.okbw; have h2 := h.max
  have hc := h.camion h3
  obtain ⟨hok, rfl⟩ := h
  have h4 := implStrong (l.length : Int) a l ct W hr h2
  rw [show isB9 (l.length : Int) l = decide (0 < cNum l) by
    unfold isB9 stB9
    rw [h1, Bool.true_and, Bool.eq_iff_iff, decide_eq_true_iff, decide_eq_true_iff]
    exact hc.symm] at h4
  exact h4
theorem w_isway (a : Option Addr) (ct : Nat) (an : Option Addr) (L : List Int) (cn k : Nat) (W : World) (h : Vt m l) (hr : IntRow W a l) (hn : IntRow W an L) (hk : L.length = k) (hk9 : k ≤ 100) :
    Calls Try.prog 23 #[.agg #[.int .i64 (m : Int), .slice a m ct], .slice an k cn] W fun e W' => e = .returned (.bool (isW (m : Int) l L)) ∧ Below W.heap.size W W' := by
  have h2 := h.max
  obtain ⟨hok, rfl⟩ := h
  subst hk
  exact implIsWay (l.length : Int) a l ct an L cn W hr h2 hn (by unfold maxLen; omega)
end
end Go.Proofs.Ytgjogbihadiojaa
