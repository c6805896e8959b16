/-
  The orders with one more player at the end: what a world holds while the program makes them. No conditions else.
-/
import Derived.Test.YteegbkbphfmooaaQD
import Derived.Deep.RegionHeld3
namespace Go.Proofs.Yteegbkbphfmooaa
open Go.ChangeShapes Go.WideShapes Go.ChangeAt Go.RowKit Go.Sort
set_option linter.unusedVariables false

/-- What a map's entries are in memory. -/
def Ent (W : World) (B k : Nat) (M : Nat → Nat → Option Value) (P : Nat → Nat → Option (Nat × Nat × Nat)) : Prop :=
  ∀ s r, s < 256 → r ≤ 200 → (P s r = none → M s r = none) ∧ ∀ t, P s r = some t → ∃ a c, M s r = some (.agg #[.slice a k c, .int .i64 (t.2.1 : Int)]) ∧ RowG W B k a c t.2.2
section
variable {W W' : World} {B k : Nat} {M : Nat → Nat → Option Value} {P : Nat → Nat → Option (Nat × Nat × Nat)}
theorem Ent.below (h : Ent W B k M P) (hb : Below W.heap.size W W') : Ent W' B k M P := fun s r hs hr =>
  ⟨(h s r hs hr).1, fun t ht => by obtain ⟨a, c, h1, h2⟩ := (h s r hs hr).2 t ht; exact ⟨a, c, h1, h2.below hb⟩⟩
theorem Ent.mono {B' : Nat} (h : Ent W B k M P) (hB : B' ≤ B) : Ent W B' k M P := fun s r hs hr =>
  ⟨(h s r hs hr).1, fun t ht => by obtain ⟨a, c, h1, h2⟩ := (h s r hs hr).2 t ht; exact ⟨a, c, h1, h2.mono hB⟩⟩
theorem RowG.turn {a : Option Addr} {c v b : Nat} (h : RowG W B k a c v) (hg : W.grownBy W' (some b)) (hb : b < B) : RowG W' B k a c v := by
  refine h.grown hg fun j hj e => ?_
  have := (World.ownsRow.lt h j (by rw [blk_own]; exact hj)).1
  have e2 := Option.some.inj e
  omega
theorem Ent.turn {b : Nat} (h : Ent W B k M P) (hg : W.grownBy W' (some b)) (hb : b < B) : Ent W' B k M P := fun s r hs hr =>
  ⟨(h s r hs hr).1, fun t ht => by obtain ⟨a, c, h1, h2⟩ := (h s r hs hr).2 t ht; exact ⟨a, c, h1, h2.turn hg hb⟩⟩
theorem Ent.congr {P' : Nat → Nat → Option (Nat × Nat × Nat)} (h : Ent W B k M P) (he : ∀ s r, s < 256 → r ≤ 200 → P' s r = P s r) : Ent W B k M P' := fun s r hs hr => by
  rw [he s r hs hr]; exact h s r hs hr
theorem Ent.empty (h : ∀ s r, s < 256 → r ≤ 200 → P s r = none) : Ent W B k (fun _ _ => none) P := fun s r hs hr =>
  ⟨fun _ => rfl, fun t ht => by rw [h s r hs hr] at ht; cases ht⟩
theorem Ent.shape (h : Ent W B k M P) (s r : Nat) (v : Value) (hs : s < 256) (hr : r ≤ 200) (hm : M s r = some v) : ∃ a m c z, v = .agg #[.slice a m c, .int .i64 z] := by
  cases hp : P s r with
  | none => rw [(h s r hs hr).1 hp] at hm; cases hm
  | some t =>
    obtain ⟨a, c, h1, _⟩ := (h s r hs hr).2 t hp
    rw [h1] at hm
    exact ⟨a, k, c, _, (Option.some.inj hm).symm⟩
theorem Ent.some_iff (h : Ent W B k M P) {s r : Nat} (hs : s < 256) (hr : r ≤ 200) : (M s r).isSome = (P s r).isSome := by
  cases hp : P s r with
  | none => rw [(h s r hs hr).1 hp]; rfl
  | some t =>
    obtain ⟨a, c, h1, _⟩ := (h s r hs hr).2 t hp
    rw [h1]; rfl
theorem Ent.put {P' : Nat → Nat → Option (Nat × Nat × Nat)} (h : Ent W B k M P) {s r : Nat} {t : Nat × Nat × Nat} {a : Option Addr} {c : Nat} (hrow : RowG W B k a c t.2.2) (h1 : P' s r = some t) (h2 : ∀ s' r', s' < 256 → r' ≤ 200 → ¬ (s' = s ∧ r' = r) → P' s' r' = P s' r') :
    Ent W B k (fun s' r' => if s' = s ∧ r' = r then some (.agg #[.slice a k c, .int .i64 (t.2.1 : Int)]) else M s' r') P' := fun s' r' hs hr => by
  by_cases e : s' = s ∧ r' = r
  · simp only [if_pos e]
    obtain ⟨rfl, rfl⟩ := e
    rw [h1]
    refine ⟨fun h => (by cases h), fun t' ht => ?_⟩
    obtain rfl := Option.some.inj ht
    exact ⟨a, c, rfl, hrow⟩
  · simp only [if_neg e]
    rw [h2 s' r' hs hr e]
    exact h s' r' hs hr
theorem Ent.dw (h : Ent W B k M P) : Ent W B k (dw M) (dwT P) := fun s r hs hr => by
  have e : low M s r = (List.range r).any (fun j => (P s j).isSome) := by
    rw [Bool.eq_iff_iff, low_iff, low_iffA]
    constructor
    · rintro ⟨j, hj, hh⟩; exact ⟨j, hj, by rw [← h.some_iff hs (by omega)]; exact hh⟩
    · rintro ⟨j, hj, hh⟩; exact ⟨j, hj, by rw [h.some_iff hs (by omega)]; exact hh⟩
  unfold Go.Proofs.Yteegbkbphfmooaa.dw dwT
  rw [e]
  cases (List.range r).any (fun j => (P s j).isSome)
  · exact h s r hs hr
  · exact ⟨fun _ => rfl, fun t ht => by cases ht⟩
end

theorem below_grown {W W' : World} (h : Below W.heap.size W W') : W.grownBy W' none := ⟨h.os, h.tape, h.output, h.size, fun i hi _ => h.block i hi⟩
/-- The world while the orders are made longer: w as it was at the call. -/
structure LS (f : Nat → Nat → Bool) (m k : Nat) (a : Option Addr) (cap : Nat) (w W : World) (N : Nat) (Q : Nat → Nat → Bool) : Prop where
  below : Below w.heap.size w W
  tour : Box W w.heap.size 25 (.int .i64 (m : Int)) (.slice a m cap)
  out : ∃ n' D' M', n' ≤ N ∧ W.ownsMap Try.prog 108 RV (w.heap.size + 1) n' D' ∧ Vw D' M' ∧ Ent W (w.heap.size + 3) (k + 1) M' (Rv.EE f Q)
section
variable {f : Nat → Nat → Bool} {m k : Nat} {a : Option Addr} {cap : Nat} {w W W' : World} {N : Nat} {Q Q' : Nat → Nat → Bool}
theorem LS.on (h : LS f m k a cap w W N Q) (hb : Below W.heap.size W W') : LS f m k a cap w W' N Q := by
  obtain ⟨n', D', M', h1, h2, h3, h4⟩ := h.out
  exact ⟨h.below.trans (hb.mono h.below.size), h.tour.below hb h.tour.lt, n', D', M', h1, h2.kept (below_grown hb) (by simp), h3, h4.below hb⟩
theorem LS.turn (h : LS f m k a cap w W N Q) (hg : W.grownBy W' (some (w.heap.size + 2))) : LS f m k a cap w W' N Q := by
  obtain ⟨n', D', M', h1, h2, h3, h4⟩ := h.out
  refine ⟨h.below.grown hg h.below.size (fun j hj => by cases hj; omega), box_kept h.tour hg (by simp), n', D', M', h1, h2.kept hg (by simp), h3, h4.turn hg (by omega)⟩
theorem LS.congr (h : LS f m k a cap w W N Q) (he : ∀ s b, s < 256 → b < 8 → Q' s b = Q s b) : LS f m k a cap w W N Q' := by
  obtain ⟨n', D', M', h1, h2, h3, h4⟩ := h.out
  exact ⟨h.below, h.tour, n', D', M', h1, h2, h3, h4.congr fun s r hs hr => Rv.EE_congr he hs r⟩
theorem LS.more {N' : Nat} (h : LS f m k a cap w W N Q) (hN : N ≤ N') : LS f m k a cap w W N' Q := by
  obtain ⟨n', D', M', h1, h2⟩ := h.out
  exact ⟨h.below, h.tour, n', D', M', by omega, h2⟩
set_option maxRecDepth 100000 in
theorem LS.look (h : LS f m k a cap w W N Q) {s r : Nat} (hs : s < 256) (hr : r ≤ 200) : ∃ (g0 : Option (Option Addr × Nat × Nat)) (n1 : Nat),
    (Instr.lookup 109 (.map (some (w.heap.size + 1))) (.agg #[.int .i64 (s : Int), .int .i64 (r : Int)]) false).run Try.prog W = .ok (.agg #[g0v g0 (k + 1), .int .i64 (n1 : Int)]) W ∧
    (Rv.EE f Q s r = none → g0 = none ∧ n1 = 0) ∧ ∀ t, Rv.EE f Q s r = some t → n1 = t.2.1 ∧ ∃ ag cg, g0 = some (ag, cg, t.2.2) ∧ RowG W (w.heap.size + 3) (k + 1) ag cg t.2.2 := by
  obtain ⟨n', D', M', h1, h2, h3, h4⟩ := h.out
  have hl := look_any h2 h3 hs hr
  unfold KV at hl
  cases he : Rv.EE f Q s r with
  | none =>
    refine ⟨none, 0, ?_, fun _ => ⟨rfl, rfl⟩, fun t ht => by cases ht⟩
    rw [hl, (h4 s r hs hr).1 he]; rfl
  | some t =>
    obtain ⟨ag, cg, h5, h6⟩ := (h4 s r hs hr).2 t he
    refine ⟨some (ag, cg, t.2.2), t.2.1, ?_, fun hh => (by cases hh), fun t' ht => ?_⟩
    · rw [hl, h5]; rfl
    · obtain rfl := Option.some.inj ht
      exact ⟨rfl, ag, cg, rfl, h6⟩
set_option maxRecDepth 100000 in
theorem LS.store (h : LS f m k a cap w W N Q) (hN : N < 1000000000000) {s r : Nat} (hs : s < 256) (hr : r ≤ 200) {t : Nat × Nat × Nat} {ag : Option Addr} {cg : Nat} (hrow : RowG W (w.heap.size + 3) (k + 1) ag cg t.2.2)
    (h1 : Rv.EE f Q' s r = some t) (h2 : ∀ s' r', s' < 256 → r' ≤ 200 → ¬ (s' = s ∧ r' = r) → Rv.EE f Q' s' r' = Rv.EE f Q s' r') :
    ∃ W', (Instr.mapUpdate 109 (.map (some (w.heap.size + 1))) (.agg #[.int .i64 (s : Int), .int .i64 (r : Int)]) (.agg #[.slice ag (k + 1) cg, .int .i64 (t.2.1 : Int)])).run Try.prog W = .ok () W' ∧ LS f m k a cap w W' (N + 1) Q' ∧ W.grownBy W' (some (w.heap.size + 1)) := by
  obtain ⟨n', D', M', e1, e2, e3, e4⟩ := h.out
  obtain ⟨W', D2, hrun, hown, hv, hg⟩ := store_any e2 e3 (by unfold maxLen; omega) hs hr (.agg #[.slice ag (k + 1) cg, .int .i64 (t.2.1 : Int)])
  unfold KV at hrun
  refine ⟨W', hrun, ⟨h.below.grown hg h.below.size (fun j hj => by cases hj; omega), box_kept h.tour hg (by simp), n' + 1, D2, _, by omega, hown, hv, ?_⟩, hg⟩
  exact (e4.put hrow h1 h2).turn hg (by omega)
end
theorem Rg.cnt_le {W : World} {b r n : Nat} {M : Nat → Nat → Option Value} {L : Nat → Nat → Bool} {cnt : Nat} (h : Rg W b r n M L cnt) : cnt ≤ n := by
  obtain ⟨D, left, h1, _⟩ := h
  obtain ⟨es, clock, since, seen, c0, _, _, hs, _, _, _, hc, _⟩ := h1
  rw [← hc]
  exact Nat.le_trans (Array.size_filter_le ..) hs
theorem Rg.on {W W' : World} {b r n : Nat} {M : Nat → Nat → Option Value} {L : Nat → Nat → Bool} {cnt : Nat} (h : Rg W b r n M L cnt) (hb : Below W.heap.size W W') : Rg W' b r n M L cnt := h.kept (below_grown hb) (by simp) (by simp)
end Go.Proofs.Yteegbkbphfmooaa
