/-
  'FnExactTourOk': the program's TourOk answers as the model's for every tour, and leaves it as it was. No conditions. Also both 'DoesBeat'.
-/
import Derived.Test.YteiadhfjpohmdaaB
import Derived.Lib.SmallJoins
import Derived.Deep.RegionWith
namespace Go.Proofs.Yteiadhfjpohmdaa
open Go.ChangeShapes Go.WideShapes Go.ChangeAt Go.RowKit
set_option linter.unusedVariables false

section
variable {H : Type} {enc : TypeId × Value → H} {w : World} {base : Nat} {spare : Nat → Bool} {held : Bool}
theorem rowOf {fuel : Nat} {v : Value} {y : DataW H × List MemPlace} (h : DataW.trod enc Try.prog w base spare held fuel 22 [v] = some y) :
    ∃ a cap l, v = .slice a l.length cap ∧ l.length ≤ maxLen ∧ IntRow w a l := by
  rcases open_ints Try.underlying22 Try.underlying3 (by kernel_rfl) h with ⟨hcs, _⟩ | ⟨x, n, c, zs, hcs, _, hl, hm, hz, _, hcell, _⟩
  · simp only [List.cons.injEq, and_true] at hcs
    exact ⟨none, 0, [], hcs, by simp, .inl rfl⟩
  · simp only [List.cons.injEq, and_true] at hcs
    have hge : n ≤ zs.length := by rw [hz]; split <;> omega
    have hle : (zs.take n).length = n := by simp; omega
    refine ⟨some x, c, zs.take n, by rw [hle]; exact hcs, by omega, ?_⟩
    by_cases h0 : n = 0
    · subst h0; exact .inl rfl
    · obtain ⟨b, off, spot⟩ := x
      have hspot : spot = none := by simpa [Addr.add] using World.cell?_spot (hcell 0 (by omega))
      subst hspot
      have hb : b < w.heap.size := by
        have := hcell 0 (by omega)
        rcases Nat.lt_or_ge b w.heap.size with h' | h'
        · exact h'
        · simp [World.cell?, Addr.add, Array.getElem?_eq_none h'] at this
      refine .inr ⟨b, off, rfl, hb, fun j hj => ?_⟩
      have := hcell j (by omega)
      rw [show (zs.take n).getD j 0 = zs.getD j 0 by
        rw [List.getD_eq_getElem?_getD, List.getD_eq_getElem?_getD, List.getElem?_take, if_pos (by omega)]]
      by_cases hj0 : j = 0
      · subst hj0; simpa [Addr.add] using this
      · simpa [Addr.add, hj0] using this
set_option maxRecDepth 100000 in
/-- A tour that came in. -/
theorem openTour {r : Reach} {b0 : Nat} {v : Value} {d : DataW H} {p : List MemPlace} (hv : Value.okWide Try.prog w r b0 35 v) (h : DataW.Trod enc Try.prog w base spare held 35 v d p) :
    ∃ n a cap l, v = .agg #[.int .i64 n, .slice a l.length cap] ∧ (l : List Int).length ≤ maxLen ∧ IntRow w a l := by
  obtain ⟨v0, v1, y0, y1, m, rfl, rfl, rfl, h0, h1⟩ := Go.Joins.open_agg2 Try.underlying35 (by kernel_rfl) (by kernel_rfl) hv h
  obtain ⟨n, hn, _, _⟩ := DataW.trod_int Try.underlying3 h0
  obtain ⟨a, cap, l, rfl, hl, hr⟩ := rowOf h1
  simp only [List.cons.injEq, and_true] at hn
  subst hn
  exact ⟨n, a, cap, l, rfl, hl, hr⟩
/-- A slice of numbers that came in. -/
theorem openInts {v : Value} {d : DataW H} {p : List MemPlace} (h : DataW.Trod enc Try.prog w base spare held 22 v d p) (hv : ∃ a n c, v = .slice a n c) :
    ∃ a cap l, v = .slice a (l : List Int).length cap ∧ l.length ≤ maxLen ∧ IntRow w a l := by
  obtain ⟨a, n, c, rfl⟩ := hv
  obtain ⟨fuel, h⟩ := h
  exact rowOf h
end

end Go.Proofs.Yteiadhfjpohmdaa

