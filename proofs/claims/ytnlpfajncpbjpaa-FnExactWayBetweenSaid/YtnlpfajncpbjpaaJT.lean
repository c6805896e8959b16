/-
  'FirstFullWay' of both, in the law's words. No conditions but the bounds that Go gives a slice.
-/
import Derived.Test.YtnlpfajncpbjpaaJS
namespace Go.Proofs.Ytnlpfajncpbjpaa
open Go.ChangeShapes Go.WideShapes Go.ChangeAt Go.RowKit
set_option linter.unusedVariables false

/-- The numbers that are answered. -/
def ofN (L : List Nat) : List Int := L.map Int.ofNat
theorem ofN_len (L : List Nat) : (ofN L).length = L.length := List.length_map _
theorem own_cut {W : World} {B n : Nat} {v : Value} {xs : List Value} (h : W.ownsRow B 3 1 v n xs) : ∃ a0 c0, v = .slice a0 n c0 := by
  rcases h.2 with ⟨rfl, h0⟩ | ⟨g, cap, cur, rfl, _⟩
  · exact ⟨none, 0, by rw [show n = 0 from h0]⟩
  · exact ⟨_, _, rfl⟩
theorem retR_row {w : World} {L : List Nat} {e : Ending} {w' : World} (h : RetR w L e w') : (∃ a0 c0, e = .returned (.slice a0 (ofN L).length c0) ∧ w'.ownsRow w.heap.size 3 1 (.slice a0 (ofN L).length c0) (ofN L).length ((ofN L).map iv)) ∧ Below w.heap.size w w' := by
  obtain ⟨⟨v, rfl, ho⟩, hb⟩ := h
  obtain ⟨a0, c0, rfl⟩ := own_cut ho
  refine ⟨⟨a0, c0, by rw [ofN_len], ?_⟩, hb⟩
  rw [ofN_len]
  unfold ofN
  rw [← nv_iv]
  exact ho
theorem ffR_le (n : Int) (l : List Int) : (ofN (ffR n l)).length ≤ 8 := by
  rw [ofN_len]
  unfold ffR
  split
  · rename_i hok
    have hk := okB_iff.1 hok
    cases h : (Hw.full (ww l) l.length).head? with
    | none => simp
    | some x =>
      obtain ⟨q, hq, hx⟩ := List.mem_flatMap.1 (List.mem_of_head? h)
      have := ways_at hk (List.mem_range.1 hq) hx
      have h1 := hk.2.1
      have h2 := hk.2.2.1
      simp only [Option.getD_some]
      omega
  · simp
theorem implFFW (n : Int) (a : Option Addr) (l : List Int) (cap : Nat) (w : World) (hrow : IntRow w a l) (hl : l.length ≤ maxLen) :
    Calls Try.prog 27 #[.agg #[.int .i64 n, .slice a l.length cap]] w fun e w' => (∃ a0 c0, e = .returned (.slice a0 (ofN (ffR n l)).length c0) ∧ w'.ownsRow w.heap.size 3 1 (.slice a0 (ofN (ffR n l)).length c0) (ofN (ffR n l)).length ((ofN (ffR n l)).map iv)) ∧ Below w.heap.size w w' :=
  (implFirstFullWay n a l cap w hrow hl).mono fun _ _ h => retR_row h
theorem specFFW (n : Int) (a : Option Addr) (l : List Int) (cap : Nat) (w : World) (hrow : IntRow w a l) (hl : l.length ≤ maxLen) :
    Calls Try.prog 48 #[.agg #[.int .i64 n, .slice a l.length cap]] w fun e w' => (∃ a0 c0, e = .returned (.slice a0 (ofN (ffR n l)).length c0) ∧ w'.ownsRow w.heap.size 3 1 (.slice a0 (ofN (ffR n l)).length c0) (ofN (ffR n l)).length ((ofN (ffR n l)).map iv)) ∧ Below w.heap.size w w' :=
  (specFirstFullWay n a l cap w hrow hl).mono fun _ _ h => retR_row h
end Go.Proofs.Ytnlpfajncpbjpaa
