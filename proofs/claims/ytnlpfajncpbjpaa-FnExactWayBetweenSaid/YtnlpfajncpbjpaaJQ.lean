/-
  Marks among the deferred calls that rounds within a loop leave behind. No conditions but those named.
-/
import Derived.Test.YtnlpfajncpbjpaaJK
namespace Go.Proofs.Ytnlpfajncpbjpaa
open Go.ChangeShapes Go.WideShapes Go.ChangeAt Go.RowKit
set_option linter.unusedVariables false

/-- The marks of the ranges that are over: each block still bears an empty list. -/
structure Marks (B U : Nat) (ds : List Deferred) (W : World) : Prop where
  all : ∀ d ∈ ds, ∃ D, d = { target := .collected D, args := #[] } ∧ B ≤ D ∧ D < U ∧ W.heap[D]? = some (.deferred (some []))
  nd : ds.Pairwise (fun d e => ∀ D, d = { target := .collected D, args := #[] } → e ≠ { target := .collected D, args := #[] })
section
variable {B U : Nat} {ds : List Deferred} {W W2 : World}
theorem Marks.nil (B U : Nat) (W : World) : Marks B U [] W := ⟨by simp, List.Pairwise.nil⟩
theorem Marks.mono (h : Marks B U ds W) {U2 : Nat} (hU : U ≤ U2) : Marks B U2 ds W := ⟨fun d hd => by obtain ⟨D, h1, h2, h3, h4⟩ := h.all d hd; exact ⟨D, h1, h2, by omega, h4⟩, h.nd⟩
/-- A step that turns a block which is no such list. -/
theorem Marks.grown (h : Marks B U ds W) {row : Option Nat} (hg : W.grownBy W2 row) (hr : ∀ r, row = some r → W.heap[r]? ≠ some (.deferred (some []))) : Marks B U ds W2 := by
  refine ⟨fun d hd => ?_, h.nd⟩
  obtain ⟨D, h1, h2, h3, h4⟩ := h.all d hd
  exact ⟨D, h1, h2, h3, (hg.block D (Array.getElem?_eq_some_iff.1 h4).1 (fun e => hr D e.symm h4)).trans h4⟩
theorem Marks.below (h : Marks B U ds W) (hb : Below W.heap.size W W2) : Marks B U ds W2 := by
  refine ⟨fun d hd => ?_, h.nd⟩
  obtain ⟨D, h1, h2, h3, h4⟩ := h.all d hd
  exact ⟨D, h1, h2, h3, (hb.block D (Array.getElem?_eq_some_iff.1 h4).1).trans h4⟩
/-- What lies from U on may turn. -/
theorem Marks.beyond (h : Marks B U ds W) {row : Option Nat} (hg : W.grownBy W2 row) (hr : ∀ r, row = some r → U ≤ r) : Marks B U ds W2 := by
  refine ⟨fun d hd => ?_, h.nd⟩
  obtain ⟨D, h1, h2, h3, h4⟩ := h.all d hd
  exact ⟨D, h1, h2, h3, (hg.block D (Array.getElem?_eq_some_iff.1 h4).1 (fun e => by have := hr D e.symm; omega)).trans h4⟩
theorem Marks.cons (h : Marks B U ds W) {D : Nat} (hB : B ≤ D) (hU : U ≤ D) (hD : W.heap[D]? = some (.deferred (some []))) : Marks B (D + 1) ({ target := .collected D, args := #[] } :: ds) W := by
  refine ⟨fun d hd => ?_, List.Pairwise.cons (fun e he D2 h1 h2 => ?_) h.nd⟩
  · rcases List.mem_cons.1 hd with rfl | hd
    · exact ⟨D, rfl, hB, Nat.lt_succ_self D, hD⟩
    · obtain ⟨D2, h1, h2, h3, h4⟩ := h.all d hd
      exact ⟨D2, h1, h2, by omega, h4⟩
  · obtain ⟨D3, h3, _, h4, _⟩ := h.all e he
    rw [h3] at h2
    have e1 : D = D2 := by simpa using h1
    have e2 : D3 = D2 := by simpa using h2
    omega
end
/-- A function leaves through all its marks. -/
theorem leaves_marks {F : Fence} {n : Nat} {P : Program} {fn : Func} {tmps : Array Value} {R : Ending → World → Prop} {B U : Nat} {S : World → Prop}
    (hS : ∀ W D, B ≤ D → W.heap[D]? = some (.deferred (some [])) → S W → S (W.putObj D (.deferred none))) (hR : ∀ W, S W → LeavesInM F n P fn tmps R [] .returning W) :
    ∀ (ds : List Deferred) (W : World), Marks B U ds W → S W → LeavesInM F n P fn tmps R ds .returning W := by
  intro ds
  induction ds with
  | nil => exact fun W _ h => hR W h
  | cons d ds ih =>
    intro W hm hs
    obtain ⟨D, hd, hB, hU, hD⟩ := hm.all d (by simp)
    have hnd := List.pairwise_cons.1 hm.nd
    refine ⟨by simp, .inl ⟨D, W.putObj D (.deferred none), by rw [hd], run_takeDeferred hD, ih _ ⟨fun e he => ?_, hnd.2⟩ (hS W D hB hD hs)⟩⟩
    obtain ⟨D2, h1, h2, h3, h4⟩ := hm.all e (by simp [he])
    have hne : D2 ≠ D := by
      intro e2
      exact hnd.1 e he D hd (by rw [h1, e2])
    exact ⟨D2, h1, h2, h3, (World.putObj_heap_other hne).trans h4⟩

theorem Marks.others {B U : Nat} {ds : List Deferred} {W W2 : World} (h : Marks B U ds W) (hk : KeepsOthers W W2) : Marks B U ds W2 := by
  refine ⟨fun d hd => ?_, h.nd⟩
  obtain ⟨D, h1, h2, h3, h4⟩ := h.all d hd
  exact ⟨D, h1, h2, h3, hk.same D _ h4 rfl⟩
end Go.Proofs.Ytnlpfajncpbjpaa
