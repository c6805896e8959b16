/-
  Marks among the deferred calls that rounds within a loop leave behind; the way from a tour to the one searched from (mathematics). No conditions but those named.
-/
import Derived.Test.YtgdejippddcekaaDoor7D
import Derived.Test.YtgdejippddcekaaDoor6A
namespace Go.Proofs.YtgdejippddcekaaDoor
open Go.ChangeShapes Go.WideShapes Go.ChangeAt Go.RowKit
set_option linter.unusedVariables false

/-- The marks of the ranges that are over: each block still bears an empty list. -/
structure Marks (B U : Nat) (ds : List Deferred) (W : World) : Prop where
  all : ∀ d ∈ ds, ∃ D, d = { target := .collected D, args := #[] } ∧ B ≤ D ∧ D < U ∧ W.heap[D]? = some (.deferred (some []))
  nd : ds.Pairwise (fun d e => ∀ D, d = { target := .collected D, args := #[] } → e ≠ { target := .collected D, args := #[] })
section
variable {B U : Nat} {ds : List Deferred} {W W2 : World}
theorem Marks.nil (B U : Nat) (W : World) : Marks B U [] W := ⟨by simp, List.Pairwise.nil⟩
theorem Marks.mono (h : Marks B U ds W) {U2 : Nat} (hU : U ≤ U2) : Marks B U2 ds W := ⟨fun d hd => by obtain ⟨D, h1, h2, h3, h4⟩ := h.all d hd; exact ⟨D, h1, h2, by omega, h4⟩, h.nd⟩
/-- A step that turns a block which is no such list. -/
theorem Marks.grown (h : Marks B U ds W) {row : Option Nat} (hg : W.grownBy W2 row) (hr : ∀ r, row = some r → W.heap[r]? ≠ some (.deferred (some []))) : Marks B U ds W2 := by
  refine ⟨fun d hd => ?_, h.nd⟩
  obtain ⟨D, h1, h2, h3, h4⟩ := h.all d hd
  exact ⟨D, h1, h2, h3, (hg.block D (Array.getElem?_eq_some_iff.1 h4).1 (fun e => hr D e.symm h4)).trans h4⟩
theorem Marks.below (h : Marks B U ds W) (hb : Below W.heap.size W W2) : Marks B U ds W2 := by
  refine ⟨fun d hd => ?_, h.nd⟩
  obtain ⟨D, h1, h2, h3, h4⟩ := h.all d hd
  exact ⟨D, h1, h2, h3, (hb.block D (Array.getElem?_eq_some_iff.1 h4).1).trans h4⟩
/-- What lies from U on may turn. -/
theorem Marks.beyond (h : Marks B U ds W) {row : Option Nat} (hg : W.grownBy W2 row) (hr : ∀ r, row = some r → U ≤ r) : Marks B U ds W2 := by
  refine ⟨fun d hd => ?_, h.nd⟩
  obtain ⟨D, h1, h2, h3, h4⟩ := h.all d hd
  exact ⟨D, h1, h2, h3, (hg.block D (Array.getElem?_eq_some_iff.1 h4).1 (fun e => by have := hr D e.symm; omega)).trans h4⟩
theorem Marks.cons (h : Marks B U ds W) {D : Nat} (hB : B ≤ D) (hU : U ≤ D) (hD : W.heap[D]? = some (.deferred (some []))) : Marks B (D + 1) ({ target := .collected D, args := #[] } :: ds) W := by
  refine ⟨fun d hd => ?_, List.Pairwise.cons (fun e he D2 h1 h2 => ?_) h.nd⟩
  · rcases List.mem_cons.1 hd with rfl | hd
    · exact ⟨D, rfl, hB, Nat.lt_succ_self D, hD⟩
    · obtain ⟨D2, h1, h2, h3, h4⟩ := h.all d hd
      exact ⟨D2, h1, h2, by omega, h4⟩
  · obtain ⟨D3, h3, _, h4, _⟩ := h.all e he
    rw [h3] at h2
    have e1 : D = D2 := by simpa using h1
    have e2 : D3 = D2 := by simpa using h2
    omega
end
/-- A function leaves through all its marks. -/
theorem leaves_marks {F : Fence} {n : Nat} {P : Program} {fn : Func} {tmps : Array Value} {R : Ending → World → Prop} {B U : Nat} {S : World → Prop}
    (hS : ∀ W D, B ≤ D → W.heap[D]? = some (.deferred (some [])) → S W → S (W.putObj D (.deferred none))) (hR : ∀ W, S W → LeavesInM F n P fn tmps R [] .returning W) :
    ∀ (ds : List Deferred) (W : World), Marks B U ds W → S W → LeavesInM F n P fn tmps R ds .returning W := by
  intro ds
  induction ds with
  | nil => exact fun W _ h => hR W h
  | cons d ds ih =>
    intro W hm hs
    obtain ⟨D, hd, hB, hU, hD⟩ := hm.all d (by simp)
    have hnd := List.pairwise_cons.1 hm.nd
    refine ⟨by simp, .inl ⟨D, W.putObj D (.deferred none), by rw [hd], run_takeDeferred hD, ih _ ⟨fun e he => ?_, hnd.2⟩ (hS W D hB hD hs)⟩⟩
    obtain ⟨D2, h1, h2, h3, h4⟩ := hm.all e (by simp [he])
    have hne : D2 ≠ D := by
      intro e2
      exact hnd.1 e he D hd (by rw [h1, e2])
    exact ⟨D2, h1, h2, h3, (World.putObj_heap_other hne).trans h4⟩

/-! The way. -/
/-- The first triangle that leads nearer. -/
def nearB (D : Bf.Fd (List Int)) (d : Nat) (l r : List Int) : Bool := Bf.dst D (rvT l r) == some d
def wayF (D : Bf.Fd (List Int)) : Nat → List Int → List (List Int)
  | 0, _ => []
  | d + 1, l => match (triL l).find? (nearB D d l) with
    | none => []
    | some r => r :: wayF D d (rvT l r)
theorem wayF_len (D : Bf.Fd (List Int)) : ∀ d l, (wayF D d l).length ≤ d
  | 0, _ => Nat.le_refl _
  | d + 1, l => by
    unfold wayF
    split
    · simp
    · rename_i r2 _
      have := wayF_len D d (rvT l r2)
      simp only [List.length_cons]; omega
theorem wayF_row (D : Bf.Fd (List Int)) : ∀ d l, ∀ r ∈ wayF D d l, r.length = 3
  | 0, _, r, h => by simp [wayF] at h
  | d + 1, l, r, h => by
    unfold wayF at h
    split at h
    · simp at h
    · rename_i r2 hr2
      rcases List.mem_cons.1 h with rfl | h
      · exact triL_row (List.mem_of_find?_eq_some hr2)
      · exact wayF_row D d _ r h
theorem wayF_step {D : Bf.Fd (List Int)} {l r : List Int} {d : Nat} (hf : (triL l).find? (nearB D d l) = some r) : wayF D (d + 1) l = r :: wayF D d (rvT l r) := by
  show (match (triL l).find? (nearB D d l) with | none => [] | some r => r :: wayF D d (rvT l r)) = _
  rw [hf]
section
variable {m : Nat} {u : List Int} {D : Bf.Fd (List Int)} (h5 : m ≤ 5) (h : Got m u D)
include h5 h
/-- From a tour that is not the one searched from, some triangle leads nearer. -/
theorem way_some {l : List Int} {d : Nat} (hl : (l, d + 1) ∈ D) : ∃ r, (triL l).find? (nearB D d l) = some r ∧ (rvT l r, d) ∈ D ∧ r ∈ triL l := by
  obtain ⟨p, hp, hd⟩ := h.step h5 hl
  unfold nbL at hp
  obtain ⟨r, hr, rfl⟩ := List.mem_map.1 hp
  have hb : nearB D d l r = true := by
    unfold nearB
    rw [beq_iff_eq, Bf.dst_some h.fin.nodup]; exact hd
  cases hf : (triL l).find? (nearB D d l) with
  | none =>
    have := List.find?_eq_none.1 hf r hr
    exact absurd hb this
  | some r2 =>
    have h2 := List.find?_some hf
    refine ⟨r2, rfl, ?_, List.mem_of_find?_eq_some hf⟩
    unfold nearB at h2
    rw [beq_iff_eq, Bf.dst_some h.fin.nodup] at h2
    exact h2
/-- Among the neighbors of a tour at d + 1: nearer is 'less than d + 1', is 'd'. -/
theorem near_iff {l r : List Int} {d : Nat} (hl : (l, d + 1) ∈ D) (hr : r ∈ triL l) : ∃ e, (rvT l r, e) ∈ D ∧ Ok (m : Int) (rvT l r) ∧ (nearB D d l r = decide (e < d + 1)) ∧ (nearB D d l r = decide (e = d)) := by
  have hn : rvT l r ∈ nbL l := by unfold nbL; exact List.mem_map.2 ⟨r, hr, rfl⟩
  obtain ⟨e, he, _⟩ := h.fin.next l (d + 1) hl _ hn
  have hle := h.near h5 hl he hn
  have hb : nearB D d l r = decide (e = d) := by
    unfold nearB
    rw [(Bf.dst_some h.fin.nodup).2 he, Bool.eq_iff_iff, beq_iff_eq, decide_eq_true_iff]
    simp
  refine ⟨e, he, h.ok _ _ he, ?_, hb⟩
  rw [hb, Bool.eq_iff_iff, decide_eq_true_iff, decide_eq_true_iff]
  omega
end
end Go.Proofs.YtgdejippddcekaaDoor
