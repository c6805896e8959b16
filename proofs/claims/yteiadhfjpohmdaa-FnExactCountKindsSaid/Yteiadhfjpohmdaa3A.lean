/-
  Rows of eight numbers (the program's array of scores): 'rowOf', 'pairsOf', 'countTriangles'. No conditions but the bounds that are named.
-/
import Derived.Test.YteiadhfjpohmdaaG
import Derived.Laws.CopyOwn
import Derived.Outline
namespace Go.Proofs.Yteiadhfjpohmdaa
open Go.ChangeShapes Go.WideShapes Go.ChangeAt Go.RowKit
set_option linter.unusedVariables false

/-- A row of eight numbers, as a value. -/
def rv (r : List Int) : Array Value := (r.map iv).toArray
def zeros8 : List Int := List.replicate 8 0
def pad (l : List Int) : List Int := l ++ List.replicate (8 - l.length) 0
theorem pad_len (l : List Int) (h : l.length ≤ 8) : (pad l).length = 8 := by simp [pad]; omega
theorem rv_size (r : List Int) : (rv r).size = r.length := by simp [rv]
theorem rv_one (r : List Int) : (rv r).all (·.oneCell') = true := by
  rw [Array.all_eq_true_iff_forall_mem]
  intro v hv
  simp [rv] at hv
  obtain ⟨x, _, rfl⟩ := hv
  rfl
theorem infoRow : (Try.prog.info? 106).map (·.size) = some 8 := by kernel_rfl
theorem zeroRow (w : World) : (zeroValue 106).run Try.prog w = .ok (.agg (rv zeros8)) w := by kernel_rfl

theorem IntRow.src {w : World} {ca : Addr} {l : List Int} (h : IntRow w (some ca) l) : ∀ j v, (l.map iv)[j]? = some v → w.cell? (ca.add j) = some v := by
  intro j v hj
  have hjl : j < l.length := by
    rcases Nat.lt_or_ge j l.length with h' | h'
    · exact h'
    · simp [List.getElem?_eq_none h'] at hj
  obtain ⟨b, off, he, _, hc⟩ := h.at hjl
  simp only [Option.some.injEq] at he
  subst he
  have e : (⟨b, off, none⟩ : Addr).add j = ⟨b, off + j, none⟩ := by
    unfold Addr.add; split <;> simp_all
  rw [e, hc]
  simp [List.getElem?_eq_getElem hjl] at hj
  rw [List.getD_eq_getElem?_getD, List.getElem?_eq_getElem hjl, ← hj]
  rfl
theorem pad_splice (l : List Int) (h8 : l.length ≤ 8) : ((rv zeros8).toList.take 0 ++ (l.map iv ++ (rv zeros8).toList.drop (0 + (l.map iv).length))).toArray = rv (pad l) := by
  have e : (rv zeros8).toList = List.replicate 8 (iv 0) := by simp [rv, zeros8]
  rw [e, List.drop_replicate]
  simp [rv, pad]

set_option maxHeartbeats 400000 in
theorem rowOf_any (a : Option Addr) (cap : Nat) (l : List Int) (w : World) (h0 : 0 < l.length) (h8 : l.length ≤ 8) (hrow : IntRow w a l) :
    Calls Try.prog 126 #[.slice a l.length cap] w fun e w' => e = .returned (.agg (rv (pad l))) ∧ Below w.heap.size w w' := by
  have hz := zeroRow
  obtain ⟨W, hW⟩ : ∃ W, W = (w.alloc (.cells (rv zeros8) 106)).alloc (.cells (rv zeros8) 106) := ⟨_, rfl⟩
  have hb : Below w.heap.size w W := by rw [hW]; exact ((Below.refl _ w).alloc (Nat.le_refl _) _).alloc (by simp) _
  have hs0 : W.heap[w.heap.size]? = some (.cells (rv zeros8) 106 (0, 0)) := by rw [hW]; exact heap_alloc2_old w _ _
  have hs1 : W.heap[w.heap.size + 1]? = some (.cells (rv zeros8) 106 (0, 0)) := by rw [hW]; exact heap_alloc2_new w _ _
  have hrow1 := hrow.below hb (Nat.le_refl _)
  obtain ⟨b, off, rfl, _, _⟩ := hrow.at h0
  have hsrc := hrow1.src
  have hs2 := setRow_heap W (w.heap.size + 1) (rv zeros8) (rv (pad l)) 106 (0, 0) hs1
  have hs3 : (W.setRow (w.heap.size + 1) (rv (pad l))).heap[w.heap.size]? = some (.cells (rv zeros8) 106 (0, 0)) := (setRow_other W (w.heap.size + 1) _ _ (by omega)).trans hs0
  have hs4 := setRow_heap (W.setRow (w.heap.size + 1) (rv (pad l))) w.heap.size (rv zeros8) (rv (pad l)) 106 (0, 0) hs3
  have hb2 : Below w.heap.size w ((W.setRow (w.heap.size + 1) (rv (pad l))).setRow w.heap.size (rv (pad l))) := below_setRow (below_setRow hb (by omega) _) (Nat.le_refl _) _
  have hpl := pad_len l h8
  have HI : Hid ((Try.prog.info? 106).map (·.size) = some (rv (pad l)).size) := by show _ = _; rw [rv_size, hpl]; exact infoRow
  have HQ : Hid ((rv zeros8).size = (rv (pad l)).size) := by show _ = _; rw [rv_size (pad l), hpl]; rfl
  have hps := Lib.hid (pad_splice l h8)
  have HN : Hid ((l.map iv).length = Nat.min l.length 8) := by rw [List.length_map]; exact (Nat.min_eq_left h8).symm
  have H1 := Lib.hid hs1
  have H2 := Lib.hid hs2
  have H3 := Lib.hid hs3
  have H4 := Lib.hid hs4
  have HS : Hid (∀ j v, (l.map iv)[j]? = some v → W.cell? ((⟨b, off, none⟩ : Addr).add j) = some v) := hsrc
  clear hs0 hs1 hs2 hs3 hs4 hpl hsrc hrow hrow1
  subst hW
  go_enter Try.func126, Try.ntmps126
  go_wp2_with (first | (refine wpList_copy_own rfl _ _ _ _ rfl 3 Try.underlying22 (by kernel_rfl) (w.heap.size + 1) 0 8 8 ⟨b, off, none⟩ l.length cap rfl rfl (rv zeros8) 106 H1.out (l.map iv) HN.out HS.out (by rw [List.length_map]; simp [rv, zeros8]; omega) (by intro v hv; obtain ⟨x, _, rfl⟩ := List.mem_map.1 hv; rfl) ?_; rw [hps.out]) | (refine wpList_load_row rfl 106 _ rfl (w.heap.size + 1) rfl 106 _ _ _ H2.out Try.underlying106 rfl HI.out ?_) | (refine wpList_store_row rfl 106 _ _ rfl w.heap.size (rv (pad l)) rfl rfl 106 (rv zeros8) H3.out HI.out HQ.out (rv_one _) ?_))
  exact bodyPost_ret (v := .agg (rv (pad l))) (results_cell_row rfl _ _ w.heap.size 106 _ _ _ rfl H4.out Try.underlying106 rfl HI.out) rfl ⟨rfl, hb2⟩
end Go.Proofs.Yteiadhfjpohmdaa
