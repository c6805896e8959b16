/-
  Contracts for splitting: 'bytesIn' (which bytes occur), 'Clone', and both 'SplitAny'. They serve 'FnExactSplitAny' and 'FnExactSplitLines'.
-/
import Derived.Test.YtocjbllblggplaaE
import Derived.Laws.CopyOwn
namespace Go.Proofs.Ytocjbllblggplaa
open Go.ChangeShapes Go.WideShapes Go.ChangeAt Go.RowKit
set_option linter.unusedVariables false

def tab0 : Array Value := Array.replicate 256 (.bool false)
/-- Byte c occurs among the first k bytes of y. -/
noncomputable def occB (y : ByteArray) (k c : Nat) : Bool := by classical exact decide (∃ j, ∃ h : j < y.size, j < k ∧ y[j].toNat = c)
noncomputable def tab (y : ByteArray) (k : Nat) : Array Value := Array.ofFn (n := 256) fun c => .bool (occB y k c.val)
theorem tab_size (y : ByteArray) (k : Nat) : (tab y k).size = 256 := by simp [tab]
theorem tab_at (y : ByteArray) (k c : Nat) (h : c < 256) : (tab y k)[c]? = some (.bool (occB y k c)) := by
  unfold tab
  rw [Array.getElem?_ofFn, dif_pos h]
theorem occB_zero (y : ByteArray) (c : Nat) : occB y 0 c = false := by
  simp [occB]
theorem tab_zero (y : ByteArray) : tab y 0 = tab0 := by
  apply Array.ext_getElem?
  intro c
  by_cases h : c < 256
  · rw [tab_at y 0 c h, occB_zero]
    simp [tab0, h]
  · rw [Array.getElem?_eq_none (by rw [tab_size]; omega), Array.getElem?_eq_none (by simp [tab0]; omega)]
theorem occB_succ (y : ByteArray) (k c : Nat) (h : k < y.size) : occB y (k + 1) c = (occB y k c || decide (y[k].toNat = c)) := by
  rw [Bool.eq_iff_iff]
  simp only [occB, decide_eq_true_iff, Bool.or_eq_true]
  constructor
  · rintro ⟨j, hj, hjk, e⟩
    by_cases e2 : j = k
    · subst e2; exact .inr e
    · exact .inl ⟨j, hj, by omega, e⟩
  · rintro (⟨j, hj, hjk, e⟩ | e)
    · exact ⟨j, hj, by omega, e⟩
    · exact ⟨k, h, by omega, e⟩
theorem tab_succ (y : ByteArray) (k : Nat) (h : k < y.size) : (tab y k).setIfInBounds y[k].toNat (.bool true) = tab y (k + 1) := by
  have h8 : y[k].toNat < 256 := y[k].toNat_lt
  apply Array.ext_getElem?
  intro c
  by_cases hc : c < 256
  · rw [tab_at y (k + 1) c hc, occB_succ y k c h, Array.getElem?_setIfInBounds]
    by_cases e : y[k].toNat = c
    · subst e
      rw [if_pos rfl, if_pos (by rw [tab_size]; omega)]
      simp
    · rw [if_neg e, tab_at y k c hc]
      simp [e]
  · rw [Array.getElem?_eq_none (by rw [Array.size_setIfInBounds, tab_size]; omega), Array.getElem?_eq_none (by rw [tab_size]; omega)]

theorem info36 : (Try.prog.info? 36).map (·.size) = some 256 := by kernel_rfl
theorem tab_one (y : ByteArray) (k : Nat) : (tab y k).all (·.oneCell') = true := by
  rw [Array.all_eq_true_iff_forall_mem]
  intro v hv
  unfold tab at hv
  rw [Array.mem_ofFn] at hv
  obtain ⟨i, rfl⟩ := hv
  rfl

set_option maxHeartbeats 1000000 in
theorem bytesIn_any (y : ByteArray) (w : World) (hy : y.size ≤ maxLen) :
    Calls Try.prog 29 #[.string y] w fun e w' => e = .returned (.agg (tab y y.size)) ∧ Below w.heap.size w w' := by
  unfold maxLen at hy
  have hz : ∀ w : World, (zeroValue 36).run Try.prog w = .ok (.agg tab0) w := fun w => by kernel_rfl
  go_enter Try.func29, Try.ntmps29
  go_wp2
  have hs0 : ((w.alloc (.cells tab0 36)).alloc (.cells tab0 36)).heap[w.heap.size]? = some (.cells tab0 36 (0, 0)) := heap_alloc2_old w _ _
  have hs1 : ((w.alloc (.cells tab0 36)).alloc (.cells tab0 36)).heap[w.heap.size + 1]? = some (.cells (tab y 0) 36 (0, 0)) := by rw [tab_zero]; exact heap_alloc2_new w _ _
  have hsb : Below w.heap.size w ((w.alloc (.cells tab0 36)).alloc (.cells tab0 36)) := ((Below.refl _ w).alloc (Nat.le_refl _) _).alloc (by simp) _
  have S0 := Lib.hid hs0
  have S1 := Lib.hid hs1
  clear hs0 hs1 hz
  go_loopw [4, 7] (fun _ i wr => ∃ k : Nat, k ≤ y.size ∧ i = .int .i64 k ∧ Hid (wr.heap[w.heap.size]? = some (.cells tab0 36 (0, 0))) ∧ Hid (wr.heap[w.heap.size + 1]? = some (.cells (tab y k) 36 (0, 0))) ∧ Below w.heap.size w wr) (fun _ i _ => y.size - (intOf i).toNat)
  case atStart => exact ⟨0, Nat.zero_le _, rfl, S0.out, S1.out, hsb⟩
  case round =>
    obtain ⟨k, hk, rfl, h0, h1, hb⟩ := hrel
    by_cases hlt : k < y.size
    · have h8 : y[k].toNat < 256 := y[k].toNat_lt
      have hcell : wr.cell? ⟨w.heap.size + 1, y[k].toNat, none⟩ = some (.bool (occB y k y[k].toNat)) := by
        rw [cell_of_row _ _ _ _ _ _ h1.out, tab_at _ _ _ h8]
      have hfr : wr.frozen? ⟨w.heap.size + 1, y[k].toNat, none⟩ = false := frozen_of_row _ _ _ _ _ h1.out
      have h0' : Hid ((wr.setCell ⟨w.heap.size + 1, y[k].toNat, none⟩ (.bool true)).heap[w.heap.size]? = some (.cells tab0 36 (0, 0))) := by
        show _ = _; rw [heap_setCell_other _ _ _ _ (by simp)]; exact h0.out
      have h1' : Hid ((wr.setCell ⟨w.heap.size + 1, y[k].toNat, none⟩ (.bool true)).heap[w.heap.size + 1]? = some (.cells (tab y (k + 1)) 36 (0, 0))) := by
        show _ = _; rw [heap_setCell_same _ _ _ _ _ _ h1.out, tab_succ y k hlt]
      have hb' : Below w.heap.size w (wr.setCell ⟨w.heap.size + 1, y[k].toNat, none⟩ (.bool true)) := hb.setCell (p := ⟨w.heap.size + 1, y[k].toNat, none⟩) (by simp) _
      go_wp2
      go_roundw
      case rel => exact ⟨k + 1, by omega, by go_num, h0', h1', hb'⟩
      case measure => simp [intOf]; omega
    · obtain rfl : k = y.size := by omega
      have H0 := h0.out
      have H1 := h1.out
      clear h0 h1
      go_wp2_with (first | (refine wpList_load_row rfl 36 _ rfl (w.heap.size + 1) rfl 36 _ _ _ H1 Try.underlying36 rfl (by rw [tab_size]; exact info36) ?_) | (refine wpList_store_row rfl 36 _ _ rfl w.heap.size (tab y y.size) rfl rfl 36 tab0 H0 (by rw [tab_size]; exact info36) (by rw [tab_size]; simp [tab0]) (tab_one _ _) ?_))
      have H2 := setRow_heap wr w.heap.size tab0 (tab y y.size) 36 (0, 0) H0
      refine bodyPost_ret (v := .agg (tab y y.size)) (results_cell_row rfl _ _ w.heap.size 36 _ _ _ rfl H2 Try.underlying36 rfl (by rw [tab_size]; exact info36)) rfl ⟨rfl, ?_⟩
      exact below_setRow hb (Nat.le_refl _) _
end Go.Proofs.Ytocjbllblggplaa
