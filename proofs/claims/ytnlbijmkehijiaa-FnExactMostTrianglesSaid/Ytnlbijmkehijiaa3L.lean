/-
  Both 'MostTriangles'. No conditions.
-/
import Derived.Test.Ytnlbijmkehijiaa3B
namespace Go.Proofs.Ytnlbijmkehijiaa
open Go.ChangeShapes Go.WideShapes Go.ChangeAt Go.RowKit
set_option linter.unusedVariables false

/-- The scores that differ least, filled in up to k. -/
def fS (N k : Nat) : List Nat := (List.range k).map (fun a => (N - a % 2) / 2) ++ List.replicate (8 - k) 0
theorem fS_len (N k : Nat) (h : k ≤ 8) : (fS N k).length = 8 := by simp [fS]; omega
theorem fS_le (N k : Nat) (h : N ≤ 8) : ∀ s ∈ fS N k, s ≤ 9 := by
  intro s hs
  rcases List.mem_append.1 hs with h' | h'
  · obtain ⟨a, _, rfl⟩ := List.mem_map.1 h'
    show (N - a % 2) / 2 ≤ 9
    omega
  · rw [List.eq_of_mem_replicate h']; omega
theorem fS_set (N k : Nat) (h : k < 8) (h1 : 1 ≤ N) : (rv ((fS N k).map Int.ofNat)).setIfInBounds k (.int .i64 (((N : Int) - (k : Int) % 2) / 2)) = rv ((fS N (k + 1)).map Int.ofNat) := by
  have e : (((N : Int) - (k : Int) % 2) / 2) = (((N - k % 2) / 2 : Nat) : Int) := by omega
  rw [e]
  unfold rv fS
  rw [List.map_append, List.map_append, List.map_append, List.map_append, show 8 - k = (8 - (k + 1)) + 1 by omega, List.replicate_succ, List.range_succ, List.map_append, List.map_append, List.map_append]
  simp only [List.map_cons, List.map_nil]
  rw [List.setIfInBounds_toArray, List.set_append, if_neg (by simp)]
  simp [iv]
noncomputable def mostR (n : Int) : Int := if isz n then triK n.toNat (fS n.toNat n.toNat) 8 else -1

set_option maxHeartbeats 400000 in
theorem implMost (n : Int) (w : World) : Calls Try.prog 32 #[.int .i64 n] w fun e w' => e = .returned (.int .i64 (mostR n)) ∧ Below w.heap.size w w' := by
  cases hz : isz n
  · have HS := Lib.hid hz
    have HE : Hid (mostR n = -1) := by show _ = _; unfold mostR; rw [hz]; rfl
    clear hz
    go_enter Try.func32, Try.ntmps32
    go_wp2_with fail
    refine (isSize_any n _).mono ?_
    rintro e w' ⟨rfl, rfl⟩
    rw [HS.out]
    go_wp2
    go_ret
    exact ⟨by rw [HE.out]; rfl, Below.refl _ _⟩
  · have hn : 1 ≤ n ∧ n ≤ 8 := by simpa [isz] using hz
    obtain ⟨N, rfl⟩ : ∃ N : Nat, n = N := ⟨n.toNat, by omega⟩
    obtain ⟨T, hT⟩ : ∃ T, T = triK N (fS N N) 8 := ⟨_, rfl⟩
    have HE : Hid (mostR N = T) := by show _ = _; unfold mostR; rw [hz, hT]; rfl
    have HS := Lib.hid hz
    have HT := Lib.hid hT
    have hN1 : 1 ≤ N := by omega
    have hN8 : N ≤ 8 := by omega
    clear hz hT hn
    have hzr := zeroRow
    have hf0 : fS N 0 = List.replicate 8 0 := rfl
    have hs0 : Hid ((w.alloc (.cells (rv zeros8) 53)).heap[w.heap.size]? = some (.cells (rv ((fS N 0).map Int.ofNat)) 53 (0, 0))) := by
      show _ = _
      rw [hf0, List.map_replicate]; exact heap_alloc_new w _
    have hb0 : Below w.heap.size w (w.alloc (.cells (rv zeros8) 53)) := (Below.refl _ w).alloc (Nat.le_refl _) _
    clear hf0
    go_enter Try.func32, Try.ntmps32
    go_wp2_with fail
    refine (isSize_any _ _).mono ?_
    rintro e w' ⟨rfl, rfl⟩
    rw [HS.out]
    go_wp2
    clear hzr
    go_loopw [9] (fun i wr => ∃ k : Nat, k ≤ N ∧ i = .int .i64 k ∧ Hid (wr.heap[w.heap.size]? = some (.cells (rv ((fS N k).map Int.ofNat)) 53 (0, 0))) ∧ Below w.heap.size w wr) (fun i _ => N - (intOf i).toNat)
    case atStart => exact ⟨0, Nat.zero_le _, rfl, hs0, hb0⟩
    case round =>
      obtain ⟨k, hk, rfl, hrw, hb⟩ := hrel
      by_cases hlt : k < N
      · have hk8 : k < 8 := by omega
        have hkl : k < (rv ((fS N k).map Int.ofNat)).size := by rw [rv_size, List.length_map, fS_len N k (by omega)]; exact hk8
        obtain ⟨u, hu⟩ : ∃ u, (rv ((fS N k).map Int.ofNat))[k]? = some u := ⟨_, Array.getElem?_eq_getElem hkl⟩
        have hcell : wr.cell? ⟨w.heap.size, k, none⟩ = some u := by rw [cell_of_row _ _ _ _ _ _ hrw.out, hu]
        have hfr : wr.frozen? ⟨w.heap.size, k, none⟩ = false := frozen_of_row _ _ _ _ _ hrw.out
        have h1' : Hid ((wr.setCell ⟨w.heap.size, k, none⟩ (.int .i64 (((N : Int) - (k : Int) % 2) / 2))).heap[w.heap.size]? = some (.cells (rv ((fS N (k + 1)).map Int.ofNat)) 53 (0, 0))) := by
          show _ = _; rw [heap_setCell_same _ _ _ _ _ _ hrw.out, fS_set N k hk8 hN1]
        have hb' : Below w.heap.size w (wr.setCell ⟨w.heap.size, k, none⟩ (.int .i64 (((N : Int) - (k : Int) % 2) / 2))) := hb.setCell (p := ⟨w.heap.size, k, none⟩) (by simp) _
        clear hu hkl
        go_wp2
        go_roundw
        case rel => exact ⟨k + 1, by omega, by go_num, h1', hb'⟩
        case measure => simp [intOf]; omega
      · obtain rfl : k = N := by omega
        have H1 := hrw.out
        have HI : Hid ((Try.prog.info? 53).map (·.size) = some (rv ((fS k k).map Int.ofNat)).size) := by show _ = _; rw [rv_size, List.length_map, fS_len k k hN8]; exact infoRow
        have hS8 : Hid ((fS k k).length = 8) := fS_len k k hN8
        have hS9 : Hid (∀ s ∈ fS k k, s ≤ 9) := fS_le k k hN8
        clear hrw
        have HH := Lib.hid H1
        clear H1
        go_wp2_with (first | (refine wpList_load_row rfl 53 _ rfl w.heap.size rfl 53 _ _ _ HH.out Try.underlying53 rfl HI.out ?_) | fail)
        refine (countTriangles_any k (fS k k) _ hN8 hS8.out hS9.out).mono ?_
        rintro e w4 ⟨rfl, hb4⟩
        rw [← HT.out]
        go_wp2
        go_ret
        exact ⟨by rw [HE.out]; rfl, hb.trans (hb4.mono hb.size)⟩

set_option maxHeartbeats 1000000 in
theorem specMost (n : Int) (w : World) : Calls Try.prog 31 #[.int .i64 n] w fun e w' => e = .returned (.int .i64 (mostR n)) ∧ w = w' := by
  cases hz : isz n
  · have HS : Hid ((decide (1 ≤ n) && decide (n ≤ 8)) = false) := hz
    have HE : Hid (mostR n = -1) := by show _ = _; unfold mostR; rw [hz]; rfl
    clear hz
    go_enter Try.func31, Try.ntmps31
    go_wp2_with fail
    refine (l01In_any n 1 8 _).mono ?_
    rintro e w' ⟨rfl, rfl⟩
    rw [HS.out]
    go_wp2
    go_ret
    exact ⟨by rw [HE.out]; rfl, rfl⟩
  · have hn : 1 ≤ n ∧ n ≤ 8 := by simpa [isz] using hz
    have HS : Hid ((decide (1 ≤ n) && decide (n ≤ 8)) = true) := hz
    have hc : n = 1 ∨ n = 2 ∨ n = 3 ∨ n = 4 ∨ n = 5 ∨ n = 6 ∨ n = 7 ∨ n = 8 := by omega
    clear hz hn
    have h1 : Hid (mostR 1 = 0) := by show _ = _; unfold mostR; decide +kernel
    have h2 : Hid (mostR 2 = 0) := by show _ = _; unfold mostR; decide +kernel
    have h3 : Hid (mostR 3 = 1) := by show _ = _; unfold mostR; decide +kernel
    have h4 : Hid (mostR 4 = 2) := by show _ = _; unfold mostR; decide +kernel
    have h5 : Hid (mostR 5 = 5) := by show _ = _; unfold mostR; decide +kernel
    have h6 : Hid (mostR 6 = 8) := by show _ = _; unfold mostR; decide +kernel
    have h7 : Hid (mostR 7 = 14) := by show _ = _; unfold mostR; decide +kernel
    have h8 : Hid (mostR 8 = 20) := by show _ = _; unfold mostR; decide +kernel
    rcases hc with rfl | rfl | rfl | rfl | rfl | rfl | rfl | rfl
    all_goals
      go_enter Try.func31, Try.ntmps31
      go_wp2_with fail
      refine (l01In_any _ 1 8 _).mono ?_
      rintro e w' ⟨rfl, rfl⟩
      rw [HS.out]
      go_wp2
      go_ret
      first
        | exact ⟨by rw [h1.out]; rfl, rfl⟩
        | exact ⟨by rw [h2.out]; rfl, rfl⟩
        | exact ⟨by rw [h3.out]; rfl, rfl⟩
        | exact ⟨by rw [h4.out]; rfl, rfl⟩
        | exact ⟨by rw [h5.out]; rfl, rfl⟩
        | exact ⟨by rw [h6.out]; rfl, rfl⟩
        | exact ⟨by rw [h7.out]; rfl, rfl⟩
        | exact ⟨by rw [h8.out]; rfl, rfl⟩
end Go.Proofs.Ytnlbijmkehijiaa
