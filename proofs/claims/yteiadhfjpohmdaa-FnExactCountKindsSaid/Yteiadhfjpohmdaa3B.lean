/-
  Pairs, triangles by the scores. No conditions but the bounds that are named.
-/
import Derived.Test.Yteiadhfjpohmdaa3A
import Derived.Test.Yteiadhfjpohmdaa3M
namespace Go.Proofs.Yteiadhfjpohmdaa
open Go.ChangeShapes Go.WideShapes Go.ChangeAt Go.RowKit
set_option linter.unusedVariables false

theorem ret_int {k : IntKind} {a b : Int} (h : a = b) : Ending.returned (.int k a) = .returned (.int k b) := by rw [h]
set_option maxHeartbeats 400000 in
theorem pairsOf_any (n : Nat) (w : World) (hn : n ≤ 9) : Calls Try.prog 98 #[.int .i64 n] w fun e w' => e = .returned (.int .i64 (Tmpm.prN n)) ∧ w = w' := by
  go_enter Try.func98, Try.ntmps98
  go_wp2
  go_ret
  refine ⟨ret_int ?_, rfl⟩
  have : ∀ n : Fin 10, wrap64 ((wrap64 ((n.val : Int) * ((n.val : Int) - 1))).tdiv 2) = (Tmpm.prN n.val : Int) := by decide +kernel
  exact this ⟨n, by omega⟩

theorem eight {r : List Int} (h : r.length = 8) : ∃ a b c d e f g i, r = [a, b, c, d, e, f, g, i] := by
  match r, h with
  | [a, b, c, d, e, f, g, i], _ => exact ⟨a, b, c, d, e, f, g, i, rfl⟩
theorem index_row0 (a b c d e f g h : Int) (w : World) : (Instr.index 106 (.agg (rv [a, b, c, d, e, f, g, h])) (.int .i64 0)).run Try.prog w = .ok (.int .i64 a) w := by kernel_rfl
theorem index_row1 (a b c d e f g h : Int) (w : World) : (Instr.index 106 (.agg (rv [a, b, c, d, e, f, g, h])) (.int .i64 1)).run Try.prog w = .ok (.int .i64 b) w := by kernel_rfl
theorem index_row2 (a b c d e f g h : Int) (w : World) : (Instr.index 106 (.agg (rv [a, b, c, d, e, f, g, h])) (.int .i64 2)).run Try.prog w = .ok (.int .i64 c) w := by kernel_rfl
theorem index_row3 (a b c d e f g h : Int) (w : World) : (Instr.index 106 (.agg (rv [a, b, c, d, e, f, g, h])) (.int .i64 3)).run Try.prog w = .ok (.int .i64 d) w := by kernel_rfl
theorem index_row4 (a b c d e f g h : Int) (w : World) : (Instr.index 106 (.agg (rv [a, b, c, d, e, f, g, h])) (.int .i64 4)).run Try.prog w = .ok (.int .i64 e) w := by kernel_rfl
theorem index_row5 (a b c d e f g h : Int) (w : World) : (Instr.index 106 (.agg (rv [a, b, c, d, e, f, g, h])) (.int .i64 5)).run Try.prog w = .ok (.int .i64 f) w := by kernel_rfl
theorem index_row6 (a b c d e f g h : Int) (w : World) : (Instr.index 106 (.agg (rv [a, b, c, d, e, f, g, h])) (.int .i64 6)).run Try.prog w = .ok (.int .i64 g) w := by kernel_rfl
theorem index_row7 (a b c d e f g h : Int) (w : World) : (Instr.index 106 (.agg (rv [a, b, c, d, e, f, g, h])) (.int .i64 7)).run Try.prog w = .ok (.int .i64 h) w := by kernel_rfl
theorem index_row (r : List Int) (hr : r.length = 8) (k : Nat) (hk : k < 8) (w : World) : (Instr.index 106 (.agg (rv r)) (.int .i64 k)).run Try.prog w = .ok (.int .i64 (r.getD k 0)) w := by
  match r, hr, k, hk with
  | [a, b, c, d, e, f, g, h], _, 0, _ => exact index_row0 a b c d e f g h w
  | [a, b, c, d, e, f, g, h], _, 1, _ => exact index_row1 a b c d e f g h w
  | [a, b, c, d, e, f, g, h], _, 2, _ => exact index_row2 a b c d e f g h w
  | [a, b, c, d, e, f, g, h], _, 3, _ => exact index_row3 a b c d e f g h w
  | [a, b, c, d, e, f, g, h], _, 4, _ => exact index_row4 a b c d e f g h w
  | [a, b, c, d, e, f, g, h], _, 5, _ => exact index_row5 a b c d e f g h w
  | [a, b, c, d, e, f, g, h], _, 6, _ => exact index_row6 a b c d e f g h w
  | [a, b, c, d, e, f, g, h], _, 7, _ => exact index_row7 a b c d e f g h w

def c3 (N : Nat) : Nat := N * (N - 1) * (N - 2) / 6
def triK (N : Nat) (S : List Nat) (k : Nat) : Int := (c3 N : Int) - ((((S.take k).map Tmpm.prN).sum : Nat) : Int)
theorem take_snocD (S : List Nat) (k : Nat) (h : k < S.length) : S.take (k + 1) = S.take k ++ [S.getD k 0] := by
  rw [List.take_succ_eq_append_getElem h, List.getD_eq_getElem?_getD, List.getElem?_eq_getElem h]; rfl
theorem triK_succ (N : Nat) (S : List Nat) (k : Nat) (h : k < S.length) : triK N S (k + 1) = triK N S k - (Tmpm.prN (S.getD k 0) : Int) := by
  unfold triK
  rw [take_snocD S k h, List.map_append, List.sum_append]
  simp
  omega
theorem c3_le (N : Nat) (h : N ≤ 8) : c3 N ≤ 56 := by
  have : ∀ n : Fin 9, c3 n.val ≤ 56 := by decide
  exact this ⟨N, by omega⟩
theorem triK_bd (N : Nat) (S : List Nat) (hN : N ≤ 8) (hv : ∀ s ∈ S, s ≤ 9) (k : Nat) (hk : k ≤ S.length) : -(36 * (k : Int)) ≤ triK N S k ∧ triK N S k ≤ 56 := by
  have h3 := c3_le N hN
  induction k with
  | zero => unfold triK; simp; omega
  | succ k ih =>
    obtain ⟨a, b⟩ := ih (by omega)
    rw [triK_succ N S k (by omega)]
    have hs : S.getD k 0 ≤ 9 := by rw [List.getD_eq_getElem?_getD, List.getElem?_eq_getElem (by omega)]; exact hv _ (List.getElem_mem _)
    have := Tmpm.prN_vals _ hs
    omega
theorem getD_map (S : List Nat) (k : Nat) : (S.map Int.ofNat).getD k 0 = ((S.getD k 0 : Nat) : Int) := by
  rw [List.getD_eq_getElem?_getD, List.getD_eq_getElem?_getD, List.getElem?_map]
  cases S[k]? <;> rfl

set_option maxRecDepth 100000 in
set_option maxHeartbeats 400000 in
theorem countTriangles_any (N : Nat) (S : List Nat) (w : World) (hN : N ≤ 8) (hS : S.length = 8) (hv : ∀ s ∈ S, s ≤ 9) :
    Calls Try.prog 131 #[.agg (rv (S.map Int.ofNat)), .int .i64 N] w fun e w' => e = .returned (.int .i64 (triK N S 8)) ∧ Below w.heap.size w w' := by
  have hm : (S.map Int.ofNat).length = 8 := by rw [List.length_map]; exact hS
  have HI : Hid ((Try.prog.info? 106).map (·.size) = some (rv (S.map Int.ofNat)).size) := by show _ = _; rw [rv_size, hm]; exact infoRow
  have HM := Lib.hid hm
  have HS := Lib.hid hS
  clear hm hS
  have hg : Hid ((w.alloc (.cells (rv (S.map Int.ofNat)) 106)).heap[w.heap.size]? = some (.cells (rv (S.map Int.ofNat)) 106 (0, 0))) := heap_alloc_new w _
  go_enter Try.func131, Try.ntmps131
  go_wp2_with (refine wpList_load_row rfl 106 _ rfl w.heap.size rfl 106 _ _ _ hg.out Try.underlying106 rfl HI.out ?_)
  have h5 : Hid (wrap64 ((wrap64 (wrap64 ((N : Int) * ((N : Int) - 1)) * ((N : Int) - 2))).tdiv 6) = triK N S 0) := by
    have : ∀ n : Fin 9, wrap64 ((wrap64 (wrap64 ((n.val : Int) * ((n.val : Int) - 1)) * ((n.val : Int) - 2))).tdiv 6) = (c3 n.val : Int) := by decide +kernel
    show _ = _
    unfold triK
    rw [this ⟨N, by omega⟩]; simp
  go_loopw [5, 17] (fun t i wr => ∃ k : Nat, k ≤ 8 ∧ i = .int .i64 k ∧ t = .int .i64 (triK N S k) ∧ wr = w.alloc (.cells (rv (S.map Int.ofNat)) 106)) (fun _ i _ => 8 - (intOf i).toNat)
  case atStart => exact ⟨0, Nat.zero_le _, rfl, by rw [h5.out], rfl⟩
  case round =>
    obtain ⟨k, hk, rfl, rfl, rfl⟩ := hrel
    obtain ⟨hb1, hb2⟩ := triK_bd N S hN hv k (by rw [HS.out]; exact hk)
    by_cases hlt : k < 8
    · have hsn := triK_succ N S k (by rw [HS.out]; exact hlt)
      have hix := index_row (S.map Int.ofNat) HM.out k hlt
      rw [getD_map] at hix
      have hs9 : S.getD k 0 ≤ 9 := by rw [List.getD_eq_getElem?_getD, List.getElem?_eq_getElem (by rw [HS.out]; exact hlt)]; exact hv _ (List.getElem_mem _)
      obtain ⟨s, hs⟩ : ∃ s, s = S.getD k 0 := ⟨_, rfl⟩
      rw [← hs] at hix hsn hs9
      have hp := Tmpm.prN_vals s hs9
      obtain ⟨p, hpe⟩ : ∃ p, p = Tmpm.prN s := ⟨_, rfl⟩
      have HP := Lib.hid hpe
      rw [← hpe] at hp hsn
      obtain ⟨t, ht⟩ : ∃ t, t = triK N S k := ⟨_, rfl⟩
      rw [← ht] at hb1 hb2 hsn ⊢
      have HSn := Lib.hid hsn
      clear hs hsn hpe ht
      go_wp2_with fail
      refine (pairsOf_any s _ hs9).mono ?_
      rintro e w' ⟨rfl, rfl⟩
      rw [← HP.out]
      go_wp2
      go_roundw
      case rel => exact ⟨k + 1, by omega, by go_num, by rw [HSn.out], trivial⟩
      case measure => simp [intOf]; omega
    · obtain rfl : k = 8 := by omega
      go_wp2
      go_ret
      exact ⟨rfl, (Below.refl _ _).alloc (Nat.le_refl _) _⟩
end Go.Proofs.Yteiadhfjpohmdaa
