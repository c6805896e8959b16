/-
  'slices.Repeat' of a one, at most eight times. No conditions beyond that.
-/
import Derived.Test.YtpndfmlkceplcaaGh
import Derived.Laws.CopyOwn
namespace Go.Proofs.Ytpndfmlkceplcaa
open Go.ChangeShapes Go.WideShapes Go.ChangeAt Go.RowKit
set_option linter.unusedVariables false

theorem and_mask (n : Nat) (h : n ≤ 8) : bits .and .u64 (n : Int) 4294967295 = (n : Int) := by
  have : ∀ n : Fin 9, bits .and .u64 ((n.val : Nat) : Int) 4294967295 = ((n.val : Nat) : Int) := by decide +kernel
  exact this ⟨n, by omega⟩
theorem and_mask1 : bits .and .u64 1 4294967295 = 1 := by decide +kernel
theorem and_mask0 : bits .and .u64 0 4294967295 = 0 := by decide +kernel

set_option maxHeartbeats 400000 in
theorem mul64_one (n : Nat) (h : n ≤ 8) (w : World) :
    Calls Try.prog 178 #[.int .u64 1, .int .u64 (n : Int)] w fun e w' => e = .returned (.tuple #[.int .u64 0, .int .u64 (n : Int)]) ∧ w = w' := by
  have a1 := and_mask n h
  have a2 := and_mask1
  have a3 : (n : Int) / 4294967296 = 0 := by omega
  have a4 := and_mask0
  go_enter Try.func178, Try.ntmps178
  go_wp2
  refine bodyPost_ret (results_tmp2 rfl _ _ _) rfl ?_
  exact ⟨rfl, rfl⟩
set_option maxHeartbeats 400000 in
theorem mul_one (n : Nat) (h : n ≤ 8) (w : World) :
    Calls Try.prog 152 #[.int .u64 1, .int .u64 (n : Int)] w fun e w' => e = .returned (.tuple #[.int .u64 0, .int .u64 (n : Int)]) ∧ w = w' := by
  go_enter Try.func152, Try.ntmps152
  go_wp2_with fail
  refine (mul64_one n h _).mono ?_
  rintro e w2 ⟨rfl, rfl⟩
  go_wp2
  refine bodyPost_ret (results_tmp2 rfl _ _ _) rfl ?_
  exact ⟨rfl, rfl⟩

/-- Ones that are being copied. -/
def repL (n k : Nat) : List Value := List.replicate k (.int .i64 1) ++ List.replicate (n - k) (.int .i64 0)
theorem repL_len {n k : Nat} (h : k ≤ n) : (repL n k).length = n := by simp [repL]; omega
theorem repL_cell {n k j : Nat} (h : j < k) : (repL n k)[j]? = some (.int .i64 1) := by
  unfold repL
  rw [List.getElem?_append_left (by simpa using h), List.getElem?_replicate, if_pos h]
theorem repL_splice {n k j : Nat} (h : k + j ≤ n) : splice (repL n k) k (List.replicate j (.int .i64 1)) = repL n (k + j) := by
  unfold splice repL
  rw [List.take_left' (by simp), List.length_replicate, List.drop_append, List.drop_eq_nil_of_le (by simp), List.nil_append, List.length_replicate, show k + j - k = j by omega, List.drop_replicate, ← List.append_assoc, List.replicate_append_replicate, show n - k - j = n - (k + j) by omega]
theorem repL_splice0 {n : Nat} (h : 1 ≤ n) : splice (repL n 0) 0 [.int .i64 1] = repL n 1 := by
  have := repL_splice (n := n) (k := 0) (j := 1) (by omega)
  exact this

set_option maxRecDepth 100000 in
set_option maxHeartbeats 2000000 in
theorem repeat_any (n : Nat) (h0 : 1 ≤ n) (h8 : n ≤ 8) (p : Nat) (w : World) (hp : w.cell? ⟨p, 0, none⟩ = some (.int .i64 1)) (hpl : p < w.heap.size) :
    Calls Try.prog 97 #[.slice (some ⟨p, 0, none⟩) 1 1, .int .i64 (n : Int)] w fun e w' => (∃ g, e = .returned (.slice (some ⟨g, 0, none⟩) n n) ∧ w'.ownsRow w.heap.size 3 1 (.slice (some ⟨g, 0, none⟩) n n) n ((List.replicate n (1 : Int)).map iv)) ∧ Below w.heap.size w w' := by
  obtain ⟨i0, hi, hz0, hz1, hz2⟩ := info_parts infoInt
  have a1 : IntKind.u64.wrap (n : Int) = (n : Int) := by rw [IntKind.wrap_u64]; omega
  have a2 : IntKind.i64.wrap (n : Int) = (n : Int) := by rw [IntKind.wrap_i64]; omega
  have a3 : ¬ (n : Int) < 0 := by omega
  have a4 : ¬ (9223372036854775807 : Int) < (n : Int) := by omega
  have a5 : decide ((9223372036854775807 : Int) < (n : Int)) = false := decide_eq_false a4
  have hsz1 : (Try.prog.info? 3).map (·.size) = some 1 := by kernel_rfl
  go_enter Try.func97, Try.ntmps97
  go_wp2_with fail
  refine (mul_one n h8 _).mono ?_
  rintro e w2 ⟨rfl, rfl⟩
  go_wp2_with (refine wpList_make_full _ rfl _ _ 22 rfl w.heap.size 3 i0 (.int .i64 0) 1 Try.underlying22 hi hz0 hz1 .i64 .i64 _ _ n rfl rfl rfl rfl ?c1 ?c2 ?c3 ?_)
  case c1 => rw [hz2]; omega
  case c2 => unfold maxLen; omega
  case c3 => exact Nat.le_refl _
  intro w2 hown hg
  have hb2 : Below w.heap.size w w2 := (Below.refl _ w).grown hg (Nat.le_refl _) (fun k hk => by cases hk)
  have hrow : w2.heap[w.heap.size]? = some (.cells (repL n 0).toArray 3 (0, 0)) := by
    rcases hown.2 with ⟨hn, _⟩ | ⟨g2, c2, cur, he, _, hh, _, _, hcs, ht⟩
    · cases hn
    · simp only [Value.slice.injEq, Option.some.injEq, Addr.mk.injEq, and_true, true_and] at he
      obtain ⟨rfl, rfl⟩ := he
      rw [hh]
      have : cur = (repL n 0).toArray := by
        apply Array.toList_inj.1
        rw [Nat.mul_one, List.take_of_length_le (by rw [Array.length_toList, hcs]; omega)] at ht
        rw [ht, toList_madeCells_one]; simp [repL]
      rw [this]
  have hp2 := (hb2.cell (p := ⟨p, 0, none⟩) hpl).trans hp
  obtain ⟨g, hgv⟩ : ∃ g, g = w.heap.size := ⟨_, rfl⟩
  rw [← hgv] at hrow ⊢
  have HR := Lib.hid hrow
  have HB := Lib.hid hb2
  have HG := Lib.hid hgv
  clear hown hg hrow hb2 hgv a1 a2 a3 a4
  go_wp2_with (refine wpList_copy_splice rfl _ _ _ _ rfl 3 Try.underlying22 hsz1 (some ⟨g, 0, none⟩) (some ⟨p, 0, none⟩) n n 1 1 rfl rfl g 0 (repL n 0) 3 HR.out [.int .i64 1] (by show 1 = min 1 n; omega) ?k1 (by rw [repL_len (Nat.zero_le _)]; exact (by omega : 0 + 1 ≤ n)) (by intro v hv; simp at hv; subst hv; rfl) w.heap.size w HB.out (by rw [HG.out]; exact Nat.le_refl _) ?_)
  case k1 =>
    intro j v hj
    obtain ⟨hj1, rfl⟩ := List.getElem?_eq_some_iff.1 hj
    obtain rfl : j = 0 := by simpa using hj1
    exact hp2
  intro w3 hrow3 hb3
  have HR3 : Hid (w3.heap[g]? = some (.cells (repL n 1).toArray 3 (0, 0))) := by rw [← repL_splice0 h0]; exact hrow3
  have HB3 := Lib.hid hb3
  clear hrow3 hb3 hp2 HR HB
  go_wp2
  go_loopw [8] (fun v wr => ∃ k : Nat, v = .int .i64 (k : Int) ∧ 1 ≤ k ∧ k ≤ n ∧ Hid (wr.heap[g]? = some (.cells (repL n k).toArray 3 (0, 0))) ∧ Hid (Below w.heap.size w wr)) (fun v _ => n - (intOf v).toNat)
  case atStart => exact ⟨1, rfl, Nat.le_refl _, h0, HR3, HB3⟩
  case round =>
    clear HR3 HB3
    obtain ⟨k, rfl, hk1, hkn, HR, HB⟩ := hrel
    by_cases hlt : k < n
    · have hki : (k : Int) < (n : Int) := by omega
      obtain ⟨j, hj⟩ : ∃ j, j = min k (n - k) := ⟨_, rfl⟩
      have hj1 : 1 ≤ j := by omega
      have hjk : k + j ≤ n := by omega
      have w1 : IntKind.i64.wrap ((k : Int) + (j : Int)) = (k : Int) + (j : Int) := by rw [IntKind.wrap_i64]; omega
      have hs1 := slice_to g 0 n n k hkn (Nat.le_refl _) (by unfold maxLen; omega)
      obtain ⟨ad, had, hs2⟩ := slice_rest g 0 n n k hkn (Nat.le_refl _) (by unfold maxLen; omega)
      obtain rfl := had hlt
      simp only [Nat.zero_add] at hs2
      have hrep : Hid (splice (repL n k) k (List.replicate j (.int .i64 1)) = repL n (k + j)) := repL_splice (by omega)
      have HJ := Lib.hid hj
      have hcl : Hid (∀ W : World, W.heap[g]? = some (.cells (repL n k).toArray 3 (0, 0)) → ∀ i v, (List.replicate j (Value.int .i64 1))[i]? = some v → W.cell? ((⟨g, 0, none⟩ : Addr).add i) = some v) := by
        intro W hW i v hi
        obtain ⟨hi1, rfl⟩ := List.getElem?_eq_some_iff.1 hi
        rw [Addr.add_lit, Nat.zero_add, cell_of_row _ _ _ _ _ _ hW, List.getElem?_toArray, repL_cell (by simp at hi1; omega), List.getElem_replicate]
      have HRd : Hid (wr.drew.heap[g]? = some (.cells (repL n k).toArray 3 (0, 0))) := HR.out
      have HBd := Lib.hid HB.out.drew
      obtain ⟨r, hr⟩ : ∃ r, r = n - k := ⟨_, rfl⟩
      rw [← hr] at hs2
      have HRR := Lib.hid hr
      clear hj had hr
      go_wp2_with fail
      go_region_law (first
        | (refine step_copy_splice rfl (.tmp 41) (.tmp 44) 22 22 rfl 3 Try.underlying22 hsz1 (some ⟨g, k, none⟩) (some ⟨g, 0, none⟩) r r k n (by simp [go_sem]) (by simp [go_sem]) g k (repL n k) 3 HRd.out (List.replicate j (.int .i64 1)) (by rw [List.length_replicate, HJ.out, HRR.out]) (fun _ => ⟨rfl, _, rfl, hcl.out _ HRd.out⟩) (by rw [repL_len hkn, List.length_replicate]; have := HJ.out; omega) (by intro v hv; rw [List.eq_of_mem_replicate hv]; rfl) w.heap.size w HBd.out (by rw [HG.out]; exact Nat.le_refl _) ?_
           intro w4 hrow4 hb4))
      all_goals
        have HR4 : Hid (w4.heap[g]? = some (.cells (repL n (k + j)).toArray 3 (0, 0))) := by rw [← hrep.out]; exact hrow4
        have HB4 := Lib.hid hb4
        clear hrow4 hb4
        simp [go_sem]
        go_wp2
        go_roundw
        case rel => exact ⟨k + j, by go_num, by omega, by omega, HR4, HB4⟩
        case measure => simp [intOf]; omega
    · obtain rfl : k = n := by omega
      go_wp2
      go_ret
      refine ⟨⟨g, rfl, ?_⟩, HB.out⟩
      refine ⟨by simp, .inr ⟨g, k, _, rfl, by rw [HG.out]; exact Nat.le_refl _, HR.out, Nat.le_refl _, by unfold maxLen; omega, by simp [repL], by simp [repL, iv]⟩⟩
end Go.Proofs.Ytpndfmlkceplcaa
