/-
  Both 'CountSequences'. No conditions.
-/
import Derived.Test.Ytnlbijmkehijiaa3I
import Derived.Test.Ytnlbijmkehijiaa3N
namespace Go.Proofs.Ytnlbijmkehijiaa
open Go.ChangeShapes Go.WideShapes Go.ChangeAt Go.RowKit
set_option linter.unusedVariables false

theorem loopI_le (f : Nat → Nat) (c : Nat → Bool) (B : Nat) (hf : ∀ s, f s ≤ B) : ∀ d s, Tmpm.loopI f c d s ≤ d * B := by
  intro d
  induction d with
  | zero => intro s; simp [Tmpm.loopI]
  | succ d ih =>
    intro s
    have h1 := ih (s + 1)
    have h2 := hf s
    rw [Tmpm.loopI, Nat.succ_mul]
    split <;> omega
theorem loopS_le (f : Nat → Nat) (c : Nat → Bool) (B : Nat) (hf : ∀ s, f s ≤ B) : ∀ d s, Tmpm.loopS f c d s ≤ d * B := by
  intro d
  induction d with
  | zero => intro s; simp [Tmpm.loopS]
  | succ d ih =>
    intro s
    have h1 := ih (s + 1)
    have h2 := hf s
    rw [Tmpm.loopS, Nat.succ_mul]
    split <;> omega
theorem cI_le (N : Nat) (hN : N ≤ 8) : ∀ m p, Tmpm.cI N m p ≤ 8 ^ m := by
  intro m
  induction m with
  | zero => intro p; rw [Tmpm.cI]; split <;> simp
  | succ m ih =>
    intro p
    rw [Tmpm.cI]
    refine Nat.le_trans (loopI_le _ _ (8 ^ m) (fun s => ih _) N 0) ?_
    rw [Nat.pow_succ, Nat.mul_comm]
    exact Nat.mul_le_mul_left _ hN
theorem cS_le (N : Nat) (hN : N ≤ 8) : ∀ m a b, Tmpm.cS N m a b ≤ 8 ^ m := by
  intro m
  induction m with
  | zero => intro a b; rw [Tmpm.cS]; split <;> (try split) <;> simp
  | succ m ih =>
    intro a b
    rw [Tmpm.cS]
    split
    · simp
    · refine Nat.le_trans (loopS_le _ _ (8 ^ m) (fun s => ih _ _) (N - a) a) ?_
      rw [Nat.pow_succ, Nat.mul_comm]
      exact Nat.mul_le_mul_left _ (by omega)
theorem pow8 (m : Nat) (h : m ≤ 8) : 8 ^ m ≤ 16777216 := Nat.le_trans (Nat.pow_le_pow_right (by omega) h) (by decide)

/-- A row whose first numbers are p, then t, then zeros. -/
def row1 (p : List Int) (t : Int) : List Int := p ++ t :: List.replicate (7 - p.length) 0
theorem row1_len (p : List Int) (t : Int) (h : p.length ≤ 7) : (row1 p t).length = 8 := by simp [row1]; omega
theorem pad_row1 (p : List Int) (h : p.length ≤ 7) : pad p = row1 p 0 := by
  unfold pad row1
  rw [show 8 - p.length = (7 - p.length) + 1 by omega, List.replicate_succ]
theorem pad_snoc (p : List Int) (t : Int) (h : p.length ≤ 7) : pad (p ++ [t]) = row1 p t := by
  unfold pad row1
  rw [List.length_append, List.append_assoc]
  simp only [List.length_singleton, List.singleton_append]
  rw [show 8 - (p.length + 1) = 7 - p.length by omega]
theorem row1_set (p : List Int) (t s : Int) : (rv (row1 p t)).setIfInBounds p.length (.int .i64 s) = rv (row1 p s) := by
  unfold rv row1
  rw [List.setIfInBounds_toArray, List.map_append, List.set_append, if_neg (by simp), List.map_append]
  simp [iv]
theorem row1_at (p : List Int) (t : Int) (j : Nat) (h : j < p.length) : (rv (row1 p t))[j]? = some (.int .i64 (p.getD j 0)) := by
  unfold rv row1
  rw [List.getElem?_toArray, List.getElem?_map, List.getElem?_append_left h, List.getElem?_eq_getElem h, List.getD_eq_getElem?_getD, List.getElem?_eq_getElem h]
  rfl
theorem pad_at (p : List Int) (j : Nat) (h : j < p.length) : (rv (pad p))[j]? = some (.int .i64 (p.getD j 0)) := by
  unfold rv pad
  rw [List.getElem?_toArray, List.getElem?_map, List.getElem?_append_left h, List.getElem?_eq_getElem h, List.getD_eq_getElem?_getD, List.getElem?_eq_getElem h]
  rfl

theorem slice_row (g n : Nat) (hn : n ≤ 8) (W : World) : (Instr.sliceAt 53 (.pointer (some ⟨g, 0, none⟩)) none (some (.int .i64 n)) none).run Try.prog W = .ok (.slice (some ⟨g, 0, none⟩) n 8) W := by
  have hl : Try.prog.arrayLen 53 = 8 := by kernel_rfl
  have he : Try.prog.elem 53 = 3 := by kernel_rfl
  have ht : Try.prog.underlying 53 = some (.array (Try.prog.arrayLen 53) (Try.prog.elem 53)) := by rw [hl, he]; exact Try.underlying53
  have h := run_sliceAt_array_h W 53 ⟨g, 0, none⟩ ht .i64 (n : Int) (by omega) (by rw [hl]; omega)
  rw [hl, he] at h
  rw [h, Try.sizeOf3 W]
  simp [slicedAt, Result.andThen, Addr.add]

set_option maxRecDepth 100000 in
set_option maxHeartbeats 1000000 in
theorem implFrom (N : Nat) (hN1 : 1 ≤ N) (hN : N ≤ 8) (m : Nat) : ∀ (p : List Int) (w : World), p.length + m = N →
    Calls Try.prog 62 #[.agg (rv (pad p)), .int .i64 p.length, .int .i64 N] w fun e w' => e = .returned (.int .i64 (Tmpm.cI N m p : Nat)) ∧ Below w.heap.size w w' := by
  induction m with
  | zero =>
    intro p w hp
    obtain rfl : N = p.length := by omega
    have hHE : (Tmpm.cI p.length 0 p) = if Tmpm.landB p then 1 else 0 := by rw [Tmpm.cI]
    have hrow : IntRow (w.alloc (.cells (rv (pad p)) 53)) (some ⟨w.heap.size, 0, none⟩) p := by
      refine .inr ⟨w.heap.size, 0, rfl, by simp, fun j hj => ?_⟩
      rw [Nat.zero_add, cell_of_row _ _ _ _ _ _ (heap_alloc_new w _), pad_at p j hj]
    have HR := Lib.hid hrow
    have hb0 : Below w.heap.size w (w.alloc (.cells (rv (pad p)) 53)) := (Below.refl _ w).alloc (Nat.le_refl _) _
    have hlm : p.length ≤ maxLen := by unfold maxLen; omega
    have HLM := Lib.hid hlm
    have hsr := fun W => slice_row w.heap.size p.length hN W
    clear hrow hlm hp
    cases hl : Tmpm.landB p
    · have HL := Lib.hid hl
      have HE : Hid (Tmpm.cI p.length 0 p = 0) := by show _ = _; rw [hHE, hl]; rfl
      clear hl hHE
      go_enter Try.func62, Try.ntmps62
      go_wp2_with fail
      refine (implLandau _ p 8 _ HR.out HLM.out).mono ?_
      rintro e w1 ⟨rfl, hb1⟩
      rw [HL.out]
      go_wp2
      go_ret
      exact ⟨by rw [HE.out]; rfl, hb0.trans (hb1.mono hb0.size)⟩
    · have HL := Lib.hid hl
      have HE : Hid (Tmpm.cI p.length 0 p = 1) := by show _ = _; rw [hHE, hl]; rfl
      clear hl hHE
      go_enter Try.func62, Try.ntmps62
      go_wp2_with fail
      refine (implLandau _ p 8 _ HR.out HLM.out).mono ?_
      rintro e w1 ⟨rfl, hb1⟩
      rw [HL.out]
      go_wp2
      go_ret
      exact ⟨by rw [HE.out]; rfl, hb0.trans (hb1.mono hb0.size)⟩
  | succ m ih =>
    intro p w hp
    have hp7 : p.length ≤ 7 := by omega
    have hne : ((p.length : Int) == (N : Int)) = false := by rw [beq_eq_false_iff_ne]; omega
    obtain ⟨T, hT⟩ : ∃ T, T = Tmpm.cI N (m + 1) p := ⟨_, rfl⟩
    have hTb : T ≤ 16777216 := by rw [hT]; exact Nat.le_trans (cI_le N hN _ _) (pow8 _ (by omega))
    obtain ⟨f, hf⟩ : ∃ f : Nat → Nat, f = fun s : Nat => Tmpm.cI N m (p ++ [(s : Int)]) := ⟨_, rfl⟩
    have hloop : T = Tmpm.loopI f (Tmpm.okI p) N 0 := by rw [hT, Tmpm.cI, hf]
    have hcall : ∀ (s : Nat) (W : World), Calls Try.prog 62 #[.agg (rv (row1 p s)), .int .i64 ((p.length : Int) + 1), .int .i64 N] W fun e w' => e = .returned (.int .i64 (f s : Nat)) ∧ Below W.heap.size W w' := by
      intro s W
      have h := ih (p ++ [(s : Int)]) W (by simp; omega)
      rw [pad_snoc p s hp7, List.length_append] at h
      rw [hf]
      exact h
    have HC := Lib.hid hcall
    have HLoop := Lib.hid hloop
    have HT := Lib.hid hT
    have hs0 : Hid ((w.alloc (.cells (rv (pad p)) 53)).heap[w.heap.size]? = some (.cells (rv (row1 p 0)) 53 (0, 0))) := by
      show _ = _; rw [← pad_row1 p hp7]; exact heap_alloc_new w _
    have hb0 : Below w.heap.size w (w.alloc (.cells (rv (pad p)) 53)) := (Below.refl _ w).alloc (Nat.le_refl _) _
    have hz1 : w.heap.size < (w.alloc (.cells (rv (pad p)) 53)).heap.size := by simp
    have HZ := Lib.hid hz1
    obtain ⟨L, hL⟩ : ∃ L, L = p.length := ⟨_, rfl⟩
    have HLl := Lib.hid hL
    clear ih hcall hloop hf hT hz1 hp
    rw [← hL] at hp7 hne ⊢
    clear hL
    go_enter Try.func62, Try.ntmps62
    go_wp2_with fail
    go_loopw [7, 16] (fun c i wr => ∃ (s cc : Nat) (t : Int), s ≤ N ∧ i = .int .i64 s ∧ c = .int .i64 cc ∧ Hid (cc + Tmpm.loopI f (Tmpm.okI p) (N - s) s = T) ∧ Hid (wr.heap[w.heap.size]? = some (.cells (rv (row1 p t)) 53 (0, 0))) ∧ w.heap.size < wr.heap.size ∧ Below w.heap.size w wr) (fun _ i _ => N - (intOf i).toNat)
    case atStart => exact ⟨0, 0, 0, Nat.zero_le _, rfl, rfl, by show _ = _; rw [HLoop.out]; simp, hs0, HZ.out, hb0⟩
    case round =>
      obtain ⟨s, cc, t, hs, rfl, rfl, hsum, hblk, hwz, hb⟩ := hrel
      by_cases hlt : s < N
      · have hst : Hid (Tmpm.loopI f (Tmpm.okI p) (N - s) s = (if Tmpm.okI p s then f s else 0) + Tmpm.loopI f (Tmpm.okI p) (N - (s + 1)) (s + 1)) := by
          show _ = _
          rw [show N - s = (N - (s + 1)) + 1 by omega]; rfl
        have hL8 : L < 8 := by omega
        have hcellK : ∃ u, (rv (row1 p t))[L]? = some u := ⟨_, Array.getElem?_eq_getElem (by rw [rv_size, row1_len p t (by rw [← HLl.out]; exact hp7)]; omega)⟩
        obtain ⟨u, hu⟩ := hcellK
        have hcu : wr.cell? ⟨w.heap.size, L, none⟩ = some u := by rw [cell_of_row _ _ _ _ _ _ hblk.out, hu]
        have hfu : wr.frozen? ⟨w.heap.size, L, none⟩ = false := frozen_of_row _ _ _ _ _ hblk.out
        have hblk2 : Hid ((wr.setCell ⟨w.heap.size, L, none⟩ (.int .i64 s)).heap[w.heap.size]? = some (.cells (rv (row1 p s)) 53 (0, 0))) := by
          show _ = _; rw [heap_setCell_same _ _ _ _ _ _ hblk.out, HLl.out, row1_set]
        have hb2 : Below w.heap.size w (wr.setCell ⟨w.heap.size, L, none⟩ (.int .i64 s)) := hb.setCell (p := ⟨w.heap.size, L, none⟩) (by simp) _
        have hwz2 : w.heap.size < (wr.setCell ⟨w.heap.size, L, none⟩ (.int .i64 s)).heap.size := by simpa [World.setCell] using hwz
        have HI : Hid ((Try.prog.info? 53).map (·.size) = some (rv (row1 p s)).size) := by show _ = _; rw [rv_size, row1_len p s (by rw [← HLl.out]; exact hp7)]; exact infoRow
        have HWZ := Lib.hid hwz2
        clear hu hwz2
        by_cases hz : L = 0
        · have hz' : ((L : Int) == 0) = true := by rw [beq_iff_eq]; omega
          have hok : Tmpm.okI p s = true := by unfold Tmpm.okI; rw [← HLl.out, hz]; rfl
          have hsum2 : Hid (cc + f s + Tmpm.loopI f (Tmpm.okI p) (N - (s + 1)) (s + 1) = T) := by
            have h1 := hsum.out
            rw [hst.out, hok, if_pos rfl] at h1
            show _ = _; omega
          have hcb : cc + f s ≤ 16777216 := by have := hsum2.out; omega
          obtain ⟨v, hv⟩ : ∃ v, v = f s := ⟨_, rfl⟩
          have hCv := HC.out s
          rw [← hv] at hsum2 hcb hCv
          have HCV : Hid (∀ (W : World), Calls Try.prog 62 #[.agg (rv (row1 p s)), .int .i64 ((L : Int) + 1), .int .i64 N] W fun e w' => e = .returned (.int .i64 (v : Nat)) ∧ Below W.heap.size W w') := by rw [HLl.out]; exact hCv
          clear hok hv hCv hz hst hsum
          go_wp2_with (first | (refine wpList_load_row rfl 53 _ rfl w.heap.size rfl 53 _ _ _ hblk2.out Try.underlying53 rfl HI.out ?_) | fail)
          refine (HCV.out _).mono ?_
          rintro e w2 ⟨rfl, hb3⟩
          have hblk3 : Hid (w2.heap[w.heap.size]? = some (.cells (rv (row1 p s)) 53 (0, 0))) := (hb3.block _ HWZ.out).trans hblk2.out
          have hb4 := hb2.trans (hb3.mono hb2.size)
          have hwz3 : Hid (w.heap.size < w2.heap.size) := Nat.lt_of_lt_of_le HWZ.out hb3.size
          clear hb3 hb2 hblk2
          go_wp2
          go_roundw
          case rel => exact ⟨s + 1, cc + v, s, by omega, by go_num, by go_num, hsum2, hblk3, hwz3.out, hb4⟩
          case measure => simp [intOf]; omega
        · have hz' : ((L : Int) == 0) = false := by rw [beq_eq_false_iff_ne]; omega
          have hL0 : (0 : Int) ≤ (L : Int) - 1 ∧ 1 ≤ L := by omega
          obtain ⟨y, hy⟩ : ∃ y, y = p.getD (L - 1) 0 := ⟨_, rfl⟩
          have hcy : wr.cell? ⟨w.heap.size, L - 1, none⟩ = some (.int .i64 y) := by
            rw [cell_of_row _ _ _ _ _ _ hblk.out, row1_at p t (L - 1) (by rw [← HLl.out]; omega), hy]
          by_cases hys : y ≤ (s : Int)
          · have hok : Tmpm.okI p s = true := by unfold Tmpm.okI; rw [← HLl.out, ← hy]; simp [hys]
            have hsum2 : Hid (cc + f s + Tmpm.loopI f (Tmpm.okI p) (N - (s + 1)) (s + 1) = T) := by
              have h1 := hsum.out
              rw [hst.out, hok, if_pos rfl] at h1
              show _ = _; omega
            have hcb : cc + f s ≤ 16777216 := by have := hsum2.out; omega
            obtain ⟨v, hv⟩ : ∃ v, v = f s := ⟨_, rfl⟩
            have hCv := HC.out s
            rw [← hv] at hsum2 hcb hCv
            have HCV : Hid (∀ (W : World), Calls Try.prog 62 #[.agg (rv (row1 p s)), .int .i64 ((L : Int) + 1), .int .i64 N] W fun e w' => e = .returned (.int .i64 (v : Nat)) ∧ Below W.heap.size W w') := by rw [HLl.out]; exact hCv
            clear hok hv hCv hz hst hsum hy
            go_wp2_with (first | (refine wpList_load_row rfl 53 _ rfl w.heap.size rfl 53 _ _ _ hblk2.out Try.underlying53 rfl HI.out ?_) | fail)
            refine (HCV.out _).mono ?_
            rintro e w2 ⟨rfl, hb3⟩
            have hblk3 : Hid (w2.heap[w.heap.size]? = some (.cells (rv (row1 p s)) 53 (0, 0))) := (hb3.block _ HWZ.out).trans hblk2.out
            have hb4 := hb2.trans (hb3.mono hb2.size)
            have hwz3 : Hid (w.heap.size < w2.heap.size) := Nat.lt_of_lt_of_le HWZ.out hb3.size
            clear hb3 hb2 hblk2
            go_wp2
            go_roundw
            case rel => exact ⟨s + 1, cc + v, s, by omega, by go_num, by go_num, hsum2, hblk3, hwz3.out, hb4⟩
            case measure => simp [intOf]; omega
          · have hok : Tmpm.okI p s = false := by unfold Tmpm.okI; rw [← HLl.out, ← hy]; simp [hys, hz]
            have hsum2 : Hid (cc + Tmpm.loopI f (Tmpm.okI p) (N - (s + 1)) (s + 1) = T) := by
              have h1 := hsum.out
              rw [hst.out, hok] at h1
              simp at h1
              show _ = _; omega
            clear hok hz hst hsum hy hblk2 hb2 HWZ
            go_wp2
            go_roundw
            case rel => exact ⟨s + 1, cc, t, by omega, by go_num, rfl, hsum2, hblk, hwz, hb⟩
            case measure => simp [intOf]; omega
      · obtain rfl : s = N := by omega
        have hcc : Hid (cc = T) := by
          have := hsum.out
          rw [Nat.sub_self] at this
          show cc = T
          simpa [Tmpm.loopI] using this
        clear hsum
        go_wp2
        go_ret
        exact ⟨by rw [← HT.out, ← hcc.out]; rfl, hb⟩
end Go.Proofs.Ytnlbijmkehijiaa
