/-
  'Tour.results': the table of a tour's results; when two of them are equal. Conditions: at most eight players.
-/
import Derived.Test.YteiadhfjpohmdaaX
import Derived.Laws.CopyOwn
import Derived.Laws.StructEq
namespace Go.Proofs.Yteiadhfjpohmdaa
open Go.ChangeShapes Go.WideShapes Go.ChangeAt Go.RowKit
set_option linter.unusedVariables false

def padX (l : List Int) : List Int := l ++ List.replicate (8 - l.length) 0
theorem padX_len {l : List Int} (h : l.length ≤ 8) : (padX l).length = 8 := by simp [padX]; omega
/-- A table's cells. -/
def resL (n : Int) (l : List Int) : List Value := iv n :: (padX l).map iv
def resV (n : Int) (l : List Int) : Array Value := (resL n l).toArray
theorem resL_len {n : Int} {l : List Int} (h : l.length ≤ 8) : (resL n l).length = 9 := by simp [resL, padX_len h]
theorem resV_size {n : Int} {l : List Int} (h : l.length ≤ 8) : (resV n l).size = 9 := by simp [resV, resL_len h]
theorem infoRes : (Try.prog.info? 76).map (·.size) = some 9 := by kernel_rfl
theorem zeroRes (w : World) : (zeroValue 76).run Try.prog w = .ok (.agg (resV 0 [])) w := by kernel_rfl
theorem res_splice (n : Int) (l : List Int) (h : l.length ≤ 8) : splice (resL n []) 1 (l.map iv) = resL n l := by
  unfold splice resL padX
  simp only [List.nil_append, List.length_nil, Nat.sub_zero, List.length_map, List.map_replicate, List.take_succ_cons, List.take_zero]
  rw [show 1 + l.length = l.length + 1 by omega, List.drop_succ_cons, List.drop_replicate]
  simp

theorem resV_one (n : Int) (l : List Int) : (resV n l).all (·.oneCell') = true := by
  rw [Array.all_eq_true_iff_forall_mem]
  intro v hv
  simp [resV, resL] at hv
  rcases hv with rfl | ⟨x, _, rfl⟩ <;> rfl

set_option maxRecDepth 100000 in
set_option maxHeartbeats 1000000 in
theorem results_any (n : Int) (a : Option Addr) (cap : Nat) (l : List Int) (w : World) (h8 : l.length ≤ 8) (hrow : IntRow w a l) :
    Calls Try.prog 96 #[.agg #[.int .i64 n, .slice a l.length cap]] w fun e w' => e = .returned (.agg (resV n l)) ∧ Below w.heap.size w w' := by
  obtain ⟨R0, hR0⟩ : ∃ R0, R0 = resV 0 [] := ⟨_, rfl⟩
  obtain ⟨Rn, hRx⟩ : ∃ Rn, Rn = R0.setIfInBounds 0 (.int .i64 n) := ⟨_, rfl⟩
  have hRn : Rn = resV n [] := by rw [hRx, hR0]; rfl
  have hz : ∀ w, (zeroValue 76).run Try.prog w = .ok (.agg R0) w := by rw [hR0]; exact zeroRes
  have hs0 : R0.size = 9 := by rw [hR0]; rfl
  have hsn : Rn.size = 9 := by rw [hRn]; rfl
  have h1n : Rn.all (·.oneCell') = true := by rw [hRn]; exact resV_one n []
  have HRn : Hid (Rn = resV n []) := hRn
  have hsz1 : (Try.prog.info? 3).map (·.size) = some 1 := by kernel_rfl
  obtain ⟨W2, hW2⟩ : ∃ W2, W2 = (w.alloc (.cells #[.int .i64 n, .slice a l.length cap] 27)).alloc (.cells R0 76) := ⟨_, rfl⟩
  obtain ⟨W3, hW3⟩ : ∃ W3, W3 = W2.alloc (.cells R0 76) := ⟨_, rfl⟩
  have s2 : W2.heap.size = w.heap.size + 1 + 1 := by rw [hW2]; simp
  have b2 : Below w.heap.size w W2 := by rw [hW2]; exact ((Below.refl _ _).alloc (Nat.le_refl _) _).alloc (by simp) _
  have b3 : Below W2.heap.size W2 W3 := by rw [hW3]; exact (Below.refl _ _).alloc (Nat.le_refl _) _
  have x2 : Box W2 w.heap.size 27 (.int .i64 n) (.slice a l.length cap) := by rw [hW2]; exact (Box.new _ _ _ _).below ((Below.refl _ _).alloc (Nat.le_refl _) _) (by simp)
  have r2 : W2.heap[w.heap.size + 1]? = some (.cells R0 76 (0, 0)) := by
    rw [hW2]
    have := World.alloc_heap_new (w.alloc (.cells #[.int .i64 n, .slice a l.length cap] 27)) (.cells R0 76)
    rwa [World.size_alloc] at this
  have r3 : W3.heap[w.heap.size + 1 + 1]? = some (.cells R0 76 (0, 0)) := by rw [hW3, ← s2]; exact World.alloc_heap_new W2 _
  obtain ⟨W4, hW4⟩ : ∃ W4, W4 = W3.setRow (w.heap.size + 1 + 1) Rn := ⟨_, rfl⟩
  have r4 : W4.heap[w.heap.size + 1 + 1]? = some (.cells Rn 76 (0, 0)) := by rw [hW4]; exact setRow_heap W3 _ _ _ _ (0, 0) r3
  have r4' : W4.heap[w.heap.size + 1]? = some (.cells R0 76 (0, 0)) := by rw [hW4]; exact (setRow_other W3 _ _ _ (by omega)).trans ((b3.block _ (by omega)).trans r2)
  have x4 : Box W4 w.heap.size 27 (.int .i64 n) (.slice a l.length cap) := by rw [hW4]; exact (setRow_other W3 _ _ _ (by omega)).trans (x2.below b3 x2.lt)
  have b4 : Below w.heap.size w W4 := by rw [hW4]; exact below_setRow (b2.trans (b3.mono b2.size)) (by omega) _
  have hrow4 : IntRow W4 a l := hrow.below b4 (Nat.le_refl _)
  have c0 := x2.c0
  have c1 := x4.c1
  have HI : Hid ((Try.prog.info? 76).map (·.size) = some Rn.size) := by show _ = _; rw [hsn]; exact infoRes
  have HSZ : Hid (R0.size = Rn.size) := by show _ = _; rw [hs0, hsn]
  have H1 := Lib.hid h1n
  have HB4 := Lib.hid b4
  have R3 := Lib.hid r3
  have R4 := Lib.hid r4
  have R4' := Lib.hid r4'
  have HRW := Lib.hid hrow4
  have HW2 := Lib.hid hW2
  have HW3 : Hid (W3 = W2.alloc (.cells R0 76)) := hW3
  have HW4 := Lib.hid hW4
  have hne0 : ¬ R0 = #[] := by intro e; rw [e] at hs0; cases hs0
  have hnen : ¬ Rn = #[] := by intro e; rw [e] at hsn; cases hsn
  have HRX := Lib.hid hRx
  clear hR0 hRn hRx h1n s2 b2 b3 x2 r2 r3 r4 r4' x4 b4 hrow4 hrow hW2 hW3 hW4
  go_enter Try.func96, Try.ntmps96
  go_wp2_with (first | (rw [← HW2.out, ← HW3.out]; refine wpList_store_row rfl 76 _ _ rfl (w.heap.size + 1 + 1) Rn rfl (by rw [HRX.out]; rfl) 76 R0 R3.out HI.out HSZ.out H1.out ?_; rw [← HW4.out]))
  obtain ⟨g, hg⟩ : ∃ g, g = w.heap.size + 1 + 1 := ⟨_, rfl⟩
  have HG := Lib.hid hg
  have HRd : Hid (W4.drew.heap[g]? = some (.cells (resL n []).toArray 76 (0, 0))) := by show _ = _; rw [hg]; have := R4.out; rw [HRn.out] at this; exact this
  have HBd : Hid (Below g W4 W4.drew) := (Below.refl g W4).drew
  have HRWd : Hid (IntRow W4.drew a l) := HRW.out.below (Below.refl _ W4).drew (Nat.le_refl _)
  have HK : Hid (0 < (l.map iv).length → (some (⟨g, 1, none⟩ : Addr)) = some ⟨g, 1, none⟩ ∧ ∃ ad, a = some ad ∧ ∀ j v, (l.map iv)[j]? = some v → W4.drew.cell? (ad.add j) = some v) := by
    intro h0
    refine ⟨rfl, ?_⟩
    obtain ⟨b, off, rfl, hb, hc⟩ := (HRWd.out).elim (fun h => absurd h (by intro e; rw [e] at h0; simp at h0)) id
    refine ⟨_, rfl, fun j v hj => ?_⟩
    have hjl : j < l.length := by have := (List.getElem?_eq_some_iff.1 hj).1; simpa using this
    rw [Addr.add_lit, hc j hjl, ← hj, List.getElem?_map, List.getElem?_eq_getElem hjl, List.getD_eq_getElem?_getD, List.getElem?_eq_getElem hjl]
    rfl
  obtain ⟨m, hm⟩ : ∃ m, m = l.length := ⟨_, rfl⟩
  have HM := Lib.hid hm
  rw [← hm] at c1 h8 ⊢
  rw [← hg]
  clear hm hg
  go_region_law (first
    | (refine step_copy_splice rfl (.tmp 8) (.tmp 10) 22 22 rfl 3 Try.underlying22 hsz1 (some ⟨g, 1, none⟩) a 8 8 m cap (by simp [go_sem]) (by simp [go_sem]) g 1 (resL n []) 76 HRd.out (l.map iv) (by rw [List.length_map, ← HM.out]; exact (Nat.min_eq_left h8).symm) HK.out (by rw [resL_len (by simp), List.length_map, ← HM.out]; omega) (by intro v hv; obtain ⟨x, _, rfl⟩ := List.mem_map.1 hv; rfl) g W4 HBd.out (Nat.le_refl _) ?_
       intro w5 hrow5 hb5))
  all_goals
    have h5 : w5.heap[g]? = some (.cells (resV n l) 76 (0, 0)) := by have := hrow5.out; rw [res_splice n l (by rw [← HM.out]; exact h8)] at this; exact this
    have h5' : w5.heap[w.heap.size + 1]? = some (.cells R0 76 (0, 0)) := (hb5.block _ (by have := HG.out; omega)).trans R4'.out
    obtain ⟨W6, hW6⟩ : ∃ W6, W6 = w5.setRow (w.heap.size + 1) (resV n l) := ⟨_, rfl⟩
    have h6 : W6.heap[w.heap.size + 1]? = some (.cells (resV n l) 76 (0, 0)) := by rw [hW6]; exact setRow_heap w5 _ _ _ _ (0, 0) h5'
    have b6 : Below w.heap.size w W6 := by
      rw [hW6]
      have h8' := HB4.out.size
      exact below_setRow (HB4.out.trans (hb5.mono (by have := HG.out; omega))) (by omega) _
    have H5 := Lib.hid h5
    have H5' := Lib.hid h5'
    have H6 := Lib.hid h6
    have HB6 := Lib.hid b6
    have HW6 := Lib.hid hW6
    have HI9 : Hid ((Try.prog.info? 76).map (·.size) = some (resV n l).size) := by show _ = _; rw [resV_size (by rw [← HM.out]; exact h8)]; exact infoRes
    have HQ9 : Hid (R0.size = (resV n l).size) := by show _ = _; rw [resV_size (by rw [← HM.out]; exact h8)]; exact hs0
    have H19 := Lib.hid (resV_one n l)
    obtain ⟨V, hV⟩ : ∃ V, V = resV n l := ⟨_, rfl⟩
    rw [← hV] at H5 H6 HI9 HQ9 H19 HW6
    have HV := Lib.hid hV
    clear hrow5 hb5 h5 h5' h6 b6 hW6 hV c0 c1 HRWd HK HRd HBd
    go_wp2_with (first | (refine wpList_load_row rfl 76 _ rfl g rfl 76 _ _ _ H5.out Try.underlying76 rfl HI9.out ?_) | (refine wpList_store_row rfl 76 _ _ rfl (w.heap.size + 1) V rfl rfl 76 R0 H5'.out HI9.out HQ9.out H19.out ?_; rw [← HW6.out]))
    exact bodyPost_ret (v := .agg V) (results_cell_row rfl _ _ (w.heap.size + 1) 76 _ _ _ rfl H6.out Try.underlying76 rfl HI9.out) rfl ⟨by rw [HV.out], HB6.out⟩
end Go.Proofs.Yteiadhfjpohmdaa
