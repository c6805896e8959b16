/-
  'CycleThrough' of both, in the law's words. No conditions but the bounds that Go gives a slice.
-/
import Derived.Test.YtnlpfajncpbjpaaJX
import Derived.Test.YtnlpfajncpbjpaaJT
namespace Go.Proofs.Ytnlpfajncpbjpaa
open Go.ChangeShapes Go.WideShapes Go.ChangeAt Go.RowKit
set_option linter.unusedVariables false

theorem l06Cycle_any (n : Int) (a : Option Addr) (l : List Int) (cap : Nat) (k : Int) (hok : Ok n l) : ∀ m, CyC n a l cap k m := by
  intro m
  induction m with
  | zero =>
    intro p B g c0 w hrow hm hway hne hlow hB hown
    by_cases hk : (p.length : Int) = k
    · exact l06Cycle_at n a l cap k hok 0 p B g c0 w hrow hm hway hne hlow hB hown hk
    · exact (l06Cycle_on n a l cap k hok 0 (fun m' e => by omega) p B g c0 w hrow hm hway hne hlow hB hown hk).mono fun _ _ h => h.weak
  | succ m ih =>
    intro p B g c0 w hrow hm hway hne hlow hB hown
    by_cases hk : (p.length : Int) = k
    · exact l06Cycle_at n a l cap k hok (m + 1) p B g c0 w hrow hm hway hne hlow hB hown hk
    · exact (l06Cycle_on n a l cap k hok (m + 1) (fun m' e => by obtain rfl : m = m' := by omega
                                                                 exact ih) p B g c0 w hrow hm hway hne hlow hB hown hk).mono fun _ _ h => h.weak
/-- 'l06Cycle' from the beginning. -/
theorem l06Cycle_all (n : Int) (a : Option Addr) (l : List Int) (cap : Nat) (k : Int) (q B g c0 : Nat) (w : World) (hok : Ok n l) (hq : q < l.length) (h3 : 3 ≤ k) (hrow : IntRow w a l) (hB : B ≤ w.heap.size) (hown : w.ownsRow B 3 1 (.slice (some ⟨g, 0, none⟩) 1 c0) 1 [.int .i64 (q : Int)]) :
    Calls Try.prog 80 #[.agg #[.int .i64 n, .slice a l.length cap], .slice (some ⟨g, 0, none⟩) 1 c0, .int .i64 k] w (CyN B ((Hw.ways (ww l) k q).find? (cE l)) w) :=
  l06Cycle_on n a l cap k hok 7 (fun m' e => l06Cycle_any n a l cap k hok m') [q] B g c0 w hrow rfl (Hw.Way.one _ _) (by simp) (fun x hx => (show x = q from by simpa using hx) ▸ hq) hB hown (by simp; omega)
theorem ct_in {n : Int} {l : List Int} (hok : Ok n l) {q : Nat} {k : Int} (hq : q < l.length) (h3 : 3 ≤ k) : (Hw.ways (ww l) k q).find? (Hw.cyc (ww l)) = (Hw.ways (ww l) k q).find? (cE l) := by
  have : ∀ L : List (List Nat), (∀ w ∈ L, Hw.cyc (ww l) w = cE l w) → L.find? (Hw.cyc (ww l)) = L.find? (cE l) := by
    intro L
    induction L with
    | nil => intro _; rfl
    | cons x L ih =>
      intro h
      rw [List.find?_cons, List.find?_cons, h x (by simp), ih (fun w hw => h w (by simp [hw]))]
  refine this _ (fun w hw => ?_)
  have h := ways_at hok hq hw
  unfold Hw.cyc cE
  rw [show decide (3 ≤ w.length) = true by rw [decide_eq_true_iff]; have := h.2.1; omega, Bool.true_and]
theorem ct_out {n : Int} {l : List Int} (hok : Ok n l) {q : Nat} {k : Int} (hq : q < l.length) (h3 : ¬ (3 ≤ k ∧ k ≤ (l.length : Int))) : (Hw.ways (ww l) k q).find? (Hw.cyc (ww l)) = none := by
  rw [List.find?_eq_none]
  intro w hw
  have h := ways_at hok hq hw
  have hl := Hw.way_len h.1.1 h.2.2.1
  unfold Hw.cyc
  rw [show decide (3 ≤ w.length) = false by rw [decide_eq_false_iff_not]; have := h.2.1; omega]
  simp

set_option maxRecDepth 100000 in
set_option maxHeartbeats 2000000 in
theorem specCycleThrough (n : Int) (a : Option Addr) (l : List Int) (cap : Nat) (q k : Int) (w : World) (hrow : IntRow w a l) (hl : l.length ≤ maxLen) :
    Calls Try.prog 50 #[.agg #[.int .i64 n, .slice a l.length cap], .int .i64 q, .int .i64 k] w (RetB w (ctR n l q k)) := by
  obtain ⟨Wa, hWa⟩ : ∃ Wa, Wa = w.alloc (.cells #[.int .i64 n, .slice a l.length cap] 25) := ⟨_, rfl⟩
  have HWa := Lib.hid hWa
  have hba : Below w.heap.size w Wa := by rw [hWa]; exact (Below.refl _ _).alloc (Nat.le_refl _) _
  have xa : Box Wa w.heap.size 25 (.int .i64 n) (.slice a l.length cap) := by rw [hWa]; exact Box.new _ _ _ _
  have hrowa : IntRow Wa a l := hrow.below hba (Nat.le_refl _)
  have HL := Lib.hid hl
  clear hl hrow hWa
  cases hok : (okB n l && pl n q)
  · have HO := Lib.hid hok
    have HE : Hid (ctR n l q k = none) := ctR_no hok
    clear hok
    go_enter Try.func50, Try.ntmps50
    go_wp2_with fail
    rw [← HWa.out]
    refine (specPlayer n a l cap q Wa hrowa HL.out).mono ?_
    rintro e w1 ⟨rfl, hb1⟩
    rw [HO.out]
    have B1 := Lib.hid (hba.trans (hb1.mono hba.size))
    clear hb1
    go_wp2
    go_ret2
    exact ⟨⟨_, by rw [HE.out]; rfl, by rw [HE.out]; exact World.ownsRow_nil _ _ _ _⟩, B1.out⟩
  have HO := Lib.hid hok
  rw [Bool.and_eq_true] at hok
  have hk := okB_iff.1 hok.1
  obtain ⟨qq, rfl, hqq⟩ : ∃ qq : Nat, q = qq ∧ qq < l.length := by have := pl_iff.1 hok.2; have := hk.2.2.1; exact ⟨q.toNat, by omega, by omega⟩
  have HE := Lib.hid (ctR_yes (k := k) hok.1 hok.2)
  have HK := Lib.hid hk
  have hnl := hk.2.2.1
  have hl8 : l.length ≤ 8 := by have := hk.2.1; omega
  subst hnl
  clear hok hk
  go_enter Try.func50, Try.ntmps50
  go_wp2_with fail
  rw [← HWa.out]
  refine (specPlayer _ a l cap (qq : Int) Wa hrowa HL.out).mono ?_
  rintro e w1 ⟨rfl, hb1⟩
  rw [HO.out]
  have xa1 := xa.below hb1 xa.lt
  have hrow1 := hrowa.below hb1 (Nat.le_refl _)
  have bw1 := hba.trans (hb1.mono hba.size)
  have c0 := xa1.c0
  have c1 := xa1.c1
  have BW := Lib.hid bw1
  have HR1 := Lib.hid hrow1
  clear hb1 hba xa hrowa xa1 hrow1 bw1
  go_wp2_with fail
  refine (l01In_any k 3 (l.length : Int) w1).mono ?_
  rintro e w2 ⟨rfl, rfl⟩
  by_cases h3 : 3 ≤ k ∧ k ≤ (l.length : Int)
  · have hin : (decide ((3 : Int) ≤ k) && decide (k ≤ (l.length : Int))) = true := by simp [h3]
    rw [hin]
    have HF : Hid (ctR (l.length : Int) l (qq : Int) k = (Hw.ways (ww l) k qq).find? (cE l)) := by show _ = _; rw [HE.out, ct_in HK.out hqq h3.1]
    obtain ⟨W2, hW2⟩ : ∃ W2, W2 = w1.alloc (.cells #[.int .i64 (qq : Int)] 3) := ⟨_, rfl⟩
    have hb2 : Below w1.heap.size w1 W2 := by rw [hW2]; exact (Below.refl _ _).alloc (Nat.le_refl _) _
    have hown : W2.ownsRow w.heap.size 3 1 (.slice (some ⟨w1.heap.size, 0, none⟩) 1 1) 1 [.int .i64 (qq : Int)] := by
      rw [hW2]
      exact World.ownsRow_lit (base := w.heap.size) (e := 3) (size := 1) w1 #[.int .i64 (qq : Int)] 1 BW.out.size (by first | rfl | simp | decide) rfl
    have hcall := l06Cycle_all (l.length : Int) a l cap k qq w.heap.size w1.heap.size 1 W2 HK.out hqq h3.1 (HR1.out.below hb2 (Nat.le_refl _)) (Nat.le_trans BW.out.size hb2.size) hown
    have HC := Lib.hid hcall
    have HW2 := Lib.hid hW2
    have B2 := Lib.hid (BW.out.trans (hb2.mono BW.out.size))
    clear hcall hW2 hb2 hown h3 hin
    go_wp2_with fail
    rw [← HW2.out]
    refine HC.out.mono ?_
    rintro e w3 ⟨v, rfl, h1, h2, h3⟩
    have H1 := Lib.hid h1
    have H2 := Lib.hid h2
    have B3 := Lib.hid (B2.out.trans (h3.mono B2.out.size))
    clear h1 h2 h3 c0 c1
    go_wp2
    go_ret2
    refine ⟨⟨_, by rw [HF.out]; rfl, ?_⟩, B3.out⟩
    rw [HF.out]
    cases hf : (Hw.ways (ww l) k qq).find? (cE l) with
    | none => rw [show v = _ from H2.out hf]; exact World.ownsRow_nil _ _ _ _
    | some y => exact H1.out y hf
  · have hin : (decide ((3 : Int) ≤ k) && decide (k ≤ (l.length : Int))) = false := by
      rw [Bool.and_eq_false_iff, decide_eq_false_iff_not, decide_eq_false_iff_not]; omega
    rw [hin]
    have HF : Hid (ctR (l.length : Int) l (qq : Int) k = none) := by show _ = _; rw [HE.out, ct_out HK.out hqq h3]
    clear h3 hin c0 c1
    go_wp2
    go_ret2
    exact ⟨⟨_, by rw [HF.out]; rfl, by rw [HF.out]; exact World.ownsRow_nil _ _ _ _⟩, BW.out⟩
theorem retB_row {w : World} {r : Option (List Nat)} {e : Ending} {w' : World} (h : RetB w r e w') : (∃ a0 c0, e = .returned (.tuple #[.slice a0 (ofN (r.getD [])).length c0, .bool r.isSome]) ∧ w'.ownsRow w.heap.size 3 1 (.slice a0 (ofN (r.getD [])).length c0) (ofN (r.getD [])).length ((ofN (r.getD [])).map iv)) ∧ Below w.heap.size w w' := by
  obtain ⟨⟨v, rfl, ho⟩, hb⟩ := h
  obtain ⟨a0, c0, rfl⟩ := own_cut ho
  refine ⟨⟨a0, c0, by rw [ofN_len], ?_⟩, hb⟩
  rw [ofN_len]
  unfold ofN
  rw [← nv_iv]
  exact ho
theorem ctR_le (n : Int) (l : List Int) (q k : Int) : (ofN ((ctR n l q k).getD [])).length ≤ 8 := by
  rw [ofN_len]
  unfold ctR
  split
  · rename_i hok
    rw [Bool.and_eq_true] at hok
    have hk := okB_iff.1 hok.1
    have hq := pl_iff.1 hok.2
    cases h : (Hw.ways (ww l) k q.toNat).find? (Hw.cyc (ww l)) with
    | none => simp
    | some x =>
      have h1 := hk.2.1
      have h2 := hk.2.2.1
      have := ways_at hk (by omega) (List.mem_of_find?_eq_some h)
      have := Hw.way_len this.1.1 this.2.2.1
      simp only [Option.getD_some]
      omega
  · simp
theorem implCT (n : Int) (a : Option Addr) (l : List Int) (cap : Nat) (q k : Int) (w : World) (hrow : IntRow w a l) (hl : l.length ≤ maxLen) :
    Calls Try.prog 20 #[.agg #[.int .i64 n, .slice a l.length cap], .int .i64 q, .int .i64 k] w fun e w' => (∃ a0 c0, e = .returned (.tuple #[.slice a0 (ofN ((ctR n l q k).getD [])).length c0, .bool (ctR n l q k).isSome]) ∧ w'.ownsRow w.heap.size 3 1 (.slice a0 (ofN ((ctR n l q k).getD [])).length c0) (ofN ((ctR n l q k).getD [])).length ((ofN ((ctR n l q k).getD [])).map iv)) ∧ Below w.heap.size w w' :=
  (implCycleThrough n a l cap q k w hrow hl).mono fun _ _ h => retB_row h
theorem specCT (n : Int) (a : Option Addr) (l : List Int) (cap : Nat) (q k : Int) (w : World) (hrow : IntRow w a l) (hl : l.length ≤ maxLen) :
    Calls Try.prog 50 #[.agg #[.int .i64 n, .slice a l.length cap], .int .i64 q, .int .i64 k] w fun e w' => (∃ a0 c0, e = .returned (.tuple #[.slice a0 (ofN ((ctR n l q k).getD [])).length c0, .bool (ctR n l q k).isSome]) ∧ w'.ownsRow w.heap.size 3 1 (.slice a0 (ofN ((ctR n l q k).getD [])).length c0) (ofN ((ctR n l q k).getD [])).length ((ofN ((ctR n l q k).getD [])).map iv)) ∧ Below w.heap.size w w' :=
  (specCycleThrough n a l cap q k w hrow hl).mono fun _ _ h => retB_row h
end Go.Proofs.Ytnlpfajncpbjpaa
