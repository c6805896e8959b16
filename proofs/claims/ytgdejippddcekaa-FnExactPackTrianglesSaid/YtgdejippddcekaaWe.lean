/-
  'IsTriangle' of the model. No conditions but the bounds that Go gives a slice.
-/
import Derived.Test.YtgdejippddcekaaWd
namespace Go.Proofs.Ytgdejippddcekaa
open Go.ChangeShapes Go.WideShapes Go.ChangeAt Go.RowKit
set_option linter.unusedVariables false

/-- Whether a list is a triangle of a valid tour. -/
def triOk (l r : List Int) : Bool := r.length == 3 && ((pl l.length (r.getD 0 0) && (pl l.length (r.getD 1 0) && pl l.length (r.getD 2 0))) && (decide (r.getD 0 0 < r.getD 1 0) && (decide (r.getD 0 0 < r.getD 2 0) && (bt l (r.getD 0 0).toNat (r.getD 1 0).toNat && (bt l (r.getD 1 0).toNat (r.getD 2 0).toNat && bt l (r.getD 2 0).toNat (r.getD 0 0).toNat)))))
noncomputable def isB (n : Int) (l r : List Int) : Bool := okB n l && triOk l r
theorem len3 {r : List Int} (h : r.length = 3) : r = [r.getD 0 0, r.getD 1 0, r.getD 2 0] := by
  match r, h with
  | [x, y, z], _ => rfl
theorem pl_nat {m : Nat} {x : Int} (h : pl m x = true) : ∃ k : Nat, x = k ∧ k < m := by
  simp only [pl, Bool.and_eq_true, decide_eq_true_eq] at h
  exact ⟨x.toNat, by omega, by omega⟩
theorem pl_in (m : Nat) (x : Int) (hm : 1 ≤ m) : (decide (0 ≤ x) && decide (x ≤ (m : Int) - 1)) = pl m x := by
  unfold pl
  have : (x ≤ (m : Int) - 1) = (x < (m : Int)) := propext (by omega)
  simp only [this]

set_option maxRecDepth 100000 in
set_option maxHeartbeats 2000000 in
theorem specIsTriangle (n : Int) (a : Option Addr) (l : List Int) (cap : Nat) (b : Option Addr) (r : List Int) (cb : Nat) (w : World) (hrow : IntRow w a l) (hl : l.length ≤ maxLen) (hrb : IntRow w b r) (hlr : r.length ≤ maxLen) :
    Calls Try.prog 17 #[.agg #[.int .i64 n, .slice a l.length cap], .slice b r.length cb] w fun e w' => e = .returned (.bool (isB n l r)) ∧ Below w.heap.size w w' := by
  obtain ⟨Wa, hWa⟩ : ∃ Wa, Wa = w.alloc (.cells #[.int .i64 n, .slice a l.length cap] 28) := ⟨_, rfl⟩
  have HWa := Lib.hid hWa
  have hba : Below w.heap.size w Wa := by rw [hWa]; exact (Below.refl _ _).alloc (Nat.le_refl _) _
  have xa : Box Wa w.heap.size 28 (.int .i64 n) (.slice a l.length cap) := by rw [hWa]; exact Box.new _ _ _ _
  have hrowa : IntRow Wa a l := hrow.below hba (Nat.le_refl _)
  have hrba : IntRow Wa b r := hrb.below hba (Nat.le_refl _)
  have HL := Lib.hid hl
  unfold maxLen at hlr
  clear hl hrow hrb hWa
  cases hok : okB n l
  · have HO := Lib.hid hok
    have HE : Hid (isB n l r = false) := by show _ = _; unfold isB; rw [hok]; rfl
    clear hok
    go_enter Try.func17, Try.ntmps17
    go_wp2_with fail
    rw [← HWa.out]
    refine (specTourOk n a l cap Wa hrowa HL.out).mono ?_
    rintro e w1 ⟨rfl, hb1⟩
    rw [HO.out]
    have B1 := Lib.hid (hba.trans (hb1.mono hba.size))
    clear hb1
    go_wp2
    go_ret
    exact ⟨by rw [HE.out]; rfl, B1.out⟩
  have HO := Lib.hid hok
  have HK : Hid (Ok n l) := okB_iff.1 hok
  have hnl := HK.out.2.2.1
  have h8 : l.length ≤ 8 := by have := HK.out.2.1; omega
  have h1 : 1 ≤ l.length := by have := HK.out.1; omega
  have hIB : isB n l r = triOk l r := by unfold isB; rw [hok]; rfl
  rw [hIB]
  subst hnl
  clear hok hIB
  by_cases hlen : r.length = 3
  · have HE : Hid (triOk l r = ((pl l.length (r.getD 0 0) && (pl l.length (r.getD 1 0) && pl l.length (r.getD 2 0))) && (decide (r.getD 0 0 < r.getD 1 0) && (decide (r.getD 0 0 < r.getD 2 0) && (bt l (r.getD 0 0).toNat (r.getD 1 0).toNat && (bt l (r.getD 1 0).toNat (r.getD 2 0).toNat && bt l (r.getD 2 0).toNat (r.getD 0 0).toNat)))))) := by
      show _ = _; unfold triOk; rw [hlen]; rfl
    obtain ⟨q, off, rfl, hq, hcs⟩ : ∃ q off, b = some ⟨q, off, none⟩ ∧ q < Wa.heap.size ∧ ∀ j, j < 3 → Wa.cell? ⟨q, off + j, none⟩ = some (.int .i64 (r.getD j 0)) := by
      rcases hrba with h | ⟨q, off, h, hq, hc⟩
      · rw [h] at hlen; cases hlen
      · exact ⟨q, off, h, hq, fun j hj => hc j (by omega)⟩
    have HCS := Lib.hid hcs
    have HIN : Hid (∀ (x : Int) (W : World), Calls Try.prog 36 #[.int .i64 x, .int .i64 0, .int .i64 ((l.length : Int) - 1)] W fun e w' => e = .returned (.bool (pl l.length x)) ∧ W = w') := fun x W => by rw [← pl_in l.length x h1]; exact l01In_any x 0 _ W
    rw [hlen]
    clear hcs hrba hlen
    go_enter Try.func17, Try.ntmps17
    go_wp2_with fail
    rw [← HWa.out]
    refine (specTourOk _ a l cap Wa hrowa HL.out).mono ?_
    rintro e w1 ⟨rfl, hb1⟩
    rw [HO.out]
    have x1 := xa.below hb1 xa.lt
    have c0 := x1.c0
    have c1 := x1.c1
    have B1 := Lib.hid (hba.trans (hb1.mono hba.size))
    have R1 := Lib.hid (hrowa.below hb1 (Nat.le_refl _))
    have HC1 : Hid (∀ j, j < 3 → w1.cell? ⟨q, off + j, none⟩ = some (.int .i64 (r.getD j 0))) := fun j hj => (hb1.cell (p := ⟨q, off + j, none⟩) hq).trans (HCS.out j hj)
    clear hb1 xa hrowa x1
    go_wp2
    go_loop [17] (fun i => ∃ k : Nat, k ≤ 3 ∧ i = .int .i64 k ∧ Hid (∀ j, j < k → pl l.length (r.getD j 0) = true)) (fun i => 3 - (intOf i).toNat)
    case atStart => exact ⟨0, by omega, rfl, fun j hj => absurd hj (Nat.not_lt_zero _)⟩
    case round =>
      obtain ⟨k, hk, rfl, hpl⟩ := hrel
      by_cases hlt : k < 3
      · have hck := HC1.out k hlt
        obtain ⟨x, hx⟩ : ∃ x, x = r.getD k 0 := ⟨_, rfl⟩
        rw [← hx] at hck
        have hki : (k : Int) < 3 := by omega
        cases hp : pl l.length x
        · have HP := Lib.hid hp
          have HF : Hid (triOk l r = false) := by
            show _ = _
            rw [HE.out]
            have : (pl l.length (r.getD 0 0) && (pl l.length (r.getD 1 0) && pl l.length (r.getD 2 0))) = false := by
              rw [hx] at hp
              match k, hlt, hp with
              | 0, _, hp => rw [hp]; rfl
              | 1, _, hp => rw [hp]; simp
              | 2, _, hp => rw [hp]; simp
            rw [this]; rfl
          clear hp hx
          go_wp2_with fail
          refine (HIN.out x _).mono ?_
          rintro e w' ⟨rfl, rfl⟩
          rw [HP.out]
          go_wp2
          go_ret
          exact ⟨by rw [HF.out]; rfl, B1.out⟩
        · have HP := Lib.hid hp
          have hnx : Hid (∀ j, j < k + 1 → pl l.length (r.getD j 0) = true) := by
            intro j hj
            by_cases e : j = k
            · rw [e, ← hx]; exact hp
            · exact hpl.out j (by omega)
          clear hp hx
          go_wp2_with fail
          refine (HIN.out x _).mono ?_
          rintro e w' ⟨rfl, rfl⟩
          rw [HP.out]
          go_wp2
          go_round
          case rel => exact ⟨k + 1, by omega, by go_num, hnx.out⟩
          case measure => simp [intOf]; omega
      · obtain rfl : k = 3 := by omega
        obtain ⟨x, hx, hxl⟩ := pl_nat (hpl.out 0 (by omega))
        obtain ⟨y, hy, hyl⟩ := pl_nat (hpl.out 1 (by omega))
        obtain ⟨z, hz, hzl⟩ := pl_nat (hpl.out 2 (by omega))
        have p0 := hpl.out 0 (by omega)
        have p1 := hpl.out 1 (by omega)
        have p2 := hpl.out 2 (by omega)
        have r0 := HC1.out 0 (by omega)
        have r1 := HC1.out 1 (by omega)
        have r2 := HC1.out 2 (by omega)
        have hE2 := HE.out
        rw [p0, p1, p2, hx, hy, hz] at hE2
        simp only [Int.toNat_natCast, Bool.true_and] at hE2
        have HE2 := Lib.hid hE2
        rw [hx] at r0
        rw [hy] at r1
        rw [hz] at r2
        rw [Nat.add_zero] at r0
        have hk3 : ¬ ((3 : Nat) : Int) < 3 := by omega
        have hq0 := fun d os => cell_regrown c0 d os
        have hq1 := fun d os => cell_regrown c1 d os
        have hr0 := fun d os => cell_regrown r0 d os
        have hr1 := fun d os => cell_regrown r1 d os
        have hr2 := fun d os => cell_regrown r2 d os
        have cP : ∀ (i j : Nat), i < l.length → j < 64 → ∀ d os, Calls Try.prog 37 #[.agg #[.int .i64 (l.length : Int), .slice a l.length cap], .int .i64 i, .int .i64 j] (Go.Sort.grow (redrawn w1 d) os) fun e w'' => e = .returned (.bool (bt l i j)) ∧ ∃ p : Regrown, w'' = Go.Sort.grow (redrawn w1 p.d) p.os :=
          fun i j hi hj d os => Calls.regrown_of (l02Beats_any _ a l cap i j _ (R1.out.below (below_regrown w1 d os) (Nat.le_refl _)) HL.out hi hj)
        clear hpl hx hy hz p0 p1 p2 hE2 c0 c1 r0 r1 r2
        have fin : ∀ (res : Bool), res = triOk l r → ∀ wq : World, (∃ p : Regrown, wq = Go.Sort.grow (redrawn w1 p.d) p.os) → Ending.returned (.bool res) = Ending.returned (.bool (triOk l r)) ∧ Below w.heap.size w wq := by
          rintro res rfl wq ⟨⟨dq, osq⟩, rfl⟩
          exact ⟨rfl, B1.out.trans ((below_regrown w1 dq osq).mono B1.out.size)⟩
        have HF := Lib.hid fin
        clear fin
        have hx64 : x < 64 := by omega
        have hy64 : y < 64 := by omega
        have hz64 : z < 64 := by omega
        by_cases hxy : (x : Int) < (y : Int)
        · by_cases hxz : (x : Int) < (z : Int)
          · have hd1 : decide ((x : Int) < (y : Int)) = true := by simpa using hxy
            have hd2 : decide ((x : Int) < (z : Int)) = true := by simpa using hxz
            have HG : Hid (triOk l r = (bt l x y && (bt l y z && bt l z x))) := by show _ = _; rw [HE2.out, hd1, hd2]; rfl
            clear HE2 hd1 hd2
            cases t1 : bt l x y
            · have HG1 : Hid (false = triOk l r) := by show _ = _; rw [HG.out, t1]; rfl
              have cQ : ∀ d os, Calls Try.prog 37 #[.agg #[.int .i64 (l.length : Int), .slice a l.length cap], .int .i64 x, .int .i64 y] (Go.Sort.grow (redrawn w1 d) os) fun e w'' => e = .returned (.bool false) ∧ ∃ p : Regrown, w'' = Go.Sort.grow (redrawn w1 p.d) p.os := fun d os => by rw [← t1]; exact cP x y hxl hy64 d os
              clear HG t1 cP
              go_wp2
              refine wp_region_quiet_below (by kernel_rfl) (by kernel_rfl) ?_
              repeat (go_big_quiet_step (exact cQ _ _))
              refine wpQuiet_nil ?_
              intro wq hw'
              have HW := Lib.hid (HF.out _ HG1.out wq hw')
              clear hw' cQ hq0 hq1 hr0 hr1 hr2
              go_wp2
              go_ret
              exact HW.out
            · cases t2 : bt l y z
              · have HG1 : Hid (false = triOk l r) := by show _ = _; rw [HG.out, t1, t2]; rfl
                have cQ1 : ∀ d os, Calls Try.prog 37 #[.agg #[.int .i64 (l.length : Int), .slice a l.length cap], .int .i64 x, .int .i64 y] (Go.Sort.grow (redrawn w1 d) os) fun e w'' => e = .returned (.bool true) ∧ ∃ p : Regrown, w'' = Go.Sort.grow (redrawn w1 p.d) p.os := fun d os => by rw [← t1]; exact cP x y hxl hy64 d os
                have cQ2 : ∀ d os, Calls Try.prog 37 #[.agg #[.int .i64 (l.length : Int), .slice a l.length cap], .int .i64 y, .int .i64 z] (Go.Sort.grow (redrawn w1 d) os) fun e w'' => e = .returned (.bool false) ∧ ∃ p : Regrown, w'' = Go.Sort.grow (redrawn w1 p.d) p.os := fun d os => by rw [← t2]; exact cP y z hyl hz64 d os
                clear HG t1 t2 cP
                go_wp2
                refine wp_region_quiet_below (by kernel_rfl) (by kernel_rfl) ?_
                repeat (go_big_quiet_step (first | (with_reducible exact cQ1 _ _) | (with_reducible exact cQ2 _ _)))
                refine wpQuiet_nil ?_
                intro wq hw'
                have HW := Lib.hid (HF.out _ HG1.out wq hw')
                clear hw' cQ1 cQ2 hq0 hq1 hr0 hr1 hr2
                go_wp2
                go_ret
                exact HW.out
              · have HG1 : Hid (bt l z x = triOk l r) := by show _ = _; rw [HG.out, t1, t2]; rfl
                have cQ1 : ∀ d os, Calls Try.prog 37 #[.agg #[.int .i64 (l.length : Int), .slice a l.length cap], .int .i64 x, .int .i64 y] (Go.Sort.grow (redrawn w1 d) os) fun e w'' => e = .returned (.bool true) ∧ ∃ p : Regrown, w'' = Go.Sort.grow (redrawn w1 p.d) p.os := fun d os => by rw [← t1]; exact cP x y hxl hy64 d os
                have cQ2 : ∀ d os, Calls Try.prog 37 #[.agg #[.int .i64 (l.length : Int), .slice a l.length cap], .int .i64 y, .int .i64 z] (Go.Sort.grow (redrawn w1 d) os) fun e w'' => e = .returned (.bool true) ∧ ∃ p : Regrown, w'' = Go.Sort.grow (redrawn w1 p.d) p.os := fun d os => by rw [← t2]; exact cP y z hyl hz64 d os
                have cQ3 : ∀ d os, Calls Try.prog 37 #[.agg #[.int .i64 (l.length : Int), .slice a l.length cap], .int .i64 z, .int .i64 x] (Go.Sort.grow (redrawn w1 d) os) fun e w'' => e = .returned (.bool (bt l z x)) ∧ ∃ p : Regrown, w'' = Go.Sort.grow (redrawn w1 p.d) p.os := fun d os => cP z x hzl hx64 d os
                obtain ⟨t, ht⟩ : ∃ t, t = bt l z x := ⟨_, rfl⟩
                rw [← ht] at HG1
                simp only [← ht] at cQ3
                clear HG t1 t2 cP ht
                go_wp2
                refine wp_region_quiet_below (by kernel_rfl) (by kernel_rfl) ?_
                repeat (go_big_quiet_step (first | (with_reducible exact cQ1 _ _) | (with_reducible exact cQ2 _ _) | (with_reducible exact cQ3 _ _)))
                refine wpQuiet_nil ?_
                intro wq hw'
                have HW := Lib.hid (HF.out _ HG1.out wq hw')
                clear hw' cQ1 cQ2 cQ3 hq0 hq1 hr0 hr1 hr2
                go_wp2
                go_ret
                exact HW.out
          · have hd1 : decide ((x : Int) < (y : Int)) = true := by simpa using hxy
            have hd2 : decide ((x : Int) < (z : Int)) = false := by simpa using hxz
            have HG1 : Hid (false = triOk l r) := by show _ = _; rw [HE2.out, hd1, hd2]; rfl
            clear HE2 hd1 hd2
            have hd3 : decide (x < z) = false := by simp; omega
            go_wp2
            refine wp_region_quiet_below (by kernel_rfl) (by kernel_rfl) ?_
            repeat (go_big_quiet_step (exact cP _ _ (by omega) (by omega) _ _))
            refine wpQuiet_nil ?_
            intro wq hw'
            have HW := Lib.hid (HF.out _ HG1.out wq hw')
            clear hw' cP hq0 hq1 hr0 hr1 hr2
            go_wp2
            go_ret
            exact HW.out
        · have hd1 : decide ((x : Int) < (y : Int)) = false := by simpa using hxy
          have HG1 : Hid (false = triOk l r) := by show _ = _; rw [HE2.out, hd1]; rfl
          clear HE2 hd1
          have hd3 : decide (x < y) = false := by simp; omega
          go_wp2
          refine wp_region_quiet_below (by kernel_rfl) (by kernel_rfl) ?_
          repeat (go_big_quiet_step (exact cP _ _ (by omega) (by omega) _ _))
          refine wpQuiet_nil ?_
          intro wq hw'
          have HW := Lib.hid (HF.out _ HG1.out wq hw')
          clear hw' cP hq0 hq1 hr0 hr1 hr2
          go_wp2
          go_ret
          exact HW.out
  · have HE : Hid (triOk l r = false) := by
      show _ = _; unfold triOk
      have : (r.length == 3) = false := by rw [beq_eq_false_iff_ne]; exact hlen
      rw [this]; rfl
    have hne : ((r.length : Int) == 3) = false := by rw [beq_eq_false_iff_ne]; omega
    have hne2 : ((r.length : Int) != 3) = true := by simp; omega
    clear hlen
    go_enter Try.func17, Try.ntmps17
    go_wp2_with fail
    rw [← HWa.out]
    refine (specTourOk _ a l cap Wa hrowa HL.out).mono ?_
    rintro e w1 ⟨rfl, hb1⟩
    rw [HO.out]
    have B1 := Lib.hid (hba.trans (hb1.mono hba.size))
    clear hb1
    go_wp2
    go_ret
    exact ⟨by rw [HE.out]; rfl, B1.out⟩
end Go.Proofs.Ytgdejippddcekaa
