/-
  'CountWaysFrom' and 'CountFullWays' of the model; 'CountFullWays' of the program. No conditions but the bounds that Go gives a slice.
-/
import Derived.Test.YtnlpfajncpbjpaaJI
namespace Go.Proofs.Ytnlpfajncpbjpaa
open Go.ChangeShapes Go.WideShapes Go.ChangeAt Go.RowKit
set_option linter.unusedVariables false

theorem Lw.start {n : Int} {l : List Int} (hok : Ok n l) {q : Nat} (hq : q < l.length) : ∃ s, 2 ^ l.length - 1 = s + 2 ^ q ∧ Lw l 7 [q] s := by
  have hl8 : l.length ≤ 8 := by have := hok.2.1; have := hok.2.2.1; omega
  obtain ⟨h1, h2⟩ := (Hw.Lf.all l.length).snoc hl8 hq (by simp)
  exact ⟨2 ^ l.length - 1 - 2 ^ q, (Nat.sub_add_cancel h2).symm, rfl, Hw.Way.one _ _, by simp, fun x hx => (show x = q from by simpa using hx) ▸ hq, h1⟩
/-- 'l06Count' from the beginning. -/
theorem l06Count_all (n : Int) (a : Option Addr) (l : List Int) (cap q : Nat) (w : World) (hok : Ok n l) (hq : q < l.length) (hrow : IntRow w a l) :
    Calls Try.prog 75 #[.agg #[.int .i64 n, .slice a l.length cap], .int .i64 (((2 ^ l.length : Nat) : Int) - 1), .int .i64 (q : Int)] w fun e w' => e = .returned (.int .i64 ((Hw.ways (ww l) (l.length : Int) q).length : Nat)) ∧ Below w.heap.size w w' := by
  obtain ⟨s, hs, h⟩ := Lw.start hok hq
  have hc := l06Count_any n a l cap hok 7 [q] s (2 ^ l.length - 1) q w hrow h rfl hs
  have e : ((2 ^ l.length : Nat) : Int) - 1 = ((2 ^ l.length - 1 : Nat) : Int) := by have := Nat.two_pow_pos l.length; omega
  rw [e]; exact hc

set_option maxRecDepth 100000 in
set_option maxHeartbeats 2000000 in
theorem specCountWaysFrom (n : Int) (a : Option Addr) (l : List Int) (cap : Nat) (q : Int) (w : World) (hrow : IntRow w a l) (hl : l.length ≤ maxLen) :
    Calls Try.prog 47 #[.agg #[.int .i64 n, .slice a l.length cap], .int .i64 q] w fun e w' => e = .returned (.int .i64 (cwR n l q)) ∧ Below w.heap.size w w' := by
  obtain ⟨Wa, hWa⟩ : ∃ Wa, Wa = w.alloc (.cells #[.int .i64 n, .slice a l.length cap] 25) := ⟨_, rfl⟩
  have HWa := Lib.hid hWa
  have hba : Below w.heap.size w Wa := by rw [hWa]; exact (Below.refl _ _).alloc (Nat.le_refl _) _
  have xa : Box Wa w.heap.size 25 (.int .i64 n) (.slice a l.length cap) := by rw [hWa]; exact Box.new _ _ _ _
  have hrowa : IntRow Wa a l := hrow.below hba (Nat.le_refl _)
  have HL := Lib.hid hl
  clear hl hrow hWa
  cases hok : (okB n l && pl n q)
  · have HO := Lib.hid hok
    have HE : Hid (cwR n l q = -1) := cwR_no hok
    clear hok
    go_enter Try.func47, Try.ntmps47
    go_wp2_with fail
    rw [← HWa.out]
    refine (specPlayer n a l cap q Wa hrowa HL.out).mono ?_
    rintro e w1 ⟨rfl, hb1⟩
    rw [HO.out]
    have B1 := Lib.hid (hba.trans (hb1.mono hba.size))
    clear hb1
    go_wp2
    go_ret
    exact ⟨by rw [HE.out]; rfl, B1.out⟩
  have HO := Lib.hid hok
  rw [Bool.and_eq_true] at hok
  have hk := okB_iff.1 hok.1
  obtain ⟨qq, rfl, hqq⟩ : ∃ qq : Nat, q = qq ∧ qq < l.length := by have := pl_iff.1 hok.2; have := hk.2.2.1; exact ⟨q.toNat, by omega, by omega⟩
  have HE := Lib.hid (cwR_yes hok.1 hok.2)
  have HK := Lib.hid hk
  have hnl := hk.2.2.1
  have hl8 : l.length ≤ 8 := by have := hk.2.1; omega
  subst hnl
  clear hok hk
  go_enter Try.func47, Try.ntmps47
  go_wp2_with fail
  rw [← HWa.out]
  refine (specPlayer _ a l cap (qq : Int) Wa hrowa HL.out).mono ?_
  rintro e w1 ⟨rfl, hb1⟩
  rw [HO.out]
  have xa1 := xa.below hb1 xa.lt
  have hrow1 := hrowa.below hb1 (Nat.le_refl _)
  have c0 := xa1.c0
  have c1 := xa1.c1
  have hq0 := fun d os => cell_regrown c0 d os
  have hq1 := fun d os => cell_regrown c1 d os
  have hrq : ∀ d os, IntRow (Go.Sort.grow (redrawn w1 d) os) a l := fun d os => hrow1.below (below_regrown w1 d os) (Nat.le_refl _)
  have cA : ∀ d os, Calls Try.prog 76 #[.agg #[.int .i64 (l.length : Int), .slice a l.length cap]] (Go.Sort.grow (redrawn w1 d) os) fun e w'' => e = .returned (.int .i64 (((2 ^ l.length : Nat) : Int) - 1)) ∧ ∃ p : Regrown, w'' = Go.Sort.grow (redrawn w1 p.d) p.os :=
    fun d os => Calls.regrown_of (l02All_any a l.length cap l.length _ hl8)
  have cC : ∀ d os, Calls Try.prog 75 #[.agg #[.int .i64 (l.length : Int), .slice a l.length cap], .int .i64 (((2 ^ l.length : Nat) : Int) - 1), .int .i64 (qq : Int)] (Go.Sort.grow (redrawn w1 d) os) fun e w'' => e = .returned (.int .i64 ((Hw.ways (ww l) (l.length : Int) qq).length : Nat)) ∧ ∃ p : Regrown, w'' = Go.Sort.grow (redrawn w1 p.d) p.os :=
    fun d os => Calls.regrown_of (l06Count_all _ a l cap qq _ HK.out hqq (hrq d os))
  obtain ⟨AA, hAA⟩ : ∃ AA : Int, AA = ((2 ^ l.length : Nat) : Int) - 1 := ⟨_, rfl⟩
  rw [← hAA] at cA cC
  obtain ⟨CC, hCC⟩ : ∃ CC, CC = (Hw.ways (ww l) (l.length : Int) qq).length := ⟨_, rfl⟩
  rw [← hCC] at cC
  have HCC := Lib.hid hCC
  have b1 := Lib.hid (hba.trans (hb1.mono hba.size))
  clear hAA hCC hrq hb1 hba xa hrowa xa1 hrow1 c0 c1
  go_wp2
  refine wp_region_quiet_below (by kernel_rfl) (by kernel_rfl) ?_
  repeat (go_big_quiet_step (first | exact cA _ _ | exact cC _ _))
  refine wpQuiet_nil ?_
  intro wq hw'
  have hbq : Below w1.heap.size w1 wq := by obtain ⟨⟨dq, osq⟩, hw''⟩ := hw'; rw [hw'']; exact below_regrown w1 dq osq
  have HBQ := Lib.hid (b1.out.trans (hbq.mono b1.out.size))
  clear hw' cA cC hq0 hq1 hbq
  go_wp2
  go_ret
  exact ⟨by rw [HE.out, ← HCC.out]; rfl, HBQ.out⟩

/-- What 'CountFullWays' answers. -/
noncomputable def cfR (n : Int) (l : List Int) : Int := if okB n l then ((Hw.full (ww l) l.length).length : Int) else -1
/-- The ways from the first j players. -/
def fullT (l : List Int) (j : Nat) : List (List Nat) := (List.range j).flatMap (Hw.ways (ww l) (l.length : Int))
theorem fullT_succ (l : List Int) (j : Nat) : fullT l (j + 1) = fullT l j ++ Hw.ways (ww l) (l.length : Int) j := by
  unfold fullT; rw [List.range_succ, List.flatMap_append]; simp
theorem fullT_le (l : List Int) {j : Nat} (h : j ≤ 8) : (fullT l j).length ≤ 16777216 := by
  refine Nat.le_trans (Hw.flat_len _ 2097152 _ fun b _ => Hw.ways_len _ _ _) ?_
  rw [List.length_range]
  calc _ ≤ 8 * 2097152 := Nat.mul_le_mul h (Nat.le_refl _)
    _ = 16777216 := by decide

set_option maxRecDepth 100000 in
set_option maxHeartbeats 2000000 in
theorem implCountFullWays (n : Int) (a : Option Addr) (l : List Int) (cap : Nat) (w : World) (hrow : IntRow w a l) (hl : l.length ≤ maxLen) :
    Calls Try.prog 28 #[.agg #[.int .i64 n, .slice a l.length cap]] w fun e w' => e = .returned (.int .i64 (cfR n l)) ∧ Below w.heap.size w w' := by
  obtain ⟨Wa, hWa⟩ : ∃ Wa, Wa = w.alloc (.cells #[.int .i64 n, .slice a l.length cap] 25) := ⟨_, rfl⟩
  have HWa := Lib.hid hWa
  have hba : Below w.heap.size w Wa := by rw [hWa]; exact (Below.refl _ _).alloc (Nat.le_refl _) _
  have xa : Box Wa w.heap.size 25 (.int .i64 n) (.slice a l.length cap) := by rw [hWa]; exact Box.new _ _ _ _
  have hrowa : IntRow Wa a l := hrow.below hba (Nat.le_refl _)
  have HL := Lib.hid hl
  clear hl hrow hWa
  cases hok : okB n l
  · have HO := Lib.hid hok
    have HE : Hid (cfR n l = -1) := by show _ = _; unfold cfR; rw [hok]; rfl
    clear hok
    go_enter Try.func28, Try.ntmps28
    go_wp2_with fail
    rw [← HWa.out]
    refine (implTourOk n a l cap Wa hrowa HL.out).mono ?_
    rintro e w1 ⟨rfl, hb1⟩
    rw [HO.out]
    have B1 := Lib.hid (hba.trans (hb1.mono hba.size))
    clear hb1
    go_wp2
    go_ret
    exact ⟨by rw [HE.out]; rfl, B1.out⟩
  have HO := Lib.hid hok
  have HE : Hid (cfR n l = ((fullT l l.length).length : Int)) := by show _ = _; unfold cfR; rw [hok]; rfl
  have hk := okB_iff.1 hok
  have HK := Lib.hid hk
  have hnl := hk.2.2.1
  have hl8 : l.length ≤ 8 := by have := hk.2.1; omega
  subst hnl
  clear hk
  have HCW : Hid (∀ (q : Nat) (W : World), q < l.length → IntRow W a l → Calls Try.prog 29 #[.agg #[.int .i64 (l.length : Int), .slice a l.length cap], .int .i64 (q : Int)] W fun e w' => e = .returned (.int .i64 ((Hw.ways (ww l) (l.length : Int) q).length : Nat)) ∧ Below W.heap.size W w') :=
    fun q W hq hr => (implCountWaysFrom _ a l cap (q : Int) W hr HL.out).mono fun e w' ⟨he, hw⟩ => ⟨by rw [he, cwR_yes hok (pl_iff.2 ⟨by omega, by omega⟩)], hw⟩
  clear hok
  go_enter Try.func28, Try.ntmps28
  go_wp2_with fail
  rw [← HWa.out]
  refine (implTourOk _ a l cap Wa hrowa HL.out).mono ?_
  rintro e w1 ⟨rfl, hb1⟩
  rw [HO.out]
  have X1 := Lib.hid (xa.below hb1 xa.lt)
  have R1 := Lib.hid (hrowa.below hb1 (Nat.le_refl _))
  have B1 := Lib.hid (hba.trans (hb1.mono hba.size))
  have c0 := X1.out.c0
  have c1 := X1.out.c1
  clear hb1 hba xa hrowa
  go_wp2
  clear c0 c1
  go_loopw [3, 10] (fun cc i wr => ∃ j c : Nat, j ≤ l.length ∧ i = .int .i64 (j : Int) ∧ cc = .int .i64 (c : Int) ∧ Hid (c = (fullT l j).length) ∧ Below w1.heap.size w1 wr) (fun _ i _ => l.length - (intOf i).toNat)
  case atStart => exact ⟨0, 0, Nat.zero_le _, rfl, rfl, rfl, Below.refl _ _⟩
  case round =>
    obtain ⟨j, c, hj, rfl, rfl, hc, hb⟩ := hrel
    by_cases hlt : j < l.length
    · have xr := X1.out.below hb X1.out.lt
      have c0 := xr.c0
      have c1 := xr.c1
      have hcall := HCW.out j wr hlt (R1.out.below hb (Nat.le_refl _))
      have hx2 := Hw.ways_len (ww l) (l.length : Int) j
      obtain ⟨x, hx⟩ : ∃ x, x = (Hw.ways (ww l) (l.length : Int) j).length := ⟨_, rfl⟩
      rw [← hx] at hcall hx2
      have hc2 : c ≤ 16777216 := by rw [hc.out]; exact fullT_le l (by omega)
      have HN : Hid (c + x = (fullT l (j + 1)).length) := by
        show _ = _
        rw [fullT_succ, List.length_append, ← hc.out, hx]
      have hjb : (j : Int) < (l.length : Int) := by omega
      have HC := Lib.hid hcall
      have HB := Lib.hid hb
      clear hcall hx hb hc xr
      go_wp2_with fail
      refine HC.out.mono ?_
      rintro e w2 ⟨rfl, hb2⟩
      have HB2 := Lib.hid (HB.out.trans (hb2.mono HB.out.size))
      clear hb2 c0 c1
      go_wp2
      go_roundw
      case rel => exact ⟨j + 1, c + x, by omega, by go_num, by go_num, HN, HB2.out⟩
      case measure => simp [intOf]; omega
    · obtain rfl : j = l.length := by omega
      have HF : Hid (cfR (l.length : Int) l = (c : Int)) := by show _ = _; rw [HE.out, hc.out]
      have HB := Lib.hid (B1.out.trans (hb.mono B1.out.size))
      clear hb hc
      go_wp2
      go_ret
      exact ⟨by rw [HF.out]; rfl, HB.out⟩

set_option maxRecDepth 100000 in
set_option maxHeartbeats 2000000 in
theorem specCountFullWays (n : Int) (a : Option Addr) (l : List Int) (cap : Nat) (w : World) (hrow : IntRow w a l) (hl : l.length ≤ maxLen) :
    Calls Try.prog 46 #[.agg #[.int .i64 n, .slice a l.length cap]] w fun e w' => e = .returned (.int .i64 (cfR n l)) ∧ Below w.heap.size w w' := by
  obtain ⟨Wa, hWa⟩ : ∃ Wa, Wa = w.alloc (.cells #[.int .i64 n, .slice a l.length cap] 25) := ⟨_, rfl⟩
  have HWa := Lib.hid hWa
  have hba : Below w.heap.size w Wa := by rw [hWa]; exact (Below.refl _ _).alloc (Nat.le_refl _) _
  have xa : Box Wa w.heap.size 25 (.int .i64 n) (.slice a l.length cap) := by rw [hWa]; exact Box.new _ _ _ _
  have hrowa : IntRow Wa a l := hrow.below hba (Nat.le_refl _)
  have HL := Lib.hid hl
  clear hl hrow hWa
  cases hok : okB n l
  · have HO := Lib.hid hok
    have HE : Hid (cfR n l = -1) := by show _ = _; unfold cfR; rw [hok]; rfl
    clear hok
    go_enter Try.func46, Try.ntmps46
    go_wp2_with fail
    rw [← HWa.out]
    refine (specTourOk n a l cap Wa hrowa HL.out).mono ?_
    rintro e w1 ⟨rfl, hb1⟩
    rw [HO.out]
    have B1 := Lib.hid (hba.trans (hb1.mono hba.size))
    clear hb1
    go_wp2
    go_ret
    exact ⟨by rw [HE.out]; rfl, B1.out⟩
  have HO := Lib.hid hok
  have HE : Hid (cfR n l = ((fullT l l.length).length : Int)) := by show _ = _; unfold cfR; rw [hok]; rfl
  have hk := okB_iff.1 hok
  have HK := Lib.hid hk
  have hnl := hk.2.2.1
  have hl8 : l.length ≤ 8 := by have := hk.2.1; omega
  subst hnl
  clear hk
  clear hok
  go_enter Try.func46, Try.ntmps46
  go_wp2_with fail
  rw [← HWa.out]
  refine (specTourOk _ a l cap Wa hrowa HL.out).mono ?_
  rintro e w1 ⟨rfl, hb1⟩
  rw [HO.out]
  have X1 := Lib.hid (xa.below hb1 xa.lt)
  have R1 := Lib.hid (hrowa.below hb1 (Nat.le_refl _))
  have B1 := Lib.hid (hba.trans (hb1.mono hba.size))
  have c0 := X1.out.c0
  have c1 := X1.out.c1
  clear hb1 hba xa hrowa
  go_wp2
  clear c0 c1
  go_loopw [3, 11] (fun cc i wr => ∃ j c : Nat, j ≤ l.length ∧ i = .int .i64 (j : Int) ∧ cc = .int .i64 (c : Int) ∧ Hid (c = (fullT l j).length) ∧ Below w1.heap.size w1 wr) (fun _ i _ => l.length - (intOf i).toNat)
  case atStart => exact ⟨0, 0, Nat.zero_le _, rfl, rfl, rfl, Below.refl _ _⟩
  case round =>
    obtain ⟨j, c, hj, rfl, rfl, hc, hb⟩ := hrel
    by_cases hlt : j < l.length
    · have xr := X1.out.below hb X1.out.lt
      have c0 := xr.c0
      have c1 := xr.c1
      have hrr := R1.out.below hb (Nat.le_refl _)
      have hq0 := fun d os => cell_regrown c0 d os
      have hq1 := fun d os => cell_regrown c1 d os
      have hrq : ∀ d os, IntRow (Go.Sort.grow (redrawn wr d) os) a l := fun d os => hrr.below (below_regrown wr d os) (Nat.le_refl _)
      have cA : ∀ d os, Calls Try.prog 76 #[.agg #[.int .i64 (l.length : Int), .slice a l.length cap]] (Go.Sort.grow (redrawn wr d) os) fun e w'' => e = .returned (.int .i64 (((2 ^ l.length : Nat) : Int) - 1)) ∧ ∃ p : Regrown, w'' = Go.Sort.grow (redrawn wr p.d) p.os :=
        fun d os => Calls.regrown_of (l02All_any a l.length cap l.length _ hl8)
      have cC : ∀ d os, Calls Try.prog 75 #[.agg #[.int .i64 (l.length : Int), .slice a l.length cap], .int .i64 (((2 ^ l.length : Nat) : Int) - 1), .int .i64 (j : Int)] (Go.Sort.grow (redrawn wr d) os) fun e w'' => e = .returned (.int .i64 ((Hw.ways (ww l) (l.length : Int) j).length : Nat)) ∧ ∃ p : Regrown, w'' = Go.Sort.grow (redrawn wr p.d) p.os :=
        fun d os => Calls.regrown_of (l06Count_all _ a l cap j _ HK.out hlt (hrq d os))
      obtain ⟨AA, hAA⟩ : ∃ AA : Int, AA = ((2 ^ l.length : Nat) : Int) - 1 := ⟨_, rfl⟩
      rw [← hAA] at cA cC
      have hx2 := Hw.ways_len (ww l) (l.length : Int) j
      obtain ⟨x, hx⟩ : ∃ x, x = (Hw.ways (ww l) (l.length : Int) j).length := ⟨_, rfl⟩
      rw [← hx] at cC hx2
      have hc2 : c ≤ 16777216 := by rw [hc.out]; exact fullT_le l (by omega)
      have HN : Hid (c + x = (fullT l (j + 1)).length) := by
        show _ = _
        rw [fullT_succ, List.length_append, ← hc.out, hx]
      have hjb : (j : Int) < (l.length : Int) := by omega
      have hwr : IntKind.i64.wrap ((c : Int) + (x : Int)) = (((c + x : Nat)) : Int) := wrap_small (c + x) (by omega)
      have HB := Lib.hid hb
      clear hx hAA hrq hrr hb hc xr c0 c1
      go_wp2
      refine wp_region_quiet_below (by kernel_rfl) (by kernel_rfl) ?_
      repeat (go_big_quiet_step (first | exact cA _ _ | exact cC _ _))
      refine wpQuiet_nil ?_
      intro wq hw'
      have hbq : Below wr.heap.size wr wq := by obtain ⟨⟨dq, osq⟩, hw''⟩ := hw'; rw [hw'']; exact below_regrown wr dq osq
      have HB2 := Lib.hid (HB.out.trans (hbq.mono HB.out.size))
      clear hw' cA cC hq0 hq1 hbq hwr
      go_wp2
      go_roundw
      case rel => exact ⟨j + 1, c + x, by omega, by go_num, rfl, HN, HB2.out⟩
      case measure => simp [intOf]; omega
    · obtain rfl : j = l.length := by omega
      have HF : Hid (cfR (l.length : Int) l = (c : Int)) := by show _ = _; rw [HE.out, hc.out]
      have HB := Lib.hid (B1.out.trans (hb.mono B1.out.size))
      clear hb hc
      go_wp2
      go_ret
      exact ⟨by rw [HF.out]; rfl, HB.out⟩
end Go.Proofs.Ytnlpfajncpbjpaa
