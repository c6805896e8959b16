/-
  'l05Strong' of the model; 'IsStrong' of both. No conditions but the bounds that Go gives a slice (l05Strong: the tour is valid).
-/
import Derived.Test.Ytcipffimjaancaa9C
namespace Go.Proofs.Ytcipffimjaancaa
open Go.ChangeShapes Go.WideShapes Go.ChangeAt Go.RowKit
set_option linter.unusedVariables false

/-- Whether everybody reaches everybody. -/
noncomputable def stB (l : List Int) : Bool := by classical exact decide (∀ a, a < l.length → Rc.rs l.length (ww l) a = 2 ^ l.length - 1)
theorem stB_true {l : List Int} (h : ∀ a, a < l.length → Rc.rs l.length (ww l) a = 2 ^ l.length - 1) : stB l = true := by unfold stB; exact decide_eq_true h
theorem stB_false {l : List Int} {a : Nat} (ha : a < l.length) (h : Rc.rs l.length (ww l) a ≠ 2 ^ l.length - 1) : stB l = false := by unfold stB; exact decide_eq_false fun k => h (k a ha)
theorem stB_len {n : Int} {l : List Int} (h : Ok n l) : stB l = decide ((dsL l).length = 1) := by
  have h0 : 0 < l.length := by have := h.1; have := h.2.2.1; omega
  have := (chainL h).one (vaR h) h0
  unfold stB
  rw [Bool.eq_iff_iff, decide_eq_true_iff, decide_eq_true_iff]
  exact this.symm
/-- What both 'IsStrong' answer. -/
noncomputable def isB9 (n : Int) (l : List Int) : Bool := okB n l && stB l

/-- What a loop holds of the memory. -/
structure Ls9 (w W : World) (n : Int) (a : Option Addr) (l : List Int) (cap : Nat) : Prop where
  hb : Below w.heap.size w W
  hx : Box W w.heap.size 25 (.int .i64 n) (.slice a l.length cap)
  hr : IntRow W a l
theorem Ls9.below {w W W' : World} {n : Int} {a : Option Addr} {l : List Int} {cap : Nat} (h : Ls9 w W n a l cap) (hb : Below W.heap.size W W') : Ls9 w W' n a l cap := ⟨h.hb.trans (hb.mono h.hb.size), h.hx.below hb h.hx.lt, h.hr.below hb (Nat.le_refl _)⟩

set_option maxRecDepth 100000 in
set_option maxHeartbeats 2000000 in
theorem l05Strong_any (n : Int) (a : Option Addr) (l : List Int) (cap : Nat) (w : World) (hrow : IntRow w a l) (hok : Ok n l) :
    Calls Try.prog 80 #[.agg #[.int .i64 n, .slice a l.length cap]] w fun e w' => e = .returned (.bool (stB l)) ∧ Below w.heap.size w w' := by
  obtain ⟨Wa, hWa⟩ : ∃ Wa, Wa = w.alloc (.cells #[.int .i64 n, .slice a l.length cap] 25) := ⟨_, rfl⟩
  have HWa := Lib.hid hWa
  have hba : Below w.heap.size w Wa := by rw [hWa]; exact (Below.refl _ _).alloc (Nat.le_refl _) _
  have xa : Box Wa w.heap.size 25 (.int .i64 n) (.slice a l.length cap) := by rw [hWa]; exact Box.new _ _ _ _
  have HLS : Hid (Ls9 w Wa n a l cap) := ⟨hba, xa, hrow.below hba (Nat.le_refl _)⟩
  have HK := Lib.hid hok
  have hl8 : l.length ≤ 8 := by have := hok.2.1; have := hok.2.2.1; omega
  obtain rfl : n = (l.length : Int) := hok.2.2.1.symm
  obtain ⟨P, hP⟩ : ∃ P : Nat, P = 2 ^ l.length := ⟨_, rfl⟩
  have HPP := Lib.hid hP
  have hP1 : 1 ≤ P := by rw [hP]; exact Nat.two_pow_pos _
  have hP8 : P ≤ 256 := by rw [hP]; exact pow_le _ hl8
  clear hok hP hrow hWa hba
  have c1 := xa.c1
  have c0 := xa.c0
  rw [HWa.out] at c0 c1
  clear xa
  go_enter Try.func80, Try.ntmps80
  go_wp2
  rw [← HWa.out]
  clear c0 c1
  go_loopw [7] (fun i wr => ∃ k : Nat, k ≤ l.length ∧ i = .int .i64 (k : Int) ∧ Hid (∀ j, j < k → Rc.rs l.length (ww l) j = 2 ^ l.length - 1) ∧ Hid (Ls9 w wr l.length a l cap)) (fun i _ => l.length - (intOf i).toNat)
  case atStart => exact ⟨0, Nat.zero_le _, rfl, fun j h => absurd h (Nat.not_lt_zero _), HLS.out⟩
  case round =>
    clear HLS
    obtain ⟨k, hk, rfl, hto, hls⟩ := hrel
    by_cases hlt : k < l.length
    · have hd0 := hls.out.hx.c0
      have hd1 := hls.out.hx.c1
      have hq0 := fun d os => cell_regrown hd0 d os
      have hq1 := fun d os => cell_regrown hd1 d os
      have hrq : ∀ d os, IntRow (Go.Sort.grow (redrawn wr d) os) a l := fun d os => hls.out.hr.below (below_regrown wr d os) (Nat.le_refl _)
      obtain ⟨s, hs⟩ : ∃ s, s = Rc.rs l.length (ww l) k := ⟨_, rfl⟩
      have cR : ∀ d os, Calls Try.prog 76 #[.agg #[.int .i64 (l.length : Int), .slice a l.length cap], .int .i64 (k : Int)] (Go.Sort.grow (redrawn wr d) os) fun e w'' => e = .returned (.int .i64 (s : Int)) ∧ ∃ p : Regrown, w'' = Go.Sort.grow (redrawn wr p.d) p.os :=
        fun d os => Calls.regrown_of (by rw [hs]; exact l05Reach_any l.length a l cap k _ (hrq d os) HK.out hlt)
      have cA : ∀ d os, Calls Try.prog 81 #[.agg #[.int .i64 (l.length : Int), .slice a l.length cap]] (Go.Sort.grow (redrawn wr d) os) fun e w'' => e = .returned (.int .i64 ((P : Int) - 1)) ∧ ∃ p : Regrown, w'' = Go.Sort.grow (redrawn wr p.d) p.os :=
        fun d os => Calls.regrown_of (by rw [HPP.out]; exact l02All_any a l.length cap l.length _ hl8)
      have hki : (k : Int) < (l.length : Int) := by omega
      have HS := Lib.hid hs
      clear hrq hd0 hd1 hs
      by_cases hsp : s + 1 = P
      · have hq : ((s : Int) == (P : Int) - 1) = true := by rw [beq_iff_eq]; omega
        have hqn : ((s : Int) != (P : Int) - 1) = false := by simp; omega
        have HN : Hid (∀ j, j < k + 1 → Rc.rs l.length (ww l) j = 2 ^ l.length - 1) := by
          intro j hj
          rcases Nat.lt_or_ge j k with h | h
          · exact hto.out j h
          · have : j = k := by omega
            rw [this, ← HS.out, ← HPP.out]; omega
        clear hsp
        go_wp2
        refine wp_region_quiet_below (by kernel_rfl) (by kernel_rfl) ?_
        repeat (go_big_quiet_step (first | exact cR _ _ | exact cA _ _))
        refine wpQuiet_nil ?_
        intro wq hw'
        have hbq : Below wr.heap.size wr wq := by obtain ⟨⟨dq, osq⟩, hw''⟩ := hw'; rw [hw'']; exact below_regrown wr dq osq
        have HL := Lib.hid (hls.out.below hbq)
        clear hw' cR cA hq0 hq1 hbq
        go_wp2
        go_roundw
        case rel => exact ⟨k + 1, by omega, by go_num, HN.out, HL.out⟩
        case measure => simp [intOf]; omega
      · have hq : ((s : Int) == (P : Int) - 1) = false := by rw [beq_eq_false_iff_ne]; omega
        have hqn : ((s : Int) != (P : Int) - 1) = true := by simp; omega
        have HF : Hid (stB l = false) := stB_false hlt (by rw [← HS.out, ← HPP.out]; omega)
        clear hsp
        go_wp2
        refine wp_region_quiet_below (by kernel_rfl) (by kernel_rfl) ?_
        repeat (go_big_quiet_step (first | exact cR _ _ | exact cA _ _))
        refine wpQuiet_nil ?_
        intro wq hw'
        have hbq : Below wr.heap.size wr wq := by obtain ⟨⟨dq, osq⟩, hw''⟩ := hw'; rw [hw'']; exact below_regrown wr dq osq
        have HL := Lib.hid (hls.out.below hbq)
        clear hw' cR cA hq0 hq1 hbq
        go_wp2
        go_ret
        exact ⟨by rw [HF.out]; rfl, HL.out.hb⟩
    · obtain rfl : k = l.length := by omega
      have HF : Hid (stB l = true) := stB_true hto.out
      go_wp2
      go_ret
      exact ⟨by rw [HF.out]; rfl, hls.out.hb⟩

set_option maxRecDepth 100000 in
set_option maxHeartbeats 1000000 in
theorem specStrong (n : Int) (a : Option Addr) (l : List Int) (cap : Nat) (w : World) (hrow : IntRow w a l) (hl : l.length ≤ maxLen) :
    Calls Try.prog 31 #[.agg #[.int .i64 n, .slice a l.length cap]] w fun e w' => e = .returned (.bool (isB9 n l)) ∧ Below w.heap.size w w' := by
  obtain ⟨Wa, hWa⟩ : ∃ Wa, Wa = w.alloc (.cells #[.int .i64 n, .slice a l.length cap] 25) := ⟨_, rfl⟩
  have HWa := Lib.hid hWa
  have hba : Below w.heap.size w Wa := by rw [hWa]; exact (Below.refl _ _).alloc (Nat.le_refl _) _
  have xa : Box Wa w.heap.size 25 (.int .i64 n) (.slice a l.length cap) := by rw [hWa]; exact Box.new _ _ _ _
  have hrowa : IntRow Wa a l := hrow.below hba (Nat.le_refl _)
  have HL := Lib.hid hl
  clear hl hrow hWa
  cases hok : okB n l
  · have HO := Lib.hid hok
    have HE : Hid (isB9 n l = false) := by show _ = _; unfold isB9; rw [hok]; rfl
    clear hok
    go_enter Try.func31, Try.ntmps31
    go_wp2_with fail
    rw [← HWa.out]
    refine (specTourOk n a l cap Wa hrowa HL.out).mono ?_
    rintro e w1 ⟨rfl, hb1⟩
    rw [HO.out]
    go_wp2
    go_ret
    exact ⟨by rw [HE.out]; rfl, hba.trans (hb1.mono hba.size)⟩
  · have HO := Lib.hid hok
    have HK : Hid (Ok n l) := okB_iff.1 hok
    have HE : Hid (isB9 n l = stB l) := by show _ = _; unfold isB9; rw [hok]; rfl
    clear hok
    go_enter Try.func31, Try.ntmps31
    go_wp2_with fail
    rw [← HWa.out]
    refine (specTourOk n a l cap Wa hrowa HL.out).mono ?_
    rintro e w1 ⟨rfl, hb1⟩
    rw [HO.out]
    have c0 := (xa.below hb1 xa.lt).c0
    have c1 := (xa.below hb1 xa.lt).c1
    have hr1 := Lib.hid (hrowa.below hb1 (Nat.le_refl _))
    go_wp2_with fail
    refine (l05Strong_any n a l cap w1 hr1.out HK.out).mono ?_
    rintro e w2 ⟨rfl, hb2⟩
    go_wp2
    go_ret
    have b1 := hba.trans (hb1.mono hba.size)
    exact ⟨by rw [HE.out]; rfl, b1.trans (hb2.mono b1.size)⟩

set_option maxRecDepth 100000 in
set_option maxHeartbeats 1000000 in
theorem implStrong (n : Int) (a : Option Addr) (l : List Int) (cap : Nat) (w : World) (hrow : IntRow w a l) (hl : l.length ≤ maxLen) :
    Calls Try.prog 32 #[.agg #[.int .i64 n, .slice a l.length cap]] w fun e w' => e = .returned (.bool (isB9 n l)) ∧ Below w.heap.size w w' := by
  obtain ⟨Wa, hWa⟩ : ∃ Wa, Wa = w.alloc (.cells #[.int .i64 n, .slice a l.length cap] 25) := ⟨_, rfl⟩
  have HWa := Lib.hid hWa
  have hba : Below w.heap.size w Wa := by rw [hWa]; exact (Below.refl _ _).alloc (Nat.le_refl _) _
  have hrowa : IntRow Wa a l := hrow.below hba (Nat.le_refl _)
  have hc := implParts n a l cap Wa hrowa hl
  obtain ⟨m, hm⟩ : ∃ m, m = (spR n l).length := ⟨_, rfl⟩
  have hm8 : m ≤ 8 := by rw [hm]; exact spR_le n l
  have HE : Hid (((m : Int) == 1) = isB9 n l) := by
    show _ = _
    unfold isB9
    rw [hm]
    cases hok : okB n l
    · have : spR n l = [] := by unfold spR; rw [hok]; rfl
      rw [this]; rfl
    · rw [Bool.true_and, stB_len (okB_iff.1 hok), Bool.eq_iff_iff, beq_iff_eq, decide_eq_true_iff]
      have : (spR n l).length = (dsL l).length := by unfold spR; rw [hok]; simp only [if_true, List.length_map, Rc.dfs_len]
      rw [this]; omega
  rw [← hm] at hc
  have HC := Lib.hid hc
  clear hc hWa hrow hrowa hm hl
  go_enter Try.func32, Try.ntmps32
  go_wp2_with fail
  rw [← HWa.out]
  refine HC.out.mono ?_
  rintro e w1 ⟨⟨a0, c0, rfl, _⟩, hb1⟩
  go_wp2
  go_ret
  exact ⟨by rw [← HE.out]; rfl, hba.trans (hb1.mono hba.size)⟩
end Go.Proofs.Ytcipffimjaancaa
