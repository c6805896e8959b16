/-
  'FullWay' of the model. No conditions but the bounds that Go gives a slice.
-/
import Derived.Test.YtnlpfajncpbjpaaJF3
import Derived.Test.YtnlpfajncpbjpaaJV
import Derived.Test.YtnlpfajncpbjpaaJT
import Derived.Test.Ytnlpfajncpbjpaa3Ux
import Derived.Maps.AppendAt
namespace Go.Proofs.Ytnlpfajncpbjpaa
open Go.ChangeShapes Go.WideShapes Go.ChangeAt Go.RowKit
set_option linter.unusedVariables false

set_option maxRecDepth 100000 in
set_option maxHeartbeats 4000000 in
theorem specFullWay (n : Int) (a : Option Addr) (l : List Int) (cap0 : Nat) (w : World) (hrow : IntRow w a l) (hl : l.length ≤ maxLen) :
    Calls Try.prog 42 #[.agg #[.int .i64 n, .slice a l.length cap0]] w (RetR w (fwR n l)) := by
  obtain ⟨i0, hi, hz0, hz1, hz2⟩ := info_parts infoInt
  obtain ⟨Wa, hWa⟩ : ∃ Wa, Wa = w.alloc (.cells #[.int .i64 n, .slice a l.length cap0] 25) := ⟨_, rfl⟩
  have HWa := Lib.hid hWa
  have hba : Below w.heap.size w Wa := by rw [hWa]; exact (Below.refl _ _).alloc (Nat.le_refl _) _
  have xa : Box Wa w.heap.size 25 (.int .i64 n) (.slice a l.length cap0) := by rw [hWa]; exact Box.new _ _ _ _
  have hrowa : IntRow Wa a l := hrow.below hba (Nat.le_refl _)
  have HL := Lib.hid hl
  have HRW := Lib.hid hrow
  clear hl hrow hWa
  cases hok : okB n l
  · have HO := Lib.hid hok
    have HE : Hid (fwR n l = []) := by show _ = _; unfold fwR; rw [hok]; rfl
    clear hok
    go_enter Try.func42, Try.ntmps42
    go_wp2_with fail
    rw [← HWa.out]
    refine (specTourOk n a l cap0 Wa hrowa HL.out).mono ?_
    rintro e w1 ⟨rfl, hb1⟩
    rw [HO.out]
    have B1 := Lib.hid (hba.trans (hb1.mono hba.size))
    clear hb1
    go_wp2
    go_ret
    exact ⟨⟨_, rfl, by rw [HE.out]; exact World.ownsRow_nil _ _ _ _⟩, B1.out⟩
  have HOK := Lib.hid hok
  have hk := okB_iff.1 hok
  have HE : Hid (fwR n l = Hw.fwL (ww l) l.length) := by show _ = _; unfold fwR; rw [hok]; rfl
  have HK := Lib.hid hk
  have hnl := hk.2.2.1
  have hl8 : l.length ≤ 8 := by have := hk.2.1; omega
  subst hnl
  clear hok hk
  go_enter Try.func42, Try.ntmps42
  go_wp2_with fail
  rw [← HWa.out]
  refine (specTourOk _ a l cap0 Wa hrowa HL.out).mono ?_
  rintro e w1 ⟨rfl, hb1⟩
  rw [HOK.out]
  have xa1 := xa.below hb1 xa.lt
  have bw1 := hba.trans (hb1.mono hba.size)
  obtain ⟨W2, hW2⟩ : ∃ W2, W2 = w1.alloc (.cells #[] 3) := ⟨_, rfl⟩
  have hb2 : Below w1.heap.size w1 W2 := by rw [hW2]; exact (Below.refl _ _).alloc (Nat.le_refl _) _
  have xa2 := xa1.below hb2 xa1.lt
  have bw2 := bw1.trans (hb2.mono bw1.size)
  have hO0 : W2.ownsRow w.heap.size 3 1 (.slice (some ⟨w1.heap.size, 0, none⟩) 0 0) 0 ((ofN (Hw.fwL (ww l) 0)).map iv) := by
    rw [hW2]; exact World.ownsRow_lit (base := w.heap.size) (e := 3) (size := 1) w1 #[] 0 bw1.size (by simp) rfl
  have c0 := xa2.c0
  have c1 := xa2.c1
  rw [hW2] at c0 c1
  have HW2 := Lib.hid hW2
  have XA := Lib.hid xa2
  have BW := Lib.hid bw2
  have HO0 := Lib.hid hO0
  clear hW2 hb2 xa2 bw2 bw1 hb1 xa1 xa hba hrowa hO0
  go_wp2
  rw [← HW2.out]
  clear c0 c1
  go_loopw [3, 14] (fun out i wr => ∃ (k g cap : Nat), k ≤ l.length ∧ i = .int .i64 (k : Int) ∧ Value.slice (some ⟨g, 0, none⟩) k cap = out ∧ wr.ownsRow w.heap.size 3 1 (.slice (some ⟨g, 0, none⟩) k cap) k ((ofN (Hw.fwL (ww l) k)).map iv) ∧ Box wr w.heap.size 25 (.int .i64 (l.length : Int)) (.slice a l.length cap0) ∧ Below w.heap.size w wr) (fun _ i _ => l.length - (intOf i).toNat)
  case atStart => exact ⟨0, w1.heap.size, 0, Nat.zero_le _, rfl, rfl, HO0.out, XA.out, BW.out⟩
  case round =>
    clear HO0 XA BW HW2
    obtain ⟨k, g, cap, hk, rfl, rfl, hown, hxa, hb⟩ := hrel
    have hpl := Hw.fwL_len (ww l) k
    by_cases hlt : k < l.length
    · have hkb : (k : Int) < (l.length : Int) := by omega
      obtain ⟨wo, rfl⟩ : ∃ wo, wo = wr := ⟨_, rfl⟩
      obtain ⟨ps, hps⟩ : ∃ ps, ps = Hw.fwL (ww l) k := ⟨_, rfl⟩
      rw [← hps] at hown hpl
      have HSM : Hid (∀ x ∈ ps, x < l.length) := fun x hx => by rw [hps] at hx; have := Hw.fwL_mem.1 hx; omega
      obtain ⟨O, hO⟩ : ∃ O, O = ofN ps := ⟨_, rfl⟩
      rw [← hO] at hown
      have HOL : Hid (O.length = k) := by show _ = _; rw [hO, ofN_len, hpl]
      have HPS := Lib.hid hps
      have HPL := Lib.hid hpl
      have HO := Lib.hid hO
      have HOWN := Lib.hid hown
      have HXA := Lib.hid hxa
      have HWB := Lib.hid hb
      clear hps hpl hO hown hxa hb
      go_wp2
      go_loopw [5] (fun q w2 => ∃ i : Nat, i ≤ k ∧ q = .int .i64 (i : Int) ∧ Hid (∀ j, j < i → (ww l k).testBit (ps.getD j 0) = false) ∧ Below wo.heap.size wo w2) (fun q _ => k - (intOf q).toNat)
      case atStart => exact ⟨0, Nat.zero_le _, rfl, fun j hj => absurd hj (Nat.not_lt_zero _), Below.refl _ _⟩
      case round =>
        obtain ⟨i, hik, rfl, hno, hb⟩ := hrel
        have hxr := HXA.out.below hb HXA.out.lt
        have t0 := hxr.c0
        have t1 := hxr.c1
        have hq0 := fun d os => cell_regrown t0 d os
        have hq1 := fun d os => cell_regrown t1 d os
        have hrr := HRW.out.below (HWB.out.trans (hb.mono HWB.out.size)) (Nat.le_refl _)
        have hrq : ∀ d os, IntRow (Go.Sort.grow (redrawn wr d) os) a l := fun d os => hrr.below (below_regrown wr d os) (Nat.le_refl _)
        have HB := Lib.hid hb
        by_cases hik2 : i < k
        · have hikb : (i : Int) < (k : Int) := by omega
          have hdk : decide (i < k) = true := by rw [decide_eq_true_iff]; exact hik2
          obtain ⟨x, hx⟩ : ∃ x, x = ps.getD i 0 := ⟨_, rfl⟩
          have hxl : x < l.length := HSM.out x (by rw [hx]; exact getD_mem (by rw [HPL.out]; exact hik2))
          have n0 : wr.cell? ⟨g, i, none⟩ = some (.int .i64 (x : Int)) := by
            rw [(own_below HOWN.out hb).cellAt i (by omega), HO.out, hx]
            unfold ofN
            rw [List.map_map, List.getElem?_map, List.getD_eq_getElem?_getD, List.getElem?_eq_getElem (by rw [HPL.out]; omega)]; rfl
          have hqn := fun d os => cell_regrown n0 d os
          have cB : ∀ (b : Bool), (ww l k).testBit x = b → ∀ d os, Calls Try.prog 74 #[.agg #[.int .i64 (l.length : Int), .slice a l.length cap0], .int .i64 (k : Int), .int .i64 (x : Int)] (Go.Sort.grow (redrawn wr d) os) fun e w'' => e = .returned (.bool b) ∧ ∃ p : Regrown, w'' = Go.Sort.grow (redrawn wr p.d) p.os :=
            fun b hb2 d os => Calls.regrown_of ((l02Beats_any _ _ l cap0 k x _ (hrq d os) HL.out hlt (by omega)).mono fun e w' ⟨he, hw⟩ => ⟨by rw [he, wwBit HK.out hlt, hb2], hw⟩)
          have HXX := Lib.hid hx
          cases hbe : (ww l k).testBit x
          · have cB0 := cB false hbe
            have HNN : Hid (∀ j, j < i + 1 → (ww l k).testBit (ps.getD j 0) = false) := fun j hj => by
              by_cases e : j = i
              · rw [e, ← HXX.out]; exact hbe
              · exact hno.out j (by omega)
            clear hb hrr hrq hx cB hbe hno hxr
            go_wp2
            refine wp_region_quiet_below (by kernel_rfl) (by kernel_rfl) ?_
            repeat (go_big_quiet_step (exact cB0 _ _))
            refine wpQuiet_nil ?_
            intro wq hw'
            have hbq : Below wr.heap.size wr wq := by obtain ⟨⟨dq, osq⟩, hw''⟩ := hw'; rw [hw'']; exact below_regrown wr dq osq
            have HBQ := Lib.hid (HB.out.trans (hbq.mono HB.out.size))
            clear hw' hbq hq0 hq1 hqn cB0 n0 t0 t1
            go_wp2
            go_roundw
            case rel => exact ⟨i + 1, by omega, by go_num, HNN.out, HBQ.out⟩
            case measure => simp [intOf]; omega
          · have cB0 := cB true hbe
            have HYES : Hid (i < k → (ww l k).testBit (ps.getD i 0) = true) := fun _ => by rw [← HXX.out]; exact hbe
            clear hb hrr hrq hx cB hbe hxr
            go_wp2
            refine wp_region_quiet_below (by kernel_rfl) (by kernel_rfl) ?_
            repeat (go_big_quiet_step (exact cB0 _ _))
            refine wpQuiet_nil ?_
            intro wq hw'
            have hbq : Below wr.heap.size wr wq := by obtain ⟨⟨dq, osq⟩, hw''⟩ := hw'; rw [hw'']; exact below_regrown wr dq osq
            have HBQ := Lib.hid (HB.out.trans (hbq.mono HB.out.size))
            clear hw' hbq hq0 hq1 hqn cB0 n0 t0 t1
            have hownq := own_below HOWN.out HBQ.out
            have HWQ := Lib.hid (HWB.out.trans (HBQ.out.mono HWB.out.size))
            have HXQ := Lib.hid (HXA.out.below HBQ.out HXA.out.lt)
            have HIns : Hid (ofN (Hw.fwL (ww l) (k + 1)) = O.take i ++ (k : Int) :: O.drop i) := by
              show _ = _
              have e : Hw.fwL (ww l) (k + 1) = ps.take i ++ k :: ps.drop i := by
                show Hw.insW (ww l) k (Hw.fwL (ww l) k) = _
                rw [← HPS.out]
                exact insW_at ps i (by rw [HPL.out]; omega) hno.out (by rw [HPL.out]; exact HYES.out)
              rw [e, HO.out]
              unfold ofN
              rw [List.map_append, List.map_cons, List.map_take, List.map_drop]; rfl
            obtain ⟨_, _, he, _, hgq, hkc⟩ := own_some hownq (by simp)
            simp only [Value.slice.injEq, Option.some.injEq, Addr.mk.injEq, and_true, true_and] at he
            obtain ⟨rfl, rfl⟩ := he
            have hrd : ∀ j, j < k → wq.cell? ⟨g, j, none⟩ = some (.int .i64 (O.getD j 0)) := by
              intro j hj
              rw [hownq.cellAt j (by omega)]
              simp [List.getElem?_eq_getElem (show j < O.length by rw [HOL.out]; omega), iv]
            have HX : Hid (Xs wq.heap.size g k O wq (wq.alloc (.cells #[] 3))) := ⟨by simp, hgq, World.grownBy_alloc wq _ none, hrd, HOL.out, rfl⟩
            have HE0 : Hid ((wq.alloc (.cells #[] 3)).ownsRow wq.heap.size 3 1 (.slice (some ⟨wq.heap.size, 0, none⟩) 0 0) 0 []) := World.ownsRow_lit (base := wq.heap.size) (e := 3) (size := 1) wq #[] 0 (Nat.le_refl _) (by simp) rfl
            have HT : Hid (∀ j, j ≤ k → ((O.take j).map iv).length = j * 1) := by intro j hj; rw [List.length_map, List.length_take, HOL.out]; omega
            have HD : Hid (∀ j, j ≤ k → ((O.drop j).map iv).length = (k - j) * 1) := by intro j hj; rw [List.length_map, List.length_drop, HOL.out]; omega
            have HC1 : Hid (∀ j, j ≤ k → ∀ i u, ((O.take j).map iv)[i]? = some u → (wq.alloc (.cells #[] 3)).cell? ((⟨g, 0, none⟩ : Addr).add i) = some u) := by
              intro j hj i u hu
              have hil : i < j := by
                rcases Nat.lt_or_ge i j with h' | h'
                · exact h'
                · rw [List.getElem?_eq_none (by rw [List.length_map, List.length_take]; omega)] at hu; cases hu
              rw [addr_add, HX.out.cell i (by omega)]
              rw [List.getElem?_map, List.getElem?_take_of_lt hil, List.getElem?_eq_getElem (by rw [HOL.out]; omega)] at hu
              rw [List.getD_eq_getElem?_getD, List.getElem?_eq_getElem (by rw [HOL.out]; omega)]
              simpa [iv] using hu
            clear hownq hrd hno HYES
            by_cases hcap : cap = i
            · obtain ⟨cp, hcp⟩ : ∃ cp, cp = i := ⟨_, rfl⟩
              rw [← hcp] at hcap HIns
              have hjk : cp ≤ k := by omega
              have HCP := Lib.hid hcp
              obtain rfl : cap = cp := hcap
              clear hcp
              rw [← HCP.out]
              go_wp2_with (first
                | (at_builtin; refine wpList_append_own _ rfl (.tmp 33) (.tmp 36) 23 rfl wq.heap.size 3 i0 (.int .i64 0) 1 8 Try.underlying23 hi hz0 hz1 hz2 rfl (by decide) _ 0 [] rfl HE0.out ⟨g, 0, none⟩ cap cap ((O.take cap).map iv) rfl (HT.out cap hjk) (HC1.out cap hjk) (by intro u hu; obtain ⟨z, _, rfl⟩ := List.mem_map.1 hu; rfl) (by unfold maxLen; omega) (by omega) (by simp) ?_; intro v1 w1' ho1 hg1 hn1; simp only [Nat.zero_add, List.nil_append] at ho1; obtain ⟨g1, cap1, rfl, hB1, hl1', hc1⟩ := own_some ho1 (fun e => slice_ne (hn1.1 e).1); have hX1 := Lib.hid (HX.out.grown1 hg1 (fun b hb => Nat.le_of_eq (Option.some.inj hb))); have HO1 := Lib.hid ho1; clear ho1 hg1 hn1)
                | (at_builtin; refine wpList_append_own _ rfl (.tmp 38) (.tmp 40) 23 rfl wq.heap.size 3 i0 (.int .i64 0) 1 8 Try.underlying23 hi hz0 hz1 hz2 rfl (by decide) _ cap _ rfl (HO1.out.alloc _) ⟨w1'.heap.size, 0, none⟩ 1 1 [.int .i64 (k : Int)] rfl rfl (cell_one_new _ _ _) (by intro u hu; simp at hu; subst hu; rfl) (by unfold maxLen; omega) (by omega) (by have := hX1.out.sz; simp; omega) ?_; intro v2 w2' ho2 hg2 hn2; obtain ⟨g2, cap2, rfl, hB2, hl2, hc2⟩ := own_some ho2 (fun e => slice_ne (hn2.1 e).1); have hX2 := Lib.hid ((hX1.out.alloc1 _).grown1 hg2 (fun b hb => Nat.le_trans hB1 (Nat.le_of_eq (Option.some.inj hb)))); have HO2 := Lib.hid ho2; clear ho2 hg2 hn2)
                | (at_builtin; refine wpList_append_own _ rfl (.tmp 42) (.tmp 45) 23 rfl wq.heap.size 3 i0 (.int .i64 0) 1 8 Try.underlying23 hi hz0 hz1 hz2 rfl (by decide) _ (cap + 1) _ rfl HO2.out ⟨g, 0, none⟩ 0 0 [] rfl rfl (fun i u h => by simp at h) (by intro u hu; cases hu) (by unfold maxLen; omega) (by omega) hX2.out.sz ?_; intro v3 w3 ho3 hg3 hn3; rw [show cap + 1 + 0 = k + 1 by omega] at ho3; obtain ⟨g3, cap3, rfl, hB3, hl3, hc3⟩ := own_some ho3 (fun e => slice_ne (hn3.1 e).1); have hX3 := Lib.hid (hX2.out.grown1 hg3 (fun b hb => Nat.le_trans hB2 (Nat.le_of_eq (Option.some.inj hb)))); have HO3 := Lib.hid ho3; clear ho3 hg3 hn3))
              have hfin : Hid (w3.ownsRow w.heap.size 3 1 (.slice (some ⟨g3, 0, none⟩) (k + 1) cap3) (k + 1) ((ofN (Hw.fwL (ww l) (k + 1))).map iv)) := by
                have e := HO3.out.mono HWQ.out.size
                show World.ownsRow _ _ _ _ _ _ _
                rw [HIns.out]
                rw [show O.drop cap = [] from List.drop_eq_nil_of_le (by rw [HX.out.ol]; omega)]
                simpa [iv] using e
              have hX3g := hX3.out.gr
              have hbf : Below w.heap.size w w3 := hX3.out.below HWQ.out HWQ.out.size
              have hxf := HXQ.out.grown hX3g (by simp)
              clear hX3g
              go_roundw
              case rel => exact ⟨k + 1, g3, cap3, by omega, by go_num, rfl, hfin.out, hxf, hbf⟩
              case measure => simp [intOf]; omega
            · have hjk : i ≤ k := by omega
              have hjc : i ≤ cap := by omega
              go_wp2_with (first
                | (at_builtin; refine wpList_append_own _ rfl (.tmp 33) (.tmp 36) 23 rfl wq.heap.size 3 i0 (.int .i64 0) 1 8 Try.underlying23 hi hz0 hz1 hz2 rfl (by decide) _ 0 [] rfl HE0.out ⟨g, 0, none⟩ i cap ((O.take i).map iv) rfl (HT.out i hjk) (HC1.out i hjk) (by intro u hu; obtain ⟨z, _, rfl⟩ := List.mem_map.1 hu; rfl) (by unfold maxLen; omega) (by omega) (by simp) ?_; intro v1 w1' ho1 hg1 hn1; simp only [Nat.zero_add, List.nil_append] at ho1; obtain ⟨g1, cap1, rfl, hB1, hl1', hc1⟩ := own_some ho1 (fun e => slice_ne (hn1.1 e).1); have hX1 := Lib.hid (HX.out.grown1 hg1 (fun b hb => Nat.le_of_eq (Option.some.inj hb))); have HO1 := Lib.hid ho1; clear ho1 hg1 hn1)
                | (at_builtin; refine wpList_append_own _ rfl (.tmp 38) (.tmp 40) 23 rfl wq.heap.size 3 i0 (.int .i64 0) 1 8 Try.underlying23 hi hz0 hz1 hz2 rfl (by decide) _ i _ rfl (HO1.out.alloc _) ⟨w1'.heap.size, 0, none⟩ 1 1 [.int .i64 (k : Int)] rfl rfl (cell_one_new _ _ _) (by intro u hu; simp at hu; subst hu; rfl) (by unfold maxLen; omega) (by omega) (by have := hX1.out.sz; simp; omega) ?_; intro v2 w2' ho2 hg2 hn2; obtain ⟨g2, cap2, rfl, hB2, hl2, hc2⟩ := own_some ho2 (fun e => slice_ne (hn2.1 e).1); have hX2 := Lib.hid ((hX1.out.alloc1 _).grown1 hg2 (fun b hb => Nat.le_trans hB1 (Nat.le_of_eq (Option.some.inj hb)))); have HO2 := Lib.hid ho2; clear ho2 hg2 hn2)
                | (at_builtin; refine wpList_append_own _ rfl (.tmp 42) (.tmp 45) 23 rfl wq.heap.size 3 i0 (.int .i64 0) 1 8 Try.underlying23 hi hz0 hz1 hz2 rfl (by decide) _ (i + 1) _ rfl HO2.out ⟨g, i, none⟩ (k - i) (cap - i) ((O.drop i).map iv) rfl (HD.out i hjk) (hX2.out.cells i hjk (fun _ => rfl)) (by intro u hu; obtain ⟨z, _, rfl⟩ := List.mem_map.1 hu; rfl) (by unfold maxLen; omega) (by omega) hX2.out.sz ?_; intro v3 w3 ho3 hg3 hn3; rw [show i + 1 + (k - i) = k + 1 by omega] at ho3; obtain ⟨g3, cap3, rfl, hB3, hl3, hc3⟩ := own_some ho3 (fun e => slice_ne (hn3.1 e).1); have hX3 := Lib.hid (hX2.out.grown1 hg3 (fun b hb => Nat.le_trans hB2 (Nat.le_of_eq (Option.some.inj hb)))); have HO3 := Lib.hid ho3; clear ho3 hg3 hn3))
              have hfin : Hid (w3.ownsRow w.heap.size 3 1 (.slice (some ⟨g3, 0, none⟩) (k + 1) cap3) (k + 1) ((ofN (Hw.fwL (ww l) (k + 1))).map iv)) := by
                have e := HO3.out.mono HWQ.out.size
                show World.ownsRow _ _ _ _ _ _ _
                rw [HIns.out]
                simpa [iv] using e
              have hX3g := hX3.out.gr
              have hbf : Below w.heap.size w w3 := hX3.out.below HWQ.out HWQ.out.size
              have hxf := HXQ.out.grown hX3g (by simp)
              clear hX3g
              go_roundw
              case rel => exact ⟨k + 1, g3, cap3, by omega, by go_num, rfl, hfin.out, hxf, hbf⟩
              case measure => simp [intOf]; omega
        · have hge : k ≤ i := by omega
          have hikb : ¬ (i : Int) < (k : Int) := by omega
          have hdk : decide (i < k) = false := by rw [decide_eq_false_iff_not]; omega
          have HYES : Hid (i < k → (ww l k).testBit (ps.getD i 0) = true) := fun h => absurd h (by omega)
          have cB0 := fun (x : Nat) (hx : x < 64) d os => (Calls.regrown_of (l02Beats_any (l.length : Int) a l cap0 k x (Go.Sort.grow (redrawn wr d) os) (hrq d os) HL.out hlt hx))
          clear hb hrr hrq hxr
          go_wp2
          refine wp_region_quiet_below (by kernel_rfl) (by kernel_rfl) ?_
          repeat (go_big_quiet_step (exact cB0 _ (by omega) _ _))
          refine wpQuiet_nil ?_
          intro wq hw'
          have hbq : Below wr.heap.size wr wq := by obtain ⟨⟨dq, osq⟩, hw''⟩ := hw'; rw [hw'']; exact below_regrown wr dq osq
          have HBQ := Lib.hid (HB.out.trans (hbq.mono HB.out.size))
          clear hw' hbq hq0 hq1 cB0 t0 t1
          have hownq := own_below HOWN.out HBQ.out
          have HWQ := Lib.hid (HWB.out.trans (HBQ.out.mono HWB.out.size))
          have HXQ := Lib.hid (HXA.out.below HBQ.out HXA.out.lt)
          have HIns : Hid (ofN (Hw.fwL (ww l) (k + 1)) = O.take i ++ (k : Int) :: O.drop i) := by
            show _ = _
            have e : Hw.fwL (ww l) (k + 1) = ps.take i ++ k :: ps.drop i := by
              show Hw.insW (ww l) k (Hw.fwL (ww l) k) = _
              rw [← HPS.out]
              exact insW_at ps i (by rw [HPL.out]; omega) hno.out (by rw [HPL.out]; exact HYES.out)
            rw [e, HO.out]
            unfold ofN
            rw [List.map_append, List.map_cons, List.map_take, List.map_drop]; rfl
          obtain ⟨_, _, he, _, hgq, hkc⟩ := own_some hownq (by simp)
          simp only [Value.slice.injEq, Option.some.injEq, Addr.mk.injEq, and_true, true_and] at he
          obtain ⟨rfl, rfl⟩ := he
          have hrd : ∀ j, j < k → wq.cell? ⟨g, j, none⟩ = some (.int .i64 (O.getD j 0)) := by
            intro j hj
            rw [hownq.cellAt j (by omega)]
            simp [List.getElem?_eq_getElem (show j < O.length by rw [HOL.out]; omega), iv]
          have HX : Hid (Xs wq.heap.size g k O wq (wq.alloc (.cells #[] 3))) := ⟨by simp, hgq, World.grownBy_alloc wq _ none, hrd, HOL.out, rfl⟩
          have HE0 : Hid ((wq.alloc (.cells #[] 3)).ownsRow wq.heap.size 3 1 (.slice (some ⟨wq.heap.size, 0, none⟩) 0 0) 0 []) := World.ownsRow_lit (base := wq.heap.size) (e := 3) (size := 1) wq #[] 0 (Nat.le_refl _) (by simp) rfl
          have HT : Hid (∀ j, j ≤ k → ((O.take j).map iv).length = j * 1) := by intro j hj; rw [List.length_map, List.length_take, HOL.out]; omega
          have HD : Hid (∀ j, j ≤ k → ((O.drop j).map iv).length = (k - j) * 1) := by intro j hj; rw [List.length_map, List.length_drop, HOL.out]; omega
          have HC1 : Hid (∀ j, j ≤ k → ∀ i u, ((O.take j).map iv)[i]? = some u → (wq.alloc (.cells #[] 3)).cell? ((⟨g, 0, none⟩ : Addr).add i) = some u) := by
            intro j hj i u hu
            have hil : i < j := by
              rcases Nat.lt_or_ge i j with h' | h'
              · exact h'
              · rw [List.getElem?_eq_none (by rw [List.length_map, List.length_take]; omega)] at hu; cases hu
            rw [addr_add, HX.out.cell i (by omega)]
            rw [List.getElem?_map, List.getElem?_take_of_lt hil, List.getElem?_eq_getElem (by rw [HOL.out]; omega)] at hu
            rw [List.getD_eq_getElem?_getD, List.getElem?_eq_getElem (by rw [HOL.out]; omega)]
            simpa [iv] using hu
          clear hownq hrd hno HYES
          by_cases hcap : cap = i
          · obtain ⟨cp, hcp⟩ : ∃ cp, cp = i := ⟨_, rfl⟩
            rw [← hcp] at hcap HIns
            have hjk : cp ≤ k := by omega
            have HCP := Lib.hid hcp
            obtain rfl : cap = cp := hcap
            clear hcp
            rw [← HCP.out]
            go_wp2_with (first
              | (at_builtin; refine wpList_append_own _ rfl (.tmp 33) (.tmp 36) 23 rfl wq.heap.size 3 i0 (.int .i64 0) 1 8 Try.underlying23 hi hz0 hz1 hz2 rfl (by decide) _ 0 [] rfl HE0.out ⟨g, 0, none⟩ cap cap ((O.take cap).map iv) rfl (HT.out cap hjk) (HC1.out cap hjk) (by intro u hu; obtain ⟨z, _, rfl⟩ := List.mem_map.1 hu; rfl) (by unfold maxLen; omega) (by omega) (by simp) ?_; intro v1 w1' ho1 hg1 hn1; simp only [Nat.zero_add, List.nil_append] at ho1; obtain ⟨g1, cap1, rfl, hB1, hl1', hc1⟩ := own_some ho1 (fun e => slice_ne (hn1.1 e).1); have hX1 := Lib.hid (HX.out.grown1 hg1 (fun b hb => Nat.le_of_eq (Option.some.inj hb))); have HO1 := Lib.hid ho1; clear ho1 hg1 hn1)
              | (at_builtin; refine wpList_append_own _ rfl (.tmp 38) (.tmp 40) 23 rfl wq.heap.size 3 i0 (.int .i64 0) 1 8 Try.underlying23 hi hz0 hz1 hz2 rfl (by decide) _ cap _ rfl (HO1.out.alloc _) ⟨w1'.heap.size, 0, none⟩ 1 1 [.int .i64 (k : Int)] rfl rfl (cell_one_new _ _ _) (by intro u hu; simp at hu; subst hu; rfl) (by unfold maxLen; omega) (by omega) (by have := hX1.out.sz; simp; omega) ?_; intro v2 w2' ho2 hg2 hn2; obtain ⟨g2, cap2, rfl, hB2, hl2, hc2⟩ := own_some ho2 (fun e => slice_ne (hn2.1 e).1); have hX2 := Lib.hid ((hX1.out.alloc1 _).grown1 hg2 (fun b hb => Nat.le_trans hB1 (Nat.le_of_eq (Option.some.inj hb)))); have HO2 := Lib.hid ho2; clear ho2 hg2 hn2)
              | (at_builtin; refine wpList_append_own _ rfl (.tmp 42) (.tmp 45) 23 rfl wq.heap.size 3 i0 (.int .i64 0) 1 8 Try.underlying23 hi hz0 hz1 hz2 rfl (by decide) _ (cap + 1) _ rfl HO2.out ⟨g, 0, none⟩ 0 0 [] rfl rfl (fun i u h => by simp at h) (by intro u hu; cases hu) (by unfold maxLen; omega) (by omega) hX2.out.sz ?_; intro v3 w3 ho3 hg3 hn3; rw [show cap + 1 + 0 = k + 1 by omega] at ho3; obtain ⟨g3, cap3, rfl, hB3, hl3, hc3⟩ := own_some ho3 (fun e => slice_ne (hn3.1 e).1); have hX3 := Lib.hid (hX2.out.grown1 hg3 (fun b hb => Nat.le_trans hB2 (Nat.le_of_eq (Option.some.inj hb)))); have HO3 := Lib.hid ho3; clear ho3 hg3 hn3))
            have hfin : Hid (w3.ownsRow w.heap.size 3 1 (.slice (some ⟨g3, 0, none⟩) (k + 1) cap3) (k + 1) ((ofN (Hw.fwL (ww l) (k + 1))).map iv)) := by
              have e := HO3.out.mono HWQ.out.size
              show World.ownsRow _ _ _ _ _ _ _
              rw [HIns.out]
              rw [show O.drop cap = [] from List.drop_eq_nil_of_le (by rw [HX.out.ol]; omega)]
              simpa [iv] using e
            have hX3g := hX3.out.gr
            have hbf : Below w.heap.size w w3 := hX3.out.below HWQ.out HWQ.out.size
            have hxf := HXQ.out.grown hX3g (by simp)
            clear hX3g
            go_roundw
            case rel => exact ⟨k + 1, g3, cap3, by omega, by go_num, rfl, hfin.out, hxf, hbf⟩
            case measure => simp [intOf]; omega
          · have hjk : i ≤ k := by omega
            have hjc : i ≤ cap := by omega
            go_wp2_with (first
              | (at_builtin; refine wpList_append_own _ rfl (.tmp 33) (.tmp 36) 23 rfl wq.heap.size 3 i0 (.int .i64 0) 1 8 Try.underlying23 hi hz0 hz1 hz2 rfl (by decide) _ 0 [] rfl HE0.out ⟨g, 0, none⟩ i cap ((O.take i).map iv) rfl (HT.out i hjk) (HC1.out i hjk) (by intro u hu; obtain ⟨z, _, rfl⟩ := List.mem_map.1 hu; rfl) (by unfold maxLen; omega) (by omega) (by simp) ?_; intro v1 w1' ho1 hg1 hn1; simp only [Nat.zero_add, List.nil_append] at ho1; obtain ⟨g1, cap1, rfl, hB1, hl1', hc1⟩ := own_some ho1 (fun e => slice_ne (hn1.1 e).1); have hX1 := Lib.hid (HX.out.grown1 hg1 (fun b hb => Nat.le_of_eq (Option.some.inj hb))); have HO1 := Lib.hid ho1; clear ho1 hg1 hn1)
              | (at_builtin; refine wpList_append_own _ rfl (.tmp 38) (.tmp 40) 23 rfl wq.heap.size 3 i0 (.int .i64 0) 1 8 Try.underlying23 hi hz0 hz1 hz2 rfl (by decide) _ i _ rfl (HO1.out.alloc _) ⟨w1'.heap.size, 0, none⟩ 1 1 [.int .i64 (k : Int)] rfl rfl (cell_one_new _ _ _) (by intro u hu; simp at hu; subst hu; rfl) (by unfold maxLen; omega) (by omega) (by have := hX1.out.sz; simp; omega) ?_; intro v2 w2' ho2 hg2 hn2; obtain ⟨g2, cap2, rfl, hB2, hl2, hc2⟩ := own_some ho2 (fun e => slice_ne (hn2.1 e).1); have hX2 := Lib.hid ((hX1.out.alloc1 _).grown1 hg2 (fun b hb => Nat.le_trans hB1 (Nat.le_of_eq (Option.some.inj hb)))); have HO2 := Lib.hid ho2; clear ho2 hg2 hn2)
              | (at_builtin; refine wpList_append_own _ rfl (.tmp 42) (.tmp 45) 23 rfl wq.heap.size 3 i0 (.int .i64 0) 1 8 Try.underlying23 hi hz0 hz1 hz2 rfl (by decide) _ (i + 1) _ rfl HO2.out ⟨g, i, none⟩ 0 (cap - i) [] rfl rfl (fun i u h => by simp at h) (by intro u hu; cases hu) (by unfold maxLen; omega) (by omega) hX2.out.sz ?_; intro v3 w3 ho3 hg3 hn3; rw [show i + 1 + 0 = k + 1 by omega] at ho3; obtain ⟨g3, cap3, rfl, hB3, hl3, hc3⟩ := own_some ho3 (fun e => slice_ne (hn3.1 e).1); have hX3 := Lib.hid (hX2.out.grown1 hg3 (fun b hb => Nat.le_trans hB2 (Nat.le_of_eq (Option.some.inj hb)))); have HO3 := Lib.hid ho3; clear ho3 hg3 hn3))
            have hfin : Hid (w3.ownsRow w.heap.size 3 1 (.slice (some ⟨g3, 0, none⟩) (k + 1) cap3) (k + 1) ((ofN (Hw.fwL (ww l) (k + 1))).map iv)) := by
              have e := HO3.out.mono HWQ.out.size
              show World.ownsRow _ _ _ _ _ _ _
              rw [HIns.out, show O.drop i = [] from List.drop_eq_nil_of_le (by rw [HX.out.ol]; omega)]
              simpa [iv] using e
            have hX3g := hX3.out.gr
            have hbf : Below w.heap.size w w3 := hX3.out.below HWQ.out HWQ.out.size
            have hxf := HXQ.out.grown hX3g (by simp)
            clear hX3g
            go_roundw
            case rel => exact ⟨k + 1, g3, cap3, by omega, by go_num, rfl, hfin.out, hxf, hbf⟩
            case measure => simp [intOf]; omega
    · obtain rfl : k = l.length := by omega
      have HO5 := Lib.hid hown
      have B5 := Lib.hid hb
      have HLN := Lib.hid hpl
      clear hown hb hxa
      go_wp2
      go_ret
      refine ⟨⟨_, rfl, ?_⟩, B5.out⟩
      rw [HE.out, HLN.out]
      have := HO5.out
      unfold ofN at this
      rw [← nv_iv] at this
      exact this
end Go.Proofs.Ytnlpfajncpbjpaa
