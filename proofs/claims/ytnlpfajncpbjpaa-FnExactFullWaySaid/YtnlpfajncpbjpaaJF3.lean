/-
  'FullWay' of the program, walked. No conditions but the bounds that Go gives a slice.
-/
import Derived.Test.YtnlpfajncpbjpaaJF1
namespace Go.Proofs.Ytnlpfajncpbjpaa
open Go.ChangeShapes Go.WideShapes Go.ChangeAt Go.RowKit Go.Shelf
set_option linter.unusedVariables false

theorem pV_ptr (gs : List Nat) (i : Nat) : ∃ po : Option Addr, .pointer po = pV gs i (.pointer none) := by
  unfold pV
  split
  · exact ⟨_, rfl⟩
  · exact ⟨_, rfl⟩

set_option maxRecDepth 100000 in
set_option maxHeartbeats 2000000 in
theorem implFullWay (n : Int) (a : Option Addr) (l : List Int) (cap : Nat) (w : World) (hrow : IntRow w a l) (hl : l.length ≤ maxLen) :
    Calls Try.prog 26 #[.agg #[.int .i64 n, .slice a l.length cap]] w (RetR w (fwR n l)) := by
  obtain ⟨Wa, hWa⟩ : ∃ Wa, Wa = w.alloc (.cells #[.int .i64 n, .slice a l.length cap] 25) := ⟨_, rfl⟩
  have HWa := Lib.hid hWa
  have hba : Below w.heap.size w Wa := by rw [hWa]; exact (Below.refl _ _).alloc (Nat.le_refl _) _
  have xa : Box Wa w.heap.size 25 (.int .i64 n) (.slice a l.length cap) := by rw [hWa]; exact Box.new _ _ _ _
  have hrowa : IntRow Wa a l := hrow.below hba (Nat.le_refl _)
  have HL := Lib.hid hl
  have HRW := Lib.hid hrow
  clear hl hrow hWa
  cases hok : okB n l
  · have HO := Lib.hid hok
    have HE : Hid (fwR n l = []) := by show _ = _; unfold fwR; rw [hok]; rfl
    clear hok
    go_enter Try.func26, Try.ntmps26
    go_wp2_with fail
    rw [← HWa.out]
    refine (implTourOk n a l cap Wa hrowa HL.out).mono ?_
    rintro e w1 ⟨rfl, hb1⟩
    rw [HO.out]
    have B1 := Lib.hid (hba.trans (hb1.mono hba.size))
    clear hb1
    go_wp2
    go_ret
    exact ⟨⟨_, rfl, by rw [HE.out]; exact World.ownsRow_nil _ _ _ _⟩, B1.out⟩
  have HO := Lib.hid hok
  have hk := okB_iff.1 hok
  have HE : Hid (fwR n l = Hw.fwL (ww l) l.length) := by show _ = _; unfold fwR; rw [hok]; rfl
  have HK := Lib.hid hk
  have hnl := hk.2.2.1
  have hl8 : l.length ≤ 8 := by have := hk.2.1; omega
  have hl1 : 1 ≤ l.length := by have := hk.1; omega
  subst hnl
  clear hok hk
  go_enter Try.func26, Try.ntmps26
  go_wp2_with fail
  rw [← HWa.out]
  refine (implTourOk _ a l cap Wa hrowa HL.out).mono ?_
  rintro e w1 ⟨rfl, hb1⟩
  rw [HO.out]
  have xa1 := xa.below hb1 xa.lt
  have bw1 := hba.trans (hb1.mono hba.size)
  obtain ⟨W2, hW2⟩ : ∃ W2, W2 = w1.alloc (.cells #[.pointer none] 69) := ⟨_, rfl⟩
  have hb2 : Below w1.heap.size w1 W2 := by rw [hW2]; exact (Below.refl _ _).alloc (Nat.le_refl _) _
  have xf : Boxed W2 w1.heap.size 69 (.pointer none) := by rw [hW2]; exact Boxed.new _ _ _
  have xa2 := xa1.below hb2 xa1.lt
  have hst : Fw w (l.length : Int) a cap l w1.heap.size [] [] W2 :=
    ⟨⟨rfl, fun i hi => absurd hi (Nat.not_lt_zero _)⟩, List.nodup_nil, fun g hg => absurd hg (by simp), xf, xa2, bw1.trans (hb2.mono bw1.size), xa1.lt⟩
  have c0 := xa2.c0
  have c1 := xa2.c1
  rw [hW2] at c0 c1
  have HW2 := Lib.hid hW2
  have HST := Lib.hid hst
  clear hW2 hst xf xa2 hb2 bw1 xa1 hb1 xa hba hrowa
  go_wp2
  rw [← HW2.out]
  clear c0 c1
  go_loopw [11] (fun i wr => ∃ (k : Nat) (gs : List Nat), k ≤ l.length ∧ i = .int .i64 (k : Int) ∧ Fw w (l.length : Int) a cap l w1.heap.size (Hw.fwL (ww l) k) gs wr) (fun i _ => l.length - (intOf i).toNat)
  case atStart => exact ⟨0, [], Nat.zero_le _, rfl, HST.out⟩
  case round =>
    clear HST HW2
    obtain ⟨k, gs, hk, rfl, hfw⟩ := hrel
    have hpl := Hw.fwL_len (ww l) k
    have hgl : gs.length = k := by rw [hfw.ch.len, hpl]
    by_cases hlt : k < l.length
    · have hkb : (k : Int) < (l.length : Int) := by omega
      obtain ⟨ps, hps⟩ : ∃ ps, ps = Hw.fwL (ww l) k := ⟨_, rfl⟩
      rw [← hps] at hfw hpl
      have HPS := Lib.hid hps
      have HFW := Lib.hid hfw
      have HPL := Lib.hid hpl
      have HGL := Lib.hid hgl
      have HSM : Hid (∀ x ∈ ps, x < l.length) := fun x hx => by rw [hps] at hx; have := Hw.fwL_mem.1 hx; omega
      have hat0 : Hid (atB gs w1.heap.size 0 = w1.heap.size ∧ atO 0 = 0) := ⟨rfl, rfl⟩
      clear hps hfw hpl hgl
      obtain ⟨wo, rfl⟩ : ∃ wo, wo = wr := ⟨_, rfl⟩
      go_wp2
      go_loopw [5] (fun q w2 => ∃ i : Nat, i ≤ k ∧ q = .pointer (some ⟨atB gs w1.heap.size i, atO i, none⟩) ∧ Hid (∀ j, j < i → (ww l k).testBit (ps.getD j 0) = false) ∧ Below wo.heap.size wo w2) (fun q _ => k - posn gs q)
      case atStart => exact ⟨0, Nat.zero_le _, rfl, fun j hj => absurd hj (Nat.not_lt_zero _), Below.refl _ _⟩
      case round =>
        obtain ⟨i, hik, rfl, hno, hb⟩ := hrel
        have hf := HFW.out.below hb
        obtain ⟨hc, hz, hlt2, hge2⟩ := hf.at (i := i) (by rw [HPL.out]; exact hik)
        obtain ⟨AB, hAB⟩ : ∃ AB, AB = atB gs w1.heap.size i := ⟨_, rfl⟩
        obtain ⟨AO, hAO⟩ : ∃ AO, AO = atO i := ⟨_, rfl⟩
        rw [← hAB, ← hAO] at hc
        rw [← hAB, ← hAO]
        have HAB := Lib.hid hAB
        have HAO := Lib.hid hAO
        have HB := Lib.hid hb
        have HF := Lib.hid hf
        have t0 := hf.xt.c0
        have t1 := hf.xt.c1
        have hq0 := fun d os => cell_regrown t0 d os
        have hq1 := fun d os => cell_regrown t1 d os
        have hrr := HRW.out.below hf.hb (Nat.le_refl _)
        have hrq : ∀ d os, IntRow (Go.Sort.grow (redrawn wr d) os) a l := fun d os => hrr.below (below_regrown wr d os) (Nat.le_refl _)
        by_cases hik2 : i < k
        · rw [pV_lt _ (by rw [HGL.out]; exact hik2)] at hc
          obtain ⟨gi, hgi⟩ : ∃ gi, gi = gs.getD i 0 := ⟨_, rfl⟩
          obtain ⟨x, hx⟩ : ∃ x, x = ps.getD i 0 := ⟨_, rfl⟩
          have hnd := hf.ch.node i (by rw [HPL.out]; exact hik2)
          rw [← hgi, ← hx] at hnd
          rw [← hgi] at hc
          have hqc := fun d os => cell_regrown hc d os
          have n0 := hnd.c0
          have hqn := fun d os => cell_regrown n0 d os
          have hxl : x < l.length := HSM.out x (by rw [hx]; exact getD_mem (by rw [HPL.out]; exact hik2))
          have cB : ∀ (b : Bool), (ww l k).testBit x = b → ∀ d os, Calls Try.prog 63 #[.agg #[.int .i64 (l.length : Int), .slice a l.length cap], .int .i64 (k : Int), .int .i64 (x : Int)] (Go.Sort.grow (redrawn wr d) os) fun e w'' => e = .returned (.bool b) ∧ ∃ p : Regrown, w'' = Go.Sort.grow (redrawn wr p.d) p.os :=
            fun b hb2 d os => Calls.regrown_of ((beats_any _ _ l cap k x _ (hrq d os) HL.out hlt (by omega)).mono fun e w' ⟨he, hw⟩ => ⟨by rw [he, wwBit HK.out hlt, hb2], hw⟩)
          have HGI := Lib.hid hgi
          have HX := Lib.hid hx
          cases hbe : (ww l k).testBit x
          · have cB0 := cB false hbe
            have HNN : Hid (∀ j, j < i + 1 → (ww l k).testBit (ps.getD j 0) = false) := fun j hj => by
              by_cases e : j = i
              · rw [e, ← HX.out]; exact hbe
              · exact hno.out j (by omega)
            clear hf hb hAB hAO hrr hrq hnd hgi hx cB hbe hno
            go_wp2
            refine wp_region_quiet_below (by kernel_rfl) (by kernel_rfl) ?_
            repeat (go_big_quiet_step (exact cB0 _ _))
            refine wpQuiet_nil ?_
            intro wq hw'
            have hbq : Below wr.heap.size wr wq := by obtain ⟨⟨dq, osq⟩, hw''⟩ := hw'; rw [hw'']; exact below_regrown wr dq osq
            have HFQ := Lib.hid (HF.out.below hbq)
            have HB2 := Lib.hid (HB.out.trans (hbq.mono HB.out.size))
            have hfq := HFQ.out
            have hat := hfq.at (i := i) (by rw [HPL.out]; omega)
            rw [← HAB.out, ← HAO.out, pV_lt _ (by rw [HGL.out]; exact hik2), ← HGI.out] at hat
            obtain ⟨d1, d2, d3, d4⟩ := hat
            have HNP : Hid (Value.pointer (some ⟨gi, 1, none⟩) = .pointer (some ⟨atB gs w1.heap.size (i + 1), atO (i + 1), none⟩)) := by
              show _ = _
              rw [HGI.out]; unfold atB atO
              rw [if_neg (by omega), if_neg (by omega), Nat.add_sub_cancel]
            have HM1 : Hid (posn gs (.pointer (some ⟨AB, AO, none⟩)) = i) := by show _ = _; rw [HAB.out, HAO.out]; exact posn_at HFW.out.nd _ (by rw [HGL.out]; omega)
            have HM2 : Hid (posn gs (.pointer (some ⟨gi, 1, none⟩)) = i + 1) := by show _ = _; rw [HNP.out]; exact posn_at HFW.out.nd _ (by rw [HGL.out]; omega)
            clear hw' hbq hfq hq0 hq1 hqc hqn cB0 hc n0 t0 t1 d2 d4
            go_wp2
            go_roundw
            case rel => exact ⟨i + 1, by omega, HNP.out, HNN.out, HB2.out⟩
            case measure =>
              show k - posn gs (.pointer (some ⟨gi, 1, none⟩)) < k - posn gs (.pointer (some ⟨AB, AO, none⟩))
              rw [HM1.out, HM2.out]; omega
          · have cB0 := cB true hbe
            have HYES : Hid (i < k → (ww l k).testBit (ps.getD i 0) = true) := fun _ => by rw [← HX.out]; exact hbe
            clear hf hb hAB hAO hrr hrq hnd hgi hx cB hbe
            go_wp2
            refine wp_region_quiet_below (by kernel_rfl) (by kernel_rfl) ?_
            repeat (go_big_quiet_step (exact cB0 _ _))
            refine wpQuiet_nil ?_
            intro wq hw'
            have hbq : Below wr.heap.size wr wq := by obtain ⟨⟨dq, osq⟩, hw''⟩ := hw'; rw [hw'']; exact below_regrown wr dq osq
            have HFQ := Lib.hid (HF.out.below hbq)
            have HB2 := Lib.hid (HB.out.trans (hbq.mono HB.out.size))
            clear hw' hbq hq0 hq1 hqc hqn cB0 hc n0 t0 t1
            have hfq := HFQ.out
            have hat := hfq.at (i := i) (by rw [HPL.out]; omega)
            rw [← HAB.out, ← HAO.out] at hat
            obtain ⟨po, hpv⟩ : ∃ po : Option Addr, .pointer po = pV gs i (.pointer none) := pV_ptr gs i
            obtain ⟨W3, hW3⟩ : ∃ W3, W3 = (wq.alloc (.cells #[.int .i64 (k : Int), .pointer po] 72)).setCell ⟨AB, AO, none⟩ (.pointer (some ⟨wq.heap.size, 0, none⟩)) := ⟨_, rfl⟩
            have hins := hfq.ins (i := i) (x := k) (by rw [HPL.out]; omega) (W3 := W3) (by rw [hW3, HAB.out, HAO.out, hpv])
            have HIN : Hid (Fw w (l.length : Int) a cap l w1.heap.size (Hw.fwL (ww l) (k + 1)) (gs.take i ++ wq.heap.size :: gs.drop i) W3) := by
              show Fw _ _ _ _ _ _ _ _ _
              have e : Hw.fwL (ww l) (k + 1) = ps.take i ++ k :: ps.drop i := by
                show Hw.insW (ww l) k (Hw.fwL (ww l) k) = _
                rw [← HPS.out]
                exact insW_at ps i (by rw [HPL.out]; omega) hno.out (by rw [HPL.out]; exact HYES.out)
              rw [e]; exact hins
            have hba2 : Below wq.heap.size wq (wq.alloc (.cells #[.int .i64 (k : Int), .pointer po] 72)) := (Below.refl _ _).alloc (Nat.le_refl _) _
            have hat2 := (hfq.below hba2).at (i := i) (by rw [HPL.out]; omega)
            rw [← HAB.out, ← HAO.out, ← hpv] at hat2
            obtain ⟨e1, e2, e3, e4⟩ := hat2
            rw [← hpv] at hat
            obtain ⟨d1, d2, d3, d4⟩ := hat
            rw [set_alloc _ _ _ _ _ d3] at hW3
            have HW3 := Lib.hid hW3
            clear hfq hpv hins hba2 hW3 d2 d4 e3 e4 hno HYES
            go_wp2
            rw [← HW3.out]
            go_roundw
            case rel => exact ⟨k + 1, _, by omega, by go_num, HIN.out⟩
            case measure => simp [intOf]; omega
        · obtain rfl : k = i := by omega
          rw [pV_ge _ (by rw [HGL.out]; omega)] at hc
          have hqc := fun d os => cell_regrown hc d os
          have HYES : Hid (k < k → (ww l k).testBit (ps.getD k 0) = true) := fun h => absurd h (Nat.lt_irrefl _)
          have cB0 := fun (x : Nat) (hx : x < 64) d os => (Calls.regrown_of (beats_any (l.length : Int) a l cap k x (Go.Sort.grow (redrawn wr d) os) (hrq d os) HL.out hlt hx))
          clear hf hb hAB hAO hrr hrq
          go_wp2
          refine wp_region_quiet_below (by kernel_rfl) (by kernel_rfl) ?_
          repeat (go_big_quiet_step (exact cB0 _ (by omega) _ _))
          refine wpQuiet_nil ?_
          intro wq hw'
          have hbq : Below wr.heap.size wr wq := by obtain ⟨⟨dq, osq⟩, hw''⟩ := hw'; rw [hw'']; exact below_regrown wr dq osq
          have HFQ := Lib.hid (HF.out.below hbq)
          have HB2 := Lib.hid (HB.out.trans (hbq.mono HB.out.size))
          clear hw' hbq hq0 hq1 hqc cB0 hc t0 t1
          have hfq := HFQ.out
          have hat := hfq.at (i := k) (by rw [HPL.out]; omega)
          rw [← HAB.out, ← HAO.out] at hat
          obtain ⟨po, hpv⟩ : ∃ po : Option Addr, .pointer po = pV gs k (.pointer none) := pV_ptr gs k
          obtain ⟨W3, hW3⟩ : ∃ W3, W3 = (wq.alloc (.cells #[.int .i64 (k : Int), .pointer po] 72)).setCell ⟨AB, AO, none⟩ (.pointer (some ⟨wq.heap.size, 0, none⟩)) := ⟨_, rfl⟩
          have hins := hfq.ins (i := k) (x := k) (by rw [HPL.out]; omega) (W3 := W3) (by rw [hW3, HAB.out, HAO.out, hpv])
          have HIN : Hid (Fw w (l.length : Int) a cap l w1.heap.size (Hw.fwL (ww l) (k + 1)) (gs.take k ++ wq.heap.size :: gs.drop k) W3) := by
            show Fw _ _ _ _ _ _ _ _ _
            have e : Hw.fwL (ww l) (k + 1) = ps.take k ++ k :: ps.drop k := by
              show Hw.insW (ww l) k (Hw.fwL (ww l) k) = _
              rw [← HPS.out]
              exact insW_at ps k (by rw [HPL.out]; omega) hno.out (by rw [HPL.out]; exact HYES.out)
            rw [e]; exact hins
          have hba2 : Below wq.heap.size wq (wq.alloc (.cells #[.int .i64 (k : Int), .pointer po] 72)) := (Below.refl _ _).alloc (Nat.le_refl _) _
          have hat2 := (hfq.below hba2).at (i := k) (by rw [HPL.out]; omega)
          rw [← HAB.out, ← HAO.out, ← hpv] at hat2
          obtain ⟨e1, e2, e3, e4⟩ := hat2
          rw [← hpv] at hat
          obtain ⟨d1, d2, d3, d4⟩ := hat
          rw [set_alloc _ _ _ _ _ d3] at hW3
          have HW3 := Lib.hid hW3
          clear hfq hpv hins hba2 hW3 d2 d4 e3 e4 hno HYES
          go_wp2
          rw [← HW3.out]
          go_roundw
          case rel => exact ⟨k + 1, _, by omega, by go_num, HIN.out⟩
          case measure => simp [intOf]; omega
    · obtain rfl : k = l.length := by omega
      have hch := hfw.ch
      have hpa := players_any gs (Hw.fwL (ww l) l.length) wr hch (by rw [hpl]; omega)
      rw [hpl] at hpa
      have d0 := hfw.fst.cell
      obtain ⟨pv, hpv⟩ : ∃ pv, pv = pV gs 0 (.pointer none) := ⟨_, rfl⟩
      rw [← hpv] at hpa d0
      have HPA := Lib.hid hpa
      have HBF := Lib.hid hfw.hb
      clear hfw hch hpa hpl hgl hpv
      go_wp2_with fail
      refine HPA.out.mono ?_
      rintro e w5 ⟨⟨g, c, rfl, hown⟩, hb5⟩
      have HO5 := Lib.hid (hown.mono HBF.out.size)
      have B5 := Lib.hid (HBF.out.trans (hb5.mono HBF.out.size))
      have HLEN := Hw.fwL_len (ww l) l.length
      have HLN := Lib.hid HLEN
      clear hown hb5 d0 HLEN
      go_wp2
      go_ret
      exact ⟨⟨_, rfl, by rw [HE.out, HLN.out]; exact HO5.out⟩, B5.out⟩
end Go.Proofs.Ytnlpfajncpbjpaa
