/-
  The model's search for a better order, and its 'IsSettled'. No conditions but the bounds that Go gives a slice.
-/
import Derived.Test.YteegbkbphfmooaaQi
namespace Go.Proofs.Yteegbkbphfmooaa
open Go.ChangeShapes Go.WideShapes Go.ChangeAt Go.RowKit Go.Sort
set_option linter.unusedVariables false

set_option maxRecDepth 100000 in
set_option maxHeartbeats 1000000 in
theorem l08Better_any (m : Nat) (a : Option Addr) (l : List Int) (cap : Nat) (an : Option Addr) (o : List Nat) (cn : Nat) (w : World) (hm : l.length = m) (hok : Ok m l) (hrow : IntRow w a l) (ho : Rv.Od m o) (hrn : IntRow w an (ni o)) (hcn : m ≤ cn) (hcm : cn ≤ maxLen) :
    Calls Try.prog 101 #[.agg #[.int .i64 (m : Int), .slice a m cap], .slice an m cn] w (BetR m (bt l) o w) := by
  have h8 : m ≤ 8 := by have := hok.2.1; omega
  obtain ⟨Wa, hWa⟩ : ∃ Wa, Wa = w.alloc (.cells #[.int .i64 (m : Int), .slice a m cap] 25) := ⟨_, rfl⟩
  have HWa := Lib.hid hWa
  have hba : Below w.heap.size w Wa := by rw [hWa]; exact (Below.refl _ _).alloc (Nat.le_refl _) _
  have xa : Box Wa w.heap.size 25 (.int .i64 (m : Int)) (.slice a m cap) := by rw [hWa]; exact Box.new _ _ _ _
  have R1 := Lib.hid (hrow.below hba (Nat.le_refl _))
  have N1 := Lib.hid (hrn.below hba (Nat.le_refl _))
  have X1 := Lib.hid xa
  have B1 := Lib.hid hba
  have HO := Lib.hid ho
  have hol := ho.len
  have HCR : Hid (∀ W an o cn, IntRow W a l → Rv.Od m o → IntRow W an (ni o) → m ≤ cn → cn ≤ maxLen → Calls Try.prog 97 #[.agg #[.int .i64 (m : Int), .slice a m cap], .slice an m cn] W fun e w' => e = .returned (.int .i64 ((Rv.rv (bt l) o : Nat) : Int)) ∧ Below W.heap.size W w') :=
    fun W an o cn h1 h2 h3 h4 h5 => l08Count_any m a l cap an o cn W hm hok h1 h2 h3 h4 h5
  have HCM := Lib.hid hcm
  obtain ⟨q, hq⟩ : ∃ q, q = Rv.rv (bt l) o := ⟨_, rfl⟩
  have HQ := Lib.hid hq
  have c0 := xa.c0
  have c1 := xa.c1
  clear hWa hba xa hrow hrn hok ho hm hq hcm c0 c1
  go_enter Try.func101, Try.ntmps101
  go_wp2
  rw [← HWa.out]
  go_loopw [11] (fun i wr => ∃ k : Nat, k ≤ m ∧ i = .int .i64 (k : Int) ∧ Hid (Rv.NoB (bt l) o k) ∧ Below Wa.heap.size Wa wr) (fun i _ => m - (intOf i).toNat)
  case atStart => exact ⟨0, Nat.zero_le _, rfl, Rv.NoB.zero _ _, Below.refl _ _⟩
  case round =>
    obtain ⟨k, hk, rfl, hno, hb⟩ := hrel
    by_cases hlt : k < m
    · have hki : (k : Int) < (m : Int) := by omega
      have hb2 := hb
      clear hb
      go_wp2
      go_loopw [16] (fun j wr => ∃ r : Nat, r ≤ m ∧ j = .int .i64 (r : Int) ∧ Hid (Rv.NoB2 (bt l) o k r) ∧ Below Wa.heap.size Wa wr) (fun j _ => m - (intOf j).toNat)
      case atStart => exact ⟨0, Nat.zero_le _, rfl, hno.out.start, hb2⟩
      case round =>
        clear hb2
        obtain ⟨r, hr, rfl, hno2, hb⟩ := hrel
        by_cases hlt2 : r < m
        · have hri : (r : Int) < (m : Int) := by omega
          have HMV := Lib.hid (l08Move_any m an o cn k r wr HO.out h8 (N1.out.below hb (Nat.le_refl _)) hcn HCM.out hlt hlt2)
          obtain ⟨x, hx⟩ : ∃ x, x = Rv.mv o k r := ⟨_, rfl⟩
          rw [← hx] at HMV
          have hxo : Rv.Od m x := by rw [hx]; exact Rv.mv_od HO.out r hlt
          obtain ⟨p, hp⟩ : ∃ p, p = Rv.rv (bt l) x := ⟨_, rfl⟩
          have HP := Lib.hid hp
          have HXO := Lib.hid hxo
          have hss : Rv.lss (bt l) o k r = decide (p < q) := by unfold Rv.lss; rw [← hx, ← hp, ← HQ.out]
          have HX := Lib.hid hx
          by_cases hpq : p < q
          · rw [decide_eq_true hpq] at hss
            have HBT : Hid (Rv.bet (bt l) o = some x) := by
              show _ = _
              rw [hx]; exact Rv.bet_some hno2.out (by omega) (by omega) hss
            have hpqi : (p : Int) < (q : Int) := by omega
            clear hx hxo hp hss hno2 hno
            go_wp2_with fail
            refine HMV.out.mono ?_
            rintro e w2 ⟨⟨g, c, rfl, how⟩, hb2⟩
            have hb3 := hb.trans (hb2.mono hb.size)
            have xr := X1.out.below hb3 X1.out.lt
            have c0 := xr.c0
            have c1 := xr.c1
            have hcap := own_cap how
            have HOW := Lib.hid how
            have hor := ord_own HXO.out.len how
            have hra := R1.out.below hb3 (Nat.le_refl _)
            have hno := N1.out.below hb3 (Nat.le_refl _)
            have hq0 := fun d os => cell_regrown c0 d os
            have hq1 := fun d os => cell_regrown c1 d os
            have cA : ∀ d os, Calls Try.prog 97 #[.agg #[.int .i64 (m : Int), .slice a m cap], .slice (some ⟨g, 0, none⟩) m c] (Go.Sort.grow (redrawn w2 d) os) fun e w'' => e = .returned (.int .i64 (p : Int)) ∧ ∃ r : Regrown, w'' = Go.Sort.grow (redrawn w2 r.d) r.os :=
              fun d os => Calls.regrown_of ((HCR.out _ (some ⟨g, 0, none⟩) x c (hra.below (below_regrown w2 d os) (Nat.le_refl _)) HXO.out (hor.below (below_regrown w2 d os) (Nat.le_refl _)) hcap.1 hcap.2).mono fun e w' ⟨he, hw⟩ => ⟨by rw [he, ← HP.out], hw⟩)
            have cB : ∀ d os, Calls Try.prog 97 #[.agg #[.int .i64 (m : Int), .slice a m cap], .slice an m cn] (Go.Sort.grow (redrawn w2 d) os) fun e w'' => e = .returned (.int .i64 (q : Int)) ∧ ∃ r : Regrown, w'' = Go.Sort.grow (redrawn w2 r.d) r.os :=
              fun d os => Calls.regrown_of ((HCR.out _ an o cn (hra.below (below_regrown w2 d os) (Nat.le_refl _)) HO.out (hno.below (below_regrown w2 d os) (Nat.le_refl _)) hcn HCM.out).mono fun e w' ⟨he, hw⟩ => ⟨by rw [he, ← HQ.out], hw⟩)
            clear how hor hra hno xr HMV hb2 hcap c0 c1
            go_wp2
            refine wp_region_quiet_below (by kernel_rfl) (by kernel_rfl) ?_
            repeat (go_big_quiet_step (first | (with_reducible exact cA _ _) | (with_reducible exact cB _ _)))
            refine wpQuiet_nil ?_
            intro w3 hw'
            have hb4 : Below w2.heap.size w2 w3 := by obtain ⟨⟨dq, osq⟩, hw''⟩ := hw'; rw [hw'']; exact below_regrown w2 dq osq
            clear hw' cA cB hq0 hq1
            have HF : Hid (w3.ownsRow w.heap.size 3 1 (.slice (some ⟨g, 0, none⟩) m c) m ((ni x).map iv)) := (own_below HOW.out hb4).mono (by have := B1.out.size; have := hb.size; omega)
            have HBB := Lib.hid (B1.out.trans ((hb3.trans (hb4.mono hb3.size)).mono B1.out.size))
            clear hb hb3 hb4 HOW
            go_wp2
            go_ret2
            exact ⟨.inr ⟨x, g, c, HBT.out, rfl, HF.out⟩, HBB.out⟩
          · rw [decide_eq_false hpq] at hss
            have HN : Hid (Rv.NoB2 (bt l) o k (r + 1)) := hno2.out.next hss
            have hpqi : ¬ (p : Int) < (q : Int) := by omega
            clear hx hxo hp hss hno2 hno
            go_wp2_with fail
            refine HMV.out.mono ?_
            rintro e w2 ⟨⟨g, c, rfl, how⟩, hb2⟩
            have hb3 := hb.trans (hb2.mono hb.size)
            have xr := X1.out.below hb3 X1.out.lt
            have c0 := xr.c0
            have c1 := xr.c1
            have hcap := own_cap how
            have HOW := Lib.hid how
            have hor := ord_own HXO.out.len how
            have hra := R1.out.below hb3 (Nat.le_refl _)
            have hno := N1.out.below hb3 (Nat.le_refl _)
            have hq0 := fun d os => cell_regrown c0 d os
            have hq1 := fun d os => cell_regrown c1 d os
            have cA : ∀ d os, Calls Try.prog 97 #[.agg #[.int .i64 (m : Int), .slice a m cap], .slice (some ⟨g, 0, none⟩) m c] (Go.Sort.grow (redrawn w2 d) os) fun e w'' => e = .returned (.int .i64 (p : Int)) ∧ ∃ r : Regrown, w'' = Go.Sort.grow (redrawn w2 r.d) r.os :=
              fun d os => Calls.regrown_of ((HCR.out _ (some ⟨g, 0, none⟩) x c (hra.below (below_regrown w2 d os) (Nat.le_refl _)) HXO.out (hor.below (below_regrown w2 d os) (Nat.le_refl _)) hcap.1 hcap.2).mono fun e w' ⟨he, hw⟩ => ⟨by rw [he, ← HP.out], hw⟩)
            have cB : ∀ d os, Calls Try.prog 97 #[.agg #[.int .i64 (m : Int), .slice a m cap], .slice an m cn] (Go.Sort.grow (redrawn w2 d) os) fun e w'' => e = .returned (.int .i64 (q : Int)) ∧ ∃ r : Regrown, w'' = Go.Sort.grow (redrawn w2 r.d) r.os :=
              fun d os => Calls.regrown_of ((HCR.out _ an o cn (hra.below (below_regrown w2 d os) (Nat.le_refl _)) HO.out (hno.below (below_regrown w2 d os) (Nat.le_refl _)) hcn HCM.out).mono fun e w' ⟨he, hw⟩ => ⟨by rw [he, ← HQ.out], hw⟩)
            clear how hor hra hno xr HMV hb2 hcap c0 c1
            go_wp2
            refine wp_region_quiet_below (by kernel_rfl) (by kernel_rfl) ?_
            repeat (go_big_quiet_step (first | (with_reducible exact cA _ _) | (with_reducible exact cB _ _)))
            refine wpQuiet_nil ?_
            intro w3 hw'
            have hb4 : Below w2.heap.size w2 w3 := by obtain ⟨⟨dq, osq⟩, hw''⟩ := hw'; rw [hw'']; exact below_regrown w2 dq osq
            clear hw' cA cB hq0 hq1
            have hb5 := hb3.trans (hb4.mono hb3.size)
            clear hb hb3 hb4 HOW
            go_wp2
            go_roundw
            case rel => exact ⟨r + 1, by omega, by go_num, HN, hb5⟩
            case measure => simp [intOf]; omega
        · obtain rfl : r = m := by omega
          have HN : Hid (Rv.NoB (bt l) o (k + 1)) := by
            have := hno2.out
            rw [← hol] at this
            exact this.end
          clear hno hno2
          go_wp2
          go_roundw
          case rel => exact ⟨k + 1, by omega, by go_num, HN, hb⟩
          case measure => simp [intOf]; omega
    · obtain rfl : k = m := by omega
      have HN : Hid (Rv.bet (bt l) o = none) := Rv.bet_none (by rw [hol]; exact hno.out)
      have HBB := Lib.hid (B1.out.trans (hb.mono B1.out.size))
      clear hno hb
      go_wp2
      go_ret2
      exact ⟨.inl ⟨HN.out, rfl⟩, HBB.out⟩
set_option maxHeartbeats 1000000 in
theorem specIsSettled (n : Int) (a : Option Addr) (l : List Int) (cap : Nat) (an : Option Addr) (ns : List Int) (cn : Nat) (w : World) (hrow : IntRow w a l) (hl : l.length ≤ maxLen) (hrn : IntRow w an ns) (hn : ns.length ≤ maxLen) (hcn : ns.length ≤ cn) (hcm : cn ≤ maxLen) :
    Calls Try.prog 58 #[.agg #[.int .i64 n, .slice a l.length cap], .slice an ns.length cn] w fun e w' => e = .returned (.bool (isR n l ns)) ∧ Below w.heap.size w w' := by
  obtain ⟨Wa, hWa⟩ : ∃ Wa, Wa = w.alloc (.cells #[.int .i64 n, .slice a l.length cap] 25) := ⟨_, rfl⟩
  have HWa := Lib.hid hWa
  have hba : Below w.heap.size w Wa := by rw [hWa]; exact (Below.refl _ _).alloc (Nat.le_refl _) _
  have xa : Box Wa w.heap.size 25 (.int .i64 n) (.slice a l.length cap) := by rw [hWa]; exact Box.new _ _ _ _
  have R1 := hrow.below hba (Nat.le_refl _)
  have N1 := hrn.below hba (Nat.le_refl _)
  have HOK := Lib.hid (specOrderOk n a l cap an ns cn Wa R1 hl N1 hn hcn hcm)
  have c0 := xa.c0
  have c1 := xa.c1
  cases hok : renB n l ns
  · have HO := Lib.hid hok
    have HE : Hid (isR n l ns = false) := by show _ = _; unfold isR; rw [hok]; rfl
    clear hl hn hrow hrn hWa hcn hcm hok R1 N1
    go_enter Try.func58, Try.ntmps58
    go_wp2_with fail
    rw [← HWa.out]
    refine HOK.out.mono ?_
    rintro e w1 ⟨rfl, hb1⟩
    rw [HO.out]
    go_wp2
    go_ret
    exact ⟨by rw [HE.out]; rfl, hba.trans (hb1.mono hba.size)⟩
  · have HO := Lib.hid hok
    obtain ⟨ok, rfl, hp, hnl, hod, hni⟩ := ren_parts hok
    have HE : Hid (isR l.length l ns = (Rv.bet (bt l) (tn ns)).isNone) := by show _ = _; unfold isR; rw [hok]; rfl
    obtain ⟨o, ho⟩ : ∃ o, o = tn ns := ⟨_, rfl⟩
    rw [← ho] at hod hni HE
    have HC : Hid (∀ W, IntRow W a l → IntRow W an ns → Calls Try.prog 101 #[.agg #[.int .i64 (l.length : Int), .slice a l.length cap], .slice an l.length cn] W (BetR l.length (bt l) o W)) :=
      fun W h1 h2 => l08Better_any l.length a l cap an o cn W rfl ok h1 hod (hni ▸ h2) (hnl ▸ hcn) hcm
    have RR := Lib.hid R1
    have NN := Lib.hid N1
    have HNL := Lib.hid hnl
    clear hl hn hrow hrn hWa hcn hcm hok R1 N1 ok hp hod hni ho
    rw [hnl]
    rw [hnl] at HOK
    go_enter Try.func58, Try.ntmps58
    go_wp2_with fail
    rw [← HWa.out]
    refine HOK.out.mono ?_
    rintro e w1 ⟨rfl, hb1⟩
    rw [HO.out]
    clear c0 c1
    have c0 := (xa.below hb1 xa.lt).c0
    have c1 := (xa.below hb1 xa.lt).c1
    go_wp2_with fail
    refine (HC.out w1 (RR.out.below hb1 (Nat.le_refl _)) (NN.out.below hb1 (Nat.le_refl _))).mono ?_
    have B1 := Lib.hid (hba.trans (hb1.mono hba.size))
    clear HOK HC
    rintro e w2 ⟨⟨hn, rfl⟩ | ⟨x, g, c, hn, rfl, how⟩, hb2⟩
    · have HN := Lib.hid hn
      clear hn
      go_wp2
      go_ret
      exact ⟨by rw [HE.out, HN.out]; rfl, B1.out.trans (hb2.mono B1.out.size)⟩
    · have HN := Lib.hid hn
      clear hn how
      go_wp2
      go_ret
      exact ⟨by rw [HE.out, HN.out]; rfl, B1.out.trans (hb2.mono B1.out.size)⟩
end Go.Proofs.Yteegbkbphfmooaa
