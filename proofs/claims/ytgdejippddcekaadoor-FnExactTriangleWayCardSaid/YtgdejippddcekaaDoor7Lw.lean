/-
  'FnExactTriangleWay': the program's TriangleWay answers as the model's for every two tours, leaves them as they were, and its answer lies in memory of its own. The row lists tables of the standard library; the card ties them to the program's text. No other conditions.
-/
import Derived.Test.YtgdejippddcekaaDoor7SS
import Derived.Test.YtgdejippddcekaaDoorCards
import Derived.Test.YtgdejippddcekaaDoorTie
import Derived.Deep.DeepHandedRow
import Derived.Deep.DeepWitnessRowRef
import Derived.Lib.LaidTab
import Derived.LaidMore
import Derived.MakeChecks
namespace Go.Proofs.YtgdejippddcekaaDoor
open Go.ChangeShapes Go.WideShapes Go.ChangeAt Go.RowKit
set_option linter.unusedVariables false

theorem tPow : (Tryd.prog.globals[0]?).map (·.type) = some 94 := by kernel_rfl
theorem cells85 : Tryd.prog.cellsOf 94 = 20 := by kernel_rfl
theorem cells66 : Tryd.prog.cellsOf 85 = 1 := by kernel_rfl
theorem powData : (Rows.laid_internal_strconv_uint64pow10 : DataW Unit) = Lib.tabData .u64 Lib.pow10Tab := by kernel_rfl
theorem tabFmt {W : World} (h : laidMetH Tryd.prog Rows.fnExactTriangleWayRow.laid W) : HasTab W := by
  rw [MakeChecks.laidMetH_plain _ _ _ (by kernel_rfl)] at h
  obtain ⟨ps, ⟨g0, t0, cs0, f0, p0, q0, hg0, ht0, hv0, hd0, ⟨g1, t1, cs1, f1, p1, q1, hg1, ht1, hv1, hd1, ⟨g2, t2, cs2, f2, p2, q2, hg2, ht2, hv2, hd2, _⟩, _⟩, _⟩, _⟩ := h
  obtain rfl := Option.some.inj (gPow.symm.trans hg2)
  obtain rfl := Option.some.inj (tPow.symm.trans ht2)
  rw [powData] at hd2
  unfold HasTab Lib.TabIs
  rw [hv2, ← Lib.cells_of_tab Tryd.underlying94 Tryd.underlying85 cells66 cells85 hd2]
theorem wyR_small (nt : Int) (lt : List Int) (nu : Int) (lu : List Int) : SmallSS (wyR nt lt nu lu) := by
  unfold wyR
  split
  · have hl : (wayR lu lt).length ≤ 1024 := wayR_len lu lt
    have h3 : ∀ r ∈ wayR lu lt, r.length = 3 := fun r hr => wayF_row _ _ _ r hr
    have hs : ∀ R : List (List Int), (∀ r ∈ R, r.length = 3) → sumLs R = 3 * R.length := by
      intro R
      induction R with
      | nil => intro _; rfl
      | cons r R ih =>
        intro h
        have h1 := ih (fun x hx => h x (by simp [hx]))
        have h2 := h r (by simp)
        unfold sumLs at h1 ⊢
        simp only [List.map_cons, List.sum_cons, List.length_cons]
        omega
    refine ⟨by omega, fun i hi => ?_, by rw [hs _ h3]; omega⟩
    rw [List.getD_eq_getElem?_getD, List.getElem?_eq_getElem hi]
    have := h3 _ (List.getElem_mem hi)
    simp only [Option.getD_some]; omega
  · exact ⟨by simp, fun i hi => absurd hi (by simp), by simp [sumLs]⟩

set_option maxHeartbeats 4000000 in
theorem walkTriangleWay (nt : Int) (at' : Option Addr) (ct : Nat) (lt : List Int) (nu : Int) (au : Option Addr) (cu : Nat) (lu : List Int) (w : World) (hlt : lt.length ≤ maxLen) (hrt : IntRow w at' lt) (hlu : lu.length ≤ maxLen) (hru : IntRow w au lu) (ht : HasTab w) :
    Calls Tryd.prog 4 #[.agg #[.int .i64 nt, .slice at' lt.length ct], .agg #[.int .i64 nu, .slice au lu.length cu]] w fun e w' => e = .returned (.bool true) ∧ Below w.heap.size w w' := by
  have HLT := Lib.hid hlt
  have HTB := Lib.hid ht
  clear ht
  have HLU := Lib.hid hlu
  obtain ⟨Wb, hWb⟩ : ∃ Wb, Wb = w.alloc (.cells #[.int .i64 nt, .slice at' lt.length ct] 24) := ⟨_, rfl⟩
  obtain ⟨Wa, hWa⟩ : ∃ Wa, Wa = Wb.alloc (.cells #[.int .i64 nu, .slice au lu.length cu] 24) := ⟨_, rfl⟩
  have sb : Wb.heap.size = w.heap.size + 1 := by rw [hWb]; simp
  have hbb : Below w.heap.size w Wb := by rw [hWb]; exact Below.one _ _
  have hba : Below w.heap.size w Wa := by rw [hWa]; exact hbb.alloc hbb.size _
  have xt : Box Wa w.heap.size 24 (.int .i64 nt) (.slice at' lt.length ct) := by
    rw [hWa]; exact (show Box Wb w.heap.size 24 (.int .i64 nt) (.slice at' lt.length ct) by rw [hWb]; exact Box.new _ _ _ _).more _
  have xu : Box Wa (w.heap.size + 1) 24 (.int .i64 nu) (.slice au lu.length cu) := by rw [hWa, ← sb]; exact Box.new _ _ _ _
  have HWa : Hid (Wa = (w.alloc (.cells #[.int .i64 nt, .slice at' lt.length ct] 24)).alloc (.cells #[.int .i64 nu, .slice au lu.length cu] 24)) := by rw [hWa, hWb]; exact rfl
  have qa : Hid (Q1 w Wa nt at' ct lt nu au cu lu) := ⟨hba, hrt, hru, xt, xu⟩
  clear hWa hWb sb hbb hba xt xu hrt hru
  by_cases hbig : (1048576 : Int) < lt.length
  · have HS : Hid (szR 1048576 lt = -1) := if_pos hbig
    clear hlt hlu
    go_enter Tryd.func4, Tryd.ntmps4
    go_wp2_with fail
    rw [← HWa.out]
    refine (szT nt at' ct lt 1048576 Wa HLT.out (by omega) (by omega)).mono ?_
    rintro e w1 ⟨rfl, hb1⟩
    rw [HS.out]
    go_wp2
    go_ret
    exact ⟨rfl, (qa.out.kept hb1).hb⟩
  have HS0 : szR 1048576 lt = 1048576 - lt.length := if_neg hbig
  obtain ⟨q, hq⟩ : ∃ q : Int, q = 1048576 - lt.length := ⟨_, rfl⟩
  rw [← hq] at HS0
  have HS := Lib.hid HS0
  have hq0 : 0 ≤ q := by omega
  have hqn : ¬ q < 0 := by omega
  have hq1 : q ≤ 1048576 := by omega
  have hlt20 : lt.length ≤ 1048576 := by omega
  by_cases hbig2 : q < lu.length
  · have HS2 : Hid (szR q lu = -1) := if_pos hbig2
    clear hlt hlu hq HS0 hbig hbig2
    go_enter Tryd.func4, Tryd.ntmps4
    go_wp2_with fail
    rw [← HWa.out]
    refine (szT nt at' ct lt 1048576 Wa HLT.out (by omega) (by omega)).mono ?_
    rintro e w1 ⟨rfl, hb1⟩
    rw [HS.out]
    have c0 := (qa.out.kept hb1).bU.c0
    have c1 := (qa.out.kept hb1).bU.c1
    have q1 := Lib.hid (qa.out.kept hb1)
    go_wp2_with fail
    refine (szT nu au cu lu q w1 HLU.out hq0 hq1).mono ?_
    rintro e w2 ⟨rfl, hb2⟩
    rw [HS2.out]
    go_wp2
    go_ret
    exact ⟨rfl, (q1.out.kept hb2).hb⟩
  · have HS20 : szR q lu = q - lu.length := if_neg hbig2
    obtain ⟨q', hq'⟩ : ∃ q' : Int, q' = q - lu.length := ⟨_, rfl⟩
    rw [← hq'] at HS20
    have HS2 := Lib.hid HS20
    have hqn2 : ¬ q' < 0 := by omega
    have hlu20 : lu.length ≤ 1048576 := by omega
    have hRs : SmallSS (wyR nt lt nu lu) := wyR_small nt lt nu lu
    obtain ⟨ob, hob⟩ : ∃ ob : Bool, ob = twoB nt lt nu lu := ⟨_, rfl⟩
    obtain ⟨R, hR⟩ : ∃ R : List (List Int), R = wyR nt lt nu lu := ⟨_, rfl⟩
    have CS : ∀ (at' au : Option Addr) (ct cu : Nat) (W : World), IntRow W at' lt → IntRow W au lu → Calls Tryd.prog 10 #[.agg #[.int .i64 nt, .slice at' lt.length ct], .agg #[.int .i64 nu, .slice au lu.length cu]] W (RetSB W R ob) := by
      intro at' au ct cu W ht hu
      rw [hob, hR]
      exact specWay nt at' lt ct nu au lu cu W ht hu HLT.out HLU.out
    have HCS := Lib.hid CS
    have CI : ∀ (at' au : Option Addr) (ct cu : Nat) (W : World), IntRow W at' lt → IntRow W au lu → HasTab W → Calls Tryd.prog 11 #[.agg #[.int .i64 nt, .slice at' lt.length ct], .agg #[.int .i64 nu, .slice au lu.length cu]] W (RetSB W R ob) := by
      intro at' au ct cu W ht hu hb
      rw [hob, hR]
      exact implWay nt at' lt ct nu au lu cu W ht hu HLT.out HLU.out hb
    have HCI := Lib.hid CI
    rw [← hR] at hRs
    have HRS := Lib.hid hRs
    have hss := hRs.2.2
    clear hlt hlu hq HS0 hbig hbig2 hq' HS20 CS CI hob hR hRs
    go_enter Tryd.func4, Tryd.ntmps4
    go_wp2_with fail
    rw [← HWa.out]
    refine (szT nt at' ct lt 1048576 Wa HLT.out (by omega) (by omega)).mono ?_
    rintro e w1 ⟨rfl, hb1⟩
    rw [HS.out]
    have c0 := (qa.out.kept hb1).bU.c0
    have c1 := (qa.out.kept hb1).bU.c1
    have q1 := Lib.hid (qa.out.kept hb1)
    go_wp2_with fail
    refine (szT nu au cu lu q w1 HLU.out hq0 hq1).mono ?_
    rintro e w2 ⟨rfl, hb2⟩
    rw [HS2.out]
    have q2 := Lib.hid (q1.out.kept hb2)
    clear c0 c1 hb1 hb2
    have c0 := q2.out.bT.c0
    have c1 := q2.out.bT.c1
    have c2 := q2.out.bU.c0
    have c3 := q2.out.bU.c1
    go_wp2
    apply once3 (S := fun a c W => Hid (Q1 w W nt at' ct lt nu au cu lu) ∧ Hid (∃ gs, OwnSS W w.heap.size a c gs R))
    case main =>
     intro REST
     go_region_with (first
       | (go_at_call_of 7 nu; have hx := T3; refine (toT nu au cu lu w3 hlu20 q3.out.uu).mono ?_; rintro e w4 ⟨⟨gu, rfl, hou⟩, hb4⟩; have RU := Lib.hid (IntRow.of_own hou); have RT := Lib.hid (T3.out.below hb4 (Nat.le_refl _)); have q4 := Lib.hid (q3.out.kept hb4); have c0 := q4.out.bT.c0; have c1 := q4.out.bT.c1; have c2 := q4.out.bU.c0; have c3 := q4.out.bU.c1; clear hou hb4)
       | (go_at_call_of 7 nt; have hx := U3; refine (toT nt at' ct lt w3 hlt20 q3.out.tt).mono ?_; rintro e w4 ⟨⟨gt, rfl, hot⟩, hb4⟩; have RT := Lib.hid (IntRow.of_own hot); have RU := Lib.hid (U3.out.below hb4 (Nat.le_refl _)); have q4 := Lib.hid (q3.out.kept hb4); have c0 := q4.out.bT.c0; have c1 := q4.out.bT.c1; have c2 := q4.out.bU.c0; have c3 := q4.out.bU.c1; clear hot hb4)
       | (go_at_call_of 7 nt; refine (toT nt at' ct lt w2.drew hlt20 q2.out.tt).mono ?_; rintro e w3 ⟨⟨gt, rfl, hot⟩, hbq⟩; have hb3 : Below w2.heap.size w2 w3 := (Below.refl _ w2).drew.trans hbq; have T3 := Lib.hid (IntRow.of_own hot); have q3 := Lib.hid (q2.out.kept hb3); have c0 := q3.out.bT.c0; have c1 := q3.out.bT.c1; have c2 := q3.out.bU.c0; have c3 := q3.out.bU.c1; clear hot hbq hb3)
       | (go_at_call_of 7 nu; refine (toT nu au cu lu w2.drew hlu20 q2.out.uu).mono ?_; rintro e w3 ⟨⟨gu, rfl, hou⟩, hbq⟩; have hb3 : Below w2.heap.size w2 w3 := (Below.refl _ w2).drew.trans hbq; have U3 := Lib.hid (IntRow.of_own hou); have q3 := Lib.hid (q2.out.kept hb3); have c0 := q3.out.bT.c0; have c1 := q3.out.bT.c1; have c2 := q3.out.bU.c0; have c3 := q3.out.bU.c1; clear hou hbq hb3)
       | (go_at_call 10; refine (HCS.out _ _ _ _ w4 RT.out RU.out).mono ?_; rintro e w5 ⟨⟨a0, k0, gs0, rfl, ho5⟩, hb5⟩; have q5 := Lib.hid (q4.out.kept hb5); have O5 : Hid (∃ gs, OwnSS w5 w.heap.size a0 k0 gs R) := ⟨gs0, ho5.mono q4.out.hb.size⟩; clear hb5 ho5))
     all_goals exact REST gt gu a0 k0 w5 ⟨q5, O5⟩
    case rest =>
      rintro gt gu a0 k0 w5 ⟨q5, ⟨gs0, O5⟩⟩
      clear c0 c1 c2 c3
      have c0 := q5.out.bT.c0
      have c1 := q5.out.bT.c1
      go_wp2_with fail
      refine (toT nt at' ct lt w5 hlt20 q5.out.tt).mono ?_
      rintro e w6 ⟨⟨gx, rfl, hox⟩, hb6⟩
      obtain ⟨W6, hW6⟩ : ∃ W6, W6 = w6.alloc (.cells #[.int .i64 nt, .slice (some ⟨gx, 0, none⟩) lt.length lt.length] 27) := ⟨_, rfl⟩
      have HW6 := Lib.hid hW6
      have hbW6 : Below w6.heap.size w6 W6 := by rw [hW6]; exact Below.one _ _
      have xx := Lib.hid (show Box W6 w6.heap.size 27 (.int .i64 nt) (.slice (some ⟨gx, 0, none⟩) lt.length lt.length) by rw [hW6]; exact Box.new _ _ _ _)
      have q6 := Lib.hid ((q5.out.kept hb6).kept hbW6)
      have OX := Lib.hid (own_below hox hbW6)
      have O6 := Lib.hid ((O5.below hb6).below hbW6)
      have hgx5 : w5.heap.size ≤ gx := (hox.lt gx rfl).1
      have hgx6 : gx < w6.heap.size := (hox.lt gx rfl).2
      have hO5 : (∀ k, blk a0 = some k → k < w5.heap.size) ∧ ∀ i, i < R.length → (gs0.getD i (0, 0)).1 < w5.heap.size := ⟨fun k hk => (O5.blkO hk).2, fun i hi => (O5.blkI i hi).2⟩
      have HO5 := Lib.hid hO5
      have hs66 : w6.heap.size < W6.heap.size := xx.out.lt
      clear c0 c1 hW6 hbW6 hox hb6 hO5
      have c2 := q6.out.bU.c0
      have c3 := q6.out.bU.c1
      rw [HW6.out] at c2 c3
      go_wp2_with fail
      rw [← HW6.out]
      refine (toT nu au cu lu W6 hlu20 q6.out.uu).mono ?_
      rintro e w7 ⟨⟨gy, rfl, hoy⟩, hb7⟩
      obtain ⟨W7, hW7⟩ : ∃ W7, W7 = w7.alloc (.cells #[.int .i64 nu, .slice (some ⟨gy, 0, none⟩) lu.length lu.length] 27) := ⟨_, rfl⟩
      have HW7 := Lib.hid hW7
      have hbW7 : Below w7.heap.size w7 W7 := by rw [hW7]; exact Below.one _ _
      have yy : Box W7 w7.heap.size 27 (.int .i64 nu) (.slice (some ⟨gy, 0, none⟩) lu.length lu.length) := by rw [hW7]; exact Box.new _ _ _ _
      have q7a := (q6.out.kept hb7).kept hbW7
      have O7 := Lib.hid ((O6.out.below hb7).below hbW7)
      have OX7 := Lib.hid (own_below (own_below OX.out hb7) hbW7)
      have OY7 := Lib.hid (own_below hoy hbW7)
      have XX7 := Lib.hid ((xx.out.below hb7 xx.out.lt).below hbW7 (Nat.lt_of_lt_of_le xx.out.lt hb7.size))
      have hgy6 : W6.heap.size ≤ gy := (hoy.lt gy rfl).1
      have hgy7 : gy < w7.heap.size := (hoy.lt gy rfl).2
      have hs77 : w7.heap.size < W7.heap.size := yy.lt
      have hw5 : w.heap.size + 1 < w5.heap.size := q5.out.bU.lt
      have hw56 : w5.heap.size ≤ w6.heap.size := by omega
      have q7 := Lib.hid q7a
      have YY := Lib.hid yy
      clear c2 c3 hW7 hbW7 hoy hb7 yy q7a
      have d0 := XX7.out.c0
      have d1 := XX7.out.c1
      rw [HW7.out] at d0 d1
      go_wp2_with fail
      rw [← HW7.out]
      refine (HCI.out _ _ _ _ W7 (IntRow.of_own OX7.out) (IntRow.of_own OY7.out) (HTB.out.below q7.out.hb)).mono ?_
      rintro e w8 ⟨⟨ag, cg, gsg, rfl, hog⟩, hb8⟩
      have st : St2 w w8 W7.heap.size nt at' ct lt nu au cu lu w6.heap.size gx w7.heap.size gy a0 k0 gs0 R ag cg gsg R := by
        have q8 := q7.out.kept hb8
        have t8 := hb8.size
        refine ⟨q8.hb, q8.ht, q8.hu, q8.bT, q8.bU, XX7.out.below hb8 XX7.out.lt, YY.out.below hb8 YY.out.lt, ⟨_, own_below (OX7.out.mono (by omega)) hb8⟩, ⟨_, own_below (OY7.out.mono (by omega)) hb8⟩, O7.out.below hb8, hog, ⟨by omega, t8, by omega, by omega, by omega, by omega, by omega⟩, by omega, fun i hi => ?_, fun k hk => ?_, fun i hi => ?_⟩
        · have := HO5.out.2 i hi; exact ⟨by omega, by omega⟩
        · have := HO5.out.1 k hk; omega
        · have := HO5.out.2 i hi; omega
      have S8 := Lib.hid st
      have HX8 := Lib.hid ((IntRow.of_own OX7.out).below hb8 (Nat.le_refl _))
      have HY8 := Lib.hid ((IntRow.of_own OY7.out).below hb8 (Nat.le_refl _))
      clear st hog hb8 d0 d1 hgx5 hgx6 hs66 hgy6 hgy7 hs77 hw5 hw56 HO5 q5 O5 q6 O6 q7 O7 OX OX7 OY7 XX7 YY xx
      have hnb : (ob != ob) = false := by cases ob <;> rfl
      go_wp2_with fail
      refine (eqSS_1 _ _ _ _ _ _ _ _ R w8 S8.out.rg S8.out.r0 HRS.out).mono ?_
      rintro e w9 ⟨rfl, hb9⟩
      have S9 := Lib.hid (S8.out.kept hb9)
      have HX9 := Lib.hid (HX8.out.below hb9 (Nat.le_refl _))
      have HY9 := Lib.hid (HY8.out.below hb9 (Nat.le_refl _))
      clear hb9 S8 HX8 HY8
      have c0 := S9.out.bT.c0
      have c1 := S9.out.bT.c1
      have d0 := S9.out.bx.c0
      have d1 := S9.out.bx.c1
      go_wp2
      apply once1 (S := fun W => Hid (St2 w W W7.heap.size nt at' ct lt nu au cu lu w6.heap.size gx w7.heap.size gy a0 k0 gs0 R ag cg gsg R) ∧ Hid (IntRow W (some ⟨gx, 0, none⟩) lt) ∧ Hid (IntRow W (some ⟨gy, 0, none⟩) lu))
      case main =>
       intro REST
       go_region_with (first
        | (go_at_call 7; refine (toT nt at' ct lt w9.drew hlt20 S9.out.tt).mono ?_; rintro e w10 ⟨⟨g10, rfl, ho10⟩, hbq⟩; have hb10 : Below w9.heap.size w9 w10 := (Below.refl _ w9).drew.trans hbq; have S10 := Lib.hid (S9.out.kept hb10); have HX10 := Lib.hid (HX9.out.below hb10 (Nat.le_refl _)); have HY10 := Lib.hid (HY9.out.below hb10 (Nat.le_refl _)); have hy10 := Lib.hid (IntRow.of_own ho10); have d0 := S10.out.bx.c0; have d1 := S10.out.bx.c1; clear ho10 hbq hb10)
        | (go_at_call 9; refine (eqT_same nt _ _ _ _ lt w10 HLT.out HX10.out hy10.out).mono ?_; rintro e w11 ⟨rfl, hb11⟩; have S11 := Lib.hid (S10.out.kept hb11); have HX11 := Lib.hid (HX10.out.below hb11 (Nat.le_refl _)); have HY11 := Lib.hid (HY10.out.below hb11 (Nat.le_refl _)); clear hb11))
       all_goals exact REST g10 w11 ⟨S11, HX11, HY11⟩
      case rest =>
       clear c0 c1 d0 d1 S9 HX9 HY9
       rintro g10 w11 ⟨S11, HX11, HY11⟩
       have c0 := S11.out.bU.c0
       have c1 := S11.out.bU.c1
       have d0 := S11.out.by'.c0
       have d1 := S11.out.by'.c1
       go_wp2
       apply once1 (S := fun W => Hid (St2 w W W7.heap.size nt at' ct lt nu au cu lu w6.heap.size gx w7.heap.size gy a0 k0 gs0 R ag cg gsg R))
       case main =>
        intro REST
        go_region_with (first
         | (go_at_call 7; refine (toT nu au cu lu w11.drew hlu20 S11.out.uu).mono ?_; rintro e w12 ⟨⟨g12, rfl, ho12⟩, hbq⟩; have hb12 : Below w11.heap.size w11 w12 := (Below.refl _ w11).drew.trans hbq; have S12 := Lib.hid (S11.out.kept hb12); have HY12 := Lib.hid (HY11.out.below hb12 (Nat.le_refl _)); have hy12 := Lib.hid (IntRow.of_own ho12); have d0 := S12.out.by'.c0; have d1 := S12.out.by'.c1; clear ho12 hbq hb12)
         | (go_at_call 9; refine (eqT_same nu _ _ _ _ lu w12 HLU.out HY12.out hy12.out).mono ?_; rintro e w13 ⟨rfl, hb13⟩; have S13 := Lib.hid (S12.out.kept hb13); clear hb13))
        all_goals exact REST g12 w13 S13
       case rest =>
        clear c0 c1 d0 d1 S11 HX11 HY11
        intro g12 w13 S13
        have d0 := S13.out.bx.c0
        have d1 := S13.out.bx.c1
        go_wp2_with fail
        refine (markT_i nt 1 w.heap.size lt.length 1 (some ⟨gx, 0, none⟩) lt.length _ w13 rfl (by omega) (by omega) S13.out.hb.size S13.out.rx.choose_spec).mono ?_
        rintro e w14 ⟨rfl, hx14, hb14, hg14⟩
        have S14 := Lib.hid (S13.out.markX hx14 hb14 hg14)
        clear hx14 hb14 hg14 d0 d1 S13
        have d0 := S14.out.by'.c0
        have d1 := S14.out.by'.c1
        go_wp2_with fail
        refine (markT_i nu (1 + (lt.length : Int)) w.heap.size lu.length (1 + lt.length) (some ⟨gy, 0, none⟩) lu.length _ w14 (by omega) (by omega) (by omega) S14.out.hb.size S14.out.ry.choose_spec).mono ?_
        rintro e w15 ⟨rfl, hy15, hb15, hg15⟩
        have S15 := Lib.hid (S14.out.markY hy15 hb15 hg15)
        clear hy15 hb15 hg15 d0 d1 S14
        have hneg0 : ¬ (1 + (lt.length : Int) + (lu.length : Int)) < 0 := by omega
        go_wp2_with fail
        refine (eqSS_1 _ _ _ _ _ _ _ _ R w15 S15.out.rg S15.out.r0 HRS.out).mono ?_
        rintro e w16 ⟨rfl, hb16⟩
        have S16 := Lib.hid (S15.out.kept hb16)
        clear hb16 S15
        go_wp2_with fail
        refine (markSS_1 ag cg W7.heap.size gsg R w16 S16.out.rg HRS.out).mono ?_
        rintro e w17 ⟨rfl, ho17, hb17⟩
        have S17 := Lib.hid (S16.out.markG ho17 hb17)
        clear ho17 hb17 S16
        have hneg : ¬ ((1 + sumLs R : Nat) : Int) < 0 := by omega
        obtain ⟨Q, hQ⟩ : ∃ Q : Nat, Q = 1 + sumLs R := ⟨_, rfl⟩
        have HQ := Lib.hid hQ
        rw [← hQ] at hneg ⊢
        clear hQ
        go_wp2_with fail
        refine (heldSS_1 ag cg W7.heap.size gsg R w17 S17.out.rg HRS.out).mono ?_
        rintro e w18 ⟨rfl, hb18⟩
        rw [← HQ.out]
        have S18 := Lib.hid (S17.out.kept hb18)
        clear hb18 S17
        have q2 : Hid (Q1 w w18 nt at' ct lt nu au cu lu) := ⟨S18.out.hb, S18.out.ht, S18.out.hu, S18.out.bT, S18.out.bU⟩
        have c0 := q2.out.bT.c0
        have c1 := q2.out.bT.c1
        have c2 := q2.out.bU.c0
        have c3 := q2.out.bU.c1
        have HB18 : Hid (Below w18.heap.size w18 w18) := Below.refl _ _
        go_wp2
        apply once3 (S := fun a c W => Hid (Below w18.heap.size w18 W) ∧ Hid (∃ gs, OwnSS W w.heap.size a c gs R))
        case main =>
         intro REST
         go_region_with (first
           | (go_at_call_of 7 nu; have hx := T3; refine (toT nu au cu lu w3 hlu20 q3.out.uu).mono ?_; rintro e w4 ⟨⟨gu, rfl, hou⟩, hb4⟩; have RU := Lib.hid (IntRow.of_own hou); have RT := Lib.hid (T3.out.below hb4 (Nat.le_refl _)); have q4 := Lib.hid (q3.out.kept hb4); have B4 := Lib.hid (B3.out.trans (hb4.mono B3.out.size)); have c0 := q4.out.bT.c0; have c1 := q4.out.bT.c1; have c2 := q4.out.bU.c0; have c3 := q4.out.bU.c1; clear hou hb4)
           | (go_at_call_of 7 nt; have hx := U3; refine (toT nt at' ct lt w3 hlt20 q3.out.tt).mono ?_; rintro e w4 ⟨⟨gt, rfl, hot⟩, hb4⟩; have RT := Lib.hid (IntRow.of_own hot); have RU := Lib.hid (U3.out.below hb4 (Nat.le_refl _)); have q4 := Lib.hid (q3.out.kept hb4); have B4 := Lib.hid (B3.out.trans (hb4.mono B3.out.size)); have c0 := q4.out.bT.c0; have c1 := q4.out.bT.c1; have c2 := q4.out.bU.c0; have c3 := q4.out.bU.c1; clear hot hb4)
           | (go_at_call_of 7 nt; refine (toT nt at' ct lt w18.drew hlt20 q2.out.tt).mono ?_; rintro e w3 ⟨⟨gt, rfl, hot⟩, hbq⟩; have hb3 : Below w18.heap.size w18 w3 := (Below.refl _ w18).drew.trans hbq; have T3 := Lib.hid (IntRow.of_own hot); have q3 := Lib.hid (q2.out.kept hb3); have B3 := Lib.hid hb3; have c0 := q3.out.bT.c0; have c1 := q3.out.bT.c1; have c2 := q3.out.bU.c0; have c3 := q3.out.bU.c1; clear hot hbq hb3)
           | (go_at_call_of 7 nu; refine (toT nu au cu lu w18.drew hlu20 q2.out.uu).mono ?_; rintro e w3 ⟨⟨gu, rfl, hou⟩, hbq⟩; have hb3 : Below w18.heap.size w18 w3 := (Below.refl _ w18).drew.trans hbq; have U3 := Lib.hid (IntRow.of_own hou); have q3 := Lib.hid (q2.out.kept hb3); have B3 := Lib.hid hb3; have c0 := q3.out.bT.c0; have c1 := q3.out.bT.c1; have c2 := q3.out.bU.c0; have c3 := q3.out.bU.c1; clear hou hbq hb3)
           | (go_at_call 11; refine (HCI.out _ _ _ _ w4 RT.out RU.out (HTB.out.below q4.out.hb)).mono ?_; rintro e w5 ⟨⟨ah, kh, gsh, rfl, ho5⟩, hb5⟩; have O5 : Hid (∃ gs, OwnSS w5 w.heap.size ah kh gs R) := ⟨gsh, ho5.mono q4.out.hb.size⟩; have B5 := Lib.hid (B4.out.trans (hb5.mono B4.out.size)); clear hb5 ho5))
         all_goals exact REST gt gu ah kh w5 ⟨B5, O5⟩
        case rest =>
         clear c0 c1 c2 c3
         rintro gt2 gu2 ah kh w19 ⟨B19, ⟨gsh, H19⟩⟩
         have S19 := Lib.hid (S18.out.kept B19.out)
         have H19' := Lib.hid H19
         clear S18 H19 B19 q2 HB18
         go_wp2_with fail
         refine (eqSS_1 _ _ _ _ _ _ _ _ R w19 H19'.out S19.out.r0 HRS.out).mono ?_
         rintro e w20 ⟨rfl, hb20⟩
         have S20 := Lib.hid (S19.out.kept hb20)
         clear hb20 H19' S19
         go_wp2_with fail
         refine (heldSS_1 ag cg W7.heap.size gsg R w20 S20.out.rg HRS.out).mono ?_
         rintro e w21 ⟨rfl, hb21⟩
         rw [← HQ.out]
         have S21 := Lib.hid (S20.out.kept hb21)
         clear hb21 S20
         go_wp2
         go_ret
         exact ⟨rfl, S21.out.hb⟩

end Go.Proofs.YtgdejippddcekaaDoor

namespace Go.Proofs.YtgdejippddcekaaDoor.fnExactTriangleWay
open Go.ChangeShapes Go.WideShapes Go.ChangeAt Go.RowKit
open Go.ChangeMaps (open_string shut_string)
set_option linter.unusedVariables false

set_option maxRecDepth 100000 in
/-- What the walk gives, for every argument and every world in which the listed variables hold what the list says. -/
theorem contract (H : Type) (enc : TypeId × Value → H) (W : World) (base : Nat) (args : Array Value) (ds gs : List (DataW H)) (before : List MemPlace)
    (hval0 : ∀ (j : Nat) t v, Tryd.f4.params[j]? = some t → args[j]? = some v → Value.okWide Tryd.prog W .any base t v)
    (hW : DataW.Whole enc Tryd.prog Tryd.f4.params.toList Rows.fnExactTriangleWaySpec.vars false W args.toList ds gs before) (hL : laidMetH Tryd.prog Rows.fnExactTriangleWayRow.laid W) (hShape : W.ShapedOpen Tryd.prog) :
    Calls Tryd.prog 4 args W fun e W' => ∃ v, e = .returned v ∧ Rows.fnExactTriangleWaySpec.post enc Tryd.prog Tryd.f4 false true false false W args v W' := by
  have hval : ∀ (j : Nat) t v, Tryd.f4.params[j]? = some t → args[j]? = some v → Value.okWide Tryd.prog W .any base t v := hval0
  have hW' := hW
  obtain ⟨p, q, hA0, hV, rfl, hfz, hnd⟩ := hW
  have hA : DataW.TrodAll enc Tryd.prog W 0 (fun _ => true) true Tryd.f4.params.toList args.toList ds p := hA0
  rw [Tryd.params4] at hA hval

  obtain ⟨v0, vs0, d0, ds0, p0, q0, hargs, rfl, rfl, h0, r0⟩ := trodAll_cons hA
  obtain ⟨v1, vs1, d1, ds1, p1, q1, rfl, rfl, rfl, h1, r1⟩ := trodAll_cons r0
  obtain ⟨rfl, rfl, rfl⟩ := trodAll_nil r1
  obtain rfl : args = #[v0, v1] := by cases args; simp_all
  obtain ⟨rfl, rfl⟩ := trodVars_none hV
  have k0 := h0
  have lt0 : ∀ x ∈ p0, x.block < W.heap.size := by obtain ⟨m, hm⟩ := k0; exact DataW.trod_lt m _ _ _ hm
  obtain ⟨n0, a0, cap0, l0, rfl, hl0, hr0⟩ := openTour (hval 0 24 v0 rfl rfl) h0
  have k1 := h1
  have lt1 : ∀ x ∈ p1, x.block < W.heap.size := by obtain ⟨m, hm⟩ := k1; exact DataW.trod_lt m _ _ _ hm
  obtain ⟨n1, a1, cap1, l1, rfl, hl1, hr1⟩ := openTour (hval 1 24 v1 rfl rfl) h1
  clear hA0 hval0
  refine (walkTriangleWay n0 a0 cap0 l0 n1 a1 cap1 l1 W hl0 hr0 hl1 hr1 (tabFmt hL)).mono fun e W' ⟨he, bel⟩ => ?_
  subst he
  exact ⟨_, rfl, _, _, _, [], _, [], hW', trodAll_mk1 (shut_bool Tryd.underlying4 _), (trodAll_cons_mk (Below.trod laidOut (by kernel_rfl) (of_decide_eq_true (by kernel_rfl)) k0 bel lt0) (trodAll_cons_mk (Below.trod laidOut (by kernel_rfl) (of_decide_eq_true (by kernel_rfl)) k1 bel lt1) trodAll_mk0)), rfl, bel.frame _, fun h => by cases h⟩

theorem laid_met (os : Os) : laidMetH Tryd.prog Rows.fnExactTriangleWayRow.laid ((World.doorLaid Tryd.prog 400 os).forCall (fun _ _ => 0) ⟨#[], #[.agg #[.int .i64 0, .slice none 0 0], .agg #[.int .i64 0, .slice none 0 0]], []⟩).memory :=
  laidMetH_of_parts3 (fuel := 8) (laidMet_of_run' 8 (by kernel_rfl) (by kernel_rfl)) (by kernel_rfl) (by kernel_rfl)
theorem reads (os : Os) {H : Type} (enc : TypeId × Value → H) : ∃ places, DataW.whole enc Tryd.prog ((World.doorLaid Tryd.prog 400 os).forCall (fun _ _ => 0) ⟨#[], #[.agg #[.int .i64 0, .slice none 0 0], .agg #[.int .i64 0, .slice none 0 0]], []⟩).memory Tryd.f4.params.toList Rows.fnExactTriangleWaySpec.vars false #[Value.agg #[.int .i64 0, .slice none 0 0], .agg #[.int .i64 0, .slice none 0 0]].toList 8 = some ([.agg [.lit (.int .i64 0), .nil], .agg [.lit (.int .i64 0), .nil]], [], places) :=
  ⟨[], by kernel_rfl⟩

set_option maxRecDepth 100000 in
theorem lifted (os : Os) (started : os.Started) (H : Type) (enc : TypeId × Value → H) (F : Stop.Interp) :
    ReturnsInHanded {} Tryd.checked os 4 .any ((OpenSpec.ofChange Rows.fnExactTriangleWaySpec).preRow enc Tryd.prog Tryd.f4 Rows.fnExactTriangleWayRow.domain false Rows.fnExactTriangleWayRow.laid) (((OpenSpec.ofChange Rows.fnExactTriangleWaySpec).at F).post enc Tryd.prog Tryd.f4 false true false false) := by
  obtain ⟨places, hx⟩ := reads os enc
  refine returnsInHanded_of_row (C := Tryd.checked) (s := OpenSpec.ofChange Rows.fnExactTriangleWaySpec) own started (by kernel_rfl) Tryd.func4
    (witness_row_atRef (enc := enc) (C := Tryd.checked) false (World.doorLaid Tryd.prog 400 os) #[.agg #[.int .i64 0, .slice none 0 0], .agg #[.int .i64 0, .slice none 0 0]] rfl (by kernel_rfl) (by kernel_rfl) (by kernel_rfl)
      (OpenSpec.preRow_of_cond 8 hx (by kernel_rfl) (fun k hk => by cases hk) (by kernel_rfl) (laid_met os))) ?_
  intro W base args ds gs before hval hW _ _ _ hL hShape _
  exact contract H enc W base args ds gs before hval hW hL hShape

theorem said : Rows.FnExactTriangleWaySaid :=
  OpenClaim.holds_of_cond 4 Tryd.f4 rfl rfl rfl rfl rfl rfl rfl ⟨rfl, rfl, rfl, rfl, rfl⟩ rfl rfl rfl rfl rfl (by kernel_rfl) Tryd.func4 (by kernel_rfl)
    (of_decide_eq_true (by kernel_rfl)) (by unfold Func.isWrapper; first | (rw [if_pos (by decide +kernel)]; kernel_rfl) | (rw [if_neg (by decide +kernel)]; exact ⟨rfl, rfl⟩))
    (fun os started H enc _ F => by rw [OpenClaim.pre_eq_preRow]; exact lifted os started H enc F)

theorem plain (f : FuncId) (fn : Func) (hf : Tryd.pinned.checked.prog.funcNamed "loop.example/g03205/laws.FnExactTriangleWay" = some f) (hfn : Tryd.pinned.checked.prog.funcs[f]? = some fn) :
    Rows.fnExactTriangleWayCard.stood.looks = Tryd.pinned.checked.prog.looks [] ∧ ∀ (j : Nat) t, fn.params[j]? = some t → Tryd.pinned.checked.prog.wantsStandIn t = false := by
  obtain rfl : f = 4 := Option.some.inj ((show Tryd.prog.funcNamed "loop.example/g03205/laws.FnExactTriangleWay" = some 4 by kernel_rfl).symm.trans hf) |>.symm
  obtain rfl : fn = Tryd.f4 := (Option.some.inj (Tryd.func4.symm.trans hfn)).symm
  refine ⟨by kernel_rfl, fun j t ht => ?_⟩
  rw [Tryd.params4] at ht
  obtain rfl : t = 24 := by simpa using Array.mem_of_getElem? ht
  exact (show Tryd.prog.wantsStandIn 24 = false by kernel_rfl)

/-- The card. -/
theorem proved : Rows.FnExactTriangleWayCardSaid :=
  Claim7.holds_tied_plain_at .later [] _ _ _ _ said (fun _ h => by cases h) (by kernel_rfl) (fun _ h => by cases h) fnExactTriangleWay_row_tie rfl ⟨rfl, rfl⟩ (by kernel_rfl) rfl plain (by kernel_rfl)
end Go.Proofs.YtgdejippddcekaaDoor.fnExactTriangleWay
