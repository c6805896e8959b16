/-
  'FnExactAreLike': the program's AreLike answers as the model's for every two tours, and leaves both as they were. No conditions.
-/
import Derived.Test.YteiadhfjpohmdaaXv
import Derived.Test.YteiadhfjpohmdaaC
namespace Go.Proofs.Yteiadhfjpohmdaa
open Go.ChangeShapes Go.WideShapes Go.ChangeAt Go.RowKit
set_option linter.unusedVariables false

/-- What follows a region that draws its order is walked once, whatever the order. -/
theorem once1 {P : Nat → World → Prop} {S : World → Prop} {Goal : Prop} (main : (∀ g W, S W → P g W) → Goal) (rest : ∀ g W, S W → P g W) : Goal := main rest
theorem once2 {P : Nat → Nat → World → Prop} {S : World → Prop} {Goal : Prop} (main : (∀ g h W, S W → P g h W) → Goal) (rest : ∀ g h W, S W → P g h W) : Goal := main rest

/-- What a law over two tours holds of the memory between its steps. -/
structure Q2 (w W : World) (nt : Int) (at' : Option Addr) (ct : Nat) (lt : List Int) (nu : Int) (au : Option Addr) (cu : Nat) (lu : List Int) (px gx py gy : Nat) : Prop where
  hb : Below w.heap.size w W
  ht : IntRow w at' lt
  hu : IntRow w au lu
  bT : Box W w.heap.size 35 (.int .i64 nt) (.slice at' lt.length ct)
  bU : Box W (w.heap.size + 1) 35 (.int .i64 nu) (.slice au lu.length cu)
  bx : Box W px 27 (.int .i64 nt) (.slice (some ⟨gx, 0, none⟩) lt.length lt.length)
  by' : Box W py 27 (.int .i64 nu) (.slice (some ⟨gy, 0, none⟩) lu.length lu.length)
  rx : IntRow W (some ⟨gx, 0, none⟩) lt
  ry : IntRow W (some ⟨gy, 0, none⟩) lu
section
variable {w W W' : World} {nt : Int} {at' : Option Addr} {ct : Nat} {lt : List Int} {nu : Int} {au : Option Addr} {cu : Nat} {lu : List Int} {px gx py gy : Nat}
theorem Q2.kept (h : Q2 w W nt at' ct lt nu au cu lu px gx py gy) (hb : Below W.heap.size W W') : Q2 w W' nt at' ct lt nu au cu lu px gx py gy :=
  ⟨h.hb.trans (hb.mono h.hb.size), h.ht, h.hu, h.bT.below hb h.bT.lt, h.bU.below hb h.bU.lt, h.bx.below hb h.bx.lt, h.by'.below hb h.by'.lt, h.rx.below hb (Nat.le_refl _), h.ry.below hb (Nat.le_refl _)⟩
theorem Q2.tt (h : Q2 w W nt at' ct lt nu au cu lu px gx py gy) : IntRow W at' lt := h.ht.below h.hb (Nat.le_refl _)
theorem Q2.uu (h : Q2 w W nt at' ct lt nu au cu lu px gx py gy) : IntRow W au lu := h.hu.below h.hb (Nat.le_refl _)
end
/-- .. before the copies are made. -/
structure Q1 (w W : World) (nt : Int) (at' : Option Addr) (ct : Nat) (lt : List Int) (nu : Int) (au : Option Addr) (cu : Nat) (lu : List Int) : Prop where
  hb : Below w.heap.size w W
  ht : IntRow w at' lt
  hu : IntRow w au lu
  bT : Box W w.heap.size 35 (.int .i64 nt) (.slice at' lt.length ct)
  bU : Box W (w.heap.size + 1) 35 (.int .i64 nu) (.slice au lu.length cu)
section
variable {w W W' : World} {nt : Int} {at' : Option Addr} {ct : Nat} {lt : List Int} {nu : Int} {au : Option Addr} {cu : Nat} {lu : List Int}
theorem Q1.kept (h : Q1 w W nt at' ct lt nu au cu lu) (hb : Below W.heap.size W W') : Q1 w W' nt at' ct lt nu au cu lu :=
  ⟨h.hb.trans (hb.mono h.hb.size), h.ht, h.hu, h.bT.below hb h.bT.lt, h.bU.below hb h.bU.lt⟩
theorem Q1.tt (h : Q1 w W nt at' ct lt nu au cu lu) : IntRow W at' lt := h.ht.below h.hb (Nat.le_refl _)
theorem Q1.uu (h : Q1 w W nt at' ct lt nu au cu lu) : IntRow W au lu := h.hu.below h.hb (Nat.le_refl _)
end

set_option maxHeartbeats 4000000 in
theorem walkAreLike (nt : Int) (at' : Option Addr) (ct : Nat) (lt : List Int) (nu : Int) (au : Option Addr) (cu : Nat) (lu : List Int) (w : World) (hlt : lt.length ≤ maxLen) (hrt : IntRow w at' lt) (hlu : lu.length ≤ maxLen) (hru : IntRow w au lu) :
    Calls Try.prog 9 #[.agg #[.int .i64 nt, .slice at' lt.length ct], .agg #[.int .i64 nu, .slice au lu.length cu]] w fun e w' => e = .returned (.bool true) ∧ Below w.heap.size w w' := by
  have HLT := Lib.hid hlt
  have HLU := Lib.hid hlu
  obtain ⟨Wb, hWb⟩ : ∃ Wb, Wb = w.alloc (.cells #[.int .i64 nt, .slice at' lt.length ct] 35) := ⟨_, rfl⟩
  obtain ⟨Wa, hWa⟩ : ∃ Wa, Wa = Wb.alloc (.cells #[.int .i64 nu, .slice au lu.length cu] 35) := ⟨_, rfl⟩
  have sb : Wb.heap.size = w.heap.size + 1 := by rw [hWb]; simp
  have hbb : Below w.heap.size w Wb := by rw [hWb]; exact Below.one _ _
  have hba : Below w.heap.size w Wa := by rw [hWa]; exact hbb.alloc hbb.size _
  have xt : Box Wa w.heap.size 35 (.int .i64 nt) (.slice at' lt.length ct) := by
    rw [hWa]; exact (show Box Wb w.heap.size 35 (.int .i64 nt) (.slice at' lt.length ct) by rw [hWb]; exact Box.new _ _ _ _).more _
  have xu : Box Wa (w.heap.size + 1) 35 (.int .i64 nu) (.slice au lu.length cu) := by rw [hWa, ← sb]; exact Box.new _ _ _ _
  have HWa : Hid (Wa = (w.alloc (.cells #[.int .i64 nt, .slice at' lt.length ct] 35)).alloc (.cells #[.int .i64 nu, .slice au lu.length cu] 35)) := by rw [hWa, hWb]; exact rfl
  have qa : Hid (Q1 w Wa nt at' ct lt nu au cu lu) := ⟨hba, hrt, hru, xt, xu⟩
  clear hWa hWb sb hbb hba xt xu hrt hru
  by_cases hbig : (1048576 : Int) < lt.length
  · have HS : Hid (szR 1048576 lt = -1) := if_pos hbig
    clear hlt hlu
    go_enter Try.func9, Try.ntmps9
    go_wp2_with fail
    rw [← HWa.out]
    refine (szT nt at' ct lt 1048576 Wa HLT.out (by omega) (by omega)).mono ?_
    rintro e w1 ⟨rfl, hb1⟩
    rw [HS.out]
    go_wp2
    go_ret
    exact ⟨rfl, (qa.out.kept hb1).hb⟩
  have HS0 : szR 1048576 lt = 1048576 - lt.length := if_neg hbig
  obtain ⟨q, hq⟩ : ∃ q : Int, q = 1048576 - lt.length := ⟨_, rfl⟩
  rw [← hq] at HS0
  have HS := Lib.hid HS0
  have hq0 : 0 ≤ q := by omega
  have hqn : ¬ q < 0 := by omega
  have hq1 : q ≤ 1048576 := by omega
  have hlt20 : lt.length ≤ 1048576 := by omega
  by_cases hbig2 : q < lu.length
  · have HS2 : Hid (szR q lu = -1) := if_pos hbig2
    clear hlt hlu hq HS0 hbig hbig2
    go_enter Try.func9, Try.ntmps9
    go_wp2_with fail
    rw [← HWa.out]
    refine (szT nt at' ct lt 1048576 Wa HLT.out (by omega) (by omega)).mono ?_
    rintro e w1 ⟨rfl, hb1⟩
    rw [HS.out]
    have c0 := (qa.out.kept hb1).bU.c0
    have c1 := (qa.out.kept hb1).bU.c1
    have q1 := Lib.hid (qa.out.kept hb1)
    go_wp2_with fail
    refine (szT nu au cu lu q w1 HLU.out hq0 hq1).mono ?_
    rintro e w2 ⟨rfl, hb2⟩
    rw [HS2.out]
    go_wp2
    go_ret
    exact ⟨rfl, (q1.out.kept hb2).hb⟩
  · have HS20 : szR q lu = q - lu.length := if_neg hbig2
    obtain ⟨q', hq'⟩ : ∃ q' : Int, q' = q - lu.length := ⟨_, rfl⟩
    rw [← hq'] at HS20
    have HS2 := Lib.hid HS20
    have hqn2 : ¬ q' < 0 := by omega
    have hlu20 : lu.length ≤ 1048576 := by omega
    obtain ⟨ob, hob⟩ : ∃ ob : Bool, ob = alR nt lt nu lu := ⟨_, rfl⟩
    have CS : ∀ (at' au : Option Addr) (ct cu : Nat) (W : World), IntRow W at' lt → IntRow W au lu → Calls Try.prog 34 #[.agg #[.int .i64 nt, .slice at' lt.length ct], .agg #[.int .i64 nu, .slice au lu.length cu]] W fun e w' => e = .returned (.bool ob) ∧ Below W.heap.size W w' := by
      intro at' au ct cu W ht hu
      rw [hob]
      exact specAreLike nt at' lt ct nu au lu cu W ht hu HLT.out HLU.out
    have HCS := Lib.hid CS
    have CI : ∀ (at' au : Option Addr) (ct cu : Nat) (W : World), IntRow W at' lt → IntRow W au lu → Calls Try.prog 35 #[.agg #[.int .i64 nt, .slice at' lt.length ct], .agg #[.int .i64 nu, .slice au lu.length cu]] W fun e w' => e = .returned (.bool ob) ∧ Below W.heap.size W w' := by
      intro at' au ct cu W ht hu
      rw [hob]
      exact implAreLike nt at' lt ct nu au lu cu W ht hu HLT.out HLU.out
    have HCI := Lib.hid CI
    clear hlt hlu hq HS0 hbig hbig2 hq' HS20 CS CI hob
    go_enter Try.func9, Try.ntmps9
    go_wp2_with fail
    rw [← HWa.out]
    refine (szT nt at' ct lt 1048576 Wa HLT.out (by omega) (by omega)).mono ?_
    rintro e w1 ⟨rfl, hb1⟩
    rw [HS.out]
    have c0 := (qa.out.kept hb1).bU.c0
    have c1 := (qa.out.kept hb1).bU.c1
    have q1 := Lib.hid (qa.out.kept hb1)
    go_wp2_with fail
    refine (szT nu au cu lu q w1 HLU.out hq0 hq1).mono ?_
    rintro e w2 ⟨rfl, hb2⟩
    rw [HS2.out]
    have q2 := Lib.hid (q1.out.kept hb2)
    clear c0 c1 hb1 hb2
    have c0 := q2.out.bT.c0
    have c1 := q2.out.bT.c1
    have c2 := q2.out.bU.c0
    have c3 := q2.out.bU.c1
    go_wp2
    apply once2 (S := fun W => Hid (Q1 w W nt at' ct lt nu au cu lu))
    case main =>
     intro REST
     go_region_with (first
       | (go_at_call_of 28 nu; have hx := T3; refine (toT nu au cu lu w3 hlu20 q3.out.uu).mono ?_; rintro e w4 ⟨⟨gu, rfl, hou⟩, hb4⟩; have RU := Lib.hid (IntRow.of_own hou); have RT := Lib.hid (T3.out.below hb4 (Nat.le_refl _)); have q4 := Lib.hid (q3.out.kept hb4); have c0 := q4.out.bT.c0; have c1 := q4.out.bT.c1; have c2 := q4.out.bU.c0; have c3 := q4.out.bU.c1; clear hou hb4)
       | (go_at_call_of 28 nt; have hx := U3; refine (toT nt at' ct lt w3 hlt20 q3.out.tt).mono ?_; rintro e w4 ⟨⟨gt, rfl, hot⟩, hb4⟩; have RT := Lib.hid (IntRow.of_own hot); have RU := Lib.hid (U3.out.below hb4 (Nat.le_refl _)); have q4 := Lib.hid (q3.out.kept hb4); have c0 := q4.out.bT.c0; have c1 := q4.out.bT.c1; have c2 := q4.out.bU.c0; have c3 := q4.out.bU.c1; clear hot hb4)
       | (go_at_call_of 28 nt; refine (toT nt at' ct lt w2.drew hlt20 q2.out.tt).mono ?_; rintro e w3 ⟨⟨gt, rfl, hot⟩, hbq⟩; have hb3 : Below w2.heap.size w2 w3 := (Below.refl _ w2).drew.trans hbq; have T3 := Lib.hid (IntRow.of_own hot); have q3 := Lib.hid (q2.out.kept hb3); have c0 := q3.out.bT.c0; have c1 := q3.out.bT.c1; have c2 := q3.out.bU.c0; have c3 := q3.out.bU.c1; clear hot hbq hb3)
       | (go_at_call_of 28 nu; refine (toT nu au cu lu w2.drew hlu20 q2.out.uu).mono ?_; rintro e w3 ⟨⟨gu, rfl, hou⟩, hbq⟩; have hb3 : Below w2.heap.size w2 w3 := (Below.refl _ w2).drew.trans hbq; have U3 := Lib.hid (IntRow.of_own hou); have q3 := Lib.hid (q2.out.kept hb3); have c0 := q3.out.bT.c0; have c1 := q3.out.bT.c1; have c2 := q3.out.bU.c0; have c3 := q3.out.bU.c1; clear hou hbq hb3)
       | (go_at_call 34; refine (HCS.out _ _ _ _ w4 RT.out RU.out).mono ?_; rintro e w5 ⟨rfl, hb5⟩; have q5 := Lib.hid (q4.out.kept hb5); clear hb5))
     all_goals exact REST gt gu w5 q5
    case rest =>
      intro gt gu w5 q5
      clear c0 c1 c2 c3
      have c0 := q5.out.bT.c0
      have c1 := q5.out.bT.c1
      go_wp2_with fail
      refine (toT nt at' ct lt w5 hlt20 q5.out.tt).mono ?_
      rintro e w6 ⟨⟨gx, rfl, hox⟩, hb6⟩
      obtain ⟨W6, hW6⟩ : ∃ W6, W6 = w6.alloc (.cells #[.int .i64 nt, .slice (some ⟨gx, 0, none⟩) lt.length lt.length] 27) := ⟨_, rfl⟩
      have HW6 := Lib.hid hW6
      have hbW6 : Below w6.heap.size w6 W6 := by rw [hW6]; exact Below.one _ _
      have xx := Lib.hid (show Box W6 w6.heap.size 27 (.int .i64 nt) (.slice (some ⟨gx, 0, none⟩) lt.length lt.length) by rw [hW6]; exact Box.new _ _ _ _)
      have q6 := Lib.hid ((q5.out.kept hb6).kept hbW6)
      have RX := Lib.hid ((IntRow.of_own hox).below hbW6 (Nat.le_refl _))
      clear c0 c1 hW6 hbW6 hox hb6
      have c2 := q6.out.bU.c0
      have c3 := q6.out.bU.c1
      rw [HW6.out] at c2 c3
      go_wp2_with fail
      rw [← HW6.out]
      refine (toT nu au cu lu W6 hlu20 q6.out.uu).mono ?_
      rintro e w7 ⟨⟨gy, rfl, hoy⟩, hb7⟩
      obtain ⟨W7, hW7⟩ : ∃ W7, W7 = w7.alloc (.cells #[.int .i64 nu, .slice (some ⟨gy, 0, none⟩) lu.length lu.length] 27) := ⟨_, rfl⟩
      have HW7 := Lib.hid hW7
      have hbW7 : Below w7.heap.size w7 W7 := by rw [hW7]; exact Below.one _ _
      have yy : Box W7 w7.heap.size 27 (.int .i64 nu) (.slice (some ⟨gy, 0, none⟩) lu.length lu.length) := by rw [hW7]; exact Box.new _ _ _ _
      have q7a := (q6.out.kept hb7).kept hbW7
      have q7 : Hid (Q2 w W7 nt at' ct lt nu au cu lu w6.heap.size gx w7.heap.size gy) :=
        ⟨q7a.hb, q7a.ht, q7a.hu, q7a.bT, q7a.bU, (xx.out.below hb7 xx.out.lt).below hbW7 (Nat.lt_of_lt_of_le xx.out.lt hb7.size), yy, (RX.out.below hb7 (Nat.le_refl _)).below hbW7 (Nat.le_refl _), (IntRow.of_own hoy).below hbW7 (Nat.le_refl _)⟩
      clear c2 c3 hW7 hbW7 hoy hb7 yy q7a
      have d0 := q7.out.bx.c0
      have d1 := q7.out.bx.c1
      rw [HW7.out] at d0 d1
      go_wp2_with fail
      rw [← HW7.out]
      refine (HCI.out _ _ _ _ W7 q7.out.rx q7.out.ry).mono ?_
      rintro e w8 ⟨rfl, hb8⟩
      have q8 := Lib.hid (q7.out.kept hb8)
      clear hb8 d0 d1
      have c0 := q8.out.bT.c0
      have c1 := q8.out.bT.c1
      have d0 := q8.out.bx.c0
      have d1 := q8.out.bx.c1
      go_wp2
      apply once1 (S := fun W => Hid (Q2 w W nt at' ct lt nu au cu lu w6.heap.size gx w7.heap.size gy))
      case main =>
       intro REST
       go_region_with (first
        | (go_at_call 28; refine (toT nt at' ct lt w8.drew hlt20 q8.out.tt).mono ?_; rintro e w9 ⟨⟨g9, rfl, ho9⟩, hbq⟩; have hb9 : Below w8.heap.size w8 w9 := (Below.refl _ w8).drew.trans hbq; have q9 := Lib.hid (q8.out.kept hb9); have hy9 := Lib.hid (IntRow.of_own ho9); have d0 := q9.out.bx.c0; have d1 := q9.out.bx.c1; clear ho9 hbq hb9)
        | (go_at_call 20; refine (eqT_same nt _ _ _ _ lt w9 HLT.out q9.out.rx hy9.out).mono ?_; rintro e w10 ⟨rfl, hb10⟩; have q10 := Lib.hid (q9.out.kept hb10); clear hb10))
       all_goals exact REST g9 w10 q10
      case rest =>
        intro g9 w10 q10
        clear c0 c1 d0 d1
        have c0 := q10.out.bU.c0
        have c1 := q10.out.bU.c1
        have d0 := q10.out.by'.c0
        have d1 := q10.out.by'.c1
        go_wp2
        go_region_with (first
          | (go_at_call 28; refine (toT nu au cu lu w10.drew hlu20 q10.out.uu).mono ?_; rintro e w11 ⟨⟨g11, rfl, ho11⟩, hbq⟩; have hb11 : Below w10.heap.size w10 w11 := (Below.refl _ w10).drew.trans hbq; have q11 := Lib.hid (q10.out.kept hb11); have hy11 := Lib.hid (IntRow.of_own ho11); have d0 := q11.out.by'.c0; have d1 := q11.out.by'.c1; clear ho11 hbq hb11)
          | (go_at_call 20; refine (eqT_same nu _ _ _ _ lu w11 HLU.out q11.out.ry hy11.out).mono ?_; rintro e w12 ⟨rfl, hb12⟩; have q12 := Lib.hid (q11.out.kept hb12); clear hb12))
        all_goals
          go_wp2
          go_ret
          exact ⟨rfl, q12.out.hb⟩

end Go.Proofs.Yteiadhfjpohmdaa

namespace Go.Proofs.Yteiadhfjpohmdaa.fnExactAreLike
open Go.ChangeShapes Go.WideShapes Go.ChangeAt Go.RowKit
open Go.ChangeMaps (open_string shut_string)
set_option linter.unusedVariables false
set_option maxRecDepth 100000 in
theorem lifted (os : Os) (started : os.Started) (H : Type) (enc : TypeId × Value → H) :
    ReturnsInHanded {} Try.checked os 9 .any (Rows.fnExactAreLikeSpec.pre6 enc Try.prog Try.f9 Rows.fnExactAreLikeRow.domain false) (Rows.fnExactAreLikeSpec.post enc Try.prog Try.f9 false true false false) := by
  refine returnsInHanded_of_change (C := Try.checked) own started (by kernel_rfl) Try.func9
    (ChangeSpec.witness6 (enc := enc) (C := Try.checked) false ⟨#[], #[.agg #[.int .i64 0, .slice none 0 0], .agg #[.int .i64 0, .slice none 0 0]], []⟩ 8 (by kernel_rfl) (by kernel_rfl) (by kernel_rfl) (by kernel_rfl)) ?_
  intro W base args ds gs before hval0 hW hcnd _
  have hval : ∀ (j : Nat) t v, Try.f9.params[j]? = some t → args[j]? = some v → Value.okWide Try.prog W .any base t v := hval0
  have hW' := hW
  obtain ⟨p, q, hA0, hV, rfl, hfz, hnd⟩ := hW
  have hA : DataW.TrodAll enc Try.prog W 0 (fun _ => true) true Try.f9.params.toList args.toList ds p := hA0
  rw [Try.params9] at hA hval
  obtain ⟨v0, vs0, d0, ds0, p0, q0, hargs, rfl, rfl, h0, r0⟩ := trodAll_cons hA
  obtain ⟨v1, vs1, d1, ds1, p1, q1, rfl, rfl, rfl, h1, r1⟩ := trodAll_cons r0
  obtain ⟨rfl, rfl, rfl⟩ := trodAll_nil r1
  obtain rfl : args = #[v0, v1] := by cases args; simp_all
  obtain ⟨rfl, rfl⟩ := trodVars_none hV
  have k0 := h0
  have lt0 : ∀ x ∈ p0, x.block < W.heap.size := by obtain ⟨m, hm⟩ := k0; exact DataW.trod_lt m _ _ _ hm
  obtain ⟨n0, a0, cap0, l0, rfl, hl0, hr0⟩ := openTour (hval 0 35 v0 rfl rfl) h0
  have k1 := h1
  have lt1 : ∀ x ∈ p1, x.block < W.heap.size := by obtain ⟨m, hm⟩ := k1; exact DataW.trod_lt m _ _ _ hm
  obtain ⟨n1, a1, cap1, l1, rfl, hl1, hr1⟩ := openTour (hval 1 35 v1 rfl rfl) h1
  clear hA0 hval0
  refine (walkAreLike n0 a0 cap0 l0 n1 a1 cap1 l1 W hl0 hr0 hl1 hr1).mono fun e W' ⟨he, bel⟩ => ?_
  subst he
  exact ⟨_, rfl, _, _, _, [], _, [], hW', trodAll_mk1 (shut_bool Try.underlying4 _), (trodAll_cons_mk (Below.trod laidOut (by kernel_rfl) (of_decide_eq_true (by kernel_rfl)) k0 bel lt0) (trodAll_cons_mk (Below.trod laidOut (by kernel_rfl) (of_decide_eq_true (by kernel_rfl)) k1 bel lt1) trodAll_mk0)), rfl, bel.frame _, fun h => by cases h⟩

theorem proved : Rows.FnExactAreLikeSaid :=
  OpenClaim.holds_of_wide 9 Try.f9 rfl rfl rfl rfl rfl rfl rfl ⟨rfl, rfl, rfl, rfl, rfl⟩ rfl rfl rfl rfl rfl (by kernel_rfl) Try.func9 (by kernel_rfl)
    (of_decide_eq_true (by kernel_rfl)) (by unfold Func.isWrapper; first | (rw [if_pos (by decide +kernel)]; kernel_rfl) | (rw [if_neg (by decide +kernel)]; exact ⟨rfl, rfl⟩))
    (fun os started H enc _ => lifted os started H enc)
end Go.Proofs.Yteiadhfjpohmdaa.fnExactAreLike

