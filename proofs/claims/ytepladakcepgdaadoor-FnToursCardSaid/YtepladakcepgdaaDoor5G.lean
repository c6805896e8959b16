/-
  'FnTours': reversed, renamed and flipped tours come back, and parts keep their results: true for every list of bytes from which the law draws its inputs. The row lists three tables and two error values of the standard library; the card ties them to the program's text. No other conditions.
-/
import Derived.Test.YtepladakcepgdaaDoor5F
namespace Go.Proofs.YtepladakcepgdaaDoor
open Go.ChangeShapes Go.WideShapes Go.ChangeAt Go.RowKit
set_option linter.unusedVariables false

/-- A variable that holds a tour. -/
structure Tv (W : World) (p m : Nat) (l : List Int) (a : Option Addr) (c : Nat) : Prop where
  bx : Box W p 25 (.int .i64 m) (.slice a m c)
  rd : IntRow W a l
section
variable {w W W' : World} {p m c : Nat} {l : List Int} {a : Option Addr}
theorem Tv.kept (h : Tv W p m l a c) (hb : Below W.heap.size W W') : Tv W' p m l a c := ⟨h.bx.below hb h.bx.lt, h.rd.below hb (Nat.le_refl _)⟩
theorem Tv.new (hr : IntRow w a l) (hW : W = w.alloc (.cells #[.int .i64 m, .slice a m c] 25)) : Tv W w.heap.size m l a c := by
  subst hW; exact ⟨Box.new _ _ _ _, hr.below (Below.one _ _) (Nat.le_refl _)⟩
theorem below_new {o : Obj} (hW : W = w.alloc o) : Below w.heap.size w W := by subst hW; exact Below.one _ _
end
theorem below_more {w W W' : World} (h : Below w.heap.size w W) (h' : Below W.heap.size W W') : Below w.heap.size w W' := h.trans (h'.mono h.size)
/-- What the library's variables hold, and that all that was there is as it was. -/
structure Env (w W : World) (a : Option Addr) (len : Nat) : Prop where
  hb : Below w.heap.size w W
  tb : HasTab W
  er : HasErrs W
  mx : HasMax W
  ro : Row w.heap.size W a len
theorem Env.kept {w W W' : World} {a : Option Addr} {len : Nat} (h : Env w W a len) (hb : Below W.heap.size W W') : Env w W' a len :=
  ⟨below_more h.hb hb, h.tb.below hb, h.er.below hb, h.mx.below hb, h.ro.below (hb.mono h.hb.size)⟩

/-- What the law's loops hold. -/
structure Lx (w W : World) (cd : Option Addr) (len m : Nat) (l ns : List Int) (pt pu pr : Nat) (at' au ar an as' aq : Option Addr) (ct cu cr : Nat) : Prop where
  e : Env w W cd len
  t : Tv W pt m l at' ct
  u : Tv W pu m (turnL l) au cu
  r : Tv W pr m (renL l ns) ar cr
  n : IntRow W an ns
  s : IntRow W as' (scL l)
  q : IntRow W aq (scL (renL l ns))
theorem Lx.kept {w W W' : World} {cd : Option Addr} {len m : Nat} {l ns : List Int} {pt pu pr : Nat} {at' au ar an as' aq : Option Addr} {ct cu cr : Nat} (h : Lx w W cd len m l ns pt pu pr at' au ar an as' aq ct cu cr) (hb : Below W.heap.size W W') : Lx w W' cd len m l ns pt pu pr at' au ar an as' aq ct cu cr :=
  ⟨h.e.kept hb, h.t.kept hb, h.u.kept hb, h.r.kept hb, h.n.below hb (Nat.le_refl _), h.s.below hb (Nat.le_refl _), h.q.below hb (Nat.le_refl _)⟩
/-- The number of games. -/
theorem games_K {m : Nat} {l : List Int} (h : Vt m l) : 2 * sumTo (scoresL l) m = m * (m - 1) := by
  have e : sumTo (scoresL l) m = sumN (sc l) m := by
    unfold sumTo
    refine sumN_congr fun i hi => ?_
    have h1 := scL_at h hi
    unfold scL at h1
    rw [getD_map_ofNat] at h1
    omega
  have := sumScores h.1
  rw [h.2] at this
  rw [e]; exact this
theorem scores_small {m : Nat} {l : List Int} (h : Vt m l) (i : Nat) : (scoresL l).getD i 0 ≤ 100 := by
  rcases Nat.lt_or_ge i m with hi | hi
  · have h1 := scL_at h hi
    unfold scL at h1
    rw [getD_map_ofNat] at h1
    have := h.sc_le hi
    have := h.le
    omega
  · rw [List.getD_eq_getElem?_getD, List.getElem?_eq_none (by rw [scoresL_len, h.2]; exact hi)]; decide
theorem games_int {m K : Nat} (h : 2 * K = m * (m - 1)) (h1 : 1 ≤ m) : (m : Int) * ((m : Int) - 1) = ((2 * K : Nat) : Int) := by
  rw [h, Int.natCast_mul, Int.natCast_sub h1]; rfl

theorem mod_nat (x Z : Nat) (hZ : 1 ≤ Z) : ∃ r : Nat, (x : Int) % (Z : Int) = (r : Int) ∧ r < Z := ⟨x % Z, (Int.natCast_emod x Z).symm, Nat.mod_lt _ hZ⟩
theorem num_ok (n : Nat) {w W : World} {a : Option Addr} {len cap : Nat} (hn : n ≤ 1000) (hl : len ≤ 1048576) (h : Env w W a len) : Calls Tryd.prog 18 #[.slice a len cap, .int .i64 n] W (NumPost W.heap.size W) :=
  makeNum_any W.heap.size W a len cap n hn hl (Nat.le_refl _) (h.ro.mono h.hb.size)
theorem Env.drew {w W : World} {a : Option Addr} {len : Nat} (h : Env w W a len) : Env w W.drew a len := h.kept (Below.refl _ _).drew
theorem onceX {P : Nat → Nat → Nat → World → Prop} {S : Nat → World → Prop} {Goal : Prop} (main : (∀ x r s W, S s W → P x r s W) → Goal) (rest : ∀ x r s W, S s W → P x r s W) : Goal := main rest
/-- What the law's end holds. -/
structure Ex (w W : World) (cd : Option Addr) (len m : Nat) (l : List Int) (pt : Nat) (at' : Option Addr) (ct : Nat) : Prop where
  e : Env w W cd len
  t : Tv W pt m l at' ct
theorem Ex.kept {w W W' : World} {cd : Option Addr} {len m : Nat} {l : List Int} {pt : Nat} {at' : Option Addr} {ct : Nat} (h : Ex w W cd len m l pt at' ct) (hb : Below W.heap.size W W') : Ex w W' cd len m l pt at' ct := ⟨h.e.kept hb, h.t.kept hb⟩

set_option maxRecDepth 100000 in
set_option maxHeartbeats 8000000 in
theorem walkFnTours (a : Option Addr) (len cap : Nat) (w : World) (hl : len ≤ maxLen) (hrow : Row w.heap.size w a len) (ht : HasTab w) (he : HasErrs w) (hm : HasMax w) :
    Calls Tryd.prog 3 #[.slice a len cap] w fun e w' => e = .returned (.bool true) ∧ Below w.heap.size w w' := by
  by_cases hbig : (1048576 : Int) < (len : Int)
  · unfold maxLen at hl
    clear hrow ht he hm
    go_enter Tryd.func3, Tryd.ntmps3
    go_wp2
    go_ret
    exact ⟨rfl, Below.refl _ _⟩
  · have hl20 : len ≤ 1048576 := by omega
    have E0 : Hid (Env w w a len) := ⟨Below.refl _ _, ht, he, hm, hrow⟩
    unfold maxLen at hl
    clear hrow ht he hm
    go_enter Tryd.func3, Tryd.ntmps3
    go_wp2_with fail
    refine (makeTour_any w.heap.size 0 7 w a len cap (by omega) (by omega) (by omega) hl20 (Nat.le_refl _) E0.out.ro).mono ?_
    rintro e w1 ⟨l, gt, ct, hok, h7, rfl, ho, hb1⟩
    obtain ⟨m, hm⟩ : ∃ m, m = l.length := ⟨_, rfl⟩
    have V : Hid (Vt m l) := ⟨hok, hm.symm⟩
    have hrd := own_int ho
    rw [← hm] at h7 ⊢
    have hm1 : 1 ≤ m := V.out.le.1
    obtain ⟨W1, hW1⟩ : ∃ W1, W1 = w1.alloc (.cells #[.int .i64 m, .slice (some ⟨gt, 0, none⟩) m ct] 25) := ⟨_, rfl⟩
    have T1 := Lib.hid (Tv.new hrd hW1)
    have E1 := Lib.hid ((E0.out.kept hb1).kept (below_new hW1))
    have HW1 := Lib.hid hW1
    clear hok hm ho hrd hb1 hW1
    go_wp2_with fail
    rw [← HW1.out]
    refine (makeOrder_any w.heap.size 20 m W1 a len cap (by omega) hm1 (by omega) hl20 E1.out.hb.size E1.out.ro).mono ?_
    rintro e w2 ⟨ns, gn, cn, hnm, rfl, ho, hb2⟩
    have N0 := Lib.hid hnm
    have N2 := Lib.hid (IntRow.of_ownN ho hnm.1)
    have T2 := Lib.hid (T1.out.kept hb2)
    have E2 := Lib.hid (E1.out.kept hb2)
    clear hnm ho hb2
    have c0 := T2.out.bx.c0
    have c1 := T2.out.bx.c1
    go_wp2_with fail
    refine (turn_ok m _ l ct w2 V.out T2.out.rd).mono ?_
    rintro e w3 ⟨⟨au, cu, rfl, hr⟩, hb3⟩
    clear c0 c1
    obtain ⟨W3, hW3⟩ : ∃ W3, W3 = w3.alloc (.cells #[.int .i64 m, .slice au m cu] 25) := ⟨_, rfl⟩
    have U3 := Lib.hid (Tv.new hr hW3)
    have T3 := Lib.hid ((T2.out.kept hb3).kept (below_new hW3))
    have N3 := Lib.hid ((N2.out.below hb3 (Nat.le_refl _)).below (below_new hW3) (Nat.le_refl _))
    have E3 := Lib.hid ((E2.out.kept hb3).kept (below_new hW3))
    have HW3 := Lib.hid hW3
    clear hr hb3 hW3
    go_wp2_with fail
    rw [← HW3.out]
    refine (turn_ok m _ (turnL l) cu W3 V.out.turn U3.out.rd).mono ?_
    rintro e w4 ⟨⟨av, cv, rfl, hr⟩, hb4⟩
    rw [V.out.turn2] at hr
    obtain ⟨W4, hW4⟩ : ∃ W4, W4 = w4.alloc (.cells #[.int .i64 m, .slice av m cv] 25) := ⟨_, rfl⟩
    have Z4 := Lib.hid (Tv.new hr hW4)
    have T4 := Lib.hid ((T3.out.kept hb4).kept (below_new hW4))
    have U4 := Lib.hid ((U3.out.kept hb4).kept (below_new hW4))
    have N4 := Lib.hid ((N3.out.below hb4 (Nat.le_refl _)).below (below_new hW4) (Nat.le_refl _))
    have E4 := Lib.hid ((E3.out.kept hb4).kept (below_new hW4))
    have HW4 := Lib.hid hW4
    clear hr hb4 hW4
    have c0 := T4.out.bx.c0
    have c1 := T4.out.bx.c1
    rw [HW4.out] at c0 c1
    go_wp2_with fail
    rw [← HW4.out]
    clear c0 c1
    refine (ren_ok m _ l ct _ ns cn W4 V.out N0.out T4.out.rd N4.out).mono ?_
    rintro e w5 ⟨⟨ar, cr, rfl, hr⟩, hb5⟩
    obtain ⟨W5, hW5⟩ : ∃ W5, W5 = w5.alloc (.cells #[.int .i64 m, .slice ar m cr] 25) := ⟨_, rfl⟩
    have R5 := Lib.hid (Tv.new hr hW5)
    have T5 := Lib.hid ((T4.out.kept hb5).kept (below_new hW5))
    have U5 := Lib.hid ((U4.out.kept hb5).kept (below_new hW5))
    have Z5 := Lib.hid ((Z4.out.kept hb5).kept (below_new hW5))
    have N5 := Lib.hid ((N4.out.below hb5 (Nat.le_refl _)).below (below_new hW5) (Nat.le_refl _))
    have E5 := Lib.hid ((E4.out.kept hb5).kept (below_new hW5))
    have HW5 := Lib.hid hW5
    clear hr hb5 hW5
    have c0 := T5.out.bx.c0
    have c1 := T5.out.bx.c1
    rw [HW5.out] at c0 c1
    go_wp2_with fail
    rw [← HW5.out]
    clear c0 c1
    refine (scores_ok m _ l ct W5 V.out T5.out.rd).mono ?_
    rintro e w6 ⟨⟨as', cs, rfl, hr⟩, hb6⟩
    have S6 := Lib.hid hr
    have R6 := Lib.hid (R5.out.kept hb6)
    have T6 := Lib.hid (T5.out.kept hb6)
    have U6 := Lib.hid (U5.out.kept hb6)
    have Z6 := Lib.hid (Z5.out.kept hb6)
    have N6 := Lib.hid (N5.out.below hb6 (Nat.le_refl _))
    have E6 := Lib.hid (E5.out.kept hb6)
    clear hr hb6
    have c0 := R6.out.bx.c0
    have c1 := R6.out.bx.c1
    go_wp2_with fail
    clear c0 c1
    refine (scores_ok m _ (renL l ns) cr w6 (V.out.ren N0.out) R6.out.rd).mono ?_
    rintro e w7 ⟨⟨aq, cq, rfl, hr⟩, hb7⟩
    have Q7 := Lib.hid hr
    have S7 := Lib.hid (S6.out.below hb7 (Nat.le_refl _))
    have R7 := Lib.hid (R6.out.kept hb7)
    have T7 := Lib.hid (T6.out.kept hb7)
    have U7 := Lib.hid (U6.out.kept hb7)
    have Z7 := Lib.hid (Z6.out.kept hb7)
    have N7 := Lib.hid (N6.out.below hb7 (Nat.le_refl _))
    have E7 := Lib.hid (E6.out.kept hb7)
    clear hr hb7
    clear S6 R6 T6 U6 Z6 N6 E6 R5 T5 U5 Z5 N5 E5 T4 U4 Z4 N4 E4 T3 U3 N3 E3 T2 N2 E2 T1 E1 E0 HW1 HW3 HW4 HW5
    obtain ⟨K, hK⟩ : ∃ K, K = sumTo (scoresL l) m := ⟨_, rfl⟩
    have hK2 : 2 * K = m * (m - 1) := by rw [hK]; exact games_K V.out
    have hK28 : K ≤ 28 := by have : m * (m - 1) ≤ 8 * 7 := Nat.mul_le_mul (by omega) (by omega); omega
    obtain ⟨P, hP⟩ : ∃ P, P = 2 * K := ⟨_, rfl⟩
    have hPm : (m : Int) * ((m : Int) - 1) = (P : Int) := by rw [hP]; exact games_int hK2 hm1
    have hPK : (P : Int) / 2 = (K : Int) := by omega
    have hP56 : P ≤ 56 := by omega
    have HK := Lib.hid hK
    have HK2 := Lib.hid hK2
    clear hK hK2 hP
    have c0 := T7.out.bx.c0
    have c1 := T7.out.bx.c1
    have d0 := Z7.out.bx.c0
    have d1 := Z7.out.bx.c1
    go_wp2_with fail
    refine (same_ok m av _ l cv ct w7 V.out Z7.out.rd T7.out.rd).mono ?_
    rintro e w8 ⟨rfl, hb8⟩
    have Q8 := Lib.hid (Q7.out.below hb8 (Nat.le_refl _))
    have S8 := Lib.hid (S7.out.below hb8 (Nat.le_refl _))
    have R8 := Lib.hid (R7.out.kept hb8)
    have T8 := Lib.hid (T7.out.kept hb8)
    have U8 := Lib.hid (U7.out.kept hb8)
    have N8 := Lib.hid (N7.out.below hb8 (Nat.le_refl _))
    have E8 := Lib.hid (E7.out.kept hb8)
    clear hb8 c0 c1 d0 d1
    go_wp2_with fail
    refine (lawSum_any as' m cs (scoresL l) w8 (by omega) (scL_len V.out) (scores_small V.out) S8.out).mono ?_
    rintro e w9 ⟨rfl, rfl⟩
    rw [← HK.out]
    have c0 := T8.out.bx.c0
    have c1 := T8.out.bx.c1
    have d0 := U8.out.bx.c0
    have d1 := U8.out.bx.c1
    go_wp2_with fail
    refine (count_turn m _ au l ct cu w8 V.out T8.out.rd U8.out.rd HK2.out).mono ?_
    rintro e w9 ⟨rfl, hb9⟩
    have Q9 := Lib.hid (Q8.out.below hb9 (Nat.le_refl _))
    have S9 := Lib.hid (S8.out.below hb9 (Nat.le_refl _))
    have R9 := Lib.hid (R8.out.kept hb9)
    have T9 := Lib.hid (T8.out.kept hb9)
    have U9 := Lib.hid (U8.out.kept hb9)
    have N9 := Lib.hid (N8.out.below hb9 (Nat.le_refl _))
    have E9 := Lib.hid (E8.out.kept hb9)
    clear hb9 c0 c1 d0 d1
    have c0 := T9.out.bx.c0
    have c1 := T9.out.bx.c1
    go_wp2_with fail
    refine (same_ok m _ _ l ct ct w9 V.out T9.out.rd T9.out.rd).mono ?_
    rintro e w10 ⟨rfl, hb10⟩
    have Q10 := Lib.hid (Q9.out.below hb10 (Nat.le_refl _))
    have S10 := Lib.hid (S9.out.below hb10 (Nat.le_refl _))
    have R10 := Lib.hid (R9.out.kept hb10)
    have T10 := Lib.hid (T9.out.kept hb10)
    have U10 := Lib.hid (U9.out.kept hb10)
    have N10 := Lib.hid (N9.out.below hb10 (Nat.le_refl _))
    have E10 := Lib.hid (E9.out.kept hb10)
    clear hb10 c0 c1
    clear S9 R9 T9 U9 Z7 N9 E9 Q9 S8 R8 T8 U8 N8 E8 Q8 S7 R7 T7 U7 N7 E7 Q7
    have L0 : Hid (Lx w w10 a len m l ns w1.heap.size w3.heap.size w5.heap.size (some ⟨gt, 0, none⟩) au ar (some ⟨gn, 0, none⟩) as' aq ct cu cr) := ⟨E10.out, T10.out, U10.out, R10.out, N10.out, S10.out, Q10.out⟩
    clear S10 R10 T10 U10 N10 E10 Q10
    obtain ⟨pt, hpt⟩ : ∃ pt, pt = w1.heap.size := ⟨_, rfl⟩
    obtain ⟨pu, hpu⟩ : ∃ pu, pu = w3.heap.size := ⟨_, rfl⟩
    obtain ⟨pr, hpr⟩ : ∃ pr, pr = w5.heap.size := ⟨_, rfl⟩
    rw [← hpt, ← hpu, ← hpr] at L0
    have HPT := Lib.hid hpt
    have HPU := Lib.hid hpu
    have HPR := Lib.hid hpr
    clear hpt hpu hpr
    go_wp2
    rw [← HPT.out, ← HPU.out, ← HPR.out]
    go_loopw [14] (fun i wr => ∃ k : Nat, k ≤ m ∧ i = .int .i64 k ∧ Hid (Lx w wr a len m l ns pt pu pr (some ⟨gt, 0, none⟩) au ar (some ⟨gn, 0, none⟩) as' aq ct cu cr)) (fun i _ => m - (intOf i).toNat)
    case atStart => exact ⟨0, Nat.zero_le _, rfl, L0⟩
    case round =>
      clear L0
      obtain ⟨k, hk, rfl, Lr⟩ := hrel
      by_cases hlt : k < m
      · have hib : (k : Int) < (m : Int) := by omega
        have hkm : (0 : Int) ≤ (k : Int) ∧ (k : Int) < (m : Int) := by omega
        obtain ⟨bn, on, hen, _, hcn⟩ := Lr.out.n.at (k := k) (by rw [N0.out.1]; exact hlt)
        obtain ⟨bs, os', hes, _, hcs⟩ := Lr.out.s.at (k := k) (by rw [scL_len V.out]; exact hlt)
        obtain ⟨hnv, hnl⟩ := nm_val N0.out.perm hlt
        obtain ⟨bq, oq, heq, _, hcq⟩ := Lr.out.q.at (k := nm ns k) (by rw [scL_len (V.out.ren N0.out)]; exact hnl)
        rw [hnv] at hcn
        rw [scL_at V.out hlt] at hcs
        rw [scL_at (V.out.ren N0.out) hnl, V.out.sren N0.out hlt] at hcq
        simp only [Option.some.injEq, Addr.mk.injEq, and_true] at hen
        obtain ⟨rfl, rfl⟩ := hen
        rw [Nat.zero_add] at hcn
        subst hes heq
        have hxm := V.out.sc_le hlt
        have hyx := V.out.sturn hlt
        obtain ⟨v, hv⟩ : ∃ v, v = nm ns k := ⟨_, rfl⟩
        obtain ⟨x, hx⟩ : ∃ x, x = sc l k := ⟨_, rfl⟩
        obtain ⟨y, hy⟩ : ∃ y, y = sc (turnL l) k := ⟨_, rfl⟩
        obtain ⟨m1, hm1'⟩ : ∃ m1, m1 = m - 1 := ⟨_, rfl⟩
        rw [← hv] at hcn hcq hnl
        rw [← hx] at hcs hcq hxm hyx
        rw [← hy] at hyx
        have a1 : IntKind.i64.wrap ((m : Int) - 1) = (m1 : Int) := by rw [IntWalk.i64_in _ (by omega)]; omega
        have a2 : IntKind.i64.wrap ((m1 : Int) - (x : Int)) = (y : Int) := by rw [IntWalk.i64_in _ (by omega)]; omega
        have hvm : (0 : Int) ≤ (v : Int) ∧ (v : Int) < (m : Int) := by omega
        have cU : ∀ d os, Calls Tryd.prog 14 #[.agg #[.int .i64 m, .slice au m cu], .int .i64 k] (Go.Sort.grow (redrawn wr d) os) fun e w'' => e = .returned (.int .i64 y) ∧ ∃ p : Regrown, w'' = Go.Sort.grow (redrawn wr p.d) p.os :=
          fun d os => Calls.regrown_of ((score_ok m au (turnL l) cu k _ V.out.turn hlt (Lr.out.u.rd.below (below_regrown wr d os) (Nat.le_refl _))).mono fun e w' ⟨he, hw⟩ => ⟨by rw [he, hy], hw⟩)
        have cT : ∀ d os, Calls Tryd.prog 14 #[.agg #[.int .i64 m, .slice (some ⟨gt, 0, none⟩) m ct], .int .i64 k] (Go.Sort.grow (redrawn wr d) os) fun e w'' => e = .returned (.int .i64 x) ∧ ∃ p : Regrown, w'' = Go.Sort.grow (redrawn wr p.d) p.os :=
          fun d os => Calls.regrown_of ((score_ok m _ l ct k _ V.out hlt (Lr.out.t.rd.below (below_regrown wr d os) (Nat.le_refl _))).mono fun e w' ⟨he, hw⟩ => ⟨by rw [he, hx], hw⟩)
        have q0 := fun d os => cell_regrown Lr.out.t.bx.c0 d os
        have q1 := fun d os => cell_regrown Lr.out.t.bx.c1 d os
        have q2 := fun d os => cell_regrown Lr.out.u.bx.c0 d os
        have q3 := fun d os => cell_regrown Lr.out.u.bx.c1 d os
        have q4 := fun d os => cell_regrown hcn d os
        have q5 := fun d os => cell_regrown hcs d os
        have q6 := fun d os => cell_regrown hcq d os
        have HV := Lib.hid hv
        have HM1 := Lib.hid hm1'
        clear hcn hcs hcq hv hx hy hm1' hnv
        go_wp2
        refine wp_region_quiet_below (by kernel_rfl) (by kernel_rfl) ?_
        repeat (go_big_quiet_step (first | (with_reducible exact cU _ _) | (with_reducible exact cT _ _)))
        refine wpQuiet_nil ?_
        intro wq hw'
        have hbq : Below wr.heap.size wr wq := by obtain ⟨⟨dq, osq⟩, hw''⟩ := hw'; rw [hw'']; exact below_regrown wr dq osq
        have Lq := Lib.hid (Lr.out.kept hbq)
        clear hw' cU cT q0 q1 q2 q3 q4 q5 q6 hbq Lr a1 a2
        go_wp2
        obtain ⟨wo, rfl⟩ : ∃ wo : World, wo = wr := ⟨_, rfl⟩
        clear hxm hyx
        go_loopw [15] (fun i wr => ∃ j : Nat, j ≤ m ∧ i = .int .i64 j ∧ Hid (Lx w wr a len m l ns pt pu pr (some ⟨gt, 0, none⟩) au ar (some ⟨gn, 0, none⟩) (some ⟨bs, os', none⟩) (some ⟨bq, oq, none⟩) ct cu cr)) (fun i _ => m - (intOf i).toNat)
        case atStart => exact ⟨0, Nat.zero_le _, rfl, Lq⟩
        case round =>
          clear Lq
          obtain ⟨j, hj, rfl, Lr2⟩ := hrel
          by_cases hlt2 : j < m
          · have hjb : (j : Int) < (m : Int) := by omega
            have hjm : (0 : Int) ≤ (j : Int) ∧ (j : Int) < (m : Int) := by omega
            obtain ⟨hnv1, hvl⟩ := nm_val N0.out.perm hlt
            obtain ⟨hnv2, hvl2⟩ := nm_val N0.out.perm hlt2
            obtain ⟨bn1, on1, hen1, _, hcn1⟩ := Lr2.out.n.at (k := k) (by rw [N0.out.1]; exact hlt)
            obtain ⟨bn2, on2, hen2, _, hcn2⟩ := Lr2.out.n.at (k := j) (by rw [N0.out.1]; exact hlt2)
            simp only [Option.some.injEq, Addr.mk.injEq, and_true] at hen1 hen2
            obtain ⟨rfl, rfl⟩ := hen1
            obtain ⟨rfl, rfl⟩ := hen2
            rw [Nat.zero_add, hnv1, ← HV.out] at hcn1
            rw [← HV.out] at hvl hnv1
            have hBR0 := V.out.bren N0.out hlt hlt2
            have hCU0 := V.out.bturn hlt hlt2
            rw [← HV.out] at hBR0
            rw [Nat.zero_add, hnv2] at hcn2
            have q0 := fun d os => cell_regrown Lr2.out.t.bx.c0 d os
            have q1 := fun d os => cell_regrown Lr2.out.t.bx.c1 d os
            have q2 := fun d os => cell_regrown Lr2.out.u.bx.c0 d os
            have q3 := fun d os => cell_regrown Lr2.out.u.bx.c1 d os
            have q4 := fun d os => cell_regrown Lr2.out.r.bx.c0 d os
            have q5 := fun d os => cell_regrown Lr2.out.r.bx.c1 d os
            have q6 := fun d os => cell_regrown hcn1 d os
            by_cases hkj : j = k
            · obtain rfl : k = j := hkj.symm
              have hself := V.out.self hlt
              have hBR : Hid (bt (renL l ns) v v = false) := by show _ = _; have := hBR0; rw [← HV.out] at this; rw [this, hself]
              have hBT : Hid (bt l k k = false) := hself
              have hCU : Hid (bt (turnL l) k k = false) := hCU0.trans hself
              have hcj : (((k : Nat) : Int) != (k : Int)) = false := by simp
              clear hnv1 hnv2 hBR0 hCU0 hself hcn1 hcn2
              have cR : ∀ d os, Calls Tryd.prog 15 #[.agg #[.int .i64 m, (.slice ar m cr)], .int .i64 v, .int .i64 v] (Go.Sort.grow (redrawn wr d) os) fun e w'' => e = .returned (.bool false) ∧ ∃ p : Regrown, w'' = Go.Sort.grow (redrawn wr p.d) p.os :=
                fun d os => Calls.regrown_of ((beat_ok m _ (renL l ns) _ v v _ (V.out.ren N0.out) hvl hvl (Lr2.out.r.rd.below (below_regrown wr d os) (Nat.le_refl _))).mono fun e w' ⟨he, hw⟩ => ⟨by rw [he, hBR.out], hw⟩)
              have cA : ∀ d os, Calls Tryd.prog 15 #[.agg #[.int .i64 m, (.slice (some ⟨gt, 0, none⟩) m ct)], .int .i64 k, .int .i64 k] (Go.Sort.grow (redrawn wr d) os) fun e w'' => e = .returned (.bool false) ∧ ∃ p : Regrown, w'' = Go.Sort.grow (redrawn wr p.d) p.os :=
                fun d os => Calls.regrown_of ((beat_ok m _ l _ k k _ V.out hlt hlt (Lr2.out.t.rd.below (below_regrown wr d os) (Nat.le_refl _))).mono fun e w' ⟨he, hw⟩ => ⟨by rw [he, hBT.out], hw⟩)
              have cU : ∀ d os, Calls Tryd.prog 15 #[.agg #[.int .i64 m, (.slice au m cu)], .int .i64 k, .int .i64 k] (Go.Sort.grow (redrawn wr d) os) fun e w'' => e = .returned (.bool false) ∧ ∃ p : Regrown, w'' = Go.Sort.grow (redrawn wr p.d) p.os :=
                fun d os => Calls.regrown_of ((beat_ok m _ (turnL l) _ k k _ V.out.turn hlt hlt (Lr2.out.u.rd.below (below_regrown wr d os) (Nat.le_refl _))).mono fun e w' ⟨he, hw⟩ => ⟨by rw [he, hCU.out], hw⟩)
              go_wp2
              refine wp_region_quiet_below (by kernel_rfl) (by kernel_rfl) ?_
              repeat (go_big_quiet_step (first | (with_reducible exact cR _ _) | (with_reducible exact cA _ _) | (with_reducible exact cU _ _)))
              refine wpQuiet_nil ?_
              intro wq2 hw'
              have hbq : Below wr.heap.size wr wq2 := by obtain ⟨⟨dq, osq⟩, hw''⟩ := hw'; rw [hw'']; exact below_regrown wr dq osq
              have Lq2 := Lib.hid (Lr2.out.kept hbq)
              clear hw' cR cA cU q0 q1 q2 q3 q4 q5 q6 hbq
              go_wp2
              go_roundw
              case rel => exact ⟨k + 1, by omega, by go_num, Lq2⟩
              case measure => simp [intOf]; omega
            · obtain ⟨v2, hv2⟩ : ∃ v2, v2 = nm ns j := ⟨_, rfl⟩
              rw [← hv2] at hcn2 hBR0 hvl2
              have q7 := fun d os => cell_regrown hcn2 d os
              have ho := V.out.other hlt hlt2 (fun e => hkj e.symm)
              have hcj : (((k : Nat) : Int) != (j : Int)) = true := by rw [bne_iff_ne]; omega
              have hcj2 : (((k : Nat) : Int) == (j : Int)) = false := by rw [beq_eq_false_iff_ne]; omega
              cases hBB : bt l k j
              · have hBR : Hid (bt (renL l ns) v v2 = false) := hBR0.trans hBB
                have hBT : Hid (bt l k j = false) := hBB
                have hCT : Hid (bt l j k = true) := by show _ = _; rw [hBB] at ho; cases h : bt l j k <;> simp [h] at ho ⊢
                have hCU : Hid (bt (turnL l) k j = true) := hCU0.trans hCT.out
                clear hnv1 hnv2 hBR0 hCU0 hcn1 hcn2 hv2 ho hBB
                have cR : ∀ d os, Calls Tryd.prog 15 #[.agg #[.int .i64 m, (.slice ar m cr)], .int .i64 v, .int .i64 v2] (Go.Sort.grow (redrawn wr d) os) fun e w'' => e = .returned (.bool false) ∧ ∃ p : Regrown, w'' = Go.Sort.grow (redrawn wr p.d) p.os :=
                  fun d os => Calls.regrown_of ((beat_ok m _ (renL l ns) _ v v2 _ (V.out.ren N0.out) hvl hvl2 (Lr2.out.r.rd.below (below_regrown wr d os) (Nat.le_refl _))).mono fun e w' ⟨he, hw⟩ => ⟨by rw [he, hBR.out], hw⟩)
                have cA : ∀ d os, Calls Tryd.prog 15 #[.agg #[.int .i64 m, (.slice (some ⟨gt, 0, none⟩) m ct)], .int .i64 k, .int .i64 j] (Go.Sort.grow (redrawn wr d) os) fun e w'' => e = .returned (.bool false) ∧ ∃ p : Regrown, w'' = Go.Sort.grow (redrawn wr p.d) p.os :=
                  fun d os => Calls.regrown_of ((beat_ok m _ l _ k j _ V.out hlt hlt2 (Lr2.out.t.rd.below (below_regrown wr d os) (Nat.le_refl _))).mono fun e w' ⟨he, hw⟩ => ⟨by rw [he, hBT.out], hw⟩)
                have cB : ∀ d os, Calls Tryd.prog 15 #[.agg #[.int .i64 m, (.slice (some ⟨gt, 0, none⟩) m ct)], .int .i64 j, .int .i64 k] (Go.Sort.grow (redrawn wr d) os) fun e w'' => e = .returned (.bool true) ∧ ∃ p : Regrown, w'' = Go.Sort.grow (redrawn wr p.d) p.os :=
                  fun d os => Calls.regrown_of ((beat_ok m _ l _ j k _ V.out hlt2 hlt (Lr2.out.t.rd.below (below_regrown wr d os) (Nat.le_refl _))).mono fun e w' ⟨he, hw⟩ => ⟨by rw [he, hCT.out], hw⟩)
                have cU : ∀ d os, Calls Tryd.prog 15 #[.agg #[.int .i64 m, (.slice au m cu)], .int .i64 k, .int .i64 j] (Go.Sort.grow (redrawn wr d) os) fun e w'' => e = .returned (.bool true) ∧ ∃ p : Regrown, w'' = Go.Sort.grow (redrawn wr p.d) p.os :=
                  fun d os => Calls.regrown_of ((beat_ok m _ (turnL l) _ k j _ V.out.turn hlt hlt2 (Lr2.out.u.rd.below (below_regrown wr d os) (Nat.le_refl _))).mono fun e w' ⟨he, hw⟩ => ⟨by rw [he, hCU.out], hw⟩)
                go_wp2
                refine wp_region_quiet_below (by kernel_rfl) (by kernel_rfl) ?_
                repeat (go_big_quiet_step (first | (with_reducible exact cR _ _) | (with_reducible exact cA _ _) | (with_reducible exact cB _ _) | (with_reducible exact cU _ _)))
                refine wpQuiet_nil ?_
                intro wq2 hw'
                have hbq : Below wr.heap.size wr wq2 := by obtain ⟨⟨dq, osq⟩, hw''⟩ := hw'; rw [hw'']; exact below_regrown wr dq osq
                have Lq2 := Lib.hid (Lr2.out.kept hbq)
                clear hw' cR cA cB cU q0 q1 q2 q3 q4 q5 q6 q7 hbq
                go_wp2
                go_roundw
                case rel => exact ⟨j + 1, by omega, by go_num, Lq2⟩
                case measure => simp [intOf]; omega
              · have hBR : Hid (bt (renL l ns) v v2 = true) := hBR0.trans hBB
                have hBT : Hid (bt l k j = true) := hBB
                have hCT : Hid (bt l j k = false) := by show _ = _; rw [hBB] at ho; cases h : bt l j k <;> simp [h] at ho ⊢
                have hCU : Hid (bt (turnL l) k j = false) := hCU0.trans hCT.out
                clear hnv1 hnv2 hBR0 hCU0 hcn1 hcn2 hv2 ho hBB
                have cR : ∀ d os, Calls Tryd.prog 15 #[.agg #[.int .i64 m, (.slice ar m cr)], .int .i64 v, .int .i64 v2] (Go.Sort.grow (redrawn wr d) os) fun e w'' => e = .returned (.bool true) ∧ ∃ p : Regrown, w'' = Go.Sort.grow (redrawn wr p.d) p.os :=
                  fun d os => Calls.regrown_of ((beat_ok m _ (renL l ns) _ v v2 _ (V.out.ren N0.out) hvl hvl2 (Lr2.out.r.rd.below (below_regrown wr d os) (Nat.le_refl _))).mono fun e w' ⟨he, hw⟩ => ⟨by rw [he, hBR.out], hw⟩)
                have cA : ∀ d os, Calls Tryd.prog 15 #[.agg #[.int .i64 m, (.slice (some ⟨gt, 0, none⟩) m ct)], .int .i64 k, .int .i64 j] (Go.Sort.grow (redrawn wr d) os) fun e w'' => e = .returned (.bool true) ∧ ∃ p : Regrown, w'' = Go.Sort.grow (redrawn wr p.d) p.os :=
                  fun d os => Calls.regrown_of ((beat_ok m _ l _ k j _ V.out hlt hlt2 (Lr2.out.t.rd.below (below_regrown wr d os) (Nat.le_refl _))).mono fun e w' ⟨he, hw⟩ => ⟨by rw [he, hBT.out], hw⟩)
                have cB : ∀ d os, Calls Tryd.prog 15 #[.agg #[.int .i64 m, (.slice (some ⟨gt, 0, none⟩) m ct)], .int .i64 j, .int .i64 k] (Go.Sort.grow (redrawn wr d) os) fun e w'' => e = .returned (.bool false) ∧ ∃ p : Regrown, w'' = Go.Sort.grow (redrawn wr p.d) p.os :=
                  fun d os => Calls.regrown_of ((beat_ok m _ l _ j k _ V.out hlt2 hlt (Lr2.out.t.rd.below (below_regrown wr d os) (Nat.le_refl _))).mono fun e w' ⟨he, hw⟩ => ⟨by rw [he, hCT.out], hw⟩)
                have cU : ∀ d os, Calls Tryd.prog 15 #[.agg #[.int .i64 m, (.slice au m cu)], .int .i64 k, .int .i64 j] (Go.Sort.grow (redrawn wr d) os) fun e w'' => e = .returned (.bool false) ∧ ∃ p : Regrown, w'' = Go.Sort.grow (redrawn wr p.d) p.os :=
                  fun d os => Calls.regrown_of ((beat_ok m _ (turnL l) _ k j _ V.out.turn hlt hlt2 (Lr2.out.u.rd.below (below_regrown wr d os) (Nat.le_refl _))).mono fun e w' ⟨he, hw⟩ => ⟨by rw [he, hCU.out], hw⟩)
                go_wp2
                refine wp_region_quiet_below (by kernel_rfl) (by kernel_rfl) ?_
                repeat (go_big_quiet_step (first | (with_reducible exact cR _ _) | (with_reducible exact cA _ _) | (with_reducible exact cB _ _) | (with_reducible exact cU _ _)))
                refine wpQuiet_nil ?_
                intro wq2 hw'
                have hbq : Below wr.heap.size wr wq2 := by obtain ⟨⟨dq, osq⟩, hw''⟩ := hw'; rw [hw'']; exact below_regrown wr dq osq
                have Lq2 := Lib.hid (Lr2.out.kept hbq)
                clear hw' cR cA cB cU q0 q1 q2 q3 q4 q5 q6 q7 hbq
                go_wp2
                go_roundw
                case rel => exact ⟨j + 1, by omega, by go_num, Lq2⟩
                case measure => simp [intOf]; omega
          · have hjb : ¬ (j : Int) < (m : Int) := by omega
            go_wp2
            go_roundw
            case rel => exact ⟨k + 1, by omega, by go_num, Lr2⟩
            case measure => simp [intOf]; omega
      · have hib : ¬ (k : Int) < (m : Int) := by omega
        have T0 := Lib.hid Lr.out.t
        have E0 := Lib.hid Lr.out.e
        clear Lr
        have c0 := T0.out.bx.c0
        have c1 := T0.out.bx.c1
        go_wp2_with fail
        refine (fmt_ok m _ l ct wr V.out T0.out.rd E0.out.tb).mono ?_
        rintro e w11 ⟨rfl, hb11⟩
        have T1 := Lib.hid (T0.out.kept hb11)
        have E1 := Lib.hid (E0.out.kept hb11)
        clear hb11 c0 c1 T0 E0
        go_wp2_with fail
        refine (parse_ok m l w11 V.out E1.out.tb E1.out.er E1.out.mx).mono ?_
        rintro e w12 ⟨⟨ax, cx, rfl, hr⟩, hb12⟩
        obtain ⟨W12, hW12⟩ : ∃ W12, W12 = w12.alloc (.cells #[.int .i64 m, .slice ax m cx] 25) := ⟨_, rfl⟩
        have X2 := Lib.hid (Tv.new hr hW12)
        have T2 := Lib.hid ((T1.out.kept hb12).kept (below_new hW12))
        have E2 := Lib.hid ((E1.out.kept hb12).kept (below_new hW12))
        have HW12 := Lib.hid hW12
        have c0 := T2.out.bx.c0
        have c1 := T2.out.bx.c1
        rw [HW12.out] at c0 c1
        clear hr hb12 hW12 T1 E1
        go_wp2_with fail
        rw [← HW12.out]
        clear c0 c1
        refine (same_ok m ax _ l cx ct W12 V.out X2.out.rd T2.out.rd).mono ?_
        rintro e w13 ⟨rfl, hb13⟩
        have T3 := Lib.hid (T2.out.kept hb13)
        have E3 := Lib.hid (E2.out.kept hb13)
        clear hb13 T2 E2 X2 HW12
        have X3 : Hid (Ex w w13 a len m l pt (some ⟨gt, 0, none⟩) ct) := ⟨E3.out, T3.out⟩
        clear T3 E3
        obtain ⟨Z, hZ⟩ : ∃ Z : Nat, Z = 2 ^ m := ⟨_, rfl⟩
        have hZ2 : 2 ≤ Z := by rw [hZ]; exact Nat.le_trans (by decide) (Nat.pow_le_pow_right (n := 2) (by decide) hm1)
        have hZ8 : Z ≤ 256 := by rw [hZ]; exact pow_le m (by omega)
        have hw1 : wrap64 (2 ^ m) = (Z : Int) := by rw [hZ]; exact wrapPow m (by omega)
        have hw2 : IntKind.i64.wrap (2 ^ m) = (Z : Int) := by rw [hZ]; exact wrapPow2 m (by omega)
        obtain ⟨Z1, hZ1⟩ : ∃ Z1 : Nat, Z1 = Z - 1 := ⟨_, rfl⟩
        have a3 : IntKind.i64.wrap ((Z : Int) - 1) = (Z1 : Int) := by rw [IntWalk.i64_in _ (by omega)]; omega
        have hZ10 : 1 ≤ Z1 := by omega
        have hZ11 : Z1 ≤ 255 := by omega
        have HZ := Lib.hid hZ
        have HZ1 := Lib.hid hZ1
        clear hZ hZ1
        go_wp2
        go_region_with (go_at_call 18; refine (num_ok 40 (by omega) hl20 X3.out.e.drew).mono ?_; rintro e w14 ⟨x, hx, rfl, hbq⟩; have X4 := Lib.hid (X3.out.kept ((Below.refl _ w13).drew.trans hbq)); obtain ⟨r, hr, hr1⟩ := mod_nat x Z1 hZ10; obtain ⟨s, hs⟩ : ∃ s : Nat, s = 1 + r := ⟨_, rfl⟩; have hs1 : IntKind.i64.wrap (1 + (r : Int)) = (s : Int) := (by rw [IntWalk.i64_in _ (by omega)]; omega); have hs2 : (1 : Int) + (r : Int) = (s : Int) := (by omega); have HS := Lib.hid hs; have hsb : s ≤ 256 := (by omega); clear hbq hs)
        have hs := HS.out
        have hsZ : s < 2 ^ m := by have := HZ.out; have := HZ1.out; omega
        have hs0 : 1 ≤ s := by omega
        have HSZ := Lib.hid hsZ
        clear hr hs HS hs1 hs2 hw1 hw2 a3 hsZ X3
        have c0 := X4.out.t.bx.c0
        have c1 := X4.out.t.bx.c1
        go_wp2_with fail
        with_reducible refine (part_ok m _ l ct s w14 V.out hs0 HSZ.out X4.out.t.rd).mono ?_
        rintro e w15 ⟨⟨ap, np, cp, rfl⟩, hb15⟩
        have hpc := pc_le s
        obtain ⟨y, hy⟩ : ∃ y, y = pc s := ⟨_, rfl⟩
        rw [← hy] at hpc ⊢
        obtain ⟨W15, hW15⟩ : ∃ W15, W15 = w15.alloc (.cells #[.int .i64 y, .slice ap np cp] 25) := ⟨_, rfl⟩
        have p0 : W15.cell? ⟨w15.heap.size, 0, none⟩ = some (.int .i64 y) := by rw [hW15]; exact (cell_box2 _ _ _ _).1
        have X5 := Lib.hid ((X4.out.kept hb15).kept (below_new hW15))
        have HW15 := Lib.hid hW15
        have hs256 : s < 256 := by have := HSZ.out; have := HZ.out; omega
        have c20 : ∀ d os, Calls Tryd.prog 20 #[.int .i64 s] (Go.Sort.grow (redrawn W15 d) os) fun e w'' => e = .returned (.int .i64 y) ∧ ∃ p : Regrown, w'' = Go.Sort.grow (redrawn W15 p.d) p.os :=
          fun d os => Calls.regrown_of ((lawBits_any s hs256 _).mono fun e w' ⟨he, hw⟩ => ⟨by rw [he, hy], hw ▸ Below.refl _ _⟩)
        obtain ⟨tx, htx⟩ : ∃ tx, tx = txt l := ⟨_, rfl⟩
        obtain ⟨q, hq⟩ : ∃ q : Nat, q = 2 + K := ⟨_, rfl⟩
        have htq : tx.size = q := by rw [htx, hq]; exact txt_size V.out HK2.out
        have c17 : ∀ d os, Calls Tryd.prog 17 #[.agg #[.int .i64 m, .slice (some ⟨gt, 0, none⟩) m ct]] (Go.Sort.grow (redrawn W15 d) os) fun e w'' => e = .returned (.string tx) ∧ ∃ p : Regrown, w'' = Go.Sort.grow (redrawn W15 p.d) p.os :=
          fun d os => Calls.regrown_of ((fmt_ok m _ l ct _ V.out (X5.out.t.rd.below (below_regrown W15 d os) (Nat.le_refl _)) (X5.out.e.tb.below (below_regrown W15 d os))).mono fun e w' ⟨he, hw⟩ => ⟨by rw [he, htx], hw⟩)
        have r0 := fun d os => cell_regrown p0 d os
        have r1 := fun d os => cell_regrown X5.out.t.bx.c0 d os
        have r2 := fun d os => cell_regrown X5.out.t.bx.c1 d os
        obtain ⟨m1, hm1'⟩ : ∃ m1, m1 = m - 1 := ⟨_, rfl⟩
        have a1 : IntKind.i64.wrap ((m : Int) - 1) = (m1 : Int) := by rw [IntWalk.i64_in _ (by omega)]; omega
        have a2 : IntKind.i64.wrap ((m : Int) * (m1 : Int)) = (P : Int) := by
          have e1 : (m1 : Int) = (m : Int) - 1 := by omega
          rw [e1, hPm, IntWalk.i64_in _ (by omega)]
        have a3 : IntKind.i64.wrap (2 + (K : Int)) = (q : Int) := by rw [IntWalk.i64_in _ (by omega)]; omega
        have hq63 : q ≤ 100 := by omega
        have HM1 := Lib.hid hm1'
        clear hm1' hq htx hy hW15 hb15 c0 c1 p0 hPm
        by_cases hm2 : 1 < m
        · have hi2 : (1 : Int) < (m : Int) := by omega
          have hi3 : ¬ (m : Int) < 2 := by omega
          go_wp2
          rw [← HW15.out]
          refine wp_region_quiet_below (by kernel_rfl) (by kernel_rfl) ?_
          repeat (go_big_quiet_step (first | (with_reducible exact c20 _ _) | (with_reducible exact c17 _ _)))
          refine wpQuiet_nil ?_
          intro w16 hw'
          have hbq : Below W15.heap.size W15 w16 := by obtain ⟨⟨dq, osq⟩, hw''⟩ := hw'; rw [hw'']; exact below_regrown W15 dq osq
          have X6 := Lib.hid (X5.out.kept hbq)
          clear hw' c20 c17 r0 r1 r2 hbq X5 X4 a1 a2 a3
          have c0 := X6.out.t.bx.c0
          have c1 := X6.out.t.bx.c1
          go_wp2_with fail
          refine (num_ok 42 (by omega) hl20 X6.out.e).mono ?_
          rintro e w17 ⟨x1, hx1, rfl, hb17⟩
          have X7 := Lib.hid (X6.out.kept hb17)
          obtain ⟨i, hi, him⟩ := mod_nat x1 m hm1
          clear hb17 X6 c0 c1
          go_wp2_with fail
          refine (num_ok 44 (by omega) hl20 X7.out.e).mono ?_
          rintro e w18 ⟨x2, hx2, rfl, hb18⟩
          have X8 := Lib.hid (X7.out.kept hb18)
          obtain ⟨f, hf, hfm⟩ := mod_nat x2 m1 (by have := HM1.out; omega)
          have hm1i : (m : Int) - 1 = (m1 : Int) := by have := HM1.out; omega
          obtain ⟨z, hz⟩ : ∃ z : Nat, z = i + 1 + f := ⟨_, rfl⟩
          have hzz : (i : Int) + 1 + (f : Int) = (z : Int) := by omega
          obtain ⟨j, hj, hjm⟩ := mod_nat z m hm1
          have hij : Hid (i ≠ j) := by
            have hr := (rot_ne him (x := f) (by have := HM1.out; omega)).2.2
            rw [hzz, hj] at hr
            intro e; exact hr (by rw [e])
          have hz16 : z ≤ 100 := by omega
          have hi16 : i ≤ 100 := by omega
          have HZZ := Lib.hid hz
          clear hb18 X7 hz
          have c0 := X8.out.t.bx.c0
          have c1 := X8.out.t.bx.c1
          go_wp2_with fail
          with_reducible refine (flipM_ok m _ l ct i j w18 V.out him hjm hij.out X8.out.t.rd).mono ?_
          rintro e w19 ⟨⟨af, cf, rfl, hr⟩, hb19⟩
          obtain ⟨W19, hW19⟩ : ∃ W19, W19 = w19.alloc (.cells #[.int .i64 m, .slice af m cf] 25) := ⟨_, rfl⟩
          have hji : j ≠ i := fun e => hij.out e.symm
          have F9 := Lib.hid (Tv.new hr hW19)
          have X9 := Lib.hid ((X8.out.kept hb19).kept (below_new hW19))
          have HW19 := Lib.hid hW19
          clear hr hb19 hW19 X8 c0 c1
          go_wp2_with fail
          rw [← HW19.out]
          with_reducible refine (flipM_ok m _ (flipM l i j) cf j i W19 (V.out.flip him hjm hij.out) hjm him hji F9.out.rd).mono ?_
          rintro e w20 ⟨⟨ag, cg, rfl, hr⟩, hb20⟩
          rw [V.out.flip2 him hjm hij.out] at hr
          obtain ⟨W20, hW20⟩ : ∃ W20, W20 = w20.alloc (.cells #[.int .i64 m, .slice ag m cg] 25) := ⟨_, rfl⟩
          have G10 := Lib.hid (Tv.new hr hW20)
          have F10 := Lib.hid ((F9.out.kept hb20).kept (below_new hW20))
          have X10 := Lib.hid ((X9.out.kept hb20).kept (below_new hW20))
          have HW20 := Lib.hid hW20
          clear hr hb20 hW20 X9 F9
          have r0 := fun d os => cell_regrown X10.out.t.bx.c0 d os
          have r1 := fun d os => cell_regrown X10.out.t.bx.c1 d os
          have r2 := fun d os => cell_regrown F10.out.bx.c0 d os
          have r3 := fun d os => cell_regrown F10.out.bx.c1 d os
          have r4 := fun d os => cell_regrown G10.out.bx.c0 d os
          have r5 := fun d os => cell_regrown G10.out.bx.c1 d os
          have cS : ∀ d os, Calls Tryd.prog 11 #[.agg #[.int .i64 m, .slice ag m cg], .agg #[.int .i64 m, .slice (some ⟨gt, 0, none⟩) m ct]] (Go.Sort.grow (redrawn W20 d) os) fun e w'' => e = .returned (.bool true) ∧ ∃ p : Regrown, w'' = Go.Sort.grow (redrawn W20 p.d) p.os :=
            fun d os => Calls.regrown_of (same_ok m ag _ l cg ct _ V.out (G10.out.rd.below (below_regrown W20 d os) (Nat.le_refl _)) (X10.out.t.rd.below (below_regrown W20 d os) (Nat.le_refl _)))
          have cC : ∀ d os, Calls Tryd.prog 13 #[.agg #[.int .i64 m, .slice af m cf], .agg #[.int .i64 m, .slice (some ⟨gt, 0, none⟩) m ct]] (Go.Sort.grow (redrawn W20 d) os) fun e w'' => e = .returned (.int .i64 1) ∧ ∃ p : Regrown, w'' = Go.Sort.grow (redrawn W20 p.d) p.os :=
            fun d os => Calls.regrown_of (count_flip m af _ l cf ct i j _ V.out him hjm hij.out (F10.out.rd.below (below_regrown W20 d os) (Nat.le_refl _)) (X10.out.t.rd.below (below_regrown W20 d os) (Nat.le_refl _)))
          cases hBB : bt l i j
          · skip
            have cF : ∀ d os, Calls Tryd.prog 15 #[.agg #[.int .i64 m, .slice af m cf], .int .i64 i, .int .i64 j] (Go.Sort.grow (redrawn W20 d) os) fun e w'' => e = .returned (.bool true) ∧ ∃ p : Regrown, w'' = Go.Sort.grow (redrawn W20 p.d) p.os :=
              fun d os => Calls.regrown_of ((beat_ok m _ (flipM l i j) _ i j _ (V.out.flip him hjm hij.out) him hjm (F10.out.rd.below (below_regrown W20 d os) (Nat.le_refl _))).mono fun e w' ⟨he, hw⟩ => ⟨by rw [he, V.out.bflip him hjm hij.out, hBB]; rfl, hw⟩)
            have cT : ∀ d os, Calls Tryd.prog 15 #[.agg #[.int .i64 m, .slice (some ⟨gt, 0, none⟩) m ct], .int .i64 i, .int .i64 j] (Go.Sort.grow (redrawn W20 d) os) fun e w'' => e = .returned (.bool false) ∧ ∃ p : Regrown, w'' = Go.Sort.grow (redrawn W20 p.d) p.os :=
              fun d os => Calls.regrown_of ((beat_ok m _ l _ i j _ V.out him hjm (X10.out.t.rd.below (below_regrown W20 d os) (Nat.le_refl _))).mono fun e w' ⟨he, hw⟩ => ⟨by rw [he, hBB], hw⟩)
            clear hBB
            go_wp2
            rw [← HW20.out]
            refine wp_region_quiet_below (by kernel_rfl) (by kernel_rfl) ?_
            repeat (go_big_quiet_step (first | (with_reducible exact cS _ _) | (with_reducible exact cC _ _) | (with_reducible exact cF _ _) | (with_reducible exact cT _ _)))
            refine wpQuiet_nil ?_
            intro w21 hw'
            have hbq : Below W20.heap.size W20 w21 := by obtain ⟨⟨dq, osq⟩, hw''⟩ := hw'; rw [hw'']; exact below_regrown W20 dq osq
            have X11 := Lib.hid (X10.out.kept hbq)
            clear hw' cS cC cF cT r0 r1 r2 r3 r4 r5 hbq X10 F10 G10
            go_wp2
            go_ret
            exact ⟨rfl, X11.out.e.hb⟩
          · skip
            have cF : ∀ d os, Calls Tryd.prog 15 #[.agg #[.int .i64 m, .slice af m cf], .int .i64 i, .int .i64 j] (Go.Sort.grow (redrawn W20 d) os) fun e w'' => e = .returned (.bool false) ∧ ∃ p : Regrown, w'' = Go.Sort.grow (redrawn W20 p.d) p.os :=
              fun d os => Calls.regrown_of ((beat_ok m _ (flipM l i j) _ i j _ (V.out.flip him hjm hij.out) him hjm (F10.out.rd.below (below_regrown W20 d os) (Nat.le_refl _))).mono fun e w' ⟨he, hw⟩ => ⟨by rw [he, V.out.bflip him hjm hij.out, hBB]; rfl, hw⟩)
            have cT : ∀ d os, Calls Tryd.prog 15 #[.agg #[.int .i64 m, .slice (some ⟨gt, 0, none⟩) m ct], .int .i64 i, .int .i64 j] (Go.Sort.grow (redrawn W20 d) os) fun e w'' => e = .returned (.bool true) ∧ ∃ p : Regrown, w'' = Go.Sort.grow (redrawn W20 p.d) p.os :=
              fun d os => Calls.regrown_of ((beat_ok m _ l _ i j _ V.out him hjm (X10.out.t.rd.below (below_regrown W20 d os) (Nat.le_refl _))).mono fun e w' ⟨he, hw⟩ => ⟨by rw [he, hBB], hw⟩)
            clear hBB
            go_wp2
            rw [← HW20.out]
            refine wp_region_quiet_below (by kernel_rfl) (by kernel_rfl) ?_
            repeat (go_big_quiet_step (first | (with_reducible exact cS _ _) | (with_reducible exact cC _ _) | (with_reducible exact cF _ _) | (with_reducible exact cT _ _)))
            refine wpQuiet_nil ?_
            intro w21 hw'
            have hbq : Below W20.heap.size W20 w21 := by obtain ⟨⟨dq, osq⟩, hw''⟩ := hw'; rw [hw'']; exact below_regrown W20 dq osq
            have X11 := Lib.hid (X10.out.kept hbq)
            clear hw' cS cC cF cT r0 r1 r2 r3 r4 r5 hbq X10 F10 G10
            go_wp2
            go_ret
            exact ⟨rfl, X11.out.e.hb⟩
        · have hi2 : decide ((1 : Int) < (m : Int)) = false := by rw [decide_eq_false_iff_not]; omega
          have hi4 : decide (1 < m) = false := by rw [decide_eq_false_iff_not]; exact hm2
          have hi3 : (m : Int) < 2 := by omega
          go_wp2
          rw [← HW15.out]
          refine wp_region_quiet_below (by kernel_rfl) (by kernel_rfl) ?_
          repeat (go_big_quiet_step (first | (with_reducible exact c20 _ _) | (with_reducible exact c17 _ _)))
          refine wpQuiet_nil ?_
          intro w16 hw'
          have hbq : Below W15.heap.size W15 w16 := by obtain ⟨⟨dq, osq⟩, hw''⟩ := hw'; rw [hw'']; exact below_regrown W15 dq osq
          have X6 := Lib.hid (X5.out.kept hbq)
          clear hw' c20 c17 r0 r1 r2 hbq X5 X4 a1 a2 a3
          go_wp2
          go_ret
          exact ⟨rfl, X6.out.e.hb⟩
end Go.Proofs.YtepladakcepgdaaDoor
