/-
  'Tour.reachFrom' of the program: the set of those whom a player of a valid tour reaches. Its two closures call each other: by induction on how far the set can still grow. Condition: the tour is valid.
-/
import Derived.Test.YteegbkbphfmooaaK
import Derived.Test.YteegbkbphfmooaaG
import Derived.Test.Yteegbkbphfmooaa8C
import Derived.RangeFuncBox
import Derived.RangeFuncNested
import Derived.Laws.EntriesVeiled
namespace Go.Proofs.Yteegbkbphfmooaa
open Go.ChangeShapes Go.WideShapes Go.ChangeAt Go.RowKit
set_option linter.unusedVariables false

/-- Whom a player beats, as a number. -/
def ww (l : List Int) (c : Nat) : Nat := (l.getD c 0).toNat
theorem Ok.ww {n : Int} {l : List Int} (h : Ok n l) {c : Nat} (hc : c < l.length) : l.getD c 0 = (Go.Proofs.Yteegbkbphfmooaa.ww l c : Nat) ∧ Go.Proofs.Yteegbkbphfmooaa.ww l c < 2 ^ l.length ∧ Go.Proofs.Yteegbkbphfmooaa.ww l c < 256 := by
  obtain ⟨x, h1, h2, h3⟩ := h.nat hc
  have : Go.Proofs.Yteegbkbphfmooaa.ww l c = x := by unfold Go.Proofs.Yteegbkbphfmooaa.ww; rw [h1]; rfl
  rw [this]; exact ⟨h1, h2, h3⟩
theorem Ok.wlt {n : Int} {l : List Int} (h : Ok n l) : ∀ c, c < l.length → Go.Proofs.Yteegbkbphfmooaa.ww l c < 2 ^ l.length := fun c hc => (h.ww hc).2.1

theorem IntRow.grownq {W W' : World} {q : Nat} {a : Option Addr} {l : List Int} (h : IntRow W a l) (hg : W.grownBy W' (some q)) (hne : blk a ≠ some q) : IntRow W' a l := by
  rcases h with h | ⟨b, off, rfl, hl, hc⟩
  · exact .inl h
  · exact .inr ⟨b, off, rfl, Nat.lt_of_lt_of_le hl hg.size, fun j hj => hg.cell (hc j hj) (fun e => hne e)⟩
theorem grown_some {W W' : World} {q : Nat} (h : W.grownBy W' none) : W.grownBy W' (some q) := ⟨h.os, h.tape, h.output, h.size, fun k hk _ => h.block k hk (by simp)⟩

/-- What the closures share. -/
structure Ds (n : Int) (a : Option Addr) (l : List Int) (cap p q v u : Nat) (W : World) (r : Nat) : Prop where
  xt : Box W p 25 (.int .i64 n) (.slice a l.length cap)
  hr : IntRow W a l
  hq : Boxed W q 3 (.int .i64 (r : Int))
  hv : Boxed W v 97 (.func (.func 114) #[] #[.pointer (some ⟨q, 0, none⟩), .pointer (some ⟨u, 0, none⟩)])
  hu : Boxed W u 97 (.func (.func 115) #[] #[.pointer (some ⟨p, 0, none⟩), .pointer (some ⟨v, 0, none⟩)])
  ha : blk a ≠ some q
  hpq : p ≠ q
  hvq : v ≠ q
  huq : u ≠ q
theorem Ds.grown {n : Int} {a : Option Addr} {l : List Int} {cap p q v u : Nat} {W W' : World} {r r' : Nat} (h : Ds n a l cap p q v u W r) (hg : W.grownBy W' (some q)) (hq : Boxed W' q 3 (.int .i64 (r' : Int))) : Ds n a l cap p q v u W' r' :=
  ⟨h.xt.grown hg (fun e => h.hpq (Option.some.inj e).symm), h.hr.grownq hg h.ha, hq, h.hv.kept hg (fun e => h.hvq (Option.some.inj e)), h.hu.kept hg (fun e => h.huq (Option.some.inj e)), h.ha, h.hpq, h.hvq, h.huq⟩

def VsP (l : List Int) (q : Nat) (W : World) (r b : Nat) (e : Ending) (W' : World) : Prop := e = .returned (.tuple #[]) ∧ W.grownBy W' (some q) ∧ ∃ r2 : Nat, Rc.Vs (ww l) r r2 b ∧ r2 < 2 ^ l.length ∧ Boxed W' q 3 (.int .i64 (r2 : Int))
def VlP (l : List Int) (q : Nat) (W : World) (r b : Nat) (e : Ending) (W' : World) : Prop := e = .returned (.tuple #[]) ∧ W.grownBy W' (some q) ∧ ∃ r2 : Nat, Rc.Vl (ww l) r r2 b (elems (ww l b)) ∧ r2 < 2 ^ l.length ∧ Boxed W' q 3 (.int .i64 (r2 : Int))
/-- Where the loop over those whom one beats stands. -/
def LoopD (n : Int) (a : Option Addr) (l : List Int) (cap p q v u : Nat) (W : World) (r b ge ce k j : Nat) (wr : World) : Prop :=
  W.grownBy wr (some q) ∧ (∃ r2 : Nat, Rc.Vl (ww l) r r2 b ((elems (ww l b)).take j) ∧ r ≤ r2 ∧ r2 < 2 ^ l.length ∧ Ds n a l cap p q v u wr r2) ∧ wr.ownsRow W.heap.size 3 1 (.slice (some ⟨ge, 0, none⟩) k ce) k ((elems (ww l b)).map nv)

set_option maxRecDepth 100000 in
set_option maxHeartbeats 2000000 in
theorem beaten_of {n : Int} {a : Option Addr} {l : List Int} {cap p q v u : Nat} (hok : Ok n l) (m : Nat)
    (IH : ∀ (r c : Nat) (W : World), 2 ^ l.length - r ≤ m → r < 2 ^ l.length → c < l.length → Ds n a l cap p q v u W r →
      Calls Try.prog 114 #[.int .i64 (c : Int), .pointer (some ⟨q, 0, none⟩), .pointer (some ⟨u, 0, none⟩)] W (VsP l q W r c))
    (r b : Nat) (W : World) (hm : 2 ^ l.length - r ≤ m) (hrl : r < 2 ^ l.length) (hb : b < l.length) (hs : Ds n a l cap p q v u W r) :
    Calls Try.prog 115 #[.int .i64 (b : Int), .pointer (some ⟨p, 0, none⟩), .pointer (some ⟨v, 0, none⟩)] W (VlP l q W r b) := by
  obtain ⟨hz, hz2, hz8⟩ := hok.ww hb
  obtain ⟨z, hzz⟩ : ∃ z, z = ww l b := ⟨_, rfl⟩
  rw [← hzz] at hz hz2 hz8
  have HZZ := Lib.hid hzz
  obtain ⟨ab, off, ha, hbb, hcx⟩ := hs.hr.at hb
  rw [hz] at hcx
  have c1 := hs.xt.c1
  rw [ha] at c1
  have hib : (b : Int) < (l.length : Int) := by omega
  obtain ⟨k, hk⟩ : ∃ k, k = (elems z).length := ⟨_, rfl⟩
  have HK := Lib.hid hk
  have HS := Lib.hid hs
  have HI := Lib.hid IH
  have HM := Lib.hid hm
  have HRL := Lib.hid hrl
  have HZ2 := Lib.hid hz2
  have hk8 : k ≤ 8 := by rw [hk]; exact elTo_len z 8
  have hbit : Hid (∀ x ∈ elems z, z.testBit x = true) := fun x hx => (List.mem_filter.1 hx).2
  have hw := hok.wlt
  have HW := Lib.hid hw
  clear hk hs IH hm hrl hz2 hzz ha hbb hz hw hok
  go_enter Try.func115, Try.ntmps115
  go_wp2_with fail
  refine (elementsOf_any z hz8 _).mono ?_
  rintro e w1 ⟨⟨ge, ce, rfl, hown⟩, hbw⟩
  rw [← HK.out] at hown ⊢
  have hgw : W.grownBy w1 (some q) := grown_some (grown_of_below hbw)
  have hq1 : Boxed w1 q 3 (.int .i64 (r : Int)) := HS.out.hq.kept (grown_of_below hbw) (by simp)
  have hs1 := Lib.hid (HS.out.grown hgw hq1)
  have hgeq : ge ≠ q := by have := (hown.lt ge rfl).1; have := HS.out.hq.lt; omega
  have HGE := Lib.hid hgeq
  have HL0 : Hid (LoopD n a l cap p q v u W r b ge ce k 0 w1) := by
    refine ⟨hgw, ⟨r, ?_, Nat.le_refl _, HRL.out, hs1.out⟩, ?_⟩
    · rw [List.take_zero]; exact Rc.Vl.nil
    · rw [← HZZ.out]; exact hown
  clear hown hbw hgw hq1 hs1 hgeq c1 hcx
  go_wp2
  go_loopw [13] (fun i wr => ∃ j : Nat, j ≤ k ∧ i = .int .i64 j ∧ LoopD n a l cap p q v u W r b ge ce k j wr) (fun i _ => k - (intOf i).toNat)
  case atStart => exact ⟨0, Nat.zero_le _, rfl, HL0.out⟩
  case round =>
    clear HL0
    obtain ⟨j, hj, rfl, hg, ⟨r2, hvl, hle, hlt2, hds⟩, hown⟩ := hrel
    have HG := Lib.hid hg
    have HVL := Lib.hid hvl
    have HDS := Lib.hid hds
    have HO := Lib.hid hown
    by_cases hlt : j < k
    · obtain ⟨c, hc⟩ : ∃ c, (elems z)[j]? = some c := ⟨(elems z)[j]'(by rw [← HK.out]; exact hlt), List.getElem?_eq_getElem _⟩
      have hcz : z.testBit c = true := hbit.out c (List.mem_of_getElem? hc)
      have hcl : c < l.length := Rc.bit_lt HZ2.out hcz
      have d0 : wr.cell? ⟨ge, j, none⟩ = some (.int .i64 (c : Int)) := by
        rw [hown.cellAt j (by omega), List.getElem?_map, ← HZZ.out, hc]; rfl
      have d1 := hds.hv.cell
      have hjb : (j : Int) < (k : Int) := by omega
      have hcall := HI.out r2 c wr (by have := HM.out; omega) hlt2 hcl hds
      have HC := Lib.hid hcall
      have HCC := Lib.hid hc
      have HCZ := Lib.hid hcz
      have HLE := Lib.hid hle
      clear hcall hc hcz hg hvl hds hown hle hlt2
      go_wp2_with fail
      refine HC.out.mono ?_
      rintro e w2 ⟨rfl, hg2, r3, hvs, hlt3, hq3⟩
      have HR : Hid (LoopD n a l cap p q v u W r b ge ce k (j + 1) w2) := by
        refine ⟨HG.out.trans hg2, ⟨r3, ?_, Nat.le_trans HLE.out hvs.sub.le, hlt3, HDS.out.grown hg2 hq3⟩, ?_⟩
        · rw [take_snoc _ j c (by rw [← HZZ.out]; exact HCC.out)]
          exact HVL.out.snoc hvs (by rw [← HZZ.out]; exact HCZ.out)
        · exact own_grown HO.out hg2 (fun x hx => by cases hx; exact fun e => HGE.out (Option.some.inj e).symm)
      clear hg2 hvs hlt3 hq3 d0 d1
      go_wp2
      go_roundw
      case rel => exact ⟨j + 1, by omega, by go_num, HR.out⟩
      case measure => simp [intOf]; omega
    · obtain rfl : j = k := by omega
      clear hg hvl hds hown
      go_wp2
      go_end0
      refine ⟨rfl, HG.out, r2, ?_, hlt2, HDS.out.hq⟩
      have := HVL.out
      rw [List.take_of_length_le (by rw [← HZZ.out, ← HK.out]; exact Nat.le_refl _)] at this
      exact this

set_option maxRecDepth 100000 in
set_option maxHeartbeats 2000000 in
theorem visit_any {n : Int} {a : Option Addr} {l : List Int} {cap p q v u : Nat} (hok : Ok n l) : ∀ (m r b : Nat) (W : World), 2 ^ l.length - r ≤ m → r < 2 ^ l.length → b < l.length → Ds n a l cap p q v u W r →
    Calls Try.prog 114 #[.int .i64 (b : Int), .pointer (some ⟨q, 0, none⟩), .pointer (some ⟨u, 0, none⟩)] W (VsP l q W r b) := by
  intro m
  induction m with
  | zero => exact fun r b W hm hr => absurd hm (by omega)
  | succ m ih =>
    intro r b W hm hr hb hs
    have hl8 : l.length ≤ 8 := by have := hok.2.1; have := hok.2.2.1; omega
    have c0 := hs.hq.cell
    have hr8 : r < 256 := Nat.lt_of_lt_of_le hr (pow_le _ hl8)
    have hb8 : b ≤ 8 := by omega
    have hb64 : b < 64 := by omega
    cases hbit : r.testBit b
    · have f0 := hs.hq.frozen
      have d0 := hs.hu.cell
      have hp8 := pow_le b hb8
      have hor : bits .or .i64 (r : Int) (wrap64 (2 ^ b)) = ((r ||| 2 ^ b : Nat) : Int) := by rw [wrapPow b hb8]; exact i64_or _ _ (by omega) (by omega)
      obtain ⟨r1, hr1⟩ : ∃ r1, r1 = r ||| 2 ^ b := ⟨_, rfl⟩
      have hle : r ≤ r1 := by rw [hr1]; exact Nat.left_le_or
      have hne : r ≠ r1 := by
        intro e
        have : r1.testBit b = true := by rw [hr1, Nat.testBit_or, Nat.testBit_two_pow_self, Bool.or_true]
        rw [← e, hbit] at this; cases this
      have hlt1 : r1 < 2 ^ l.length := by rw [hr1]; exact Nat.or_lt_two_pow hr (Nat.pow_lt_pow_right (by decide) hb)
      have hm1 : 2 ^ l.length - r1 ≤ m := by omega
      rw [← hr1] at hor
      obtain ⟨y, hy⟩ : ∃ y : Int, y = (r1 : Int) := ⟨_, rfl⟩
      rw [← hy] at hor
      have hbf : bi (r : Int) b = false := by rw [bi_nat]; exact hbit
      obtain ⟨W1, hW1⟩ : ∃ W1 : World, W1 = W.setCell ⟨q, 0, none⟩ (.int .i64 y) := ⟨_, rfl⟩
      have hgW : W.grownBy W1 (some q) := by rw [hW1]; exact grownBy_setCell' W q _
      have hs1 : Ds n a l cap p q v u W1 r1 := hs.grown hgW (by rw [hW1, ← hy]; exact hs.hq.set _)
      have d1 := hs1.hu.cell
      have hcall := beaten_of hok m ih r1 b W1.drew hm1 hlt1 hb ⟨hs1.xt, hs1.hr, hs1.hq, hs1.hv, hs1.hu, hs1.ha, hs1.hpq, hs1.hvq, hs1.huq⟩
      have HC := Lib.hid hcall
      have HR1 := Lib.hid hr1
      have HG := Lib.hid hgW
      have HWW := Lib.hid hW1
      have hwz := hok.wlt
      have HIN : Hid (∀ c, (ww l b).testBit c = true → c ∈ elems (ww l b)) := by
        intro c hc
        unfold elems elTo
        exact List.mem_filter.2 ⟨List.mem_range.2 (Nat.lt_of_lt_of_le (Rc.bit_lt (hwz b hb) hc) hl8), hc⟩
      clear hcall hr1 hgW hy hwz hs1 hne hle hlt1 hm1 ih hbit hW1 hs
      go_enter Try.func114, Try.ntmps114
      go_wp2_with fail
      refine (hasElement_any r b _ hb64).mono ?_
      rintro e w' ⟨rfl, rfl⟩
      rw [hbf]
      go_wp2
      go_region
      all_goals
        rw [← HWW.out]
        go_wp2_with fail
        refine HC.out.mono ?_
        rintro e w2 ⟨rfl, hg2, r2, hvl, hlt2, hq2⟩
        have HF : Hid (Rc.Vs (ww l) r r2 b) := Rc.Vs.of HR1.out hvl HIN.out
        have HGG : Hid (W.grownBy w2 (some q)) := HG.out.trans ⟨hg2.os, hg2.tape, hg2.output, hg2.size, hg2.block⟩
        clear hg2 hvl d1 d0 c0 f0
        go_wp2
        go_end0
        exact ⟨rfl, HGG.out, r2, HF.out, hlt2, hq2⟩
    · have hbt : bi (r : Int) b = true := by rw [bi_nat]; exact hbit
      have HS := Lib.hid hs
      have HB := Lib.hid hbit
      have HR := Lib.hid hr
      clear hs hbit ih hr
      go_enter Try.func114, Try.ntmps114
      go_wp2_with fail
      refine (hasElement_any r b _ hb64).mono ?_
      rintro e w' ⟨rfl, rfl⟩
      rw [hbt]
      go_wp2
      go_end0
      exact ⟨rfl, ⟨rfl, rfl, rfl, Nat.le_refl _, fun _ _ _ => rfl⟩, r, Rc.Vs.again HB.out, HR.out, HS.out.hq⟩

set_option maxRecDepth 100000 in
set_option maxHeartbeats 2000000 in
/-- 'reachFrom'. -/
theorem reachFrom_any (n : Int) (a : Option Addr) (l : List Int) (cap b : Nat) (w : World) (hrow : IntRow w a l) (hok : Ok n l) (hb : b < l.length) :
    Calls Try.prog 69 #[.agg #[.int .i64 n, .slice a l.length cap], .int .i64 (b : Int)] w fun e w' => e = .returned (.int .i64 (Rc.rs l.length (ww l) b : Int)) ∧ Below w.heap.size w w' := by
  obtain ⟨F1, hF1⟩ : ∃ F1, F1 = Value.func (.func 114) #[] #[.pointer (some ⟨w.heap.size + 1, 0, none⟩), .pointer (some ⟨w.heap.size + 1 + 1 + 1, 0, none⟩)] := ⟨_, rfl⟩
  obtain ⟨F2, hF2⟩ : ∃ F2, F2 = Value.func (.func 115) #[] #[.pointer (some ⟨w.heap.size, 0, none⟩), .pointer (some ⟨w.heap.size + 1 + 1, 0, none⟩)] := ⟨_, rfl⟩
  obtain ⟨W1, hW1⟩ : ∃ W1, W1 = w.alloc (.cells #[.int .i64 n, .slice a l.length cap] 25) := ⟨_, rfl⟩
  obtain ⟨W2, hW2⟩ : ∃ W2, W2 = W1.alloc (.cells #[.int .i64 0] 3) := ⟨_, rfl⟩
  obtain ⟨W3, hW3⟩ : ∃ W3, W3 = W2.alloc (.cells #[F1] 97) := ⟨_, rfl⟩
  obtain ⟨W4, hW4⟩ : ∃ W4, W4 = W3.alloc (.cells #[F2] 97) := ⟨_, rfl⟩
  have s1 : W1.heap.size = w.heap.size + 1 := by rw [hW1]; simp
  have s2 : W2.heap.size = w.heap.size + 1 + 1 := by rw [hW2]; simp [s1]
  have s3 : W3.heap.size = w.heap.size + 1 + 1 + 1 := by rw [hW3]; simp [s2]
  have x1 : Box W1 w.heap.size 25 (.int .i64 n) (.slice a l.length cap) := by rw [hW1]; exact Box.new _ _ _ _
  have x2 : Boxed W2 (w.heap.size + 1) 3 (.int .i64 0) := by rw [hW2, ← s1]; exact Boxed.new _ _ _
  have x3 : Boxed W3 (w.heap.size + 1 + 1) 97 F1 := by rw [hW3, ← s2]; exact Boxed.new _ _ _
  have y4 : Boxed W4 (w.heap.size + 1 + 1 + 1) 97 F2 := by rw [hW4, ← s3]; exact Boxed.new _ _ _
  have g2 : W1.grownBy W2 none := by rw [hW2]; exact World.grownBy_alloc _ _ _
  have g3 : W2.grownBy W3 none := by rw [hW3]; exact World.grownBy_alloc _ _ _
  have g4 : W3.grownBy W4 none := by rw [hW4]; exact World.grownBy_alloc _ _ _
  have b4 : Below w.heap.size w W4 := by
    have h1 : Below w.heap.size w W1 := by rw [hW1]; exact (Below.refl _ _).alloc (Nat.le_refl _) _
    have h2 : Below w.heap.size w W2 := by rw [hW2]; exact h1.alloc h1.size _
    have h3 : Below w.heap.size w W3 := by rw [hW3]; exact h2.alloc h2.size _
    rw [hW4]; exact h3.alloc h3.size _
  have y1 : Box W4 w.heap.size 25 (.int .i64 n) (.slice a l.length cap) := ((x1.grown g2 (by simp)).grown g3 (by simp)).grown g4 (by simp)
  have y2 : Boxed W4 (w.heap.size + 1) 3 (.int .i64 0) := (x2.kept g3 (by simp)).kept g4 (by simp)
  have y3 : Boxed W4 (w.heap.size + 1 + 1) 97 F1 := x3.kept g4 (by simp)
  have hr4 : IntRow W4 a l := hrow.below b4 (Nat.le_refl _)
  have hab : blk a ≠ some (w.heap.size + 1) := by
    intro e
    rcases hrow with h | ⟨b', off, rfl, hbl, _⟩
    · rw [h] at hb; exact Nat.not_lt_zero _ hb
    · have e2 : b' = w.heap.size + 1 := Option.some.inj e
      omega
  have hds : Ds n a l cap w.heap.size (w.heap.size + 1) (w.heap.size + 1 + 1) (w.heap.size + 1 + 1 + 1) W4 0 := ⟨y1, hr4, y2, by rw [← hF1]; exact y3, by rw [← hF2]; exact y4, hab, by omega, by omega, by omega⟩
  have hcall := visit_any hok (2 ^ l.length) 0 b W4 (Nat.sub_le _ _) (Nat.two_pow_pos _) hb hds
  have hwlt := hok.wlt
  have HC := Lib.hid hcall
  have HW4 : Hid (W4 = (((w.alloc (.cells #[.int .i64 n, .slice a l.length cap] 25)).alloc (.cells #[.int .i64 0] 3)).alloc (.cells #[F1] 97)).alloc (.cells #[F2] 97)) := by rw [hW4, hW3, hW2, hW1]; exact rfl
  have HWL := Lib.hid hwlt
  have HB4 := Lib.hid b4
  have HS4 : Hid (w.heap.size + 1 < W4.heap.size) := y2.lt
  rw [hF1, hF2] at HW4
  clear hcall hW1 hW2 hW3 hW4 hF1 hF2 s1 s2 s3 x1 x2 x3 g2 g3 g4 b4 y1 y2 y3 y4 hr4 hab hds hrow hok hwlt
  go_enter Try.func69, Try.ntmps69
  go_wp2_with fail
  rw [← HW4.out]
  refine HC.out.mono ?_
  rintro e w2 ⟨rfl, hg, r2, hvs, hlt2, hq2⟩
  have hc := hq2.cell
  have HV := Lib.hid hvs
  have HG := Lib.hid hg
  clear hvs hg
  go_wp2
  go_ret
  refine ⟨by rw [Rc.Vs.whole HWL.out hb HV.out]; rfl, HB4.out.grown HG.out (by have := HS4.out; omega) (fun k e => by cases e; omega)⟩
end Go.Proofs.Yteegbkbphfmooaa
