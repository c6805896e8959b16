/-
  'TurnTour' of the model. No conditions but the bounds that Go gives a slice.
-/
import Derived.Test.YtkomhfkkgffmoaaI
import Derived.Shelf.Abstract
namespace Go.Proofs.Ytkomhfkkgffmoaa
open Go.ChangeShapes Go.WideShapes Go.ChangeAt Go.RowKit Go.Shelf
set_option linter.unusedVariables false

/-- A call by its contract as one step of a region that draws its order. -/
theorem step_call1 {P : Program} {ops : Array Oper} {o : Oper} {a : Act} {w : World} {K : Act → World → Prop} {Q : Exit → Act → World → Prop} {E : Prop} (hgd : o.guard = none) (f : FuncId) (x : Operand) (t : TypeId) (v0 : Value)
    (ho : o.op = .call { callee := .value (.func f), args := #[x], argTypes := #[t] }) (hx : a.eval x = v0) (ef : ∀ args w, (callFunc f args).run P w = .ok (.enter f args) w)
    {R : Value → World → Prop} (hc : Calls P f #[v0] w fun e w' => ∃ v, e = .returned v ∧ R v w') (h : ∀ v w', R v w' → K (a.put o.dst v) w') :
    if Region.wanted o (yielded ops a.tmps) = true then Oper.wp P o a w K Q else E := by
  have hw : Region.wanted o (yielded ops a.tmps) = true := by simp [Region.wanted, hgd]
  rw [if_pos hw]
  unfold Oper.wp
  have hv : a.eval (.func f) = .func (.func f) #[] #[] := rfl
  have hrun : (execOp a.eval o).run P w = .ok (.enter f #[v0]) w := by
    simp [execOp, ho, resolve, invoke, hx, hv, ef, Deferred.ofValue]
  rw [hrun, Oper.upon_enter]
  refine hc.mono ?_
  rintro e w' ⟨v, rfl, hr⟩
  exact h v w' hr
theorem wrapPow2 (k : Nat) (h : k ≤ 8) : IntKind.i64.wrap (2 ^ k) = ((2 ^ k : Nat) : Int) := by
  have : ∀ k : Fin 9, IntKind.i64.wrap (2 ^ k.val) = ((2 ^ k.val : Nat) : Int) := by decide +kernel
  exact this ⟨k, by omega⟩
theorem add_or (x k : Nat) (hx : x < 256) (hk : k < 8) (hb : x.testBit k = false) : x + 2 ^ k = x ||| 2 ^ k := by
  have : ∀ (x : Fin 256) (k : Fin 8), x.val.testBit k.val = false → x.val + 2 ^ k.val = x.val ||| 2 ^ k.val := by decide +kernel
  exact this ⟨x, hx⟩ ⟨k, hk⟩ hb
theorem add_lt (m x k : Nat) (hm : m ≤ 8) (hx : x < 2 ^ m) (hk : k < m) (hb : x.testBit k = false) : x + 2 ^ k < 2 ^ m := by
  rw [add_or x k (Nat.lt_of_lt_of_le hx (pow_le m hm)) (by omega) hb]
  exact Nat.or_lt_two_pow hx (Nat.pow_lt_pow_right (by decide) hk)

theorem l02All_any (a : Option Addr) (len cap m : Nat) (w : World) (hm : m ≤ 8) : Calls Try.prog 53 #[.agg #[.int .i64 m, .slice a len cap]] w fun e w' => e = .returned (.int .i64 ((2 ^ m : Nat) - 1)) ∧ Below w.heap.size w w' := by
  obtain ⟨P, hP⟩ : ∃ P, P = 2 ^ m := ⟨_, rfl⟩
  have hw := wrapPow m hm
  have h8 := pow_le m hm
  rw [← hP] at hw h8 ⊢
  clear hP
  go_enter Try.func53, Try.ntmps53
  go_wp2
  go_ret
  exact ⟨rfl, (Below.refl _ _).alloc (Nat.le_refl _) _⟩

/-- The numbers of the reversed tour. -/
def turnS (l : List Int) : List Nat := (List.range l.length).map fun a => 2 ^ l.length - 1 - (l.getD a 0).toNat - 2 ^ a
theorem turnS_len (l : List Int) : (turnS l).length = l.length := by simp [turnS]
theorem turnS_at (l : List Int) (k x : Nat) (hk : k < l.length) (hx : l.getD k 0 = (x : Int)) : (turnS l)[k]? = some (2 ^ l.length - 1 - x - 2 ^ k) := by
  simp only [turnS, List.getElem?_map, List.getElem?_range hk, Option.map_some, hx]
  rfl

set_option maxHeartbeats 4000000 in
theorem specTurn_ok (n : Int) (a : Option Addr) (l : List Int) (cap : Nat) (w : World) (hrow : IntRow w a l) (hl : l.length ≤ maxLen) (hok : okB n l = true) :
    Calls Try.prog 28 #[.agg #[.int .i64 n, .slice a l.length cap]] w fun e w' => (∃ a0 c0, e = .returned (.tuple #[.agg #[.int .i64 n, .slice a0 (turnS l).length c0], .bool true]) ∧ w'.ownsRow w.heap.size 3 1 (.slice a0 (turnS l).length c0) (turnS l).length ((turnS l).map nv)) ∧ Below w.heap.size w w' := by
  obtain ⟨i0, hi, hz0, hz1, hz2⟩ := info_parts infoInt
  obtain ⟨Wb, hWb⟩ : ∃ Wb, Wb = w.alloc (.cells #[.int .i64 n, .slice a l.length cap] 27) := ⟨_, rfl⟩
  obtain ⟨Wa, hWa⟩ : ∃ Wa, Wa = Wb.alloc (.cells #[.int .i64 0, .slice none 0 0] 27) := ⟨_, rfl⟩
  have sb : Wb.heap.size = w.heap.size + 1 := by rw [hWb]; simp
  have sa : Wa.heap.size = w.heap.size + 1 + 1 := by rw [hWa]; simp [sb]
  have hbb : Below w.heap.size w Wb := by rw [hWb]; exact (Below.refl _ _).alloc (Nat.le_refl _) _
  have hba : Below w.heap.size w Wa := by rw [hWa]; exact hbb.alloc hbb.size _
  have xt : Box Wa w.heap.size 27 (.int .i64 n) (.slice a l.length cap) := by
    rw [hWa]; exact (show Box Wb w.heap.size 27 (.int .i64 n) (.slice a l.length cap) by rw [hWb]; exact Box.new _ _ _ _).below ((Below.refl Wb.heap.size Wb).alloc (Nat.le_refl _) _) (by omega)
  have xr : Box Wa (w.heap.size + 1) 27 (.int .i64 0) (.slice none 0 0) := by rw [hWa, ← sb]; exact Box.new _ _ _ _
  have HWa : Hid (Wa = (w.alloc (.cells #[.int .i64 n, .slice a l.length cap] 27)).alloc (.cells #[.int .i64 0, .slice none 0 0] 27)) := by rw [hWa, hWb]; exact rfl
  have hrowa : IntRow Wa a l := hrow.below hba (Nat.le_refl _)
  have HL := Lib.hid hl
  clear hl hrow hWa hWb hbb
  have HO := Lib.hid hok
  have HK : Hid (Ok n l) := okB_iff.1 hok
  have hnl := HK.out.2.2.1
  have hl8 : l.length ≤ 8 := by have := HK.out.2.1; omega
  have hl1 : 1 ≤ l.length := by have := HK.out.1; omega
  subst hnl
  clear hok
  go_enter Try.func28, Try.ntmps28
  go_wp2_with fail
  rw [← HWa.out]
  refine (specTourOk _ a l cap Wa hrowa HL.out).mono ?_
  rintro e w1 ⟨rfl, hb1⟩
  rw [HO.out]
  have B1 := hba.trans (hb1.mono hba.size)
  have xr1 := xr.below hb1 xr.lt
  have xt1 := xt.below hb1 xt.lt
  have hrow1 := hrowa.below hb1 (Nat.le_refl _)
  obtain ⟨W4, hW4⟩ : ∃ W4, W4 = w1.alloc (.cells #[.int .i64 l.length, .slice none 0 0] 27) := ⟨_, rfl⟩
  have hbW4 : Below w1.heap.size w1 W4 := by rw [hW4]; exact (Below.refl _ _).alloc (Nat.le_refl _) _
  have xf : Box W4 w1.heap.size 27 (.int .i64 l.length) (.slice none 0 0) := by rw [hW4]; exact Box.new _ _ _ _
  have s4 : W4.heap.size = w1.heap.size + 1 := by rw [hW4]; simp
  have xr5 := xr1.below hbW4 xr1.lt
  have xt5 := xt1.below hbW4 xt1.lt
  have hrow5 := hrow1.below hbW4 (Nat.le_refl _)
  have B5 := B1.trans (hbW4.mono B1.size)
  have c0 := xt1.c0
  have c1 := xt5.c1
  rw [hW4] at c1
  have HW4 := Lib.hid hW4
  have sr := xr1.lt
  have st := xt1.lt
  have hw1 : w.heap.size ≤ w1.heap.size := B1.size
  have HR1 := Lib.hid hrow1
  have XR1 := Lib.hid xr1
  have HB1 := Lib.hid B1
  clear hW4 xr xt hrowa xr1 hrow1 hb1 hba hrow5 xr5 xt5 B5 B1
  go_wp2
  rw [← HW4.out]
  go_loopw [17] (fun i wr => ∃ (k : Nat) (av : Option Addr) (cv : Nat), k ≤ l.length ∧ i = .int .i64 k ∧ Hid (Box wr w1.heap.size 27 (.int .i64 l.length) (.slice av k cv)) ∧ Hid (wr.ownsRow W4.heap.size 3 1 (.slice av k cv) k (upTo (turnS l) k)) ∧ Hid (Below w1.heap.size w1 wr) ∧ W4.heap.size ≤ wr.heap.size) (fun i _ => l.length - (intOf i).toNat)
  case atStart => exact ⟨0, none, 0, Nat.zero_le _, rfl, xf, World.ownsRow_nil _ _ _ _, hbW4, Nat.le_refl _⟩
  case round =>
    obtain ⟨k, av, cv, hk, rfl, hbx, how, hbl, hsw⟩ := hrel
    by_cases hlt : k < l.length
    · obtain ⟨x, hx, hx2, hx8⟩ := HK.out.nat hlt
      obtain ⟨b, off, rfl, hbb, hcx⟩ := (HR1.out.below hbl.out (Nat.le_refl _)).at hlt
      rw [hx] at hcx
      have hib : (k : Int) < (l.length : Int) := by omega
      have hmx : l.length ≤ 9223372036854775807 := by omega
      have xtr := xt1.below hbl.out st
      have c0 := xtr.c0
      have c1 := xtr.c1
      have d0 := hbx.out.c0
      have d1 := hbx.out.c1
      obtain ⟨A, hA⟩ : ∃ A : Int, A = (2 ^ l.length : Nat) - 1 := ⟨_, rfl⟩
      have hself : x.testBit k = false := by
        have := (HK.out.2.2.2 k hlt).2.1
        rw [hx] at this; rw [← bi_nat]; exact this
      have hlt2 := add_lt _ x k hl8 hx2 hlt hself
      have CA : Hid (∀ W : World, Calls Try.prog 53 #[.agg #[.int .i64 (l.length : Int), .slice (some ⟨b, off, none⟩) l.length cap]] W fun e w' => ∃ v, e = .returned v ∧ (v = .int .i64 A ∧ Below W.heap.size W w')) := by
        intro W; rw [hA]; exact (l02All_any _ _ _ _ W hl8).mono fun e w' ⟨he, hb⟩ => ⟨_, he, rfl, hb⟩
      obtain ⟨P, hP⟩ : ∃ P, P = 2 ^ l.length := ⟨_, rfl⟩
      have hP8 : P ≤ 256 := by rw [hP]; exact pow_le _ hl8
      obtain ⟨pk, hpk⟩ : ∃ pk, pk = 2 ^ k := ⟨_, rfl⟩
      have hpw : IntKind.i64.wrap (2 ^ k) = (pk : Int) := by
        rw [hpk]; exact wrapPow2 k (by omega)
      have hpk8 : pk ≤ 256 := by rw [hpk]; exact pow_le _ (by omega)
      obtain ⟨s1, hs1⟩ : ∃ s1 : Int, s1 = A - x := ⟨_, rfl⟩
      have hA1 : IntKind.i64.wrap (A - x) = s1 := by rw [hs1, hA, ← hP]; exact IntWalk.i64_in _ (by omega)
      obtain ⟨z, hz⟩ : ∃ z : Int, z = s1 - pk := ⟨_, rfl⟩
      have hA2 : IntKind.i64.wrap (s1 - pk) = z := by rw [hz, hs1, hA, ← hP]; exact IntWalk.i64_in _ (by omega)
      have hzn : Hid (upTo (turnS l) (k + 1) = upTo (turnS l) k ++ [.int .i64 z]) := by
        show _ = _
        rw [upTo_succ _ _ _ (turnS_at l k x hlt hx)]
        have : ((2 ^ l.length - 1 - x - 2 ^ k : Nat) : Int) = z := by rw [hz, hs1, hA, ← hP, hpk]; rw [← hP] at hlt2; omega
        rw [this]
      have hcr : wr.cell? ⟨b, off + k, none⟩ = some (.int .i64 x) := hcx
      clear xtr hx hA hP hpk hs1 hz hlt2 hself hx2 hcx hP8 hpk8
      go_wp2
      go_region_law (first
        | (refine step_call1 rfl 53 (.tmp 24) 27 _ rfl rfl (enters_of Try.func53 (by kernel_rfl) rfl) (CA.out wr.drew) ?_
           rintro _ w2 ⟨rfl, hbq⟩
           have hb2 : Below wr.heap.size wr w2 := (Below.refl _ wr).drew.trans hbq
           have Y2 := Lib.hid ((hbx.out.below hb2 hbx.out.lt).more (.cells #[.int .i64 z] 3))
           have O2 := Lib.hid ((own_below how.out hb2).alloc (.cells #[.int .i64 z] 3))
           have k1 := (hbx.out.below hb2 hbx.out.lt).c1
           have k2 := Y2.out.c1
           have S2 := Lib.hid (show w2.heap.size < (w2.alloc (.cells #[.int .i64 z] 3)).heap.size by simp)
           have H2 := Lib.hid (show W4.heap.size ≤ (w2.alloc (.cells #[.int .i64 z] 3)).heap.size by have := hb2.size; simp; omega)
           have N2 : Hid (∀ j v, ([.int .i64 z] : List Value)[j]? = some v → (w2.alloc (.cells #[.int .i64 z] 3)).cell? ((⟨w2.heap.size, 0, none⟩ : Addr).add j) = some v) := (by
             intro j u hj
             match j, hj with
             | 0, hj => simp at hj; subst hj; simp [Addr.add])
           clear hbq)
        | (refine step_append_lies (w2.alloc (.cells #[.int .i64 z] 3)) rfl (.tmp 23) (.tmp 31) 22 rfl W4.heap.size 3 i0 (.int .i64 0) 1 8 Try.underlying22 hi hz0 hz1 hz2 rfl (by decide) (.slice av k cv) k _ rfl O2.out ⟨w2.heap.size, 0, none⟩ 1 1 [.int .i64 z] rfl rfl N2.out (by intro u hu; simp at hu; subst hu; rfl) (by omega) (by unfold maxLen; omega) (by omega) H2.out _ rfl ?_
           intro g ck w3 hown3 hgrow hat hlt3
           have y3 := Y2.out.grown hgrow (by rw [blk_own]; intro e; have := (own_blk how.out e).1; omega)
           have d31 := y3.c1
           have q31 := y3.f1
           have O3 := Lib.hid hown3
           have Y3 := Lib.hid y3
           have G3 := Lib.hid hgrow
           clear hown3 hgrow hat y3))
      all_goals
        have hgW : W4.heap.size ≤ g := (O3.out.lt g rfl).1
        have hgp : Hid (g ≠ w1.heap.size) := (show g ≠ _ from by omega)
        have G4 : Hid (Below w1.heap.size w1 (w3.setCell ⟨w1.heap.size, 1, none⟩ (.slice (some ⟨g, 0, none⟩) (k + 1) ck))) := by
          have b2 := hbl.out.trans (hb2.mono hbl.out.size)
          have b3 := b2.alloc b2.size (.cells #[.int .i64 z] 3)
          have b4 := b3.grown G3.out b3.size (fun j e => by rw [blk_own] at e; have := (own_blk how.out e).1; omega)
          exact b4.setCell (p := ⟨w1.heap.size, 1, none⟩) (Nat.le_refl _) _
        have Z4 : Hid (Box (w3.setCell ⟨w1.heap.size, 1, none⟩ (.slice (some ⟨g, 0, none⟩) (k + 1) ck)) w1.heap.size 27 (.int .i64 l.length) (.slice (some ⟨g, 0, none⟩) (k + 1) ck)) := Y3.out.set1 _
        have W5 : Hid ((w3.setCell ⟨w1.heap.size, 1, none⟩ (.slice (some ⟨g, 0, none⟩) (k + 1) ck)).ownsRow W4.heap.size 3 1 (.slice (some ⟨g, 0, none⟩) (k + 1) ck) (k + 1) (upTo (turnS l) (k + 1))) := by
          show World.ownsRow _ _ _ _ _ _ _
          rw [hzn.out]
          exact own_other O3.out ⟨w1.heap.size, 1, none⟩ _ (fun e => hgp.out e)
        have S5 : W4.heap.size ≤ (w3.setCell ⟨w1.heap.size, 1, none⟩ (.slice (some ⟨g, 0, none⟩) (k + 1) ck)).heap.size := by
          have := hb2.size; have := G3.out.size; simp at this ⊢; omega
        clear c0 c1 d0 d1 d31 q31 k1 k2 hb2
        go_wp2
        go_roundw
        case rel => exact ⟨k + 1, some ⟨g, 0, none⟩, ck, by omega, by go_num, Z4, W5, G4, S5⟩
        case measure => simp [intOf]; omega
    · obtain rfl : k = l.length := by omega
      have xr6 := XR1.out.below hbl.out sr
      have d0 := hbx.out.c0
      have d1 := hbx.out.c1
      have e0 := xr6.c0
      have e1 := xr6.c1
      have e2 := xr6.f0
      have e3 := xr6.f1
      have X6 := Lib.hid xr6
      have hlen := turnS_len l
      have HE : Hid (upTo (turnS l) l.length = (turnS l).map nv) := by show _ = _; rw [← hlen]; exact upTo_all _
      have HLE := Lib.hid hlen
      clear xr6 hlen
      go_wp2
      refine bodyPost_ret (v := .tuple #[.agg #[.int .i64 l.length, .slice av l.length cv], .bool true]) (Box.res2 rfl _ rfl rfl ((X6.out.set0 _).set1 _)) rfl ?_
      refine ⟨⟨av, cv, by rw [HLE.out], ?_⟩, ?_⟩
      · rw [HLE.out, ← HE.out]
        have := how.out
        exact (own_set (own_set this ⟨w.heap.size + 1, 0, none⟩ _ (by show w.heap.size + 1 < W4.heap.size; omega)) ⟨w.heap.size + 1, 1, none⟩ _ (by show w.heap.size + 1 < W4.heap.size; omega)).mono (by omega)
      · exact ((HB1.out.trans (hbl.out.mono hw1)).setCell (p := ⟨w.heap.size + 1, 0, none⟩) (Nat.le_succ _) _).setCell (p := ⟨w.heap.size + 1, 1, none⟩) (Nat.le_succ _) _

end Go.Proofs.Ytkomhfkkgffmoaa
