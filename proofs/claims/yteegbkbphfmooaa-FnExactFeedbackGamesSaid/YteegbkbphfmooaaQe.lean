/-
  The first better order, orders made better and settled orders: the program's side. No conditions but the bounds that Go gives a slice.
-/
import Derived.Test.YteegbkbphfmooaaQd
namespace Go.Proofs.Yteegbkbphfmooaa
open Go.ChangeShapes Go.WideShapes Go.ChangeAt Go.RowKit Go.Sort
set_option linter.unusedVariables false

/-- What both searches for a better order return. -/
def BetR (m : Nat) (f : Nat → Nat → Bool) (o : List Nat) (w : World) (e : Ending) (w' : World) : Prop :=
  ((Rv.bet f o = none ∧ e = .returned (.tuple #[.slice none 0 0, .bool false])) ∨
    ∃ x g c, Rv.bet f o = some x ∧ e = .returned (.tuple #[.slice (some ⟨g, 0, none⟩) m c, .bool true]) ∧ w'.ownsRow w.heap.size 3 1 (.slice (some ⟨g, 0, none⟩) m c) m ((ni x).map iv)) ∧ Below w.heap.size w w'
theorem ord_own {w : World} {B g c m : Nat} {x : List Nat} (hl : x.length = m) (h : w.ownsRow B 3 1 (.slice (some ⟨g, 0, none⟩) m c) m ((ni x).map iv)) : IntRow w (some ⟨g, 0, none⟩) (ni x) := by
  have e : (ni x).length = m := by rw [ni_len]; exact hl
  subst e
  exact IntRow.of_own h

set_option maxRecDepth 100000 in
set_option maxHeartbeats 1000000 in
theorem firstBetter_any (m : Nat) (a : Option Addr) (l : List Int) (cap : Nat) (an : Option Addr) (o : List Nat) (cn : Nat) (w : World) (hm : l.length = m) (hok : Ok m l) (hrow : IntRow w a l) (ho : Rv.Od m o) (hrn : IntRow w an (ni o)) :
    Calls Try.prog 85 #[.agg #[.int .i64 (m : Int), .slice a m cap], .slice an m cn] w (BetR m (bt l) o w) := by
  have h8 : m ≤ 8 := by have := hok.2.1; omega
  obtain ⟨Wa, hWa⟩ : ∃ Wa, Wa = w.alloc (.cells #[.int .i64 (m : Int), .slice a m cap] 25) := ⟨_, rfl⟩
  have HWa := Lib.hid hWa
  have hba : Below w.heap.size w Wa := by rw [hWa]; exact (Below.refl _ _).alloc (Nat.le_refl _) _
  have xa : Box Wa w.heap.size 25 (.int .i64 (m : Int)) (.slice a m cap) := by rw [hWa]; exact Box.new _ _ _ _
  have R1 := Lib.hid (hrow.below hba (Nat.le_refl _))
  have N1 := Lib.hid (hrn.below hba (Nat.le_refl _))
  have X1 := Lib.hid xa
  have B1 := Lib.hid hba
  have HO := Lib.hid ho
  have hol := ho.len
  have HCR : Hid (∀ W an o cn, IntRow W a l → Rv.Od m o → IntRow W an (ni o) → Calls Try.prog 83 #[.agg #[.int .i64 (m : Int), .slice a m cap], .slice an m cn] W fun e w' => e = .returned (.int .i64 ((Rv.rv (bt l) o : Nat) : Int)) ∧ Below W.heap.size W w') :=
    fun W an o cn h1 h2 h3 => countRev_any m a l cap an o cn W hm hok h1 h2 h3
  obtain ⟨q, hq⟩ : ∃ q, q = Rv.rv (bt l) o := ⟨_, rfl⟩
  have HQ := Lib.hid hq
  have c0 := xa.c0
  have c1 := xa.c1
  clear hWa hba xa hrow hrn hok ho hm hq
  go_enter Try.func85, Try.ntmps85
  go_wp2_with fail
  rw [← HWa.out]
  refine (HCR.out Wa an o cn R1.out HO.out N1.out).mono ?_
  rintro e w1 ⟨rfl, hb1⟩
  rw [← HQ.out]
  have hb1' := hb1
  clear hb1 c0 c1
  go_wp2
  go_loopw [15] (fun i wr => ∃ k : Nat, k ≤ m ∧ i = .int .i64 (k : Int) ∧ Hid (Rv.NoB (bt l) o k) ∧ Below Wa.heap.size Wa wr) (fun i _ => m - (intOf i).toNat)
  case atStart => exact ⟨0, Nat.zero_le _, rfl, Rv.NoB.zero _ _, hb1'⟩
  case round =>
    obtain ⟨k, hk, rfl, hno, hb⟩ := hrel
    clear hb1'
    by_cases hlt : k < m
    · have hki : (k : Int) < (m : Int) := by omega
      have hb2 := hb
      clear hb
      go_wp2
      go_loopw [20] (fun j wr => ∃ r : Nat, r ≤ m ∧ j = .int .i64 (r : Int) ∧ Hid (Rv.NoB2 (bt l) o k r) ∧ Below Wa.heap.size Wa wr) (fun j _ => m - (intOf j).toNat)
      case atStart => exact ⟨0, Nat.zero_le _, rfl, hno.out.start, hb2⟩
      case round =>
        clear hb2
        obtain ⟨r, hr, rfl, hno2, hb⟩ := hrel
        by_cases hlt2 : r < m
        · have hri : (r : Int) < (m : Int) := by omega
          have HMV := Lib.hid (withMoved_any m an o cn k r wr HO.out h8 (N1.out.below hb (Nat.le_refl _)) hlt hlt2)
          obtain ⟨x, hx⟩ : ∃ x, x = Rv.mv o k r := ⟨_, rfl⟩
          rw [← hx] at HMV
          have hxo : Rv.Od m x := by rw [hx]; exact Rv.mv_od HO.out r hlt
          obtain ⟨p, hp⟩ : ∃ p, p = Rv.rv (bt l) x := ⟨_, rfl⟩
          have HP := Lib.hid hp
          have HXO := Lib.hid hxo
          have hss : Rv.lss (bt l) o k r = decide (p < q) := by unfold Rv.lss; rw [← hx, ← hp, ← HQ.out]
          have HX := Lib.hid hx
          by_cases hpq : p < q
          · rw [decide_eq_true hpq] at hss
            have HBT : Hid (Rv.bet (bt l) o = some x) := by
              show _ = _
              rw [hx]; exact Rv.bet_some hno2.out (by omega) (by omega) hss
            have hpqi : (p : Int) < (q : Int) := by omega
            clear hx hxo hp hss hno2 hno
            go_wp2_with fail
            refine HMV.out.mono ?_
            rintro e w2 ⟨⟨g, c, rfl, how⟩, hb2⟩
            have hb3 := hb.trans (hb2.mono hb.size)
            have xr := X1.out.below hb3 X1.out.lt
            have c0 := xr.c0
            have c1 := xr.c1
            have HOW := Lib.hid how
            have hor := ord_own HXO.out.len how
            have hra := R1.out.below hb3 (Nat.le_refl _)
            have HC := Lib.hid (HCR.out w2 (some ⟨g, 0, none⟩) x c hra HXO.out hor)
            clear how hor hra xr HMV hb2
            go_wp2_with fail
            refine HC.out.mono ?_
            rintro e w3 ⟨rfl, hb4⟩
            rw [← HP.out]
            have HF : Hid (w3.ownsRow w.heap.size 3 1 (.slice (some ⟨g, 0, none⟩) m c) m ((ni x).map iv)) := (own_below HOW.out hb4).mono (by have := B1.out.size; have := hb.size; omega)
            have HBB := Lib.hid (B1.out.trans ((hb3.trans (hb4.mono hb3.size)).mono B1.out.size))
            clear hb hb3 hb4 HC HOW c0 c1
            go_wp2
            go_ret2
            exact ⟨.inr ⟨x, g, c, HBT.out, rfl, HF.out⟩, HBB.out⟩
          · rw [decide_eq_false hpq] at hss
            have HN : Hid (Rv.NoB2 (bt l) o k (r + 1)) := hno2.out.next hss
            have hpqi : ¬ (p : Int) < (q : Int) := by omega
            clear hx hxo hp hss hno2 hno
            go_wp2_with fail
            refine HMV.out.mono ?_
            rintro e w2 ⟨⟨g, c, rfl, how⟩, hb2⟩
            have hb3 := hb.trans (hb2.mono hb.size)
            have xr := X1.out.below hb3 X1.out.lt
            have c0 := xr.c0
            have c1 := xr.c1
            have hor := ord_own HXO.out.len how
            have hra := R1.out.below hb3 (Nat.le_refl _)
            have HC := Lib.hid (HCR.out w2 (some ⟨g, 0, none⟩) x c hra HXO.out hor)
            clear how hor hra xr HMV hb2
            go_wp2_with fail
            refine HC.out.mono ?_
            rintro e w3 ⟨rfl, hb4⟩
            rw [← HP.out]
            have hb5 := hb3.trans (hb4.mono hb3.size)
            clear hb hb3 hb4 HC c0 c1
            go_wp2
            go_roundw
            case rel => exact ⟨r + 1, by omega, by go_num, HN, hb5⟩
            case measure => simp [intOf]; omega
        · obtain rfl : r = m := by omega
          have HN : Hid (Rv.NoB (bt l) o (k + 1)) := by
            have := hno2.out
            rw [← hol] at this
            exact this.end
          clear hno hno2
          go_wp2
          go_roundw
          case rel => exact ⟨k + 1, by omega, by go_num, HN, hb⟩
          case measure => simp [intOf]; omega
    · obtain rfl : k = m := by omega
      have HN : Hid (Rv.bet (bt l) o = none) := Rv.bet_none (by rw [hol]; exact hno.out)
      have HBB := Lib.hid (B1.out.trans (hb.mono B1.out.size))
      clear hno hb
      go_wp2
      go_ret2
      exact ⟨.inl ⟨HN.out, rfl⟩, HBB.out⟩
end Go.Proofs.Yteegbkbphfmooaa
