/-
  Reversals counted by the model; both 'OrderOk', both 'CountReversals'. No conditions but the bounds that Go gives a slice.
-/
import Derived.Test.YteegbkbphfmooaaQb
namespace Go.Proofs.Yteegbkbphfmooaa
open Go.ChangeShapes Go.WideShapes Go.ChangeAt Go.RowKit
set_option linter.unusedVariables false

theorem l02Beats_m (m : Nat) (a : Option Addr) (l : List Int) (cap i j : Nat) (w : World) (hm : l.length = m) (hrow : IntRow w a l) (h8 : m ≤ 8) (hi : i < m) (hj : j < 64) :
    Calls Try.prog 134 #[.agg #[.int .i64 (m : Int), .slice a m cap], .int .i64 i, .int .i64 j] w fun e w' => e = .returned (.bool (bt l i j)) ∧ Below w.heap.size w w' := by
  subst hm
  exact l02Beats_any _ a l cap i j w hrow (by unfold maxLen; omega) hi hj
theorem rv_bound {m : Nat} {o : List Nat} (f : Nat → Nat → Bool) (h : Rv.Od m o) (h8 : m ≤ 8) : Rv.rv f o ≤ 64 := by
  have h2 := Rv.rv_le f o
  have h4 : o.length * o.length ≤ 8 * 8 := Nat.mul_le_mul (by rw [h.len]; exact h8) (by rw [h.len]; exact h8)
  omega
theorem drop2 (o : List Nat) (k r : Nat) (h : k + 1 + r < o.length) : (o.drop (k + 1)).drop r = o.getD (k + 1 + r) 0 :: (o.drop (k + 1)).drop (r + 1) := by
  rw [List.drop_drop, List.drop_drop, Rv.drop_cons 0 (show k + 1 + r < o.length from h)]
  rfl

set_option maxRecDepth 100000 in
set_option maxHeartbeats 1000000 in
theorem l08Count_any (m : Nat) (a : Option Addr) (l : List Int) (cap : Nat) (an : Option Addr) (o : List Nat) (cn : Nat) (w : World) (hm : l.length = m) (hok : Ok m l) (hrow : IntRow w a l) (ho : Rv.Od m o) (hrn : IntRow w an (ni o)) (hcn : m ≤ cn) (hcm : cn ≤ maxLen) :
    Calls Try.prog 97 #[.agg #[.int .i64 (m : Int), .slice a m cap], .slice an m cn] w fun e w' => e = .returned (.int .i64 ((Rv.rv (bt l) o : Nat) : Int)) ∧ Below w.heap.size w w' := by
  have h8 : m ≤ 8 := by have := hok.2.1; omega
  obtain ⟨Wa, hWa⟩ : ∃ Wa, Wa = w.alloc (.cells #[.int .i64 (m : Int), .slice a m cap] 25) := ⟨_, rfl⟩
  have HWa := Lib.hid hWa
  have hba : Below w.heap.size w Wa := by rw [hWa]; exact (Below.refl _ _).alloc (Nat.le_refl _) _
  have xa : Box Wa w.heap.size 25 (.int .i64 (m : Int)) (.slice a m cap) := by rw [hWa]; exact Box.new _ _ _ _
  have R1 := Lib.hid (hrow.below hba (Nat.le_refl _))
  have N1 := Lib.hid (hrn.below hba (Nat.le_refl _))
  have X1 := Lib.hid xa
  have B1 := Lib.hid hba
  have HO := Lib.hid ho
  have HM := Lib.hid hm
  have hol := ho.len
  have HR : Hid (Rv.rv (bt l) o ≤ 64) := rv_bound _ ho h8
  have HCM := Lib.hid hcm
  clear hWa hba xa hrow hrn hok ho hm hcm
  go_enter Try.func97, Try.ntmps97
  go_wp2
  rw [← HWa.out]
  go_loopw [5, 12] (fun c i wr => ∃ k q : Nat, k ≤ m ∧ i = .int .i64 (k : Int) ∧ c = .int .i64 (q : Int) ∧ Hid (q + Rv.rv (bt l) (o.drop k) = Rv.rv (bt l) o) ∧ Below Wa.heap.size Wa wr) (fun _ i _ => m - (intOf i).toNat)
  case atStart => exact ⟨0, 0, Nat.zero_le _, rfl, rfl, by simp [Hid], Below.refl _ _⟩
  case round =>
    obtain ⟨k, q, hk, rfl, rfl, hq, hb⟩ := hrel
    by_cases hlt : k < m
    · have hko : k < o.length := by omega
      obtain ⟨bn, offn, rfl, hbn, hcx⟩ := ord_at N1.out hko
      have hcnr := (hb.cell (p := ⟨bn, offn + k, none⟩) hbn).trans hcx
      obtain ⟨x, hx⟩ : ∃ x, x = o.getD k 0 := ⟨_, rfl⟩
      have hxm : x < m := by rw [hx]; exact HO.out.at hlt
      rw [← hx] at hcnr
      obtain ⟨ax, hax, hsl⟩ := slice_from bn offn m cn k (by omega) hcn HCM.out
      obtain ⟨R, hR⟩ : ∃ R, R = Rv.rv (bt l) (o.drop (k + 1)) := ⟨_, rfl⟩
      have HQ : Hid (q + ((o.drop (k + 1)).drop 0).countP (fun b => bt l b x) + R = Rv.rv (bt l) o) := by
        show _ = _
        have h1 := hq.out
        rw [Rv.rv_drop _ _ _ hko, ← hx, ← hR] at h1
        rw [List.drop_zero, Nat.add_assoc]; exact h1
      have HX := Lib.hid hx
      have HRR := Lib.hid hR
      have HAX := Lib.hid hax
      have hki : (k : Int) < (m : Int) := by omega
      have hxi : (x : Int) < (m : Int) := by omega
      have hb2 := hb
      clear hq hcx hx hR hax hb
      go_wp2
      go_loopw [5, 22] (fun c j wr => ∃ r q : Nat, r ≤ m - (k + 1) ∧ j = .int .i64 (r : Int) ∧ c = .int .i64 (q : Int) ∧ Hid (q + ((o.drop (k + 1)).drop r).countP (fun b => bt l b x) + R = Rv.rv (bt l) o) ∧ Below Wa.heap.size Wa wr) (fun _ j _ => m - (k + 1) - (intOf j).toNat)
      case atStart => exact ⟨0, q, Nat.zero_le _, rfl, rfl, HQ, hb2⟩
      case round =>
        clear hb2 HQ hcnr
        obtain ⟨r, q, hr, rfl, rfl, hq, hb⟩ := hrel
        by_cases hlt2 : r < m - (k + 1)
        · obtain rfl := HAX.out (by omega)
          have hjo : k + 1 + r < o.length := by omega
          obtain ⟨b2, off2, he2, hbn2, hcx⟩ := ord_at N1.out hjo
          obtain ⟨rfl, rfl⟩ : bn = b2 ∧ offn = off2 := by simpa using he2
          rw [show offn + (k + 1 + r) = offn + (k + 1) + r by omega] at hcx
          have hcyr := (hb.cell (p := ⟨bn, offn + (k + 1) + r, none⟩) hbn).trans hcx
          obtain ⟨y, hy⟩ : ∃ y, y = o.getD (k + 1 + r) 0 := ⟨_, rfl⟩
          have hym : y < m := by rw [hy]; exact HO.out.at (by omega)
          rw [← hy] at hcyr
          have xr := X1.out.below hb X1.out.lt
          have c0 := xr.c0
          have c1 := xr.c1
          have HC := Lib.hid (fun (W : World) (hW : IntRow W a l) => l02Beats_m m a l cap y x W HM.out hW h8 hym (by omega))
          have HRr := Lib.hid (R1.out.below hb (Nat.le_refl _))
          have hri : (r : Int) < ((m - (k + 1) : Nat) : Int) := by omega
          have hd := drop2 o k r hjo
          rw [← hy] at hd
          have hq64 : q ≤ 64 := by have := hq.out; have := HR.out; omega
          cases hbt : bt l y x
          · have HN : Hid (q + ((o.drop (k + 1)).drop (r + 1)).countP (fun b => bt l b x) + R = Rv.rv (bt l) o) := by
              show _ = _
              have h1 := hq.out
              rw [hd, List.countP_cons] at h1
              simp only [hbt, Bool.false_eq_true, if_false, Nat.add_zero] at h1
              exact h1
            have HB := Lib.hid hbt
            clear hq hcx hy hd hbt xr
            go_wp2_with fail
            refine (HC.out _ HRr.out).mono ?_
            rintro e w2 ⟨rfl, hb3⟩
            rw [HB.out]
            have hb4 := hb.trans (hb3.mono hb.size)
            go_wp2
            go_roundw
            case rel => exact ⟨r + 1, q, by omega, by go_num, rfl, HN, hb4⟩
            case measure => simp [intOf]; omega
          · have HN : Hid ((q + 1) + ((o.drop (k + 1)).drop (r + 1)).countP (fun b => bt l b x) + R = Rv.rv (bt l) o) := by
              show _ = _
              have h1 := hq.out
              rw [hd, List.countP_cons] at h1
              simp only [hbt, if_true] at h1
              omega
            have HB := Lib.hid hbt
            clear hq hcx hy hd hbt xr
            go_wp2_with fail
            refine (HC.out _ HRr.out).mono ?_
            rintro e w2 ⟨rfl, hb3⟩
            rw [HB.out]
            have hb4 := hb.trans (hb3.mono hb.size)
            go_wp2
            go_roundw
            case rel => exact ⟨r + 1, q + 1, by omega, by go_num, by go_num, HN, hb4⟩
            case measure => simp [intOf]; omega
        · obtain rfl : r = m - (k + 1) := by omega
          have HN : Hid (q + Rv.rv (bt l) (o.drop (k + 1)) = Rv.rv (bt l) o) := by
            show _ = _
            have h1 := hq.out
            rw [List.drop_drop, List.drop_of_length_le (by omega)] at h1
            rw [← HRR.out]; simpa using h1
          clear hq
          go_wp2
          go_roundw
          case rel => exact ⟨k + 1, q, by omega, by go_num, rfl, HN, hb⟩
          case measure => simp [intOf]; omega
    · obtain rfl : k = m := by omega
      have HQ : Hid (q = Rv.rv (bt l) o) := by
        show q = _
        have h1 := hq.out
        rw [List.drop_of_length_le (by omega)] at h1
        simpa [Rv.rv] using h1
      have HB := Lib.hid (B1.out.trans (hb.mono B1.out.size))
      clear hq hb
      go_wp2
      go_ret
      exact ⟨by rw [← HQ.out]; rfl, HB.out⟩
end Go.Proofs.Yteegbkbphfmooaa
