/-
  slices.Compare at []int over rows of the same length. No conditions but the bounds that Go gives a slice.
-/
import Derived.Test.YteegbkbphfmooaaQu
import Derived.Test.YteegbkbphfmooaaShelfC
namespace Go.Proofs.Yteegbkbphfmooaa
open Go.ChangeShapes Go.WideShapes Go.ChangeAt Go.RowKit Go.Sort
set_option linter.unusedVariables false

/-- Two lists of digits that are alike up to an index at which the one has less. -/
theorem Rv.vl_less {x y : List Nat} {j : Nat} (hl : x.length = y.length) (hx : ∀ z ∈ x, z < 8) (hy : ∀ z ∈ y, z < 8) (hj : j < x.length) (he : x.take j = y.take j) (hlt : x.getD j 0 < y.getD j 0) : Rv.vl x < Rv.vl y := by
  have hjy : j < y.length := by omega
  have e1 : x = x.take j ++ (x.getD j 0 :: x.drop (j + 1)) := by rw [← Rv.drop_cons 0 hj, List.take_append_drop]
  have e2 : y = y.take j ++ (y.getD j 0 :: y.drop (j + 1)) := by rw [← Rv.drop_cons 0 hjy, List.take_append_drop]
  have hd : (x.drop (j + 1)).length = (y.drop (j + 1)).length := by simp [hl]
  have h1 := Rv.vl_lt (x.drop (j + 1)) (fun z hz => hx z (List.mem_of_mem_drop hz))
  have h2 : ∀ (p q : List Nat) (a : Nat), Rv.vl (p ++ (a :: q)) = Rv.vl p * 8 ^ (q.length + 1) + (a * 8 ^ q.length + Rv.vl q) := by
    intro p q a
    have : Rv.vl (p ++ (a :: q)) = (a :: q).foldl (fun n a => n * 8 + a) (Rv.vl p) := by unfold Rv.vl; rw [List.foldl_append]
    rw [this, Rv.vl_from, Rv.vl_cons, List.length_cons]
  rw [e1, e2, h2, h2, he, hd]
  rw [hd] at h1
  have h3 := Nat.mul_le_mul_right (8 ^ (y.drop (j + 1)).length) (show x.getD j 0 + 1 ≤ y.getD j 0 from hlt)
  rw [Nat.add_mul, Nat.one_mul] at h3
  omega

set_option maxRecDepth 100000 in
set_option maxHeartbeats 1000000 in
theorem compare_any (k : Nat) (a b : Option Addr) (x y : List Nat) (ca cb : Nat) (w : World) (hk : k ≤ 8) (hlx : x.length = k) (hly : y.length = k) (hx8 : ∀ z ∈ x, z < 8) (hy8 : ∀ z ∈ y, z < 8) (ha : IntRow w a (ni x)) (hb : IntRow w b (ni y)) :
    Calls Try.prog 163 #[.slice a k ca, .slice b k cb] w fun e w' => (∃ z : Int, e = .returned (.int .i64 z) ∧ decide (z < 0) = decide (Rv.vl x < Rv.vl y)) ∧ w' = w := by
  have HA := Lib.hid ha
  have HB := Lib.hid hb
  clear ha hb
  go_enter Try.func163, Try.ntmps163
  go_wp2
  go_loopw [11] (fun i wr => ∃ j : Nat, j ≤ k ∧ i = .int .i64 (j : Int) ∧ Hid (x.take j = y.take j) ∧ wr = w) (fun i _ => k - (intOf i).toNat)
  case atStart => exact ⟨0, Nat.zero_le _, rfl, rfl, rfl⟩
  case round =>
    obtain ⟨j, hj, rfl, he, rfl⟩ := hrel
    by_cases hlt : j < k
    · obtain ⟨ba, oa, rfl, _, hcx⟩ := ord_at HA.out (show j < x.length by omega)
      obtain ⟨bb, ob, rfl, _, hcy⟩ := ord_at HB.out (show j < y.length by omega)
      obtain ⟨p, hp⟩ : ∃ p, p = x.getD j 0 := ⟨_, rfl⟩
      obtain ⟨q, hq⟩ : ∃ q, q = y.getD j 0 := ⟨_, rfl⟩
      rw [← hp] at hcx
      rw [← hq] at hcy
      have hji : (j : Int) < (k : Int) := by omega
      have hnk : ¬ (k : Int) ≤ (j : Int) := by omega
      have HCM := Lib.hid (fun W => Try.cmp_Compare_int (p : Int) (q : Int) W)
      have HP := Lib.hid hp
      have HQ := Lib.hid hq
      rcases Nat.lt_trichotomy p q with h | h | h
      · have hc : Lib.compareInt (p : Int) (q : Int) = -1 := by unfold Lib.compareInt; rw [if_pos (by omega)]
        have HL : Hid (Rv.vl x < Rv.vl y) := Rv.vl_less (by omega) hx8 hy8 (by omega) he.out (by rw [← HP.out, ← HQ.out]; exact h)
        rw [hc] at HCM
        clear hp hq he hc
        go_wp2_with fail
        refine (HCM.out _).mono ?_
        rintro e w2 ⟨rfl, rfl⟩
        go_wp2
        go_ret
        exact ⟨⟨-1, rfl, by rw [decide_eq_true HL.out]; rfl⟩, rfl⟩
      · have hc : Lib.compareInt (p : Int) (q : Int) = 0 := by unfold Lib.compareInt; rw [if_neg (by omega), if_neg (by omega)]
        have HN : Hid (x.take (j + 1) = y.take (j + 1)) := by
          show _ = _
          rw [Rv.take_snocN x j (by omega), Rv.take_snocN y j (by omega), he.out, ← HP.out, ← HQ.out, h]
        rw [hc] at HCM
        clear hp hq he hc h
        go_wp2_with fail
        refine (HCM.out _).mono ?_
        rintro e w2 ⟨rfl, rfl⟩
        go_wp2
        go_roundw
        case rel => exact ⟨j + 1, by omega, by go_num, HN, by first | rfl | trivial⟩
        case measure => simp [intOf]; omega
      · have hc : Lib.compareInt (p : Int) (q : Int) = 1 := by unfold Lib.compareInt; rw [if_neg (by omega), if_pos (by omega)]
        have HL : Hid (Rv.vl y < Rv.vl x) := Rv.vl_less (by omega) hy8 hx8 (by omega) he.out.symm (by rw [← HP.out, ← HQ.out]; exact h)
        rw [hc] at HCM
        clear hp hq he hc
        go_wp2_with fail
        refine (HCM.out _).mono ?_
        rintro e w2 ⟨rfl, rfl⟩
        go_wp2
        go_ret
        exact ⟨⟨1, rfl, by rw [decide_eq_false (Nat.not_lt_of_lt HL.out)]; rfl⟩, rfl⟩
    · obtain rfl : j = k := by omega
      have HE : Hid (x = y) := by
        have h := he.out
        rw [List.take_of_length_le (by omega), List.take_of_length_le (by omega)] at h
        exact h
      clear he
      go_wp2
      go_ret
      exact ⟨⟨0, rfl, by rw [HE.out, decide_eq_false (Nat.lt_irrefl _)]; rfl⟩, rfl⟩
end Go.Proofs.Yteegbkbphfmooaa
