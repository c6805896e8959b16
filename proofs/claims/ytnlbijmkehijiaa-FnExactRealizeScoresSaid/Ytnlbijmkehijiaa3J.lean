/-
  The model's 'IsLandau'. No conditions but the bounds that Go gives a slice.
-/
import Derived.Test.Ytnlbijmkehijiaa3F
namespace Go.Proofs.Ytnlbijmkehijiaa
open Go.ChangeShapes Go.WideShapes Go.ChangeAt Go.RowKit
set_option linter.unusedVariables false

/-- Landau's conditions for the first k numbers. -/
structure LanTo (l : List Int) (k : Nat) : Prop where
  h0 : ∀ j, j < k → 0 ≤ l.getD j 0 ∧ l.getD j 0 ≤ 1000
  hm : ∀ j, j < k → l.getD (j - 1) 0 ≤ l.getD j 0
  hs : ∀ j, j < k → (Tmpm.prN (j + 1) : Int) ≤ Tmpm.sumTo l (j + 1)
theorem LanTo.step {l : List Int} {k : Nat} (h : LanTo l k) (a : 0 ≤ l.getD k 0 ∧ l.getD k 0 ≤ 1000) (b : l.getD (k - 1) 0 ≤ l.getD k 0) (c : (Tmpm.prN (k + 1) : Int) ≤ Tmpm.sumTo l (k + 1)) : LanTo l (k + 1) := by
  refine ⟨fun j hj => ?_, fun j hj => ?_, fun j hj => ?_⟩ <;> (by_cases e : j = k)
  · subst e; exact a
  · exact h.h0 j (by omega)
  · subst e; exact b
  · exact h.hm j (by omega)
  · subst e; exact c
  · exact h.hs j (by omega)
theorem n_wrap (k : Nat) (h : k ≤ 8) : wrap64 ((wrap64 ((k : Int) * ((k : Int) - 1))).tdiv 2) = (Tmpm.prN k : Int) := by
  have : ∀ n : Fin 9, wrap64 ((wrap64 ((n.val : Int) * ((n.val : Int) - 1))).tdiv 2) = (Tmpm.prN n.val : Int) := by decide +kernel
  exact this ⟨k, by omega⟩

set_option maxHeartbeats 1000000 in
theorem specLandau (a : Option Addr) (l : List Int) (cap : Nat) (w : World) (hrow : IntRow w a l) (hl : l.length ≤ maxLen) :
    Calls Try.prog 21 #[.slice a l.length cap] w fun e w' => e = .returned (.bool (Tmpm.landB l)) ∧ Below w.heap.size w w' := by
  cases hz : (decide ((1 : Int) ≤ (l.length : Int)) && decide ((l.length : Int) ≤ 8))
  · have HS := Lib.hid hz
    have HE : Hid (Tmpm.landB l = false) := Tmpm.landB_false (fun h => by have := h.h1; have := h.h8; simp at hz; omega)
    unfold maxLen at hl
    clear hz
    go_enter Try.func21, Try.ntmps21
    go_wp2_with fail
    refine (l01In_any _ 1 8 _).mono ?_
    rintro e w' ⟨rfl, rfl⟩
    rw [HS.out]
    go_wp2
    go_ret
    exact ⟨by rw [HE.out]; rfl, Below.refl _ _⟩
  · have HS := Lib.hid hz
    have h8 : l.length ≤ 8 := by simp at hz; omega
    have h1 : 1 ≤ l.length := by simp at hz; omega
    clear hz hl
    go_enter Try.func21, Try.ntmps21
    go_wp2_with fail
    refine (l01In_any _ 1 8 _).mono ?_
    rintro e w' ⟨rfl, rfl⟩
    rw [HS.out]
    go_wp2
    go_loopw [4, 14] (fun s i wr => ∃ k : Nat, k ≤ l.length ∧ i = .int .i64 k ∧ s = .int .i64 (Tmpm.sumTo l k) ∧ Hid (LanTo l k) ∧ Below w.heap.size w wr) (fun _ i _ => l.length - (intOf i).toNat)
    case atStart => exact ⟨0, Nat.zero_le _, rfl, rfl, ⟨fun j hj => absurd hj (Nat.not_lt_zero _), fun j hj => absurd hj (Nat.not_lt_zero _), fun j hj => absurd hj (Nat.not_lt_zero _)⟩, Below.refl _ _⟩
    case round =>
      obtain ⟨k, hk, rfl, rfl, hgd, hb⟩ := hrel
      obtain ⟨hs0, hs1⟩ := sum_bd l k hk hgd.out.h0
      by_cases hlt : k < l.length
      · obtain ⟨b, off, rfl, hbb, hcx⟩ := hrow.at hlt
        have hcr := (hb.cell (p := ⟨b, off + k, none⟩) hbb).trans hcx
        have hsn := Tmpm.sumTo_succ l k hlt
        obtain ⟨x, hx⟩ : ∃ x, x = l.getD k 0 := ⟨_, rfl⟩
        obtain ⟨s, hse⟩ : ∃ s, s = Tmpm.sumTo l k := ⟨_, rfl⟩
        rw [← hx] at hcr hsn
        rw [← hse] at hs0 hs1 hsn ⊢
        have HSn := Lib.hid hsn
        have HX := Lib.hid hx
        have hib : (k : Int) < (l.length : Int) := by omega
        have hmx : l.length ≤ 9223372036854775807 := by omega
        clear hcx hsn hse hx
        cases hin : (decide (0 ≤ x) && decide (x ≤ (l.length : Int) - 1))
        · have HE : Hid (Tmpm.landB l = false) := Tmpm.landB_false (fun h => by
            have p := h.h0 k hlt
            have q := h.le k hlt
            rw [← HX.out] at p q
            simp at hin; omega)
          have HI := Lib.hid hin
          clear hin
          go_wp2_with fail
          refine (l01In_any _ _ _ _).mono ?_
          rintro e w' ⟨rfl, rfl⟩
          rw [HI.out]
          go_wp2
          go_ret
          exact ⟨by rw [HE.out]; rfl, hb⟩
        · have hxx : 0 ≤ x ∧ x ≤ (l.length : Int) - 1 := by simpa using hin
          have HI := Lib.hid hin
          have hx0 := hxx.1
          have hx7 : x ≤ 7 := by omega
          clear hin hxx
          have hp := Tmpm.prN_vals (k + 1) (by omega)
          have hpw := prn_wrap k (by omega)
          obtain ⟨p, hpe⟩ : ∃ p, p = Tmpm.prN (k + 1) := ⟨_, rfl⟩
          rw [← hpe] at hp hpw
          have HP := Lib.hid hpe
          clear hpe
          by_cases hk0 : 0 < k
          · have hk0' : (0 : Int) < (k : Int) := by omega
            obtain ⟨b', off', he, _, hcy⟩ := hrow.at (k := k - 1) (by omega)
            obtain ⟨rfl, rfl⟩ : b = b' ∧ off = off' := by simpa using he
            have hcq := (hb.cell (p := ⟨b, off + (k - 1), none⟩) hbb).trans hcy
            obtain ⟨y, hy⟩ : ∃ y, y = l.getD (k - 1) 0 := ⟨_, rfl⟩
            rw [← hy] at hcq
            have HY := Lib.hid hy
            clear hy he hcy
            by_cases hd : x < y
            · have HE : Hid (Tmpm.landB l = false) := Tmpm.landB_false (fun h => by
                have := h.hm k hlt
                rw [← HX.out, ← HY.out] at this
                omega)
              go_wp2_with fail
              refine (l01In_any _ _ _ _).mono ?_
              rintro e w' ⟨rfl, rfl⟩
              rw [HI.out]
              go_wp2
              go_ret
              exact ⟨by rw [HE.out]; rfl, hb⟩
            · by_cases hq : s + x < (p : Int)
              · have HE : Hid (Tmpm.landB l = false) := Tmpm.landB_false (fun h => by
                  have := h.hs k hlt
                  rw [HSn.out, ← HP.out] at this
                  omega)
                go_wp2_with fail
                refine (l01In_any _ _ _ _).mono ?_
                rintro e w' ⟨rfl, rfl⟩
                rw [HI.out]
                go_wp2
                go_ret
                exact ⟨by rw [HE.out]; rfl, hb⟩
              · have hgd2 : Hid (LanTo l (k + 1)) := hgd.out.step (by rw [← HX.out]; omega) (by rw [← HX.out, ← HY.out]; omega) (by rw [HSn.out, ← HP.out]; omega)
                go_wp2_with fail
                refine (l01In_any _ _ _ _).mono ?_
                rintro e w' ⟨rfl, rfl⟩
                rw [HI.out]
                go_wp2
                go_roundw
                case rel => exact ⟨k + 1, by omega, by go_num, by rw [HSn.out], hgd2, hb⟩
                case measure => simp [intOf]; omega
          · have hk0' : ¬ (0 : Int) < (k : Int) := by omega
            by_cases hq : s + x < (p : Int)
            · have HE : Hid (Tmpm.landB l = false) := Tmpm.landB_false (fun h => by
                have := h.hs k hlt
                rw [HSn.out, ← HP.out] at this
                omega)
              go_wp2_with fail
              refine (l01In_any _ _ _ _).mono ?_
              rintro e w' ⟨rfl, rfl⟩
              rw [HI.out]
              go_wp2
              go_ret
              exact ⟨by rw [HE.out]; rfl, hb⟩
            · have hmo : l.getD (k - 1) 0 ≤ l.getD k 0 := by
                have hk00 : k = 0 := by omega
                rw [hk00]; exact Int.le_refl _
              have hgd2 : Hid (LanTo l (k + 1)) := hgd.out.step (by rw [← HX.out]; omega) hmo (by rw [HSn.out, ← HP.out]; omega)
              clear hmo
              go_wp2_with fail
              refine (l01In_any _ _ _ _).mono ?_
              rintro e w' ⟨rfl, rfl⟩
              rw [HI.out]
              go_wp2
              go_roundw
              case rel => exact ⟨k + 1, by omega, by go_num, by rw [HSn.out], hgd2, hb⟩
              case measure => simp [intOf]; omega
      · obtain rfl : k = l.length := by omega
        have hp := Tmpm.prN_vals l.length (by omega)
        have hpw := n_wrap l.length h8
        obtain ⟨p, hpe⟩ : ∃ p, p = Tmpm.prN l.length := ⟨_, rfl⟩
        obtain ⟨s, hse⟩ : ∃ s, s = Tmpm.sumTo l l.length := ⟨_, rfl⟩
        have HE : Hid (Tmpm.landB l = (s == (p : Int))) := by
          show _ = _
          rw [Bool.eq_iff_iff, Tmpm.landB_iff, beq_iff_eq, hse, hpe]
          exact ⟨fun h => h.he, fun h => ⟨h1, h8, fun i hi => (hgd.out.h0 i hi).1, hgd.out.hm, hgd.out.hs, h⟩⟩
        rw [← hse] at hs0 hs1 ⊢
        rw [← hpe] at hp hpw
        clear hse hpe
        go_wp2
        go_ret
        exact ⟨by rw [HE.out]; rfl, hb⟩
end Go.Proofs.Ytnlbijmkehijiaa
