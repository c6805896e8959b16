/-
  Both 'DoAgree', on two lists that can be read. No conditions but the bounds that Go gives a slice.
-/
import Derived.Test.YtpndfmlkceplcaaC
namespace Go.Proofs.Ytpndfmlkceplcaa
open Go.ChangeShapes Go.WideShapes Go.ChangeAt Go.RowKit
set_option linter.unusedVariables false

theorem row_at {w : World} {a : Option Addr} {l : List Int} (h : IntRow w a l) {j : Nat} (hj : j < l.length) : ∃ b off, a = some ⟨b, off, none⟩ ∧ b < w.heap.size ∧ ∀ j, j < l.length → w.cell? ⟨b, off + j, none⟩ = some (.int .i64 (l.getD j 0)) := by
  rcases h with h | ⟨b, off, h1, h2, h3⟩
  · subst h; simp at hj
  · exact ⟨b, off, h1, h2, h3⟩
theorem isRanked_any (a : Option Addr) (n cap : Nat) (w : World) : Calls Try.prog 102 #[.slice a n cap] w fun e w' => e = .returned (.bool (decide ((n : Int) ≤ 40))) ∧ w = w' := by
  go_enter Try.func102, Try.ntmps102
  go_wp2
  go_ret
  exact ⟨rfl, rfl⟩

/-- Whether two places of two lists agree. -/
def agP (l m : List Int) (i k : Nat) : Bool := !(decide (l.getD k 0 < l.getD i 0) && decide (m.getD i 0 < m.getD k 0))
def AgP (l m : List Int) : Prop := l.length = m.length ∧ l.length ≤ 40 ∧ ∀ i k, i < l.length → k < l.length → agP l m i k = true
open Classical in
noncomputable def agB (l m : List Int) : Bool := decide (AgP l m)
open Classical in
theorem agB_yes {l m : List Int} (h : AgP l m) : agB l m = true := by unfold agB; exact decide_eq_true h
open Classical in
theorem agB_no {l m : List Int} (h : ¬ AgP l m) : agB l m = false := by unfold agB; exact decide_eq_false h

set_option maxRecDepth 100000 in
set_option maxHeartbeats 2000000 in
theorem implDoAgree (a : Option Addr) (l : List Int) (ca : Nat) (b : Option Addr) (m : List Int) (cb : Nat) (w : World) (ha : IntRow w a l) (hb : IntRow w b m) (hl : l.length ≤ maxLen) (hm : m.length ≤ maxLen) :
    Calls Try.prog 42 #[.slice a l.length ca, .slice b m.length cb] w fun e w' => e = .returned (.bool (agB l m)) ∧ Below w.heap.size w w' := by
  unfold maxLen at hl hm
  obtain ⟨n, hn⟩ : ∃ n, n = l.length := ⟨_, rfl⟩
  obtain ⟨q, hq⟩ : ∃ q, q = m.length := ⟨_, rfl⟩
  by_cases hne : n = q
  · by_cases h40 : n ≤ 40
    · have HR : Hid (decide ((n : Int) ≤ 40) = true) := decide_eq_true (by omega)
      have HG : Hid (decide ((n : Int) > 40) = false) := decide_eq_false (by omega)
      have h40i : (n : Int) ≤ 40 := by omega
      have h40g : ¬ (40 : Int) < (n : Int) := by omega
      obtain ⟨r, hr⟩ : ∃ r, r = agB l m := ⟨_, rfl⟩
      have HRR := Lib.hid hr
      have HA := Lib.hid ha
      have HB := Lib.hid hb
      have HN := Lib.hid hn
      have HQ := Lib.hid (hne.trans hq)
      rw [← hn, ← hq, ← hr]
      subst hne
      clear hr hl hm hq ha hb hn
      go_enter Try.func42, Try.ntmps42
      go_wp2_with (go_at_call 102; refine (isRanked_any a n ca _).mono ?_; rintro e w2 ⟨rfl, rfl⟩; rw [HR.out])
      go_wp2
      go_loopw [19] (fun i wr => ∃ x : Nat, x ≤ n ∧ i = .int .i64 (x : Int) ∧ Hid (∀ i k, i < x → k < n → agP l m i k = true) ∧ Below w.heap.size w wr) (fun i _ => n - (intOf i).toNat)
      case atStart => exact ⟨0, Nat.zero_le _, rfl, fun i k h => absurd h (Nat.not_lt_zero _), by first | exact Below.refl _ _ | exact below_drewN (Below.refl _ _) _ | exact (Below.refl _ _).drew⟩
      case round =>
        obtain ⟨x, hx, rfl, hI, hB⟩ := hrel
        by_cases hlt : x < n
        · have hxi : (x : Int) < (n : Int) := by omega
          have hB1 := hB
          clear hB
          go_wp2
          go_loopw [24] (fun i wr => ∃ y : Nat, y ≤ n ∧ i = .int .i64 (y : Int) ∧ Hid (∀ k, k < y → agP l m x k = true) ∧ Below w.heap.size w wr) (fun i _ => n - (intOf i).toNat)
          case atStart => exact ⟨0, Nat.zero_le _, rfl, fun k h => absurd h (Nat.not_lt_zero _), hB1⟩
          case round =>
            clear hB1
            obtain ⟨y, hy, rfl, hK, hB⟩ := hrel
            by_cases hlt2 : y < n
            · have hyi : (y : Int) < (n : Int) := by omega
              obtain ⟨b1, o1, rfl, hb1, hc1⟩ := row_at HA.out (show x < l.length by have := HN.out; omega)
              obtain ⟨b2, o2, rfl, hb2, hc2⟩ := row_at HB.out (show x < m.length by have := HQ.out; omega)
              have f1 := (hB.cell (p := ⟨b1, o1 + x, none⟩) hb1).trans (hc1 x (by have := HN.out; omega))
              have f2 := (hB.cell (p := ⟨b1, o1 + y, none⟩) hb1).trans (hc1 y (by have := HN.out; omega))
              have f3 := (hB.cell (p := ⟨b2, o2 + x, none⟩) hb2).trans (hc2 x (by have := HQ.out; omega))
              have f4 := (hB.cell (p := ⟨b2, o2 + y, none⟩) hb2).trans (hc2 y (by have := HQ.out; omega))
              have HP : Hid (agP l m x y = !(decide (l.getD y 0 < l.getD x 0) && decide (m.getD x 0 < m.getD y 0))) := rfl
              have hgo : agP l m x y = true → Hid (∀ k, k < y + 1 → agP l m x k = true) := fun h k hk => by
                rcases Nat.lt_or_ge k y with h2 | h2
                · exact hK.out k h2
                · rw [show k = y by omega]; exact h
              have hno : agP l m x y = false → Hid (r = false) := fun h => by
                show _ = _
                rw [HRR.out]
                refine agB_no fun hh => ?_
                rw [hh.2.2 x y (by have := HN.out; omega) (by have := HN.out; omega)] at h
                cases h
              have HGO := Lib.hid hgo
              have HNO := Lib.hid hno
              have HB2 : Hid (∀ wq : World, (∃ p : Regrown, wq = Go.Sort.grow (redrawn wr p.1) p.2) → Below w.heap.size w wq) := fun wq hq => by obtain ⟨⟨dq, osq⟩, hw''⟩ := hq; rw [hw'']; exact hB.trans ((below_regrown wr dq osq).mono hB.size)
              generalize l.getD x 0 = u1 at f1 HP
              generalize l.getD y 0 = u2 at f2 HP
              generalize m.getD x 0 = u3 at f3 HP
              generalize m.getD y 0 = u4 at f4 HP
              have q1 := fun d os => cell_regrown f1 d os
              have q2 := fun d os => cell_regrown f2 d os
              have q3 := fun d os => cell_regrown f3 d os
              have q4 := fun d os => cell_regrown f4 d os
              clear hc1 hc2 hgo hno hB hK f1 f2 f3 f4
              by_cases k1 : u2 < u1
              · have hd1 : decide (u2 < u1) = true := decide_eq_true k1
                by_cases k2 : u3 < u4
                · have HE := HNO.out (by rw [HP.out, decide_eq_true k1, decide_eq_true k2]; rfl)
                  clear HP HGO HNO
                  go_wp2
                  refine wp_region_quiet_below (by kernel_rfl) (by kernel_rfl) ?_
                  repeat (go_big_quiet_step (fail))
                  refine wpQuiet_nil ?_
                  intro wq hw'
                  have HB3 := Lib.hid (HB2.out wq hw')
                  clear hw' q1 q2 q3 q4
                  all_goals
                    go_wp2
                    go_ret
                    exact ⟨by rw [HE.out]; rfl, HB3.out⟩
                · have HE := HGO.out (by rw [HP.out, decide_eq_true k1, decide_eq_false k2]; rfl)
                  clear HP HGO HNO
                  go_wp2
                  refine wp_region_quiet_below (by kernel_rfl) (by kernel_rfl) ?_
                  repeat (go_big_quiet_step (fail))
                  refine wpQuiet_nil ?_
                  intro wq hw'
                  have HB3 := Lib.hid (HB2.out wq hw')
                  clear hw' q1 q2 q3 q4
                  all_goals
                    go_wp2
                    go_roundw
                    case rel => exact ⟨y + 1, by omega, by go_num, HE, HB3.out⟩
                    case measure => simp [intOf]; omega
              · have HE := HGO.out (by rw [HP.out, decide_eq_false k1]; rfl)
                have hd1 : decide (u2 < u1) = false := decide_eq_false k1
                clear HP HGO HNO
                go_wp2
                refine wp_region_quiet_below (by kernel_rfl) (by kernel_rfl) ?_
                repeat (go_big_quiet_step (fail))
                refine wpQuiet_nil ?_
                intro wq hw'
                have HB3 := Lib.hid (HB2.out wq hw')
                clear hw' q1 q2 q3 q4
                all_goals
                  go_wp2
                  go_roundw
                  case rel => exact ⟨y + 1, by omega, by go_num, HE, HB3.out⟩
                  case measure => simp [intOf]; omega
            · obtain rfl : y = n := by omega
              have hnext : Hid (∀ i k, i < x + 1 → k < y → agP l m i k = true) := fun i k hi hk => by
                rcases Nat.lt_or_ge i x with h2 | h2
                · exact hI.out i k h2 hk
                · rw [show i = x by omega]; exact hK.out k hk
              clear hI hK
              go_wp2
              go_roundw
              case rel => exact ⟨x + 1, by omega, by go_num, hnext, hB⟩
              case measure => simp [intOf]; omega
        · obtain rfl : x = n := by omega
          have HE : Hid (r = true) := by
            show _ = _
            rw [HRR.out]
            exact agB_yes ⟨HN.out.symm.trans HQ.out, by have := HN.out; omega, fun i k h1 h2 => hI.out i k (by have := HN.out; omega) (by have := HN.out; omega)⟩
          clear hI
          go_wp2
          go_ret
          exact ⟨by rw [HE.out]; rfl, hB⟩
    · have HR : Hid (decide ((n : Int) ≤ 40) = false) := decide_eq_false (by omega)
      have h40i : ¬ (n : Int) ≤ 40 := by omega
      have h40g : (40 : Int) < (n : Int) := by omega
      have HE : Hid (agB l m = false) := agB_no fun h => h40 (by have := h.2.1; omega)
      rw [← hn, ← hq]
      subst hne
      clear hq ha hb hn hl hm
      go_enter Try.func42, Try.ntmps42
      go_wp2_with (go_at_call 102; refine (isRanked_any a n ca _).mono ?_; rintro e w2 ⟨rfl, rfl⟩; rw [HR.out])
      all_goals
        go_wp2
        go_ret
        exact ⟨by rw [HE.out]; rfl, by first | exact Below.refl _ _ | exact (Below.refl _ _).drew⟩
  · have hne2 : ¬ (n : Int) = (q : Int) := by omega
    have HE : Hid (agB l m = false) := agB_no fun h => hne (by have := h.1; omega)
    rw [← hn, ← hq]
    clear hq ha hb hn hl hm
    go_enter Try.func42, Try.ntmps42
    go_wp2
    all_goals
      go_ret
      exact ⟨by rw [HE.out]; rfl, by first | exact Below.refl _ _ | exact (Below.refl _ _).drew⟩

end Go.Proofs.Ytpndfmlkceplcaa
