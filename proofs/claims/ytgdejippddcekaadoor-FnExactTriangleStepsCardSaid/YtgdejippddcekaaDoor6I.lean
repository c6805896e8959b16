/-
  'slices.Equal' over numbers; 'IsTriangle' of the program. No conditions but the bounds that Go gives a slice.
-/
import Derived.Test.YtgdejippddcekaaDoor6D
import Derived.Test.YtgdejippddcekaaDoorWe
namespace Go.Proofs.YtgdejippddcekaaDoor
open Go.ChangeShapes Go.WideShapes Go.ChangeAt Go.RowKit Go.Shelf
attribute [local go_sem] Oper.semAt_some
set_option linter.unusedVariables false

theorem eq_at {x y : List Int} (hl : x.length = y.length) (h : ∀ j, j < x.length → x.getD j 0 = y.getD j 0) : x = y := by
  apply List.ext_getElem hl
  intro i h1 h2
  have := h i h1
  rw [List.getD_eq_getElem?_getD, List.getD_eq_getElem?_getD, List.getElem?_eq_getElem h1, List.getElem?_eq_getElem h2] at this
  simpa using this
def eqB (x y : List Int) : Bool := decide (x = y)
set_option maxHeartbeats 1000000 in
theorem equal_any (a b : Option Addr) (x y : List Int) (ca cb : Nat) (w : World) (ha : IntRow w a x) (hb : IntRow w b y) (hx : x.length ≤ maxLen) (hy : y.length ≤ maxLen) :
    Calls Tryd.prog 25 #[.slice a x.length ca, .slice b y.length cb] w fun e w' => e = .returned (.bool (eqB x y)) ∧ Below w.heap.size w w' := by
  have HA := Lib.hid ha
  have HB := Lib.hid hb
  clear ha hb
  unfold maxLen at hx hy
  by_cases hlen : x.length = y.length
  · have HE := Lib.hid hlen
    obtain ⟨m, hm⟩ : ∃ m, m = x.length := ⟨_, rfl⟩
    have hmy : m = y.length := hm.trans hlen
    have HM := Lib.hid hm
    have HMY := Lib.hid hmy
    have hm8 : m ≤ 9223372036854775807 := by omega
    rw [← hm, ← hmy]
    clear hlen hm hmy hx hy
    go_enter Tryd.func25, Tryd.ntmps25
    go_wp2
    go_loopw [13] (fun i wr => ∃ k : Nat, k ≤ m ∧ i = .int .i64 k ∧ (∀ j, j < k → x.getD j 0 = y.getD j 0) ∧ Below w.heap.size w wr) (fun i _ => m - (intOf i).toNat)
    case atStart => exact ⟨0, Nat.zero_le _, rfl, fun j h => absurd h (by omega), Below.refl _ _⟩
    case round =>
      obtain ⟨k, hk, rfl, hno, hbl⟩ := hrel
      have HN := Lib.hid hno
      have HBL := Lib.hid hbl
      clear hno
      by_cases hlt : k < m
      · obtain ⟨b1, o1, rfl, hb1, hc1⟩ := HA.out.at (k := k) (by rw [← HM.out]; exact hlt)
        obtain ⟨b2, o2, rfl, hb2, hc2⟩ := HB.out.at (k := k) (by rw [← HMY.out]; exact hlt)
        have hd1 := (hbl.cell (p := ⟨b1, o1 + k, none⟩) hb1).trans hc1
        have hd2 := (hbl.cell (p := ⟨b2, o2 + k, none⟩) hb2).trans hc2
        obtain ⟨u, hu⟩ : ∃ u, u = x.getD k 0 := ⟨_, rfl⟩
        obtain ⟨v, hv⟩ : ∃ v, v = y.getD k 0 := ⟨_, rfl⟩
        rw [← hu] at hd1
        rw [← hv] at hd2
        have HU := Lib.hid hu
        have HV := Lib.hid hv
        have hkb : (k : Int) < (m : Int) := by omega
        clear hu hv hc1 hc2 hbl hb1 hb2
        by_cases huv : u = v
        · have hq : (!(u == v)) = false := by simp [huv]
          have hq2 : (u == v) = true := by simp [huv]
          have HQ := Lib.hid huv
          clear huv
          go_wp2
          go_region
          all_goals
            go_wp2
            go_roundw
            case rel =>
              refine ⟨k + 1, by omega, by go_num, fun j hj => ?_, HBL.out.drew⟩
              rcases Nat.lt_or_ge j k with h | h
              · exact HN.out j h
              · obtain rfl : j = k := by omega
                rw [← HU.out, ← HV.out]; exact HQ.out
            case measure => simp [intOf]; omega
        · have hq : (!(u == v)) = true := by simp [huv]
          have hq2 : (u == v) = false := by simp [huv]
          have HF : Hid (eqB x y = false) := by
            show _ = _
            unfold eqB
            rw [decide_eq_false_iff_not]
            intro e
            exact huv (by rw [HU.out, HV.out, e])
          clear huv
          go_wp2
          go_region
          all_goals
            go_wp2
            go_ret
            exact ⟨by rw [HF.out]; rfl, HBL.out.drew⟩
      · obtain rfl : k = m := by omega
        have HF : Hid (eqB x y = true) := by
          show _ = _
          unfold eqB
          rw [decide_eq_true_iff]
          exact eq_at HE.out (fun j hj => HN.out j (by rw [HM.out]; exact hj))
        clear hbl
        go_wp2
        go_ret
        exact ⟨by rw [HF.out]; rfl, HBL.out⟩
  · have HF : Hid (eqB x y = false) := by
      show _ = _
      unfold eqB
      rw [decide_eq_false_iff_not]
      intro e
      exact hlen (by rw [e])
    have hq : decide (x.length = y.length) = false := by simpa using hlen
    have hq2 : ((x.length : Int) == (y.length : Int)) = false := by
      rw [beq_eq_false_iff_ne]; omega
    clear hlen
    go_enter Tryd.func25, Tryd.ntmps25
    go_wp2
    go_ret
    exact ⟨by rw [HF.out]; rfl, Below.refl _ _⟩

/-! Triangles of a list, and of the tour. -/
theorem mem_triL {l : List Int} {r : List Int} : r ∈ triL l ↔ ∃ a b c, a < l.length ∧ b < l.length ∧ c < l.length ∧ a < b ∧ a < c ∧ trB l a b c = true ∧ r = t3 a b c := by
  unfold triL triA triB triC
  simp only [List.mem_flatMap, List.mem_range]
  constructor
  · rintro ⟨a, ha, b, hb, hm⟩
    by_cases hab : a < b
    · rw [if_pos hab] at hm
      obtain ⟨c, hc, rfl⟩ := List.mem_map.1 hm
      rw [List.mem_filter, List.mem_range, Bool.and_eq_true, decide_eq_true_iff] at hc
      exact ⟨a, b, c, ha, hb, hc.1, hab, hc.2.1, hc.2.2, rfl⟩
    · rw [if_neg hab] at hm; cases hm
  · rintro ⟨a, b, c, ha, hb, hc, hab, hac, ht, rfl⟩
    refine ⟨a, ha, b, hb, ?_⟩
    rw [if_pos hab]
    exact List.mem_map.2 ⟨c, by rw [List.mem_filter, List.mem_range, Bool.and_eq_true, decide_eq_true_iff]; exact ⟨hc, hac, ht⟩, rfl⟩
theorem triOk_mem {n : Int} {l : List Int} (h : Ok n l) (r : List Int) : triOk l r = decide (r ∈ triL l) := by
  rw [Bool.eq_iff_iff, decide_eq_true_iff, mem_triL]
  unfold triOk
  constructor
  · intro ht
    simp only [Bool.and_eq_true, beq_iff_eq, decide_eq_true_iff] at ht
    obtain ⟨h3, ⟨p0, p1, p2⟩, h4, h5, b1, b2, b3⟩ := ht
    obtain ⟨x, hx, hxl⟩ := pl_nat p0
    obtain ⟨y, hy, hyl⟩ := pl_nat p1
    obtain ⟨z, hz, hzl⟩ := pl_nat p2
    have hr := len3 h3
    rw [hx, hy, hz] at hr
    rw [hx, hy] at b1
    rw [hy, hz] at b2
    rw [hz, hx] at b3
    simp only [Int.toNat_natCast] at b1 b2 b3
    rw [hx, hy] at h4
    rw [hx, hz] at h5
    refine ⟨x, y, z, hxl, hyl, hzl, by omega, by omega, ?_, hr⟩
    have hzy : z ≠ y := by
      intro e; subst e
      rw [h.self hyl] at b2; cases b2
    unfold trB
    simp [b1, b2, b3, hzy]
  · rintro ⟨a, b, c, ha, hb, hc, hab, hac, ht, rfl⟩
    unfold trB at ht
    simp only [Bool.and_eq_true] at ht
    unfold t3
    simp only [List.length_cons, List.length_nil, List.getD_cons_zero, List.getD_cons_succ, Int.toNat_natCast, Bool.and_eq_true, beq_self_eq_true, decide_eq_true_iff, true_and]
    exact ⟨⟨by simp [pl]; omega, by simp [pl]; omega, by simp [pl]; omega⟩, by omega, by omega, ht.2.1, ht.2.2.1, ht.2.2.2⟩
end Go.Proofs.YtgdejippddcekaaDoor
