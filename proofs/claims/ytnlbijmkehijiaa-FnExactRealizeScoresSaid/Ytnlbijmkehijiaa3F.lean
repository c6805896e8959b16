/-
  'SlackOf' of the program and of the model. No conditions but the bounds that Go gives a slice.
-/
import Derived.Test.Ytnlbijmkehijiaa3B
namespace Go.Proofs.Ytnlbijmkehijiaa
open Go.ChangeShapes Go.WideShapes Go.ChangeAt Go.RowKit
set_option linter.unusedVariables false

theorem pairsOf_succ (k : Nat) (w : World) (hk : k ≤ 8) : Calls Try.prog 57 #[.int .i64 ((k : Int) + 1)] w fun e w' => e = .returned (.int .i64 (Tmpm.prN (k + 1))) ∧ w = w' := by
  have h := pairsOf_any (k + 1) w (by omega)
  have e : ((k + 1 : Nat) : Int) = (k : Int) + 1 := rfl
  rw [e] at h
  exact h
theorem prn_wrap (k : Nat) (h : k ≤ 8) : wrap64 ((wrap64 (((k : Int) + 1) * (k : Int))).tdiv 2) = (Tmpm.prN (k + 1) : Int) := by
  have : ∀ n : Fin 9, wrap64 ((wrap64 (((n.val : Int) + 1) * (n.val : Int))).tdiv 2) = (Tmpm.prN (n.val + 1) : Int) := by decide +kernel
  exact this ⟨k, by omega⟩
theorem sum_bd (l : List Int) (k : Nat) (hk : k ≤ l.length) (h : ∀ j, j < k → 0 ≤ l.getD j 0 ∧ l.getD j 0 ≤ 1000) : 0 ≤ Tmpm.sumTo l k ∧ Tmpm.sumTo l k ≤ 1000 * (k : Int) := by
  induction k with
  | zero => rw [Tmpm.sumTo_zero]; omega
  | succ k ih =>
    obtain ⟨a, b⟩ := ih (by omega) (fun j hj => h j (by omega))
    have := h k (by omega)
    rw [Tmpm.sumTo_succ l k (by omega)]
    omega
def upI (R : List Int) (k : Nat) : List Value := (R.take k).map iv
theorem upI_succ (R : List Int) (k : Nat) (x : Int) (h : R[k]? = some x) : upI R (k + 1) = upI R k ++ [.int .i64 x] := by
  unfold upI
  rw [take_snoc R k x h, List.map_append]; rfl
theorem upI_all (R : List Int) : upI R R.length = R.map iv := by simp [upI]
theorem zerosI (k : Nat) (R : List Int) (h : R.length = k) : (madeCells #[Value.int .i64 0] k).toList = cpTo R 0 := by
  rw [toList_madeCells_one]; simp [cpTo, iv, h]
theorem len_int {l : List Int} (h : Tmpm.goodB l = false) : Tmpm.slackR l = [] := by unfold Tmpm.slackR; rw [h]; rfl
theorem len_good {l : List Int} (h : Tmpm.goodB l = true) : Tmpm.slackR l = Tmpm.slacks l := by unfold Tmpm.slackR; rw [h]; rfl

set_option maxHeartbeats 400000 in
theorem implSlack (a : Option Addr) (l : List Int) (cap : Nat) (w : World) (hrow : IntRow w a l) (hl : l.length ≤ maxLen) :
    Calls Try.prog 28 #[.slice a l.length cap] w fun e w' => (∃ a0 c0, e = .returned (.slice a0 (Tmpm.slackR l).length c0) ∧ w'.ownsRow w.heap.size 3 1 (.slice a0 (Tmpm.slackR l).length c0) (Tmpm.slackR l).length ((Tmpm.slackR l).map iv)) ∧ Below w.heap.size w w' := by
  obtain ⟨i0, hi, hz0, hz1, hz2⟩ := info_parts infoInt
  cases hz : isz (l.length : Int)
  · have HS := Lib.hid hz
    have HE : Hid (Tmpm.slackR l = []) := len_int (Tmpm.goodB_false (fun h => by simp [isz] at hz; omega))
    unfold maxLen at hl
    clear hz
    go_enter Try.func28, Try.ntmps28
    go_wp2_with fail
    refine (isSize_any _ _).mono ?_
    rintro e w' ⟨rfl, rfl⟩
    rw [HS.out]
    go_wp2
    go_ret
    exact ⟨⟨none, 0, by rw [HE.out]; rfl, by rw [HE.out]; exact World.ownsRow_nil _ _ _ _⟩, Below.refl _ _⟩
  · have HS := Lib.hid hz
    have h8 : l.length ≤ 8 := by simp [isz] at hz; omega
    have h1 : 1 ≤ l.length := by simp [isz] at hz; omega
    have hsl := Tmpm.slacks_len l
    have HLn := Lib.hid hsl
    clear hz hl hsl
    go_enter Try.func28, Try.ntmps28
    go_wp2_with fail
    refine (isSize_any _ _).mono ?_
    rintro e w' ⟨rfl, rfl⟩
    rw [HS.out]
    go_wp2_with (refine wpList_make_full _ rfl _ _ 22 rfl w.heap.size 3 i0 (.int .i64 0) 1 Try.underlying22 hi hz0 hz1 .i64 .i64 _ _ l.length rfl rfl rfl rfl ?c1 ?c2 ?c3 ?_)
    case c1 => rw [hz2]; omega
    case c2 => unfold maxLen; omega
    case c3 => exact Nat.le_refl _
    intro w1 hown hg
    have hb1 : Below w.heap.size w w1 := (Below.refl _ w).grown hg (Nat.le_refl _) (fun k hk => by cases hk)
    have hown1 : w1.ownsRow w.heap.size 3 1 (.slice (some ⟨w.heap.size, 0, none⟩) l.length l.length) l.length (cpTo (Tmpm.slacks l) 0) := by
      rw [zerosI _ (Tmpm.slacks l) HLn.out] at hown; exact hown
    clear hown hg
    go_wp2
    go_loopw [4, 16] (fun s i wr => ∃ k : Nat, k ≤ l.length ∧ i = .int .i64 k ∧ s = .int .i64 (Tmpm.sumTo l k) ∧ Hid (∀ j, j < k → 0 ≤ l.getD j 0 ∧ l.getD j 0 ≤ 1000) ∧ wr.ownsRow w.heap.size 3 1 (.slice (some ⟨w.heap.size, 0, none⟩) l.length l.length) l.length (cpTo (Tmpm.slacks l) k) ∧ Below w.heap.size w wr) (fun _ i _ => l.length - (intOf i).toNat)
    case atStart => exact ⟨0, Nat.zero_le _, rfl, rfl, fun j hj => absurd hj (Nat.not_lt_zero _), hown1, hb1⟩
    case round =>
      obtain ⟨k, hk, rfl, rfl, hgd, hown, hb⟩ := hrel
      obtain ⟨hs0, hs1⟩ := sum_bd l k hk hgd.out
      by_cases hlt : k < l.length
      · obtain ⟨b, off, rfl, hbb, hcx⟩ := hrow.at hlt
        have hcr := (hb.cell (p := ⟨b, off + k, none⟩) hbb).trans hcx
        have hsn := Tmpm.sumTo_succ l k hlt
        obtain ⟨x, hx⟩ : ∃ x, x = l.getD k 0 := ⟨_, rfl⟩
        obtain ⟨s, hse⟩ : ∃ s, s = Tmpm.sumTo l k := ⟨_, rfl⟩
        rw [← hx] at hcr hsn
        rw [← hse] at hs0 hs1 hsn ⊢
        have HSn := Lib.hid hsn
        have HX := Lib.hid hx
        have hib : (k : Int) < (l.length : Int) := by omega
        have hmx : l.length ≤ 9223372036854775807 := by omega
        clear hcx hsn hse hx
        by_cases hx0 : x < 0
        · have HE : Hid (Tmpm.slackR l = []) := len_int (Tmpm.goodB_false (fun h => by have := h.2.2 k hlt; rw [← HX.out] at this; omega))
          go_wp2
          go_ret
          exact ⟨⟨none, 0, by rw [HE.out]; rfl, by rw [HE.out]; exact World.ownsRow_nil _ _ _ _⟩, hb⟩
        by_cases hx1 : 1000 < x
        · have HE : Hid (Tmpm.slackR l = []) := len_int (Tmpm.goodB_false (fun h => by have := h.2.2 k hlt; rw [← HX.out] at this; omega))
          go_wp2
          go_ret
          exact ⟨⟨none, 0, by rw [HE.out]; rfl, by rw [HE.out]; exact World.ownsRow_nil _ _ _ _⟩, hb⟩
        · have hp := Tmpm.prN_vals (k + 1) (by omega)
          obtain ⟨p, hpe⟩ : ∃ p, p = Tmpm.prN (k + 1) := ⟨_, rfl⟩
          have hpo := pairsOf_succ k
          rw [← hpe] at hp hpo
          have HPO : Hid (∀ (w : World), k ≤ 8 → Calls Try.prog 57 #[.int .i64 ((k : Int) + 1)] w fun e w' => e = .returned (.int .i64 p) ∧ w = w') := hpo
          have hst := hown.stored k (iv (s + x - p))
          have hval : (Tmpm.slacks l).getD k 0 = s + x - p := by
            rw [Tmpm.slacks_getD l k hlt]; unfold Tmpm.slk; rw [HSn.out, hpe]
          have hset := cpTo_set (Tmpm.slacks l) k (by rw [HLn.out]; exact hlt)
          rw [hval] at hset
          rw [hset] at hst
          have hst2 : (wr.setCell ⟨w.heap.size, k, none⟩ (.int .i64 (s + x - p))).ownsRow w.heap.size 3 1 (.slice (some ⟨w.heap.size, 0, none⟩) l.length l.length) l.length (cpTo (Tmpm.slacks l) (k + 1)) := hst.1
          have hcy := hown.cellAt k (by omega)
          have hfr := hown.frozenAt k
          obtain ⟨u, hu⟩ : ∃ u, (cpTo (Tmpm.slacks l) k)[k]? = some u := ⟨_, List.getElem?_eq_getElem (by rw [cpTo_len _ _ (by rw [HLn.out]; exact hk), HLn.out]; exact hlt)⟩
          rw [hu] at hcy
          have H2 := Lib.hid hst2
          have hb3 : Below w.heap.size w (wr.setCell ⟨w.heap.size, k, none⟩ (.int .i64 (s + x - p))) := hb.setCell (p := ⟨w.heap.size, k, none⟩) (Nat.le_refl _) _
          have hgd2 : Hid (∀ j, j < k + 1 → 0 ≤ l.getD j 0 ∧ l.getD j 0 ≤ 1000) := by
            intro j hj
            by_cases e : j = k
            · subst e; rw [← HX.out]; omega
            · exact hgd.out j (by omega)
          have hk8 : k ≤ 8 := by omega
          clear hst hst2 hu hown hpe hval hset hpo hgd
          go_wp2_with fail
          refine (HPO.out _ hk8).mono ?_
          rintro e w' ⟨rfl, rfl⟩
          go_wp2
          go_roundw
          case rel => exact ⟨k + 1, by omega, by go_num, by rw [HSn.out], hgd2, H2.out, hb3⟩
          case measure => simp [intOf]; omega
      · obtain rfl : k = l.length := by omega
        have HE : Hid (Tmpm.slackR l = Tmpm.slacks l) := len_good ((Tmpm.goodB_iff l).2 ⟨h1, h8, hgd.out⟩)
        have hown2 : wr.ownsRow w.heap.size 3 1 (.slice (some ⟨w.heap.size, 0, none⟩) (Tmpm.slacks l).length l.length) (Tmpm.slacks l).length ((Tmpm.slacks l).map iv) := by
          have := hown
          rw [← HLn.out, cpTo_all] at this
          rw [HLn.out] at this ⊢
          exact this
        have HO := Lib.hid hown2
        clear hown hown2
        go_wp2
        go_ret
        exact ⟨⟨_, l.length, by rw [HE.out, HLn.out]; rfl, by rw [HE.out]; exact HO.out⟩, hb⟩

set_option maxHeartbeats 400000 in
theorem specSlack (a : Option Addr) (l : List Int) (cap : Nat) (w : World) (hrow : IntRow w a l) (hl : l.length ≤ maxLen) :
    Calls Try.prog 27 #[.slice a l.length cap] w fun e w' => (∃ a0 c0, e = .returned (.slice a0 (Tmpm.slackR l).length c0) ∧ w'.ownsRow w.heap.size 3 1 (.slice a0 (Tmpm.slackR l).length c0) (Tmpm.slackR l).length ((Tmpm.slackR l).map iv)) ∧ Below w.heap.size w w' := by
  obtain ⟨i0, hi, hz0, hz1, hz2⟩ := info_parts infoInt
  cases hz : (decide ((1 : Int) ≤ (l.length : Int)) && decide ((l.length : Int) ≤ 8))
  · have HS := Lib.hid hz
    have HE : Hid (Tmpm.slackR l = []) := len_int (Tmpm.goodB_false (fun h => by simp at hz; omega))
    unfold maxLen at hl
    clear hz
    go_enter Try.func27, Try.ntmps27
    go_wp2_with fail
    refine (l01In_any _ 1 8 _).mono ?_
    rintro e w' ⟨rfl, rfl⟩
    rw [HS.out]
    go_wp2
    go_ret
    exact ⟨⟨none, 0, by rw [HE.out]; rfl, by rw [HE.out]; exact World.ownsRow_nil _ _ _ _⟩, Below.refl _ _⟩
  · have HS := Lib.hid hz
    have h8 : l.length ≤ 8 := by simp at hz; omega
    have h1 : 1 ≤ l.length := by simp at hz; omega
    have hsl := Tmpm.slacks_len l
    have HLn := Lib.hid hsl
    obtain ⟨Wa, hWa⟩ : ∃ Wa, Wa = w.alloc (.cells #[] 3) := ⟨_, rfl⟩
    have hba : Below w.heap.size w Wa := by rw [hWa]; exact (Below.refl _ _).alloc (Nat.le_refl _) _
    have hO0 : Wa.ownsRow w.heap.size 3 1 (.slice (some ⟨w.heap.size, 0, none⟩) 0 0) 0 (upI (Tmpm.slacks l) 0) := by
      rw [hWa]; exact World.ownsRow_lit (base := w.heap.size) (e := 3) (size := 1) w #[] 0 (Nat.le_refl _) (by simp) rfl
    have HW := Lib.hid hWa
    clear hz hl hsl hWa
    go_enter Try.func27, Try.ntmps27
    go_wp2_with fail
    refine (l01In_any _ 1 8 _).mono ?_
    rintro e w' ⟨rfl, rfl⟩
    rw [HS.out]
    go_wp2
    rw [← HW.out]
    go_loopw [3, 4, 14] (fun out s i wr => ∃ (k : Nat) (v : Value), k ≤ l.length ∧ i = .int .i64 k ∧ v = out ∧ s = .int .i64 (Tmpm.sumTo l k) ∧ Hid (∀ j, j < k → 0 ≤ l.getD j 0 ∧ l.getD j 0 ≤ 1000) ∧ wr.ownsRow w.heap.size 3 1 v k (upI (Tmpm.slacks l) k) ∧ Below w.heap.size w wr) (fun _ _ i _ => l.length - (intOf i).toNat)
    case atStart => exact ⟨0, _, Nat.zero_le _, rfl, rfl, rfl, fun j hj => absurd hj (Nat.not_lt_zero _), hO0, hba⟩
    case round =>
      obtain ⟨k, v, hk, rfl, rfl, rfl, hgd, hown, hb⟩ := hrel
      obtain ⟨hs0, hs1⟩ := sum_bd l k hk hgd.out
      by_cases hlt : k < l.length
      · obtain ⟨b, off, rfl, hbb, hcx⟩ := hrow.at hlt
        have hcr := (hb.cell (p := ⟨b, off + k, none⟩) hbb).trans hcx
        have hsn := Tmpm.sumTo_succ l k hlt
        obtain ⟨x, hx⟩ : ∃ x, x = l.getD k 0 := ⟨_, rfl⟩
        obtain ⟨s, hse⟩ : ∃ s, s = Tmpm.sumTo l k := ⟨_, rfl⟩
        rw [← hx] at hcr hsn
        rw [← hse] at hs0 hs1 hsn ⊢
        have HSn := Lib.hid hsn
        have HX := Lib.hid hx
        have hib : (k : Int) < (l.length : Int) := by omega
        have hmx : l.length ≤ 9223372036854775807 := by omega
        clear hcx hsn hse hx
        cases hin : (decide (0 ≤ x) && decide (x ≤ 1000))
        · have HE : Hid (Tmpm.slackR l = []) := len_int (Tmpm.goodB_false (fun h => by have := h.2.2 k hlt; rw [← HX.out] at this; simp at hin; omega))
          have HI := Lib.hid hin
          clear hin
          go_wp2_with fail
          refine (l01In_any _ _ _ _).mono ?_
          rintro e w' ⟨rfl, rfl⟩
          rw [HI.out]
          go_wp2
          go_ret
          exact ⟨⟨none, 0, by rw [HE.out]; rfl, by rw [HE.out]; exact World.ownsRow_nil _ _ _ _⟩, hb⟩
        · have hx0 : 0 ≤ x ∧ x ≤ 1000 := by simpa using hin
          have HI := Lib.hid hin
          have hp := Tmpm.prN_vals (k + 1) (by omega)
          have hpw := prn_wrap k (by omega)
          obtain ⟨p, hpe⟩ : ∃ p, p = Tmpm.prN (k + 1) := ⟨_, rfl⟩
          rw [← hpe] at hp hpw
          have hval : (Tmpm.slacks l)[k]? = some (s + x - p) := by
            rw [Tmpm.slacks_at l k hlt]; unfold Tmpm.slk; rw [HSn.out, hpe]
          have hup : Hid (upI (Tmpm.slacks l) (k + 1) = upI (Tmpm.slacks l) k ++ [.int .i64 (s + x - p)]) := upI_succ _ _ _ hval
          have hgd2 : Hid (∀ j, j < k + 1 → 0 ≤ l.getD j 0 ∧ l.getD j 0 ≤ 1000) := by
            intro j hj
            by_cases e : j = k
            · subst e; rw [← HX.out]; exact hx0
            · exact hgd.out j (by omega)
          obtain ⟨hx1, hx2⟩ := hx0
          clear hpe hval hgd hin
          go_wp2_with fail
          refine (l01In_any _ _ _ _).mono ?_
          rintro e w' ⟨rfl, rfl⟩
          rw [HI.out]
          go_wp2_with (at_builtin; refine wpList_append_own _ rfl _ _ 22 rfl w.heap.size 3 i0 (.int .i64 0) 1 8 Try.underlying22 hi hz0 hz1 hz2 rfl (by decide) _ _ _ rfl (hown.alloc _) ⟨_, 0, none⟩ 1 1 [.int .i64 (s + x - p)] rfl rfl ?c1 ?c2 ?c3 ?c4 ?c5 ?_)
          case c1 =>
            intro j u hj
            match j, hj with
            | 0, hj => simp at hj; subst hj; simp [Addr.add]
          case c2 => intro u hu; simp at hu; subst hu; rfl
          case c3 => unfold maxLen; omega
          case c4 => omega
          case c5 => have := hb.size; simp; omega
          intro v' w3 hown' hgrow _
          have hb4 : Below w.heap.size w w3 := (hb.alloc hb.size _).grown hgrow (by have := hb.size; simp; omega) (fun k hk => (hown.lt k hk).1)
          rw [← hup.out] at hown'
          have H3 := Lib.hid hown'
          clear hown' hgrow hown hb hpw
          go_wp2
          go_roundw
          case rel => exact ⟨k + 1, _, by omega, by go_num, rfl, by rw [HSn.out], hgd2, H3.out, hb4⟩
          case measure => simp [intOf]; omega
      · obtain rfl : k = l.length := by omega
        have HE : Hid (Tmpm.slackR l = Tmpm.slacks l) := len_good ((Tmpm.goodB_iff l).2 ⟨h1, h8, hgd.out⟩)
        have hown2 : wr.ownsRow w.heap.size 3 1 v (Tmpm.slacks l).length ((Tmpm.slacks l).map iv) := by
          rw [← upI_all, HLn.out]; exact hown
        obtain ⟨a0, c0, rfl, _⟩ := own_read hown2
        have HO := Lib.hid hown2
        clear hown hown2
        go_wp2
        go_ret
        exact ⟨⟨a0, c0, by rw [HE.out]; rfl, by rw [HE.out]; exact HO.out⟩, hb⟩
end Go.Proofs.Ytnlbijmkehijiaa
