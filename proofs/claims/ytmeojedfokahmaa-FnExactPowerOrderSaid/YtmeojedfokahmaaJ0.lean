/-
  'l02List' of the model: the elements of a set. No conditions but that the set is small.
-/
import Derived.Test.YtmeojedfokahmaaK
import Derived.Test.YtmeojedfokahmaaN
namespace Go.Proofs.Ytmeojedfokahmaa
open Go.ChangeShapes Go.WideShapes Go.ChangeAt Go.RowKit
set_option linter.unusedVariables false

theorem elTo_done (x k : Nat) (h : x / 2 ^ k = 0) (hk : k ≤ 8) : elTo x k = elems x := by
  have hx : x < 2 ^ k := by
    rcases Nat.lt_or_ge x (2 ^ k) with h' | h'
    · exact h'
    · have := Nat.div_pos h' (Nat.two_pow_pos k); omega
  unfold elems elTo
  have e : (8 : Nat) = k + (8 - k) := by omega
  rw [e, List.range_add, List.filter_append]
  rw [show (List.map (k + ·) (List.range (8 - k))).filter (fun i => x.testBit i) = [] from by
    rw [List.filter_eq_nil_iff]
    intro b hb
    obtain ⟨c, _, rfl⟩ := List.mem_map.1 hb
    rw [Nat.testBit_lt_two_pow (Nat.lt_of_lt_of_le hx (Nat.pow_le_pow_right (by decide) (by omega)))]
    simp]
  simp

set_option maxHeartbeats 400000 in
theorem l02List_any (x : Nat) (hx : x < 256) (w : World) :
    Calls Try.prog 100 #[.int .i64 x] w fun e w' => (∃ g c, e = .returned (.slice (some ⟨g, 0, none⟩) (elems x).length c) ∧ w'.ownsRow w.heap.size 3 1 (.slice (some ⟨g, 0, none⟩) (elems x).length c) (elems x).length ((elems x).map nv)) ∧ Below w.heap.size w w' := by
  obtain ⟨i0, hi, hz0, hz1, hz2⟩ := info_parts infoInt
  have hO0 : (w.alloc (.cells #[] 3)).ownsRow w.heap.size 3 1 (.slice (some ⟨w.heap.size, 0, none⟩) 0 0) (elTo x 0).length ((elTo x 0).map nv) := own_empty w w.heap.size w.heap.size (Nat.le_refl _) rfl
  have hB0 := Below.one w (.cells #[] 3)
  go_enter Try.func100, Try.ntmps100
  go_wp2
  go_loopw [0, 3, 4] (fun st out i wr => ∃ (k y : Nat) (v : Value), k ≤ 8 ∧ y < 256 ∧ Hid (y = x / 2 ^ k) ∧ st = .int .i64 y ∧ i = .int .i64 k ∧ v = out ∧ wr.ownsRow w.heap.size 3 1 v (elTo x k).length ((elTo x k).map nv) ∧ (∃ g, v.ownBlock = some g) ∧ Below w.heap.size w wr) (fun st _ _ _ => (intOf st).toNat)
  case atStart => exact ⟨0, x, _, Nat.zero_le _, hx, by simp [Hid], rfl, rfl, rfl, hO0, ⟨_, rfl⟩, hB0⟩
  case round =>
    clear hO0 hB0
    obtain ⟨k, y, v, hk, hy8, hy, rfl, rfl, rfl, hown, hnn, hb⟩ := hrel
    by_cases h0 : 0 < y
    · have hi0 : (0 : Int) < (y : Int) := by omega
      have hk7 : k < 8 := by
        rcases Nat.lt_or_ge k 8 with h | h
        · exact h
        · exfalso
          have : k = 8 := by omega
          subst this
          have := hy.out
          omega
      obtain ⟨d, hd⟩ : ∃ d, d = y / 2 := ⟨_, rfl⟩
      have hdd : (y : Int) / 2 = (d : Int) := by omega
      have hdy : Hid (d = x / 2 ^ (k + 1)) := by show _ = _; rw [hd, hy.out, Nat.pow_succ, Nat.div_div_eq_div_mul]
      have hdl : d < y := by omega
      have hd8 : d < 256 := by omega
      have hbit : x.testBit k = decide (y % 2 = 1) := by rw [Nat.testBit_eq_decide_div_mod_eq, ← hy.out]
      have hlen := elTo_len x k
      by_cases hodd : y % 2 = 1
      · have hbb : (bits .and .i64 (y : Int) 1 == 1) = true := by rw [andOne, show (y : Int) % 2 = 1 by omega]; rfl
        have hsn := elTo_yes x k (by rw [hbit]; simpa using hodd)
        have HSN : Hid ((elTo x (k + 1)).length = (elTo x k).length + 1 ∧ (elTo x (k + 1)).map nv = (elTo x k).map nv ++ [.int .i64 k]) := by rw [hsn]; exact ⟨by simp, by rw [List.map_append]; rfl⟩
        obtain ⟨m, hm⟩ : ∃ m, m = (elTo x k).length := ⟨_, rfl⟩
        obtain ⟨cs, hcs⟩ : ∃ cs, cs = (elTo x k).map nv := ⟨_, rfl⟩
        rw [← hm, ← hcs] at hown
        rw [← hm] at hlen
        have HM := Lib.hid hm
        have HC := Lib.hid hcs
        clear hsn hm hcs hnn hd hbit hodd
        go_wp2_with (at_builtin; refine wpList_append_own _ rfl _ _ 23 rfl w.heap.size 3 i0 (.int .i64 0) 1 8 Try.underlying23 hi hz0 hz1 hz2 rfl (by decide) _ _ _ rfl (hown.alloc _) ⟨_, 0, none⟩ 1 1 [.int .i64 k] rfl rfl ?c1 ?c2 ?c3 ?c4 ?c5 ?_)
        case c1 =>
          intro j u hj
          match j, hj with
          | 0, hj => simp at hj; subst hj; simp [Addr.add]
        case c2 => intro u hu; simp at hu; subst hu; rfl
        case c3 => unfold maxLen; omega
        case c4 => omega
        case c5 => have := hb.size; simp; omega
        intro v' w3 hown' hgrow _
        have hb4 : Below w.heap.size w w3 := (hb.alloc hb.size _).grown hgrow (by have := hb.size; simp; omega) (fun k hk => (hown.lt k hk).1)
        have hnn' : ∃ g, v'.ownBlock = some g := by
          rcases hown'.2 with ⟨_, h0⟩ | ⟨g, cap, cur, rfl, _⟩
          · simp at h0
          · exact ⟨g, rfl⟩
        have H3 : Hid (w3.ownsRow w.heap.size 3 1 v' (elTo x (k + 1)).length ((elTo x (k + 1)).map nv)) := by
          show w3.ownsRow _ _ _ _ _ _
          rw [HSN.out.1, HSN.out.2, ← HM.out, ← HC.out]; simpa using hown'
        clear hown' hgrow hown hb
        go_wp2
        go_roundw
        case rel => exact ⟨k + 1, d, _, by omega, hd8, hdy, rfl, by go_num, rfl, H3.out, hnn', hb4⟩
        case measure => simp [intOf]; omega
      · have hbb : (bits .and .i64 (y : Int) 1 == 1) = false := by rw [andOne, show (y : Int) % 2 = 0 by omega]; rfl
        rw [← elTo_no x k (by rw [hbit]; simpa using hodd)] at hown
        have HO := Lib.hid hown
        clear hown hd hbit hodd
        go_wp2
        go_roundw
        case rel => exact ⟨k + 1, d, _, by omega, hd8, hdy, rfl, by go_num, rfl, HO.out, hnn, hb⟩
        case measure => simp [intOf]; omega
    · obtain rfl : y = 0 := by omega
      have hE : Hid (elTo x k = elems x) := elTo_done x k hy.out.symm hk
      rw [hE.out] at hown
      have HO := Lib.hid hown
      obtain ⟨g, hg⟩ := hnn
      have hv : Hid (∃ c, v = .slice (some ⟨g, 0, none⟩) (elems x).length c) := by
        rcases hown.2 with ⟨rfl, _⟩ | ⟨g', cap, cur, rfl, _⟩
        · cases hg
        · cases hg; exact ⟨cap, rfl⟩
      clear hown
      go_wp2
      go_ret
      obtain ⟨c, hc⟩ := hv.out
      exact ⟨⟨g, c, by rw [hc]; rfl, by rw [← hc]; exact HO.out⟩, hb⟩
end Go.Proofs.Ytmeojedfokahmaa
