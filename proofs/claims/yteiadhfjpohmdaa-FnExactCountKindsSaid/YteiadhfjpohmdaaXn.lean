/-
  'becomeNext' of the program: the next order. Conditions: one to eight numbers, in a row of the call's own.
-/
import Derived.Test.YteiadhfjpohmdaaXj
import Derived.Test.YteiadhfjpohmdaaShelfS
namespace Go.Proofs.Yteiadhfjpohmdaa
open Go.ChangeShapes Go.WideShapes Go.ChangeAt Go.RowKit Go.Sort
set_option linter.unusedVariables false

theorem put_tailX (cur : Array Value) (L ts : List Int) (n off cap : Nat) (hL : L.length = n) (hn : n ≤ cap) (hc : cur.size = cap) (hto : off + ts.length = n) (hcur : cur.toList.take n = L.map iv) :
    (putCells (Value.int .i64) off ts.toArray cur).toList.take n = (L.take off ++ ts).map iv := by
  apply List.ext_getElem?
  intro j
  rw [List.getElem?_take]
  by_cases hj : j < n
  · rw [if_pos hj]
    have hcj : cur[j]? = some (iv (L.getD j 0)) := by
      have := congrArg (fun M => M[j]?) hcur
      simp only [List.getElem?_take, if_pos hj, List.getElem?_map] at this
      rw [← Array.getElem?_toList, this, List.getElem?_eq_getElem (by omega), List.getD_eq_getElem?_getD, List.getElem?_eq_getElem (by omega)]
      rfl
    have e : (putCells (Value.int .i64) off ts.toArray cur)[j]? = some (if off ≤ j ∧ j < off + ts.toArray.size then Value.int .i64 ts.toArray[j - off]! else iv (L.getD j 0)) := by
      unfold putCells
      rw [Array.getElem?_mapIdx, hcj]
      rfl
    rw [Array.getElem?_toList, e, List.getElem?_map, List.getElem?_append, List.length_take]
    by_cases ho : off ≤ j
    · rw [if_pos ⟨ho, by simp; omega⟩, if_neg (by omega), show j - min off L.length = j - off by omega]
      rw [List.getElem?_eq_getElem (by omega)]
      simp [iv, getElem!_pos, show j - off < ts.length by omega]
    · rw [if_neg (by omega), if_pos (by omega), List.getElem?_take, if_pos (by omega), List.getElem?_eq_getElem (by omega), List.getD_eq_getElem?_getD, List.getElem?_eq_getElem (by omega)]
      rfl
  · rw [if_neg hj, List.getElem?_eq_none (by simp; omega)]

theorem rev_tailX (B g n cap off : Nat) (L : List Int) (w : World) (hL : L.length = n) (hoff : off < n) (hn : n ≤ 1000) (hown : w.ownsRow B 3 1 (.slice (some ⟨g, 0, none⟩) n cap) n (L.map iv)) :
    Calls Try.prog 118 #[.slice (some ⟨g, off, none⟩) (n - off) (cap - off)] w fun e w' => e = .returned (.tuple #[]) ∧ w'.ownsRow B 3 1 (.slice (some ⟨g, 0, none⟩) n cap) n ((L.take off ++ (L.drop off).reverse).map iv) ∧ w.grownBy w' (some g) := by
  have hO := hown
  rcases hown.2 with ⟨hn0, _⟩ | ⟨g2, cap', cur, he, hbase, hb, h1, h2, h3, h4⟩
  · cases hn0
  simp only [Value.slice.injEq, Option.some.injEq, Addr.mk.injEq, and_true, true_and] at he
  obtain ⟨rfl, rfl⟩ := he
  rw [Nat.mul_one] at h3 h4
  have hzl : (L.drop off).length = n - off := by rw [List.length_drop, hL]
  have hH : Holds (Value.int .i64) w g off (L.drop off).toArray := by
    intro j hj
    rw [List.size_toArray, hzl] at hj
    refine ⟨?_, ?_⟩
    · rw [cell_own hO (show off + j < n by omega)]
      simp [iv, List.getD_eq_getElem?_getD, show off + j < L.length by omega]
    · exact hO.frozenAt _
  have := Try.slices_Reverse_int g off (cap - off) (L.drop off) w hH (by omega)
  rw [hzl] at this
  refine this.mono ?_
  rintro e w' ⟨rfl, nn, rfl⟩
  have hheap : (putRow (Value.int .i64) (Sort.ahead w nn) g off (L.drop off).reverse.toArray).heap[g]? = some (.cells (putCells (Value.int .i64) off (L.drop off).reverse.toArray cur) 3 (0, 0)) := by
    simp [putRow, mapBlock, Sort.ahead, Array.getElem?_modify, hb, onCells]
  refine ⟨rfl, ⟨by simp; omega, .inr ⟨g, cap, _, rfl, hbase, hheap, h1, h2, by simp [putCells, h3], ?_⟩⟩, rfl, rfl, rfl, by simp [putRow, mapBlock, Sort.ahead], fun k hk hne => ?_⟩
  · rw [Nat.mul_one]
    exact put_tailX cur L (L.drop off).reverse n off cap hL h1 h3 (by rw [List.length_reverse, hzl]; omega) h4
  · have : g ≠ k := fun e => hne (by rw [e])
    simp [putRow, mapBlock, Sort.ahead, Array.getElem?_modify, this]

theorem rvT_map (s : List Nat) (a : Nat) : ((s.map Int.ofNat).take a ++ ((s.map Int.ofNat).drop a).reverse) = (Rn.rvT s a).map Int.ofNat := by
  unfold Rn.rvT; simp
theorem own_drewX {w : World} {B n : Nat} {v : Value} {xs : List Value} (h : w.ownsRow B 3 1 v n xs) : w.drew.ownsRow B 3 1 v n xs := h.drew
theorem grown_drewX (w : World) (row : Option Nat) : w.grownBy w.drew row := ⟨rfl, rfl, rfl, Nat.le_refl _, fun _ _ _ => rfl⟩
theorem grown_setX {w : World} (g off : Nat) (v : Value) : w.grownBy (w.setCell ⟨g, off, none⟩ v) (some g) := ⟨rfl, rfl, rfl, by simp [World.setCell], fun i hi hn => heap_setCell_other w ⟨g, off, none⟩ i _ (fun e => hn (by rw [e]))⟩

set_option maxRecDepth 100000 in
set_option maxHeartbeats 4000000 in
theorem becomeNext_any (B g n cap : Nat) (o : List Nat) (w : World) (hl : o.length = n) (hn1 : 1 ≤ n) (hn8 : n ≤ 8) (hown : w.ownsRow B 3 1 (.slice (some ⟨g, 0, none⟩) n cap) n (o.map nv)) :
    Calls Try.prog 170 #[.slice (some ⟨g, 0, none⟩) n cap] w fun e w' => e = .returned (.bool (Rn.nxt o).isSome) ∧ w'.ownsRow B 3 1 (.slice (some ⟨g, 0, none⟩) n cap) n (((Rn.nxt o).getD o).map nv) ∧ w.grownBy w' (some g) := by
  rw [nv_iv] at hown
  have hcap := own_cap hown
  unfold maxLen at hcap
  have HCAP := Lib.hid hcap
  have HL := Lib.hid hl
  have HOW := Lib.hid hown
  have hcell : ∀ (W : World), W.ownsRow B 3 1 (.slice (some ⟨g, 0, none⟩) n cap) n ((o.map Int.ofNat).map iv) → ∀ j, j < n → W.cell? ⟨g, j, none⟩ = some (.int .i64 ((o.getD j 0 : Nat) : Int)) := by
    intro W h j hj
    rw [cell_own h hj, List.getD_eq_getElem?_getD, List.getElem?_map, List.getD_eq_getElem?_getD, List.getElem?_eq_getElem (by omega)]
    rfl
  have HCELL := Lib.hid hcell
  have hn1i : (1 : Int) ≤ (n : Int) := by omega
  clear hcell hown hl hcap
  go_enter Try.func170, Try.ntmps170
  go_wp2
  go_loopw [3] (fun i wr => ∃ (k : Nat) (z : Int), k + 1 ≤ n ∧ i = .int .i64 z ∧ z + 1 = (k : Int) ∧ Hid (Rn.atF o (n - 1) = Rn.atF o k) ∧ Hid (wr.ownsRow B 3 1 (.slice (some ⟨g, 0, none⟩) n cap) n ((o.map Int.ofNat).map iv)) ∧ Hid (w.grownBy wr (some g))) (fun i _ => (intOf i + 1).toNat)
  case atStart => exact ⟨n - 1, _, by omega, rfl, by omega, rfl, HOW.out, World.grownBy.refl _ _⟩
  case round =>
    clear HOW
    obtain ⟨k, z, hk, rfl, hz, hat, how, hgr⟩ := hrel
    cases k with
    | zero =>
      obtain rfl : z = -1 := by omega
      have HN : Hid (Rn.nxt o = none) := by
        show _ = _
        unfold Rn.nxt
        rw [HL.out, hat.out]; rfl
      have H1 := Lib.hid how.out.drew
      have H2 : Hid (w.grownBy wr.drew (some g)) := hgr.out.trans (grown_drewX wr _)
      clear how hgr hat
      go_wp2
      go_region
      all_goals
        go_wp2
        go_ret
        refine ⟨by rw [HN.out]; rfl, ?_, H2.out⟩
        rw [HN.out, nv_iv]; exact H1.out
    | succ j =>
      obtain rfl : z = (j : Int) := by omega
      have hjn : (j : Int) < (n : Int) := by omega
      have hjn1 : (j : Int) + 1 < (n : Int) := by omega
      have hj0 : (0 : Int) ≤ (j : Int) := by omega
      have hw1 : IntKind.i64.wrap ((j : Int) + 1) = (j : Int) + 1 := IntWalk.i64_in _ ⟨by omega, by omega⟩
      have cx := HCELL.out wr how.out j (by omega)
      have cy := HCELL.out wr how.out (j + 1) (by omega)
      obtain ⟨x, hx⟩ : ∃ x, x = o.getD j 0 := ⟨_, rfl⟩
      obtain ⟨y, hy⟩ : ∃ y, y = o.getD (j + 1) 0 := ⟨_, rfl⟩
      rw [← hx] at cx
      rw [← hy] at cy
      have HX := Lib.hid hx
      have HY := Lib.hid hy
      have H1 := Lib.hid how.out.drew
      have H2 : Hid (w.grownBy wr.drew (some g)) := hgr.out.trans (grown_drewX wr _)
      clear hx hy how hgr hz
      by_cases hyx : y < x
      · have hyi : (y : Int) < (x : Int) := by omega
        have HA : Hid (Rn.atF o (n - 1) = Rn.atF o j) := by
          show _ = _
          rw [hat.out]
          show (if o.getD (j + 1) 0 < o.getD j 0 then Rn.atF o j else some j) = _
          rw [if_pos (by rw [← HX.out, ← HY.out]; exact hyx)]
        clear hyx hat
        go_wp2
        go_region
        all_goals
          clear cx cy
          go_wp2
          go_roundw
          case rel => exact ⟨j, _, by omega, rfl, by omega, HA.out, H1.out, H2.out⟩
          case measure => simp [intOf] <;> omega
      · have hyi : ¬ ((y : Int) < (x : Int)) := by omega
        have HA : Hid (Rn.atF o (n - 1) = some j) := by
          show _ = _
          rw [hat.out]
          show (if o.getD (j + 1) 0 < o.getD j 0 then Rn.atF o j else some j) = _
          rw [if_neg (by rw [← HX.out, ← HY.out]; exact hyx)]
        have HXY : Hid (x ≤ y) := (show x ≤ y by omega)
        clear hyx hat
        go_wp2
        go_region
        all_goals
          clear cx cy
          go_wp2
          go_loopw [4] (fun i wq => ∃ (b : Nat) (z : Int), b + 1 ≤ n ∧ j + 1 ≤ b ∧ i = .int .i64 z ∧ z = (b : Int) ∧ Hid (Rn.otF o x (n - 1) = Rn.otF o x b) ∧ Hid (wq.ownsRow B 3 1 (.slice (some ⟨g, 0, none⟩) n cap) n ((o.map Int.ofNat).map iv)) ∧ Hid (w.grownBy wq (some g))) (fun i _ => (intOf i).toNat)
          case atStart => exact ⟨n - 1, _, by omega, by omega, rfl, by omega, rfl, H1.out, H2.out⟩
          case round =>
            clear H1 H2
            obtain ⟨b, z, hbn, hjb, rfl, hzb, hot, how, hgr⟩ := hrel
            subst hzb
            have hbi : (b : Int) < (n : Int) := by omega
            have cx := HCELL.out _ how.out j (by omega)
            have cv := HCELL.out _ how.out b (by omega)
            rw [← HX.out] at cx
            obtain ⟨v, hv⟩ : ∃ v, v = o.getD b 0 := ⟨_, rfl⟩
            rw [← hv] at cv
            have HV := Lib.hid hv
            clear hv
            by_cases hvx : v < x
            · have hvi : (v : Int) < (x : Int) := by omega
              have hbj : b ≠ j + 1 := by
                intro e
                have h1 := HV.out
                rw [e, ← HY.out] at h1
                have := HXY.out; omega
              have HO : Hid (Rn.otF o x (n - 1) = Rn.otF o x (b - 1)) := by
                show _ = _
                rw [hot.out]
                obtain ⟨b', rfl⟩ : ∃ b', b = b' + 1 := ⟨b - 1, by omega⟩
                show (if o.getD (b' + 1) 0 < x then Rn.otF o x b' else b' + 1) = _
                rw [if_pos (by rw [← HV.out]; exact hvx)]; rfl
              have H1 := Lib.hid how.out.drew
              have H2 := Lib.hid (hgr.out.trans (grown_drewX _ _))
              clear hvx hot how hgr
              go_wp2
              go_region
              all_goals
                clear cx cv
                go_wp2
                go_roundw
                case rel => exact ⟨b - 1, _, by omega, by omega, rfl, by omega, HO.out, H1.out, H2.out⟩
                case measure => simp [intOf] <;> omega
            · have hvi : ¬ ((v : Int) < (x : Int)) := by omega
              have HO : Hid (Rn.otF o x (n - 1) = b) := by
                show _ = _
                rw [hot.out]
                obtain ⟨b', rfl⟩ : ∃ b', b = b' + 1 := ⟨b - 1, by omega⟩
                show (if o.getD (b' + 1) 0 < x then Rn.otF o x b' else b' + 1) = _
                rw [if_neg (by rw [← HV.out]; exact hvx)]
              have HNX : Hid (Rn.nxt o = some (Rn.rvT (Rn.swp o j b) (j + 1))) := by
                show _ = _
                unfold Rn.nxt
                rw [HL.out, HA.out]
                show some (Rn.rvT (Rn.swp o j (Rn.otF o (o.getD j 0) (n - 1))) (j + 1)) = _
                rw [← HX.out, HO.out]
              have H1 := Lib.hid how.out.drew
              have H2 := Lib.hid (hgr.out.trans (grown_drewX _ _))
              clear hvx hot how hgr HO
              go_wp2
              go_region
              all_goals
                obtain ⟨Wd, hWd⟩ : ∃ Wd : World, Wd = wr.drew := ⟨_, rfl⟩
                rw [← hWd] at H1 H2 ⊢
                have cx2 := HCELL.out Wd H1.out j (by omega)
                have cv2 := HCELL.out Wd H1.out b (by omega)
                rw [← HX.out] at cx2
                rw [← HV.out] at cv2
                have fx := H1.out.frozenAt j
                have fv := H1.out.frozenAt b
                have hjb2 : ¬ j = b := by omega
                have hbj2 : ¬ b = j := by omega
                have H3 : Hid (((Wd.setCell ⟨g, j, none⟩ (.int .i64 (v : Int))).setCell ⟨g, b, none⟩ (.int .i64 (x : Int))).drew.ownsRow B 3 1 (.slice (some ⟨g, 0, none⟩) n cap) n (((Rn.swp o j b).map Int.ofNat).map iv)) := by
                  show World.ownsRow _ _ _ _ _ _ _
                  have h1 := (H1.out.stored j (iv (v : Int))).1
                  have h2 := (h1.stored b (iv (x : Int))).1
                  have e : (((o.map Int.ofNat).map iv).set j (iv (v : Int))).set b (iv (x : Int)) = ((Rn.swp o j b).map Int.ofNat).map iv := by
                    unfold Rn.swp
                    rw [← HX.out, ← HV.out]
                    simp only [List.map_set]
                    rfl
                  rw [e] at h2
                  exact h2.drew
                have H4 : Hid (w.grownBy ((Wd.setCell ⟨g, j, none⟩ (.int .i64 (v : Int))).setCell ⟨g, b, none⟩ (.int .i64 (x : Int))).drew (some g)) :=
                  ((H2.out.trans (grown_setX g j _)).trans (grown_setX g b _)).trans (grown_drewX _ _)
                clear cx cv hWd
                go_wp2
                go_region
                all_goals
                  obtain ⟨W5, hW5⟩ : ∃ W5, W5 = ((Wd.setCell ⟨g, j, none⟩ (.int .i64 (v : Int))).setCell ⟨g, b, none⟩ (.int .i64 (x : Int))).drew := ⟨_, rfl⟩
                  rw [← hW5] at H3 H4 ⊢
                  obtain ⟨ad, had, hs⟩ := slice_rest1 g 0 n cap j (by omega) HCAP.out.1 (by unfold maxLen; exact HCAP.out.2)
                  obtain rfl := had (by omega)
                  rw [Nat.zero_add] at hs
                  have hw2 : ((j : Int) + 1).toNat = j + 1 := by omega
                  have hw3 : (0 : Int) ≤ (j : Int) + 1 := by omega
                  have hw4 : (j : Int) + 1 ≤ (n : Int) := by omega
                  have hcj : ¬ cap = j + 1 := by have := HCAP.out.1; omega
                  have hsl : ((Rn.swp o j b).map Int.ofNat).length = n := by rw [List.length_map, Rn.swp_len]; exact HL.out
                  have HREV := Lib.hid (rev_tailX B g n cap (j + 1) ((Rn.swp o j b).map Int.ofNat) W5 hsl (by omega) (by omega) H3.out)
                  clear hsl fx fv cx2 cv2 hW5
                  go_wp2_with fail
                  refine HREV.out.mono ?_
                  rintro e w6 ⟨rfl, ho6, hg6⟩
                  rw [rvT_map] at ho6
                  have H6 := Lib.hid ho6
                  have G6 := Lib.hid (H4.out.trans hg6)
                  clear ho6 hg6 hs
                  go_wp2
                  go_ret
                  refine ⟨by rw [HNX.out]; rfl, ?_, G6.out⟩
                  rw [HNX.out, nv_iv]; exact H6.out
end Go.Proofs.Yteiadhfjpohmdaa
