/-
  'elementsOf': the elements of a set below 256, in a new row. No conditions else.
-/
import Derived.Test.YteiadhfjpohmdaaF
import Derived.Test.YteiadhfjpohmdaaShelf
namespace Go.Proofs.Yteiadhfjpohmdaa
open Go.ChangeShapes Go.WideShapes Go.ChangeAt Go.RowKit
set_option linter.unusedVariables false

theorem blen_le (x : Nat) (h : x < 256) : Lib.bitLen x ≤ 8 := by
  have : ∀ y : Fin 256, Lib.bitLen y.val ≤ 8 := by decide +kernel
  exact this ⟨x, h⟩
/-- The elements below k of a set. -/
def elTo (x k : Nat) : List Nat := (List.range k).filter fun i => x.testBit i
def elems (x : Nat) : List Nat := elTo x 8
theorem elTo_all (x : Nat) (h : x < 256) : elTo x (Lib.bitLen x) = elems x := by
  have : ∀ y : Fin 256, elTo y.val (Lib.bitLen y.val) = elems y.val := by decide +kernel
  exact this ⟨x, h⟩
theorem elTo_yes (x k : Nat) (h : x.testBit k = true) : elTo x (k + 1) = elTo x k ++ [k] := by simp [elTo, List.range_succ, h]
theorem elTo_no (x k : Nat) (h : x.testBit k = false) : elTo x (k + 1) = elTo x k := by simp [elTo, List.range_succ, h]
theorem elTo_len (x k : Nat) : (elTo x k).length ≤ k := by
  unfold elTo
  exact Nat.le_trans (List.length_filter_le _ _) (by simp)

set_option maxHeartbeats 400000 in
theorem elementsOf_any (x : Nat) (hx : x < 256) (w : World) :
    Calls Try.prog 84 #[.int .i64 x] w fun e w' => (∃ g c, e = .returned (.slice (some ⟨g, 0, none⟩) (elems x).length c) ∧ w'.ownsRow w.heap.size 3 1 (.slice (some ⟨g, 0, none⟩) (elems x).length c) (elems x).length ((elems x).map nv)) ∧ Below w.heap.size w w' := by
  obtain ⟨i0, hi, hz0, hz1, hz2⟩ := info_parts infoInt
  have hpc := pc_le x
  have hbl := blen_le x hx
  obtain ⟨B, hB⟩ : ∃ B, B = Lib.bitLen x := ⟨_, rfl⟩
  have HB := Lib.hid hB
  rw [← hB] at hbl
  clear hB
  go_enter Try.func84, Try.ntmps84
  go_wp2_with fail
  refine (countElements_any x hx _).mono ?_
  rintro e w' ⟨rfl, rfl⟩
  go_wp2_with (refine wpList_make_own _ rfl _ _ 22 rfl w.heap.size 3 i0 (.int .i64 0) 1 Try.underlying22 hi hz0 hz1 .i64 .i64 _ (pc x) rfl rfl rfl ?c1 ?c2 ?c3 ?_)
  case c1 => rw [hz2]; omega
  case c2 => unfold maxLen; omega
  case c3 => exact Nat.le_refl _
  intro w1 hown hg
  have hb1 : Below w.heap.size w w1 := (Below.refl _ w).grown hg (Nat.le_refl _) (fun k hk => by cases hk)
  clear hg
  go_wp2_with fail
  refine (Try.bits_Len x _ (by omega) (by omega)).mono ?_
  rintro e w' ⟨rfl, rfl⟩
  rw [show Lib.bitLen (x : Int).toNat = B from HB.out.symm]
  go_wp2
  go_loopw [3, 11] (fun out i wr => ∃ (k : Nat) (v : Value), k ≤ B ∧ i = .int .i64 k ∧ v = out ∧ wr.ownsRow w.heap.size 3 1 v (elTo x k).length ((elTo x k).map nv) ∧ (∃ g, v.ownBlock = some g) ∧ Below w.heap.size w wr) (fun _ i _ => B - (intOf i).toNat)
  case atStart => exact ⟨0, _, Nat.zero_le _, rfl, rfl, hown, ⟨_, rfl⟩, hb1⟩
  case round =>
    clear hown hb1
    obtain ⟨k, v, hk, rfl, rfl, hown, hnn, hb⟩ := hrel
    by_cases hlt : k < B
    · have hlen := elTo_len x k
      cases hbit : x.testBit k
      · rw [← elTo_no x k hbit] at hown
        have HB2 : Hid (bi x k = false) := by show _ = _; rw [bi_nat]; exact hbit
        have HO := Lib.hid hown
        clear hown hbit
        go_wp2_with fail
        refine (hasElement_any x k _ (by omega)).mono ?_
        rintro e w' ⟨rfl, rfl⟩
        rw [HB2.out]
        go_wp2
        go_roundw
        case rel => exact ⟨k + 1, _, by omega, by go_num, rfl, HO.out, hnn, hb⟩
        case measure => simp [intOf]; omega
      · have HB2 : Hid (bi x k = true) := by show _ = _; rw [bi_nat]; exact hbit
        have hsn := elTo_yes x k hbit
        have HSN : Hid ((elTo x (k + 1)).length = (elTo x k).length + 1 ∧ (elTo x (k + 1)).map nv = (elTo x k).map nv ++ [.int .i64 k]) := by rw [hsn]; exact ⟨by simp, by rw [List.map_append]; rfl⟩
        obtain ⟨m, hm⟩ : ∃ m, m = (elTo x k).length := ⟨_, rfl⟩
        obtain ⟨cs, hcs⟩ : ∃ cs, cs = (elTo x k).map nv := ⟨_, rfl⟩
        rw [← hm, ← hcs] at hown
        rw [← hm] at hlen
        have HM := Lib.hid hm
        have HC := Lib.hid hcs
        clear hsn hbit hm hcs hnn
        go_wp2_with fail
        refine (hasElement_any x k _ (by omega)).mono ?_
        rintro e w' ⟨rfl, rfl⟩
        rw [HB2.out]
        go_wp2_with (at_builtin; refine wpList_append_own _ rfl _ _ 22 rfl w.heap.size 3 i0 (.int .i64 0) 1 8 Try.underlying22 hi hz0 hz1 hz2 rfl (by decide) _ _ _ rfl (hown.alloc _) ⟨_, 0, none⟩ 1 1 [.int .i64 k] rfl rfl ?c1 ?c2 ?c3 ?c4 ?c5 ?_)
        case c1 =>
          intro j u hj
          match j, hj with
          | 0, hj => simp at hj; subst hj; simp [Addr.add]
        case c2 => intro u hu; simp at hu; subst hu; rfl
        case c3 => unfold maxLen; omega
        case c4 => omega
        case c5 => have := hb.size; simp; omega
        intro v' w3 hown' hgrow _
        have hb4 : Below w.heap.size w w3 := (hb.alloc hb.size _).grown hgrow (by have := hb.size; simp; omega) (fun k hk => (hown.lt k hk).1)
        have hnn' : ∃ g, v'.ownBlock = some g := by
          rcases hown'.2 with ⟨_, h0⟩ | ⟨g, cap, cur, rfl, _⟩
          · simp at h0
          · exact ⟨g, rfl⟩
        have H3 : Hid (w3.ownsRow w.heap.size 3 1 v' (elTo x (k + 1)).length ((elTo x (k + 1)).map nv)) := by
          show w3.ownsRow _ _ _ _ _ _
          rw [HSN.out.1, HSN.out.2, ← HM.out, ← HC.out]; simpa using hown'
        clear hown' hgrow hown hb
        go_wp2
        go_roundw
        case rel => exact ⟨k + 1, _, by omega, by go_num, rfl, H3.out, hnn', hb4⟩
        case measure => simp [intOf]; omega
    · obtain rfl : k = B := by omega
      have hE : Hid (elTo x k = elems x) := by show _ = _; rw [HB.out]; exact elTo_all x hx
      rw [hE.out] at hown
      have HO := Lib.hid hown
      obtain ⟨g, hg⟩ := hnn
      have hv : Hid (∃ c, v = .slice (some ⟨g, 0, none⟩) (elems x).length c) := by
        rcases hown.2 with ⟨rfl, _⟩ | ⟨g', cap, cur, rfl, _⟩
        · cases hg
        · cases hg; exact ⟨cap, rfl⟩
      clear hown
      go_wp2
      go_ret
      obtain ⟨c, hc⟩ := hv.out
      exact ⟨⟨g, c, by rw [hc]; rfl, by rw [← hc]; exact HO.out⟩, hb⟩
end Go.Proofs.Yteiadhfjpohmdaa
