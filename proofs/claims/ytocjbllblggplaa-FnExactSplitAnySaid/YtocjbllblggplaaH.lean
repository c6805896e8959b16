/-
  The model's 'SplitAny', and what the laws do with a list of texts ('markStringS', 'heldStringS', 'eqStringS'). They serve 'FnExactSplitAny' and 'FnExactSplitLines'.
-/
import Derived.Test.YtocjbllblggplaaG
namespace Go.Proofs.Ytocjbllblggplaa
open Go.ChangeShapes Go.WideShapes Go.ChangeAt Go.RowKit
set_option linter.unusedVariables false

theorem occ_hit {y : ByteArray} {j c : Nat} (h : j < y.size) (e : c = y[j].toNat) : occB y y.size c = true := by
  simp only [occB, decide_eq_true_iff]
  exact ⟨j, h, h, e.symm⟩
theorem occ_next {y : ByteArray} {j c : Nat} (h : j < y.size) (h0 : occB y j c = false) (e : c ≠ y[j].toNat) : occB y (j + 1) c = false := by
  rw [occB_succ y j c h, h0]
  simpa using fun e2 => e e2.symm

theorem one_cell (w : World) (x : Value) : (w.alloc (.cells #[x] 9)).cell? ⟨w.heap.size, 0, none⟩ = some x := by
  rw [cell_of_row _ _ _ _ _ _ (heap_alloc_new w _)]; rfl

set_option maxHeartbeats 4000000 in
theorem specSplitAny (s y : ByteArray) (w : World) (hs : s.size ≤ 1048576) (hy : y.size ≤ maxLen) :
    Calls Try.prog 13 #[.string s, .string y] w fun e w' => (∃ v, e = .returned v ∧ w'.ownsRow w.heap.size 9 1 v (splL s y).length ((splL s y).map Value.string)) ∧ Below w.heap.size w w' := by
  obtain ⟨i0, hi, hz0, hz1, hz2⟩ := info_parts infoStr
  unfold maxLen at hy
  go_enter Try.func13, Try.ntmps13
  go_wp2
  have hB0 : Below w.heap.size w (w.alloc (.cells #[] 9)) := (Below.refl _ w).alloc (Nat.le_refl _) _
  have hO0 : (w.alloc (.cells #[] 9)).ownsRow w.heap.size 9 1 (.slice (some ⟨w.heap.size, 0, none⟩) 0 0) ([] : List ByteArray).length (([] : List ByteArray).map Value.string) :=
    World.ownsRow_lit (base := w.heap.size) (e := 9) (size := 1) w #[] 0 (Nat.le_refl _) (by simp) rfl
  go_loopw [5, 6, 7, 8] (fun out fm i _ wr => ∃ (k fr : Nat) (ps : List ByteArray) (v : Value), k ≤ s.size ∧ i = .int .i64 k ∧ fm = .int .i64 fr ∧ v = out ∧ fr ≤ k ∧ ps.length ≤ k ∧ Hid (spl s y k = (ps, fr)) ∧ wr.ownsRow w.heap.size 9 1 v ps.length (ps.map Value.string) ∧ Below w.heap.size w wr) (fun _ _ i _ _ => s.size - (intOf i).toNat)
  case atStart => exact ⟨0, 0, [], _, Nat.zero_le _, rfl, rfl, rfl, Nat.le_refl _, Nat.le_refl _, rfl, hO0, hB0⟩
  case round =>
    obtain ⟨k, fr, ps, v, hk, rfl, rfl, rfl, hfr, hps, hsp, hown, hb⟩ := hrel
    by_cases hlt : k < s.size
    · go_wp2
      obtain ⟨wo, rfl⟩ : ∃ wo : World, wo = wr := ⟨_, rfl⟩
      go_loopw [5, 6, 8] (fun out fm j wq => ∃ jj : Nat, jj ≤ y.size ∧ j = .int .i64 jj ∧ v = out ∧ fm = .int .i64 fr ∧ Hid (occB y jj s[k].toNat = false) ∧ wq.ownsRow w.heap.size 9 1 v ps.length (ps.map Value.string) ∧ Below w.heap.size w wq) (fun _ _ j _ => y.size - (intOf j).toNat)
      case atStart => exact ⟨0, Nat.zero_le _, rfl, rfl, rfl, occB_zero y _, hown, hb⟩
      case round =>
        clear hown hb
        obtain ⟨j, hj, rfl, rfl, rfl, hno, hown, hb⟩ := hrel
        by_cases hjt : j < y.size
        · have hi1 : (0 : Int) ≤ (k : Int) ∧ (k : Int) < (s.size : Int) := by omega
          have hi2 : (0 : Int) ≤ (j : Int) ∧ (j : Int) < (y.size : Int) := by omega
          by_cases he : s[k].toNat = y[j].toNat
          · have ho := occ_hit hjt he
            have hsp1 : Hid (spl s y (k + 1) = (ps ++ [s.extract fr k], k + 1)) := spl_hit s y k ps fr hsp.out hlt ho
            have e1 : ((s[k].toNat : Int) == (y[j].toNat : Int)) = true := by simp [he]
            clear ho he
            go_wp2
            go_quiet (fail)
            have hown2 := own_below hown (below_drewN (Below.refl _ _) nq)
            have hb3 : Below w.heap.size w _ := below_drewN hb nq
            clear hown hb
            go_wp2_with (at_builtin; refine wpList_append_own _ rfl _ _ 23 rfl w.heap.size 9 i0 (.string ⟨#[]⟩) 1 16 Try.underlying23 hi hz0 hz1 hz2 rfl (by decide) _ _ _ rfl (hown2.alloc _) ⟨_, 0, none⟩ 1 1 [.string (s.extract fr k)] rfl rfl ?c1 ?c2 ?c3 ?c4 ?c5 ?_)
            case c1 =>
              intro j u hj
              match j, hj with
              | 0, hj => simp at hj; subst hj; exact one_cell (wr.drewN nq) _
            case c2 => intro u hu; simp at hu; subst hu; rfl
            case c3 => unfold maxLen; omega
            case c4 => omega
            case c5 => have := hb3.size; simp at this; simp; omega
            intro v' w3 hown' hgrow _
            have hb4 : Below w.heap.size w w3 := (hb3.alloc hb3.size _).grown hgrow (by have := hb3.size; simp at this; simp; omega) (fun k hk => (hown2.lt k hk).1)
            have hown3 : w3.ownsRow w.heap.size 9 1 v' (ps ++ [s.extract fr k]).length ((ps ++ [s.extract fr k]).map Value.string) := by
              simpa using hown'
            have H3 := Lib.hid hown3
            clear hown3 hown' hgrow hown2 hb3
            go_wp2
            exact ⟨⟨k + 1, k + 1, ps ++ [s.extract fr k], v', by omega, by go_num, by go_num, rfl, Nat.le_refl _, by simp; omega, hsp1, H3.out, hb4⟩, by simp [intOf]; omega⟩
          · have hno1 : Hid (occB y (j + 1) s[k].toNat = false) := occ_next hjt hno.out he
            have e1 : ((s[k].toNat : Int) == (y[j].toNat : Int)) = false := by simp; omega
            clear he
            go_wp2
            go_quiet (fail)
            go_wp2
            exact ⟨⟨j + 1, by omega, by go_num, rfl, rfl, hno1, own_below hown (below_drewN (Below.refl _ _) nq), below_drewN hb nq⟩, by simp [intOf]; omega⟩
        · obtain rfl : j = y.size := by omega
          have hsp1 : Hid (spl s y (k + 1) = (ps, fr)) := spl_miss s y k ps fr hsp.out hlt hno.out
          go_wp2
          exact ⟨⟨k + 1, fr, ps, v, by omega, by go_num, rfl, rfl, by omega, by omega, hsp1, hown, hb⟩, by simp [intOf]; omega⟩
    · obtain rfl : k = s.size := by omega
      have hL : Hid (splL s y = ps ++ [s.extract fr s.size]) := by
        show _ = _
        unfold splL; rw [hsp.out]
      go_wp2_with (at_builtin; refine wpList_append_own _ rfl _ _ 23 rfl w.heap.size 9 i0 (.string ⟨#[]⟩) 1 16 Try.underlying23 hi hz0 hz1 hz2 rfl (by decide) _ _ _ rfl (hown.alloc _) ⟨_, 0, none⟩ 1 1 [.string (s.extract fr s.size)] rfl rfl ?d1 ?d2 ?d3 ?d4 ?d5 ?_)
      case d1 =>
        intro j u hj
        match j, hj with
        | 0, hj => simp at hj; subst hj; simp [Addr.add]
      case d2 => intro u hu; simp at hu; subst hu; rfl
      case d3 => unfold maxLen; omega
      case d4 => omega
      case d5 => have := hb.size; simp; omega
      intro v' w3 hown' hgrow _
      have hb4 : Below w.heap.size w w3 := (hb.alloc hb.size _).grown hgrow (by have := hb.size; simp; omega) (fun k hk => (hown.lt k hk).1)
      have hown3 : w3.ownsRow w.heap.size 9 1 v' (splL s y).length ((splL s y).map Value.string) := by
        rw [hL.out]
        simpa using hown'
      clear hown' hgrow hown hb
      go_wp2
      go_ret
      exact ⟨⟨_, rfl, hown3⟩, hb4⟩
end Go.Proofs.Ytocjbllblggplaa
