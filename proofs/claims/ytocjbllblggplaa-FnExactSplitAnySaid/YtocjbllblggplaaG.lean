/-
  Contracts for both 'SplitAny': the same list of parts, each in new memory. They serve 'FnExactSplitAny' and 'FnExactSplitLines'.
-/
import Derived.Test.YtocjbllblggplaaF
namespace Go.Proofs.Ytocjbllblggplaa
open Go.ChangeShapes Go.WideShapes Go.ChangeAt Go.RowKit
set_option linter.unusedVariables false

theorem clone_any (s : ByteArray) (w : World) (hlim : s.size ≤ 281474976710656) :
    Calls Try.prog 30 #[.string s] w fun e w' => e = .returned (.string s) ∧ Below w.heap.size w w' := by
  go_enter Try.func30, Try.ntmps30
  go_wp2_with fail
  refine (Try.stringslite_Clone s w hlim).mono ?_
  rintro e w' ⟨rfl, hb⟩
  go_wp2
  go_ret
  exact ⟨rfl, hb⟩

/-- The parts before letter i, and where the next part begins. -/
noncomputable def spl (s y : ByteArray) : Nat → List ByteArray × Nat
  | 0 => ([], 0)
  | i + 1 => if occB y y.size (s.data.toList.getD i 0).toNat = true then ((spl s y i).1 ++ [s.extract (spl s y i).2 i], i + 1) else spl s y i
noncomputable def splL (s y : ByteArray) : List ByteArray := (spl s y s.size).1 ++ [s.extract (spl s y s.size).2 s.size]

theorem getD_data (s : ByteArray) (k : Nat) (h : k < s.size) : s.data.toList.getD k 0 = s[k] := by
  rw [List.getD_eq_getElem?_getD, Array.getElem?_toList, Array.getElem?_eq_getElem (show k < s.data.size from h)]
  rfl

theorem spl_hit (s y : ByteArray) (k : Nat) (ps : List ByteArray) (fr : Nat) (h : spl s y k = (ps, fr)) (hk : k < s.size) (ho : occB y y.size s[k].toNat = true) :
    spl s y (k + 1) = (ps ++ [s.extract fr k], k + 1) := by
  simp only [spl, getD_data s k hk, ho, if_true, h]
theorem spl_miss (s y : ByteArray) (k : Nat) (ps : List ByteArray) (fr : Nat) (h : spl s y k = (ps, fr)) (hk : k < s.size) (ho : occB y y.size s[k].toNat = false) :
    spl s y (k + 1) = (ps, fr) := by
  simp only [spl, getD_data s k hk, ho, if_false, h, Bool.false_eq_true]

theorem own_below {w w' : World} {B : Nat} {e : TypeId} {size : Nat} {v : Value} {n : Nat} {xs : List Value} (h : w.ownsRow B e size v n xs) (hb : Below w.heap.size w w') : w'.ownsRow B e size v n xs := by
  have hg : w.grownBy w' (some w.heap.size) := ⟨hb.os, hb.tape, hb.output, hb.size, fun k hk _ => hb.block k hk⟩
  refine h.kept hg (.inr ?_)
  intro e
  have := (h.lt w.heap.size e).2
  omega
theorem keep_row {w w' : World} {b : Nat} {o : Obj} (h : w.heap[b]? = some o) (hb : Below w.heap.size w w') : w'.heap[b]? = some o := by
  rcases Nat.lt_or_ge b w.heap.size with h' | h'
  · rw [hb.block b h']; exact h
  · simp [Array.getElem?_eq_none h'] at h

set_option maxHeartbeats 4000000 in
theorem implSplitAny (s y : ByteArray) (w : World) (hs : s.size ≤ 1048576) (hy : y.size ≤ maxLen) :
    Calls Try.prog 14 #[.string s, .string y] w fun e w' => (∃ v, e = .returned v ∧ w'.ownsRow w.heap.size 9 1 v (splL s y).length ((splL s y).map Value.string)) ∧ Below w.heap.size w w' := by
  obtain ⟨i0, hi, hz0, hz1, hz2⟩ := info_parts infoStr
  have HY := Lib.hid hy
  unfold maxLen at hy
  have hz : ∀ w : World, (zeroValue 36).run Try.prog w = .ok (.agg tab0) w := fun w => by kernel_rfl
  go_enter Try.func14, Try.ntmps14
  go_wp2_with fail
  refine (bytesIn_any y w HY.out).mono ?_
  rintro e w1 ⟨rfl, hb1⟩
  have hn1 : (w1.alloc (.cells tab0 36)).heap[w1.heap.size]? = some (.cells tab0 36 (0, 0)) := heap_alloc_new w1 _
  go_wp2_with (refine wpList_store_row rfl 36 _ _ rfl w1.heap.size (tab y y.size) rfl rfl 36 tab0 hn1 (by rw [tab_size]; exact info36) (by rw [tab_size]; simp [tab0]) (tab_one _ _) ?_)
  have hW0 : ∃ W0 : World, W0 = ((w1.alloc (.cells tab0 36)).setRow w1.heap.size (tab y y.size)).alloc (.cells #[] 9) := ⟨_, rfl⟩
  have hB0 : Below w.heap.size w (((w1.alloc (.cells tab0 36)).setRow w1.heap.size (tab y y.size)).alloc (.cells #[] 9)) := by
    have h1 := hb1.size
    exact (below_setRow (hb1.alloc h1 _) h1 _).alloc (by simp; omega) _
  have hO0 : (((w1.alloc (.cells tab0 36)).setRow w1.heap.size (tab y y.size)).alloc (.cells #[] 9)).ownsRow w.heap.size 9 1 (.slice (some ⟨w1.heap.size + 1, 0, none⟩) 0 0) ([] : List ByteArray).length (([] : List ByteArray).map Value.string) := by
    have h1 := hb1.size
    have := World.ownsRow_lit (base := w.heap.size) (e := 9) (size := 1) ((w1.alloc (.cells tab0 36)).setRow w1.heap.size (tab y y.size)) #[] 0 (by simp; omega) (by simp) rfl
    simpa using this
  have hT0 : Hid ((((w1.alloc (.cells tab0 36)).setRow w1.heap.size (tab y y.size)).alloc (.cells #[] 9)).heap[w1.heap.size]? = some (.cells (tab y y.size) 36 (0, 0))) := by
    show _ = _
    rw [Lib.alloc_old _ _ _ (by simp), setRow_heap _ _ _ _ _ _ hn1]
  have hnb := hb1.size
  clear hn1 hz hW0
  go_loopw [6, 7, 8, 14] (fun out fm _ i wr => ∃ (k fr : Nat) (ps : List ByteArray), k ≤ s.size ∧ i = .int .i64 k ∧ fm = .int .i64 fr ∧ fr ≤ k ∧ ps.length ≤ k ∧ Hid (spl s y k = (ps, fr)) ∧ wr.ownsRow w.heap.size 9 1 out ps.length (ps.map Value.string) ∧ Hid (wr.heap[w1.heap.size]? = some (.cells (tab y y.size) 36 (0, 0))) ∧ Below w.heap.size w wr) (fun _ _ _ i _ => s.size - (intOf i).toNat)
  case atStart => exact ⟨0, 0, [], Nat.zero_le _, rfl, rfl, Nat.le_refl _, Nat.le_refl _, rfl, hO0, hT0, hB0⟩
  case round =>
    obtain ⟨k, fr, ps, hk, rfl, rfl, hfr, hps, hsp, hown, hT, hb⟩ := hrel
    by_cases hlt : k < s.size
    · have h8 : s[k].toNat < 256 := s[k].toNat_lt
      have hcell : wr.cell? ⟨w1.heap.size, s[k].toNat, none⟩ = some (.bool (occB y y.size s[k].toNat)) := by
        rw [cell_of_row _ _ _ _ _ _ hT.out, tab_at _ _ _ h8]
      cases ho : occB y y.size s[k].toNat
      · rw [ho] at hcell
        have hsp1 : Hid (spl s y (k + 1) = (ps, fr)) := spl_miss s y k ps fr hsp.out hlt ho
        clear ho
        go_wp2
        go_roundw
        case rel => exact ⟨k + 1, fr, ps, by omega, by go_num, rfl, by omega, by omega, hsp1, hown, hT, hb⟩
        case measure => simp [intOf]; omega
      · rw [ho] at hcell
        have hsp1 : Hid (spl s y (k + 1) = (ps ++ [s.extract fr k], k + 1)) := spl_hit s y k ps fr hsp.out hlt ho
        clear ho
        go_wp2_with fail
        refine (clone_any _ _ (by simp; omega)).mono ?_
        rintro e w2 ⟨rfl, hb2⟩
        have hown2 := own_below hown hb2
        have hT2 : Hid (w2.heap[w1.heap.size]? = some (.cells (tab y y.size) 36 (0, 0))) := keep_row hT.out hb2
        have hb3 : Below w.heap.size w w2 := hb.trans (hb2.mono hb.size)
        clear hown hT hb hb2 hcell
        go_wp2_with (at_builtin; refine wpList_append_own _ rfl _ _ 23 rfl w.heap.size 9 i0 (.string ⟨#[]⟩) 1 16 Try.underlying23 hi hz0 hz1 hz2 rfl (by decide) _ _ _ rfl (hown2.alloc _) ⟨w2.heap.size, 0, none⟩ 1 1 [.string (s.extract fr k)] rfl rfl ?c1 ?c2 ?c3 ?c4 ?c5 ?_)
        case c1 =>
          intro j u hj
          match j, hj with
          | 0, hj => simp at hj; subst hj; simp [Addr.add]
        case c2 => intro u hu; simp at hu; subst hu; rfl
        case c3 => unfold maxLen; omega
        case c4 => omega
        case c5 => have := hb3.size; simp; omega
        intro v' w3 hown' hgrow _
        have hne := Lib.ownBlock_ne hown2 hT2.out (by decide)
        have hT3 : Hid (w3.heap[w1.heap.size]? = some (.cells (tab y y.size) 36 (0, 0))) := by
          have hlt2 : w1.heap.size < w2.heap.size := by
            rcases Nat.lt_or_ge w1.heap.size w2.heap.size with h' | h'
            · exact h'
            · have := hT2.out; simp [Array.getElem?_eq_none h'] at this
          show _ = _
          rw [hgrow.block w1.heap.size (by simp; omega) (fun e => hne e.symm), Lib.alloc_old w2 _ _ hlt2]
          exact hT2.out
        have hb4 : Below w.heap.size w w3 := (hb3.alloc hb3.size _).grown hgrow (by have := hb3.size; simp; omega) (fun k hk => (hown2.lt k hk).1)
        have hown3 : w3.ownsRow w.heap.size 9 1 v' (ps ++ [s.extract fr k]).length ((ps ++ [s.extract fr k]).map Value.string) := by
          simpa using hown'
        have H3 := Lib.hid hown3
        clear hown3 hown' hgrow hne hT2 hown2 hb3
        go_wp2
        go_roundw
        case rel => exact ⟨k + 1, k + 1, ps ++ [s.extract fr k], by omega, by go_num, by go_num, Nat.le_refl _, by simp; omega, hsp1, H3.out, hT3, hb4⟩
        case measure => simp [intOf]; omega
    · obtain rfl : k = s.size := by omega
      have hL : Hid (splL s y = ps ++ [s.extract fr s.size]) := by
        show _ = _
        unfold splL; rw [hsp.out]
      go_wp2_with fail
      refine (clone_any _ _ (by simp; omega)).mono ?_
      rintro e w2 ⟨rfl, hb2⟩
      have hown2 := own_below hown hb2
      have hb3 : Below w.heap.size w w2 := hb.trans (hb2.mono hb.size)
      clear hown hT hb hb2
      go_wp2_with (at_builtin; refine wpList_append_own _ rfl _ _ 23 rfl w.heap.size 9 i0 (.string ⟨#[]⟩) 1 16 Try.underlying23 hi hz0 hz1 hz2 rfl (by decide) _ _ _ rfl (hown2.alloc _) ⟨w2.heap.size, 0, none⟩ 1 1 [.string (s.extract fr s.size)] rfl rfl ?d1 ?d2 ?d3 ?d4 ?d5 ?_)
      case d1 =>
        intro j u hj
        match j, hj with
        | 0, hj => simp at hj; subst hj; simp [Addr.add]
      case d2 => intro u hu; simp at hu; subst hu; rfl
      case d3 => unfold maxLen; omega
      case d4 => omega
      case d5 => have := hb3.size; simp; omega
      intro v' w3 hown' hgrow _
      have hb4 : Below w.heap.size w w3 := (hb3.alloc hb3.size _).grown hgrow (by have := hb3.size; simp; omega) (fun k hk => (hown2.lt k hk).1)
      have hown3 : w3.ownsRow w.heap.size 9 1 v' (splL s y).length ((splL s y).map Value.string) := by
        rw [hL.out]
        simpa using hown'
      clear hown' hgrow hown2 hb3
      go_wp2
      go_ret
      exact ⟨⟨_, rfl, hown3⟩, hb4⟩
end Go.Proofs.Ytocjbllblggplaa
