/-
  'slices.Sorted' of 'slices.Values' of a row: a new row that holds its numbers, sorted. Condition: at most 2^20 numbers.
-/
import Derived.Test.Ytnlbijmkehijiaa3V
import Derived.RangeFuncBox
import Derived.RangeFuncNested
import Derived.RangeFuncBound
import Derived.RangeFuncCalls
import Derived.RangeFuncLeaves
import Derived.Shelf.Abstract
import Derived.Shelf.RegionOpen
import Derived.OwnWalkIn
import Derived.TacticsInMore
import Derived.LoopNIn
import Derived.LoopIn
import Derived.Maps.AppendAt
namespace Go.Proofs.Ytnlbijmkehijiaa
open Go.ChangeShapes Go.WideShapes Go.ChangeAt Go.RowKit Go.Shelf
attribute [local go_sem] Oper.semAt_some
set_option linter.unusedVariables false

def encI (x : Int) : Array Value := #[.int .i64 x]
theorem take_getD (l : List Int) (k : Nat) (h : k < l.length) : l.take (k + 1) = l.take k ++ [l.getD k 0] := by
  rw [List.take_succ_eq_append_getElem h, List.getD_eq_getElem?_getD, List.getElem?_eq_getElem h]; rfl

set_option maxRecDepth 100000 in
set_option maxHeartbeats 2000000 in
theorem values1 (n : Nat) (hn : 1 ≤ n) (ly Bs : Nat) (w0 : World) (a : Option Addr) (cap : Nat) (l : List Int) (hl : l.length ≤ 1048576) (J Jx : List Int → World → Prop) (W : World)
    (hW0 : Below w0.heap.size w0 W) (hrow : IntRow w0 a l)
    (hY : ∀ pre x W1, J pre W1 → pre.length < l.length → YieldAt Fence.wide (n - 1) Try.prog ly (encI x) W1 fun e W' =>
      (e = .returned (.bool true) ∧ J (pre ++ [x]) W' ∧ Below w0.heap.size W1 W') ∨ (e = .returned (.bool false) ∧ Jx (pre ++ [x]) W'))
    (hBs : W.cell? ⟨Bs, 0, none⟩ = some (.slice a l.length cap)) (h0 : J [] W) :
    CallsIn Fence.wide n Try.prog 69 #[.func (.yield ly) #[] #[], .pointer (some ⟨Bs, 0, none⟩)] W fun e W' => (∃ v, e = .returned v) ∧
      ((∃ xs, xs = l ∧ J xs W') ∨ (∃ pre, True ∧ Jx pre W')) := by
  have HR := Lib.hid hrow
  have HW := Lib.hid hW0
  refine callsIn_of_wp Try.func69 rfl trivial ?_ rfl
  simp only [Try.ntmps69, List.size_toArray, List.length_cons, List.length_nil, Nat.reduceAdd, Nat.reduceSub, Array.replicate_succ, Array.replicate_zero, List.push_toArray, List.append_toArray, List.nil_append, List.cons_append]
  clear hrow hW0
  gi_wp2
  gi_loopw [7] (fun i wr => ∃ k : Nat, k ≤ l.length ∧ i = .int .i64 k ∧ J (l.take k) wr ∧ Hid (Below w0.heap.size w0 wr)) (fun i _ => l.length - (intOf i).toNat)
  case atStart => exact ⟨0, Nat.zero_le _, rfl, by simpa using h0, HW.out⟩
  case round =>
    obtain ⟨k, hk, rfl, hJs, hnx⟩ := hrel
    by_cases hlt : k < l.length
    · obtain ⟨b, off, rfl, hbb, hcx⟩ := HR.out.at hlt
      have hcr := (hnx.out.cell (p := ⟨b, off + k, none⟩) hbb).trans hcx
      obtain ⟨x, hx⟩ : ∃ x, x = l.getD k 0 := ⟨_, rfl⟩
      have hsn := take_getD l k hlt
      rw [← hx] at hcr hsn
      obtain ⟨fn, tmps, assign, body, hy, hR⟩ := hY _ x wr hJs (by rw [List.length_take]; omega)
      dsimp only [encI] at hy
      have hib : (k : Int) < (l.length : Int) := by omega
      have HSN := Lib.hid hsn
      clear hcx hsn hx
      gi_wp2
      refine hR.mono ?_
      rintro e W3 (⟨rfl, hJ3, hk3⟩ | ⟨rfl, hJx3⟩)
      · rw [← HSN.out] at hJ3
        have HK3 := Lib.hid (hnx.out.trans hk3)
        clear hR hk3
        gi_wp2
        go_roundw
        case rel => exact ⟨k + 1, by omega, by go_num, hJ3, HK3⟩
        case measure => simp [intOf]; omega
      · clear hR
        gi_wp2
        refine bodyPost_ret (results_none rfl _ _ _) rfl ?_
        exact ⟨⟨_, rfl⟩, .inr ⟨_, trivial, hJx3⟩⟩
    · obtain rfl : k = l.length := by omega
      rw [List.take_length] at hJs
      gi_wp2
      go_end0
      exact ⟨⟨_, rfl⟩, .inl ⟨_, rfl, hJs⟩⟩

theorem values_stops (n : Nat) (hn : 1 ≤ n) (Bs : Nat) (w0 : World) (a : Option Addr) (cap : Nat) (l : List Int) (hl : l.length ≤ 1048576) (w : World) (hb0 : Below w0.heap.size w0 w) (hrow : IntRow w0 a l)
    (hBs : w.cell? ⟨Bs, 0, none⟩ = some (.slice a l.length cap)) (hBl : Bs < w.heap.size) :
    SeqStopsK Fence.wide n Try.prog 69 #[.pointer (some ⟨Bs, 0, none⟩)] encI (Below w0.heap.size) (fun xs => xs = l) (fun _ => True) l.length w :=
  fun ly J Jx W hW hJ hJx hY h0 =>
    values1 n hn ly Bs w0 a cap l hl J Jx W (hb0.trans (hW.mono hb0.size)) hrow hY ((hW.cell (p := ⟨Bs, 0, none⟩) hBl).trans hBs) h0

theorem values_any (a : Option Addr) (len cap : Nat) (w : World) : Calls Try.prog 50 #[.slice a len cap] w fun e w' => e = .returned (.func (.func 69) #[] #[.pointer (some ⟨w.heap.size, 0, none⟩)]) ∧ w' = w.alloc (.cells #[.slice a len cap] 22) := by
  go_enter Try.func50, Try.ntmps50
  go_wp2
  go_ret
  exact ⟨rfl, rfl⟩

set_option maxRecDepth 100000 in
set_option maxHeartbeats 2000000 in
theorem appendSeq_any (Bs : Nat) (w0 : World) (a : Option Addr) (cap : Nat) (l : List Int) (hl : l.length ≤ 1048576) (w : World) (hb0 : Below w0.heap.size w0 w) (hrow : IntRow w0 a l)
    (hBs : w.cell? ⟨Bs, 0, none⟩ = some (.slice a l.length cap)) (hBl : Bs < w.heap.size) :
    Calls Try.prog 89 #[.slice none 0 0, .func (.func 69) #[] #[.pointer (some ⟨Bs, 0, none⟩)]] w fun e w' => (∃ a1 c1, e = .returned (.slice a1 l.length c1) ∧ w'.ownsRow w.heap.size 3 1 (.slice a1 l.length c1) l.length (l.map iv)) ∧ Below w.heap.size w w' := by
  obtain ⟨i0, hi, hz0, hz1, hz2⟩ := info_parts infoInt
  obtain ⟨W1, hW1⟩ : ∃ W1, W1 = w.alloc (.cells #[.slice none 0 0] 22) := ⟨_, rfl⟩
  have hb1 : Below w.heap.size w W1 := by rw [hW1]; exact (Below.refl _ _).alloc (Nat.le_refl _) _
  have x1 : Boxed W1 w.heap.size 22 (.slice none 0 0) := by rw [hW1]; exact Boxed.new _ _ _
  have s1 : W1.heap.size = w.heap.size + 1 := by rw [hW1]; simp
  have hs0 := hb0.size
  have hB1 := hb0.trans (hb1.mono hb0.size)
  have hBs1 := (hb1.cell (p := ⟨Bs, 0, none⟩) hBl).trans hBs
  have hvs := values_stops 7 (by omega) Bs w0 a cap l hl W1 hB1 hrow hBs1 (by omega)
  have HW1 := Lib.hid hW1
  have HB1 := Lib.hid hb1
  have HX1 := Lib.hid x1
  clear hW1 hb1 hBs hBs1 x1
  refine (callsIn_wide (n := 8)).1 ?_
  refine callsIn_of_wp_marks Try.func89 rfl trivial ?_ rfl
  simp only [Try.ntmps89, List.size_toArray, List.length_cons, List.length_nil, Nat.reduceAdd, Nat.reduceSub, Array.replicate_succ, Array.replicate_zero, List.push_toArray, List.append_toArray, List.nil_append, List.cons_append]
  gi_wp2
  rw [← HW1.out]
  refine wpIn_rangeFunc_ownG (F := Fence.wide) rfl (by omega) (gf := 69) (lb := #[.pointer (some ⟨Bs, 0, none⟩)]) rfl trivial (enters_of Try.func69 (by kernel_rfl) rfl)
    hvs belowK_t (belowK_b (by omega)) (Below.refl _ _) (fun _ => rfl)
    (fun (pre : List Int) W => (∃ v, Boxed W w.heap.size 22 v ∧ W.ownsRow w.heap.size 3 1 v pre.length (pre.map iv) ∧ True) ∧ Below w.heap.size w W)
    (fun _ _ _ => False)
    (OwnFrom.and (Own.from (holdsRow_own w.heap.size w.heap.size 22 3 1 (fun pre : List Int => pre.length) (fun pre => pre.map iv) (fun _ _ => True)) _) (ownFrom_below (Nat.le_refl _) (by omega)))
    (fun _ _ _ _ _ hs _ _ => hs)
    ⟨⟨_, HX1.out, World.ownsRow_nil _ _ _ _, trivial⟩, HB1.out⟩
    (fun x => { tmps := #[.slice none 0 0, .func (.func 69) #[] #[.pointer (some ⟨Bs, 0, none⟩)], .pointer (some ⟨w.heap.size, 0, none⟩), undef, .slice none 0 0, .int .i64 x, .func (.func 69) #[] #[.pointer (some ⟨Bs, 0, none⟩)], .int .i64 x, undef, undef, undef, undef, undef], defers := [] }) ?assign ?body ?done ?stop
  case assign =>
    intro ly x W K hK
    unfold encI
    gi_wp2
    exact hK
  case body =>
    rintro ly pre x W ⟨⟨v, hv, hr, _⟩, hB⟩ hlen
    have hvc := hv.cell
    have hvf := hv.frozen
    have hsz := hB.size
    have HR := Lib.hid hr
    have HV := Lib.hid hv
    have HB := Lib.hid hB
    clear hr hv hB
    gi_wp2_with (gi_at_builtin; refine wpListIn_append_own _ rfl _ _ 22 rfl w.heap.size 3 i0 (.int .i64 0) 1 8 Try.underlying22 hi hz0 hz1 hz2 rfl (by decide) _ _ _ rfl (HR.out.alloc _) ⟨W.heap.size, 0, none⟩ 1 1 [iv x] rfl rfl (cell_one_new _ _ _) (by simp [Value.oneCell', iv]) (by unfold maxLen; omega) (by omega) (by simp; omega) ?_; intro v' w1 hown' hgrow _; obtain ⟨g', cap', rfl⟩ := ownsRow_succ hown'; obtain ⟨hv1, hv2, hr2, hk2, hb2⟩ := HV.out.appended (by decide) HR.out hsz (Nat.le_refl _) hown' hgrow; have hc1 := hv1.cell; have hf1 := hv1.frozen)
    have e1 : (pre ++ [x]).length = pre.length + 1 := by simp
    have e2 : (pre ++ [x]).map iv = pre.map iv ++ [iv x] := by simp
    exact ⟨hk2.from _, hb2.mono hs0, ⟨⟨_, hv2, by rw [e1, e2]; exact hr2, trivial⟩, HB.out.trans hb2⟩⟩
  case done =>
    rintro D ys W hD rfl ⟨⟨v, hv, hr, _⟩, hB⟩ hK
    obtain ⟨a1, c1, rfl, _⟩ := own_read hr
    have hvc := hv.cell
    have HR := Lib.hid hr
    have HB := Lib.hid hB
    have HK := Lib.hid hK
    clear hr hv hB hK
    gi_wp2
    refine ⟨by simp, .inl ⟨_, _, rfl, run_takeDeferred HK.out, ?_⟩⟩
    exact ⟨_, results_tmp rfl _ _ _, ⟨_, _, rfl, ownsRow_putObj HR.out _ HK.out rfl⟩, HB.out.trans (belowK_b (w := w) (Nat.le_refl _) W D _ _ (by omega) HK.out rfl rfl)⟩
  case stop =>
    rintro D c pre W _ _ h _
    exact h.elim

theorem collect_any (Bs : Nat) (w0 : World) (a : Option Addr) (cap : Nat) (l : List Int) (hl : l.length ≤ 1048576) (w : World) (hb0 : Below w0.heap.size w0 w) (hrow : IntRow w0 a l)
    (hBs : w.cell? ⟨Bs, 0, none⟩ = some (.slice a l.length cap)) (hBl : Bs < w.heap.size) :
    Calls Try.prog 68 #[.func (.func 69) #[] #[.pointer (some ⟨Bs, 0, none⟩)]] w fun e w' => (∃ a1 c1, e = .returned (.slice a1 l.length c1) ∧ w'.ownsRow w.heap.size 3 1 (.slice a1 l.length c1) l.length (l.map iv)) ∧ Below w.heap.size w w' := by
  have hC := Lib.hid (appendSeq_any Bs w0 a cap l hl w hb0 hrow hBs hBl)
  clear hb0 hrow hBs
  go_enter Try.func68, Try.ntmps68
  go_wp2_with fail
  refine hC.out.mono ?_
  rintro e w1 ⟨⟨a1, c1, rfl, ho⟩, hb⟩
  have HO := Lib.hid ho
  have HB := Lib.hid hb
  clear ho hb
  go_wp2
  go_ret
  exact ⟨⟨_, _, rfl, HO.out⟩, HB.out⟩

set_option maxHeartbeats 400000 in
theorem sorted_any (Bs : Nat) (w0 : World) (a : Option Addr) (cap : Nat) (l : List Int) (hl : l.length ≤ 1048576) (w : World) (hb0 : Below w0.heap.size w0 w) (hrow : IntRow w0 a l)
    (hBs : w.cell? ⟨Bs, 0, none⟩ = some (.slice a l.length cap)) (hBl : Bs < w.heap.size) :
    Calls Try.prog 49 #[.func (.func 69) #[] #[.pointer (some ⟨Bs, 0, none⟩)]] w fun e w' => (∃ a1 c1, e = .returned (.slice a1 l.length c1) ∧ w'.ownsRow w.heap.size 3 1 (.slice a1 l.length c1) l.length ((Tmpm.srt l).map iv)) ∧ Below w.heap.size w w' := by
  have hC := Lib.hid (collect_any Bs w0 a cap l hl w hb0 hrow hBs hBl)
  clear hb0 hrow hBs
  rcases Nat.eq_zero_or_pos l.length with h0 | h0
  · obtain rfl : l = [] := List.eq_nil_of_length_eq_zero h0
    clear h0 hl
    have HE : Hid (Tmpm.srt [] = []) := by show _ = _; simp [Tmpm.srt]
    rw [List.length_nil, List.map_nil] at hC
    rw [HE.out, List.length_nil, List.map_nil]
    go_enter Try.func49, Try.ntmps49
    go_wp2_with fail
    refine hC.out.mono ?_
    rintro e w1 ⟨⟨a1, c1, rfl, ho⟩, hb⟩
    have HO := Lib.hid ho
    have HB := Lib.hid hb
    clear ho hb
    go_wp2_with fail
    refine (Try.slices_Sort_int_none _ _ _).mono ?_
    rintro e w2 ⟨rfl, rfl⟩
    go_wp2
    go_ret
    exact ⟨⟨_, _, rfl, HO.out⟩, HB.out⟩
  · have hsort := fun (W : World) (a1 : Option Addr) (c1 : Nat) (ho : W.ownsRow w.heap.size 3 1 (.slice a1 l.length c1) l.length (l.map iv)) => sort_own w.heap.size a1 c1 l W h0 hl ho
    have HS := Lib.hid hsort
    clear hsort
    go_enter Try.func49, Try.ntmps49
    go_wp2_with fail
    refine hC.out.mono ?_
    rintro e w1 ⟨⟨a1, c1, rfl, ho⟩, hb⟩
    have HO := Lib.hid ho
    have HB := Lib.hid hb
    clear ho hb
    go_wp2_with fail
    refine (HS.out w1 a1 c1 HO.out).mono ?_
    rintro e w2 ⟨rfl, ho2, _, hb2⟩
    have HO2 := Lib.hid ho2
    have HB2 := Lib.hid (HB.out.trans hb2)
    clear ho2 hb2
    go_wp2
    go_ret
    exact ⟨⟨_, _, rfl, HO2.out⟩, HB2.out⟩
end Go.Proofs.Ytnlbijmkehijiaa
