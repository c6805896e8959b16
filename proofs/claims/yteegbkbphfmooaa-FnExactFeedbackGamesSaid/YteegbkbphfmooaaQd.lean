/-
  A player moved to another place: the program's 'withMoved' (slices.Clone, Delete and Insert). No conditions but the bounds that Go gives a slice.
-/
import Derived.Test.YteegbkbphfmooaaQc
import Derived.Test.YteegbkbphfmooaaShelfO
import Derived.Sort.OwnSortedInts
namespace Go.Proofs.Yteegbkbphfmooaa
open Go.ChangeShapes Go.WideShapes Go.ChangeAt Go.RowKit Go.Sort
set_option linter.unusedVariables false

theorem set_mid {α : Type} (xs vs : List α) (o : Nat) (v : α) (h : o < xs.length) : (xs.set o v).take (o + 1) ++ vs ++ (xs.set o v).drop (o + 1 + vs.length) = xs.take o ++ v :: vs ++ xs.drop (o + (v :: vs).length) := by
  rw [List.take_succ_eq_append_getElem (by simpa using h), List.getElem_set_self, List.take_set_of_le (Nat.le_refl _), List.drop_set_of_lt (by omega), List.length_cons, show o + 1 + vs.length = o + (vs.length + 1) by omega]
  simp
theorem own_setCells {B g n c : Nat} {e : TypeId} : ∀ (vs : List Value) (o : Nat) (w : World) (xs : List Value), w.ownsRow B e 1 (.slice (some ⟨g, 0, none⟩) n c) n xs → o + vs.length ≤ n →
    (w.setCells g o vs).ownsRow B e 1 (.slice (some ⟨g, 0, none⟩) n c) n (xs.take o ++ vs ++ xs.drop (o + vs.length)) ∧ (∀ {A : World}, Below B A w → B ≤ g → Below B A (w.setCells g o vs))
  | [], o, w, xs, h, ho => ⟨by rw [World.setCells]; simpa using h, fun hb _ => by rw [World.setCells]; exact hb⟩
  | v :: vs, o, w, xs, h, ho => by
    have hl : xs.length = n := by have := h.1; omega
    have h1 := (h.stored o v).1
    obtain ⟨h2, h3⟩ := own_setCells vs (o + 1) (w.setCell ⟨g, o, none⟩ v) _ h1 (by simp at ho; omega)
    rw [set_mid xs vs o v (by simp at ho; omega)] at h2
    exact ⟨h2, fun hb hg => h3 (hb.setCell (p := ⟨g, o, none⟩) hg _) hg⟩

theorem ins_list {α : Type} (M : List α) (k : Nat) (z x : α) (hk : k < M.length) :
    ((M ++ [z]).take (k + 1) ++ M.drop k ++ (M ++ [z]).drop (k + 1 + (M.drop k).length)).take k ++ [x] ++ ((M ++ [z]).take (k + 1) ++ M.drop k ++ (M ++ [z]).drop (k + 1 + (M.drop k).length)).drop (k + 1) = M.take k ++ x :: M.drop k := by
  have h0 : (M ++ [z]).drop (k + 1 + (M.drop k).length) = [] := List.drop_of_length_le (by simp; omega)
  have h1 : (M ++ [z]).take (k + 1) = M.take k ++ [M[k]] := by rw [List.take_append_of_le_length (by omega), List.take_succ_eq_append_getElem hk]
  have hl : (M.take k).length = k := by simp; omega
  have hl2 : (M.take k ++ [M[k]]).length = k + 1 := by simp; omega
  rw [h0, h1, List.append_nil, List.drop_left' hl2, List.append_assoc (M.take k), List.take_left' hl, List.append_assoc]
  rfl
/-- slices.Delete of one element of a row of the call's own: the cells of the whole row behind it. -/
theorem delete_own (B g c i : Nat) (L : List Int) (w : World) (hi : i < L.length) (hown : w.ownsRow B 3 1 (.slice (some ⟨g, 0, none⟩) L.length c) L.length (L.map iv)) :
    Calls Try.prog 152 #[.slice (some ⟨g, 0, none⟩) L.length c, .int .i64 (i : Int), .int .i64 ((i : Int) + 1)] w fun e w' => e = .returned (.slice (some ⟨g, 0, none⟩) (L.length - 1) c) ∧ w'.ownsRow B 3 1 (.slice (some ⟨g, 0, none⟩) L.length c) L.length ((L.take i ++ L.drop (i + 1) ++ [0]).map iv) ∧ Below B w w' := by
  rcases hown.2 with ⟨hn, _⟩ | ⟨g2, cap', cur, he, hbase, hb, h1, h2, h3, h4⟩
  · cases hn
  simp only [Value.slice.injEq, true_and, Option.some.injEq, Addr.mk.injEq, and_true] at he
  obtain ⟨rfl, rfl⟩ := he
  have hm : ∀ M : List Int, M.map iv = M.map (Value.int .i64) := fun _ => rfl
  have hc := Try.slices_Delete_int g 0 c i (i + 1) L w (holds_of_blockI hb (by rw [← hm, ← h4, Nat.mul_one])) h1 (by unfold maxLen at h2; omega) (Nat.le_succ _) hi
  rw [show ((i + 1 : Nat) : Int) = (i : Int) + 1 by omega, show L.length - (i + 1 - i) = L.length - 1 by omega, show List.replicate (i + 1 - i) (0 : Int) = [0] by rw [show i + 1 - i = 1 by omega]; rfl] at hc
  refine hc.mono ?_
  rintro e w' ⟨rfl, nn, rfl⟩
  have hlen : (L.take i ++ L.drop (i + 1) ++ [0]).length = L.length := by simp; omega
  have hg := grownBy_sortedI (w := w) (g := g) (n := nn) (os := #[]) (L.take i ++ L.drop (i + 1) ++ [0]).toArray
  have gn : ∀ w : World, grow w #[] = w := fun w => by simp [grow]
  rw [gn] at hg
  refine ⟨rfl, ?_, ?_⟩
  · have := ownsRow_sortedI (n := nn) (os := #[]) (ts := L.take i ++ L.drop (i + 1) ++ [0]) (ss := L) hlen hbase hb h1 h2 h3
    rw [gn] at this; exact this
  · exact ⟨hg.os, hg.tape, hg.output, hg.size, fun k hk => hg.block k (by have := (Array.getElem?_eq_some_iff.1 hb).1; omega) (fun e => by cases e; omega)⟩

/-- slices.Insert of one element where a row of the call's own has room for it. -/
theorem insert_own (B g c k vb n : Nat) (M : List Int) (x : Int) (w : World) (hM : M.length + 1 = n) (hk : k ≤ M.length) (hB : B ≤ g)
    (hown : w.ownsRow B 3 1 (.slice (some ⟨g, 0, none⟩) n c) n ((M ++ [0]).map iv)) (hvb : vb ≠ g) (hv : w.heap[vb]? = some (.cells #[.int .i64 x] 3 (0, 0))) :
    Calls Try.prog 153 #[.slice (some ⟨g, 0, none⟩) (n - 1) c, .int .i64 (k : Int), .slice (some ⟨vb, 0, none⟩) 1 1] w fun e w' => e = .returned (.slice (some ⟨g, 0, none⟩) n c) ∧ w'.ownsRow B 3 1 (.slice (some ⟨g, 0, none⟩) n c) n ((M.take k ++ x :: M.drop k).map iv) ∧ Below B w w' := by
  obtain ⟨p, rfl⟩ : ∃ p, n = p + 1 := ⟨M.length, by omega⟩
  have hMp : M.length = p := by omega
  rcases hown.2 with ⟨hn, _⟩ | ⟨g2, cap', cur, he, hbase, hb, h1, h2, h3, h4⟩
  · cases hn
  simp only [Value.slice.injEq, true_and, Option.some.injEq, Addr.mk.injEq, and_true] at he
  obtain ⟨rfl, rfl⟩ := he
  have hc63 : c ≤ 9223372036854775807 := by unfold maxLen at h2; omega
  have hcell : ∀ j, j < p + 1 → w.cell? ⟨g, 0 + j, none⟩ = ((M ++ [0]).map iv)[j]? := fun j hj => by rw [Nat.zero_add]; exact hown.cellAt j (by omega)
  have hsome : ∀ j, j < p + 1 → (w.cell? ⟨g, 0 + j, none⟩).isSome = true := fun j hj => by rw [hcell j hj, List.getElem?_eq_getElem (by simp; omega)]; rfl
  have hfz : ∀ j, j < p + 1 → w.frozen? ⟨g, 0 + j, none⟩ = false := fun j hj => hown.frozenAt _
  have hvc : ∀ j v, [Value.int .i64 x][j]? = some v → w.cell? ⟨vb, 0 + j, none⟩ = some v := by
    intro j v hj
    have hj0 : j = 0 := by have := (List.getElem?_eq_some_iff.1 hj).1; simpa using this
    subst hj0
    unfold World.cell?; simp only; rw [hv]; exact hj
  have h1v : ∀ v ∈ [Value.int .i64 x], v.oneCell' = true := fun v hv2 => by obtain rfl := List.mem_singleton.1 hv2; rfl
  have hfin : Below B w w := Below.refl _ _
  rw [show p + 1 - 1 = p by omega]
  rcases Nat.lt_or_ge k p with hlt | hge
  · refine (Any2.slices_Insert_int_shift Try.laysNm221 g 0 p c k vb 0 1 1 (M.map iv) [.int .i64 x] w hlt (by omega) (by omega) hc63 hvb (by simp [hMp]) rfl ?_ hsome hfz hvc ?_ h1v 3 3 1 cur.size ?_ ?_ ?_ ?_ ?_).mono ?_
    · intro j v hj
      have hjp : j < p := by have := (List.getElem?_eq_some_iff.1 hj).1; simp at this; omega
      rw [hcell j (by omega), List.map_append, List.getElem?_append_left (by simp; omega)]
      exact hj
    · intro v hv2
      obtain ⟨z, _, rfl⟩ := List.mem_map.1 hv2
      rfl
    · unfold World.shape?; rw [hv]; rfl
    · unfold World.shape?; rw [hb]
    · omega
    · unfold World.frozen?; simp only; rw [hv]; rfl
    · unfold World.frozen?; simp only; rw [hv]; rfl
    rintro e w' ⟨rfl, rfl⟩
    have hd : w.drew.ownsRow B 3 1 (.slice (some ⟨g, 0, none⟩) (p + 1) c) (p + 1) ((M ++ [0]).map iv) := hown
    obtain ⟨o1, b1⟩ := own_setCells ((M.map iv).drop k) (k + 1) w.drew _ hd (by simp; omega)
    obtain ⟨o2, b2⟩ := own_setCells [Value.int .i64 x] k _ _ o1 (by simp; omega)
    rw [show 0 + (k + 1) = k + 1 by omega, show 0 + k = k by omega]
    refine ⟨rfl, ?_, b2 (b1 (hfin.drew) hB) hB⟩
    have e := ins_list (M.map iv) k (iv 0) (iv x) (by rw [List.length_map]; omega)
    rw [List.map_append, List.map_singleton] at o2
    have e2 : (M.take k ++ x :: M.drop k).map iv = (M.map iv).take k ++ iv x :: (M.map iv).drop k := by rw [List.map_append, List.map_cons, List.map_take, List.map_drop]
    rw [e2, ← e]; exact o2
  · obtain rfl : k = p := by omega
    refine (Any2.slices_Insert_int_end_room Try.laysNm221 g 0 k c vb 0 1 1 [.int .i64 x] w (by omega) (by omega) hc63 rfl ?_ ?_ hvc h1v).mono ?_
    · intro j hj; obtain rfl : j = 0 := by omega
      exact hsome k (by omega)
    · intro j hj; obtain rfl : j = 0 := by omega
      exact hfz k (by omega)
    rintro e w' ⟨rfl, rfl⟩
    obtain ⟨o1, b1⟩ := own_setCells [Value.int .i64 x] k w _ hown (by simp)
    rw [show 0 + k = k by omega]
    refine ⟨rfl, ?_, b1 hfin hB⟩
    have e : (M.take k ++ x :: M.drop k).map iv = ((M ++ [0]).map iv).take k ++ [Value.int .i64 x] ++ ((M ++ [0]).map iv).drop (k + [Value.int .i64 x].length) := by
      have h5 : ((M ++ [0]).map iv).drop (k + [Value.int .i64 x].length) = [] := List.drop_of_length_le (by simp; omega)
      have h6 : M.take k = M := List.take_of_length_le (by omega)
      have h7 : M.drop k = [] := List.drop_of_length_le (by omega)
      rw [h5, h6, h7, List.map_append, List.map_append, List.take_append_of_le_length (by simp; omega), List.take_of_length_le (by simp; omega)]
      simp [iv]
    rw [e]; exact o1

theorem mv_cells (o : List Nat) (i k : Nat) : (((ni o).take i ++ (ni o).drop (i + 1)).take k ++ ((o.getD i 0 : Nat) : Int) :: ((ni o).take i ++ (ni o).drop (i + 1)).drop k) = ni (Rv.mv o i k) := by
  unfold ni Rv.mv
  simp [List.map_append, List.map_take, List.map_drop]
set_option maxRecDepth 100000 in
set_option maxHeartbeats 1000000 in
theorem withMoved_any (m : Nat) (an : Option Addr) (o : List Nat) (cn i k : Nat) (w : World) (ho : Rv.Od m o) (h8 : m ≤ 8) (hrn : IntRow w an (ni o)) (hi : i < m) (hk : k < m) :
    Calls Try.prog 126 #[.slice an m cn, .int .i64 (i : Int), .int .i64 (k : Int)] w fun e w' => (∃ g c, e = .returned (.slice (some ⟨g, 0, none⟩) m c) ∧ w'.ownsRow w.heap.size 3 1 (.slice (some ⟨g, 0, none⟩) m c) m ((ni (Rv.mv o i k)).map iv)) ∧ Below w.heap.size w w' := by
  have hol := ho.len
  have hnl : (ni o).length = m := by rw [ni_len]; exact hol
  obtain ⟨b, off, rfl, hb, hcx⟩ := ord_at hrn (show i < o.length by omega)
  have hall : ∀ j, j < (ni o).length → w.cell? ⟨b, off + j, none⟩ = some (.int .i64 ((ni o).getD j 0)) := fun j hj => by
    obtain ⟨b2, off2, he, _, hc2⟩ := hrn.at hj
    obtain ⟨rfl, rfl⟩ : b = b2 ∧ off = off2 := by simpa using he
    exact hc2
  have HCL := Lib.hid (Try.slices_Clone_int b off m cn (ni o) w (by omega) (by omega) hall)
  have hmv := mv_cells o i k
  obtain ⟨x, hx⟩ : ∃ x, x = o.getD i 0 := ⟨_, rfl⟩
  obtain ⟨L, hL⟩ : ∃ L, L = ni o := ⟨_, rfl⟩
  obtain ⟨M, hM⟩ : ∃ M, M = L.take i ++ L.drop (i + 1) := ⟨_, rfl⟩
  rw [← hx] at hcx hmv
  rw [← hL] at hnl HCL hmv
  rw [← hM] at hmv
  have hMl : M.length + 1 = m := by rw [hM]; simp; omega
  have HM := Lib.hid hM
  have HMV := Lib.hid hmv
  have HX := Lib.hid hcx
  have HNL := Lib.hid hnl
  have hii : (i : Int) < (m : Int) := by omega
  clear hall hrn hx hL hM hmv hcx hnl ho
  go_enter Try.func126, Try.ntmps126
  go_wp2_with fail
  refine HCL.out.mono ?_
  rintro e w1 ⟨v, rfl, ho1, hnn, hb1⟩
  obtain ⟨g, c, rfl⟩ : ∃ g c, v = .slice (some ⟨g, 0, none⟩) m c := by
    rcases ho1.2 with ⟨rfl, _⟩ | ⟨g, c, _, rfl, _⟩
    · exact absurd rfl hnn
    · exact ⟨g, c, rfl⟩
  rw [List.take_of_length_le (by have := HNL.out; omega)] at ho1
  have ho1' : w1.ownsRow w.heap.size 3 1 (.slice (some ⟨g, 0, none⟩) L.length c) L.length (L.map iv) := by rw [HNL.out]; exact ho1
  have hgB := ho1.lt g rfl
  have HD := Lib.hid (delete_own w.heap.size g c i L w1 (by rw [HNL.out]; exact hi) ho1')
  rw [HNL.out] at HD
  clear ho1 ho1' hnn
  go_wp2_with fail
  refine HD.out.mono ?_
  rintro e w2 ⟨rfl, ho2, hb2⟩
  rw [← HM.out] at ho2
  have B2 := hb1.trans hb2
  have hcx2 : w2.cell? ⟨b, off + i, none⟩ = some (.int .i64 (x : Int)) := (B2.cell (p := ⟨b, off + i, none⟩) hb).trans HX.out
  obtain ⟨W3, hW3⟩ : ∃ W3, W3 = w2.alloc (.cells #[.int .i64 (x : Int)] 3) := ⟨_, rfl⟩
  have ho3 : W3.ownsRow w.heap.size 3 1 (.slice (some ⟨g, 0, none⟩) m c) m ((M ++ [0]).map iv) := by
    have hgn : w2.grownBy W3 none := by rw [hW3]; exact World.grownBy_alloc _ _ _
    exact own_grown ho2 hgn (fun k _ e => by cases e)
  have B3 : Below w.heap.size w W3 := by rw [hW3]; exact B2.alloc B2.size _
  have hv3 : W3.heap[w2.heap.size]? = some (.cells #[.int .i64 (x : Int)] 3 (0, 0)) := by rw [hW3]; show (w2.heap.push _)[w2.heap.size]? = _; simp
  have hne : w2.heap.size ≠ g := by have := (ho2.lt g rfl).2; omega
  have HI := Lib.hid (insert_own w.heap.size g c k w2.heap.size m M x W3 hMl (by omega) hgB.1 ho3 hne hv3)
  have HW3 := Lib.hid hW3
  have BB3 := Lib.hid B3
  clear hW3 ho3 B3 hv3 hne ho2 hb2 hb1 B2 HD HCL
  go_wp2_with fail
  rw [← HW3.out]
  refine HI.out.mono ?_
  rintro e w4 ⟨rfl, ho4, hb4⟩
  rw [HMV.out] at ho4
  go_wp2
  go_ret
  exact ⟨⟨g, c, rfl, ho4⟩, BB3.out.trans hb4⟩
end Go.Proofs.Yteegbkbphfmooaa
