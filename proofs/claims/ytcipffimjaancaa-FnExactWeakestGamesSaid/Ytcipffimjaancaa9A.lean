/-
  slices.Sort, slices.Reverse and slices.Compact over a row of the call's own; a list sorted, turned and compacted (mathematics). No conditions but the rows' bounds.
-/
import Derived.Test.YtcipffimjaancaaG
import Derived.Test.YtcipffimjaancaaShelf
import Derived.Test.YtcipffimjaancaaShelfS
import Derived.Test.Ytcipffimjaancaa8C
import Derived.Sort.OwnSortedInts
namespace Go.Proofs.Ytcipffimjaancaa
open Go.ChangeShapes Go.WideShapes Go.ChangeAt Go.RowKit Go.Sort
set_option linter.unusedVariables false

def srt8 (L : List Int) : List Int := L.mergeSort fun x y => decide (x ≤ y)
theorem srt8_len (L : List Int) : (srt8 L).length = L.length := by simp [srt8]
/-- The library's sort of a row of the call's own. -/
theorem sort_own8 (B : Nat) (a : Option Addr) (cap : Nat) (L : List Int) (w : World) (h0 : 0 < L.length) (hl : L.length ≤ 1048576) (hown : w.ownsRow B 3 1 (.slice a L.length cap) L.length (L.map iv)) :
    Calls Try.prog 53 #[.slice a L.length cap] w fun e w' => e = .returned (.tuple #[]) ∧ w'.ownsRow B 3 1 (.slice a L.length cap) L.length ((srt8 L).map iv) ∧ w.grownBy w' (blk a) ∧ Below B w w' := by
  rcases hown.2 with ⟨hn, _⟩ | ⟨g, cap', cur, he, hbase, hb, h1, h2, h3, h4⟩
  · simp at hn; omega
  simp only [Value.slice.injEq, true_and] at he
  obtain ⟨rfl, rfl⟩ := he
  have hm : ∀ M : List Int, M.map iv = M.map (Value.int .i64) := fun _ => rfl
  refine (Try.slices_Sort_int g 0 cap L w (holds_of_blockI hb (by rw [← hm, ← h4, Nat.mul_one])) (Array.getElem?_eq_some_iff.1 hb).1 (by omega)).mono ?_
  rintro e w' ⟨rfl, nn, os, rfl⟩
  have hg := grownBy_sortedI (w := w) (g := g) (n := nn) (os := os) (L.mergeSort fun x y => decide (x ≤ y)).toArray
  refine ⟨rfl, ?_, hg, ?_⟩
  · exact ownsRow_sortedI (by simp) hbase hb h1 h2 h3
  · exact ⟨hg.os, hg.tape, hg.output, hg.size, fun k hk => hg.block k (by have := (Array.getElem?_eq_some_iff.1 hb).1; omega) (fun e => by cases e; omega)⟩

theorem grow_none (w : World) : grow w #[] = w := by simp [grow]
theorem reverse_own8 (B : Nat) (a : Option Addr) (cap : Nat) (L : List Int) (w : World) (h0 : 0 < L.length) (hl : L.length ≤ 1048576) (hown : w.ownsRow B 3 1 (.slice a L.length cap) L.length (L.map iv)) :
    Calls Try.prog 70 #[.slice a L.length cap] w fun e w' => e = .returned (.tuple #[]) ∧ w'.ownsRow B 3 1 (.slice a L.length cap) L.length (L.reverse.map iv) ∧ w.grownBy w' (blk a) ∧ Below B w w' := by
  rcases hown.2 with ⟨hn, _⟩ | ⟨g, cap', cur, he, hbase, hb, h1, h2, h3, h4⟩
  · simp at hn; omega
  simp only [Value.slice.injEq, true_and] at he
  obtain ⟨rfl, rfl⟩ := he
  have hm : ∀ M : List Int, M.map iv = M.map (Value.int .i64) := fun _ => rfl
  refine (Try.slices_Reverse_int g 0 cap L w (holds_of_blockI hb (by rw [← hm, ← h4, Nat.mul_one])) (by omega)).mono ?_
  rintro e w' ⟨rfl, nn, rfl⟩
  have hg := grownBy_sortedI (w := w) (g := g) (n := nn) (os := #[]) L.reverse.toArray
  rw [grow_none] at hg
  refine ⟨rfl, ?_, hg, ?_⟩
  · have := ownsRow_sortedI (n := nn) (os := #[]) (ts := L.reverse) (ss := L) (by simp) hbase hb h1 h2 h3
    rw [grow_none] at this; exact this
  · exact ⟨hg.os, hg.tape, hg.output, hg.size, fun k hk => hg.block k (by have := (Array.getElem?_eq_some_iff.1 hb).1; omega) (fun e => by cases e; omega)⟩

theorem compact_own8 (B : Nat) (a : Option Addr) (cap : Nat) (L : List Int) (w : World) (h0 : 0 < L.length) (hl : L.length ≤ 1048576) (hown : w.ownsRow B 3 1 (.slice a L.length cap) L.length (L.map iv)) :
    Calls Try.prog 71 #[.slice a L.length cap] w fun e w' => e = .returned (.slice a (Go.Lib.compact L).length cap) ∧ w'.ownsRow B 3 1 (.slice a (Go.Lib.compact L).length cap) (Go.Lib.compact L).length ((Go.Lib.compact L).map iv) ∧ w.grownBy w' (blk a) ∧ Below B w w' := by
  rcases hown.2 with ⟨hn, _⟩ | ⟨g, cap', cur, he, hbase, hb, h1, h2, h3, h4⟩
  · simp at hn; omega
  simp only [Value.slice.injEq, true_and] at he
  obtain ⟨rfl, rfl⟩ := he
  have hm : ∀ M : List Int, M.map iv = M.map (Value.int .i64) := fun _ => rfl
  have hle : (Go.Lib.compact L).length ≤ L.length := by unfold Go.Lib.compact Go.Lib.compactUpTo; rw [List.length_map]; exact Nat.le_trans (List.length_filter_le _ _) (by simp)
  refine (Try.slices_Compact_int g 0 cap L w (holds_of_blockI hb (by rw [← hm, ← h4, Nat.mul_one])) (by omega) h1).mono ?_
  rintro e w' ⟨rfl, nn, rfl⟩
  obtain ⟨D, hD⟩ : ∃ D, D = Go.Lib.compact L ++ List.replicate (L.length - (Go.Lib.compact L).length) 0 := ⟨_, rfl⟩
  rw [← hD]
  have hDl : D.length = L.length := by rw [hD]; simp; omega
  have hg := grownBy_sortedI (w := w) (g := g) (n := nn) (os := #[]) D.toArray
  rw [grow_none] at hg
  have hp := heap_sortedI (n := nn) (os := #[]) D.toArray hb
  rw [grow_none] at hp
  refine ⟨rfl, ⟨by simp, .inr ⟨g, cap, _, rfl, hbase, hp, by omega, h2, by simp [Go.Sort.putCells, h3], ?_⟩⟩, hg, ?_⟩
  · have ht := take_putCellsI cur D (by omega)
    have h5 : ((Go.Sort.putCells (Value.int .i64) 0 D.toArray cur).toList.take D.length).take (Go.Lib.compact L).length = (D.map (Value.int .i64)).take (Go.Lib.compact L).length := by rw [ht]
    rw [List.take_take, Nat.min_eq_left (by omega), ← List.map_take, hD, List.take_left'] at h5
    · rw [Nat.mul_one]; rw [hD]; exact h5
    · rfl
  · exact ⟨hg.os, hg.tape, hg.output, hg.size, fun k hk => hg.block k (by have := (Array.getElem?_eq_some_iff.1 hb).1; omega) (fun e => by cases e; omega)⟩

/-! Sorted, turned, compacted. -/
theorem bang8 (L : List Int) (j : Nat) : L.toArray[j]! = L.getD j 0 := by
  rw [List.getD_eq_getElem?_getD]
  rcases Nat.lt_or_ge j L.length with h | h
  · simp [h]
  · simp [h]
theorem compact_down {L : List Int} (hd : ∀ i j, i < j → j < L.length → L.getD j 0 ≤ L.getD i 0) : ∀ m, m + 1 ≤ L.length →
    (Go.Lib.compactUpTo L.toArray (m + 1)).Pairwise (· > ·) ∧ (∀ x ∈ Go.Lib.compactUpTo L.toArray (m + 1), L.getD m 0 ≤ x) ∧ ∀ x, x ∈ Go.Lib.compactUpTo L.toArray (m + 1) ↔ ∃ j, j < m + 1 ∧ L.getD j 0 = x
  | 0, _ => by
    have e : Go.Lib.compactUpTo L.toArray (0 + 1) = [L.getD 0 0] := by
      rw [Go.Lib.compactUpTo_succ]
      simp [Go.Lib.compactUpTo, Go.Lib.keeps]
    rw [e]
    refine ⟨by simp, by simp, fun x => ?_⟩
    rw [List.mem_singleton]
    constructor
    · exact fun h => ⟨0, by omega, h.symm⟩
    · rintro ⟨j, hj, h⟩
      have : j = 0 := by omega
      rw [← h, this]
  | m + 1, hm => by
    obtain ⟨h1, h2, h3⟩ := compact_down hd m (by omega)
    rw [Go.Lib.compactUpTo_succ]
    have hle := hd m (m + 1) (by omega) (by omega)
    by_cases he : L.getD (m + 1) 0 = L.getD m 0
    · have hk : Go.Lib.keeps L.toArray (m + 1) = false := Go.Lib.keeps_neg (by omega) (by rw [bang8, bang8]; exact he)
      rw [hk]
      simp only [Bool.false_eq_true, if_false, List.append_nil]
      refine ⟨h1, fun x hx => by rw [he]; exact h2 x hx, fun x => ?_⟩
      rw [h3]
      constructor
      · rintro ⟨j, hj, e⟩; exact ⟨j, by omega, e⟩
      · rintro ⟨j, hj, e⟩
        rcases Nat.lt_or_ge j (m + 1) with h | h
        · exact ⟨j, h, e⟩
        · have : j = m + 1 := by omega
          exact ⟨m, by omega, by rw [← e, this, he]⟩
    · have hk : Go.Lib.keeps L.toArray (m + 1) = true := Go.Lib.keeps_pos (by rw [bang8, bang8]; exact he)
      rw [hk, bang8]
      simp only [if_true]
      refine ⟨?_, ?_, fun x => ?_⟩
      · rw [List.pairwise_append]
        refine ⟨h1, by simp, fun x hx y hy => ?_⟩
        rw [List.mem_singleton] at hy
        have := h2 x hx
        rw [hy]; show L.getD (m + 1) 0 < x; omega
      · intro x hx
        rcases List.mem_append.1 hx with h | h
        · have := h2 x h; omega
        · rw [List.mem_singleton] at h; omega
      · rw [List.mem_append, h3, List.mem_singleton]
        constructor
        · rintro (⟨j, hj, e⟩ | e)
          · exact ⟨j, by omega, e⟩
          · exact ⟨m + 1, by omega, e.symm⟩
        · rintro ⟨j, hj, e⟩
          rcases Nat.lt_or_ge j (m + 1) with h | h
          · exact .inl ⟨j, h, e⟩
          · have : j = m + 1 := by omega
            exact .inr (by rw [← e, this])
theorem getD_mem8 {L : List Int} {x : Int} : x ∈ L ↔ ∃ j, j < L.length ∧ L.getD j 0 = x := by
  rw [List.mem_iff_getElem]
  constructor
  · rintro ⟨i, hi, e⟩; exact ⟨i, hi, by rw [List.getD_eq_getElem?_getD, List.getElem?_eq_getElem hi]; exact e⟩
  · rintro ⟨i, hi, e⟩; exact ⟨i, hi, by rw [List.getD_eq_getElem?_getD, List.getElem?_eq_getElem hi] at e; exact e⟩
/-- The distinct ones of a list, the greatest first. -/
def down8 (L : List Int) : List Int := Go.Lib.compact (srt8 L).reverse
theorem down8_facts (L : List Int) (h0 : 0 < L.length) : (down8 L).Pairwise (· > ·) ∧ ∀ x, x ∈ down8 L ↔ x ∈ L := by
  have hs : (srt8 L).Pairwise (fun x y => decide (x ≤ y) = true) := List.pairwise_mergeSort (fun a b c h1 h2 => by simp only [decide_eq_true_eq] at *; omega) (fun a b => by simp only [Bool.or_eq_true, decide_eq_true_eq]; omega) L
  have hr : (srt8 L).reverse.Pairwise (fun x y => y ≤ x) := by
    rw [List.pairwise_reverse]
    exact hs.imp fun h => of_decide_eq_true h
  have hlen : (srt8 L).reverse.length = L.length := by simp [srt8]
  have hd : ∀ i j, i < j → j < (srt8 L).reverse.length → (srt8 L).reverse.getD j 0 ≤ (srt8 L).reverse.getD i 0 := by
    intro i j hij hj
    have := List.pairwise_iff_getElem.1 hr i j (by omega) hj hij
    rw [List.getD_eq_getElem?_getD, List.getD_eq_getElem?_getD, List.getElem?_eq_getElem hj, List.getElem?_eq_getElem (show i < _ by omega)]
    exact this
  obtain ⟨m, hm⟩ : ∃ m, (srt8 L).reverse.length = m + 1 := ⟨L.length - 1, by omega⟩
  obtain ⟨h1, _, h3⟩ := compact_down hd m (by omega)
  have e : down8 L = Go.Lib.compactUpTo (srt8 L).reverse.toArray (m + 1) := by unfold down8 Go.Lib.compact; rw [hm]
  rw [e]
  refine ⟨h1, fun x => ?_⟩
  rw [h3, ← hm, ← getD_mem8, List.mem_reverse]
  unfold srt8
  exact List.mem_mergeSort
end Go.Proofs.Ytcipffimjaancaa
