/-
  Strong parts, program and model: six texts in one.
-/
import Derived.Test.Ytgjogbihadiojaa8D
import Derived.Test.YtgjogbihadiojaaE
import Derived.Test.YtgjogbihadiojaaG
import Derived.Test.YtgjogbihadiojaaShelf
import Derived.Test.YtgjogbihadiojaaShelfS
import Derived.Test.Ytgjogbihadiojaa8C
import Derived.Test.YtgjogbihadiojaaN
import Derived.Sort.OwnSortedInts
namespace Go.Proofs.Ytgjogbihadiojaa
open Go.ChangeShapes Go.WideShapes Go.ChangeAt Go.RowKit
set_option linter.unusedVariables false

/-- Where the model's search stands. -/
def RcAt (l : List Int) (b s : Nat) : Prop := s < 2 ^ l.length ∧ s.testBit b = true ∧ ∀ x, s.testBit x = true → Rc.R (ww l) b x

end Go.Proofs.Ytgjogbihadiojaa
namespace Go.Proofs.Ytgjogbihadiojaa
open Go.ChangeShapes Go.WideShapes Go.ChangeAt Go.RowKit
set_option linter.unusedVariables false

/-- What both 'ReachOf' answer. -/
noncomputable def reachR (n : Int) (l : List Int) (p : Int) : Int := if okB n l && pl n p then (Rc.rs l.length (ww l) p.toNat : Int) else 0

end Go.Proofs.Ytgjogbihadiojaa
namespace Go.Proofs.Ytgjogbihadiojaa
open Go.ChangeShapes Go.WideShapes Go.ChangeAt Go.RowKit Go.Sort
set_option linter.unusedVariables false

def srt8 (L : List Int) : List Int := L.mergeSort fun x y => decide (x ≤ y)
theorem srt8_len (L : List Int) : (srt8 L).length = L.length := by simp [srt8]
/-- The library's sort of a row of the call's own. -/
theorem sort_own8 (B : Nat) (a : Option Addr) (cap : Nat) (L : List Int) (w : World) (h0 : 0 < L.length) (hl : L.length ≤ 1048576) (hown : w.ownsRow B 3 1 (.slice a L.length cap) L.length (L.map iv)) :
    Calls Try.prog 115 #[.slice a L.length cap] w fun e w' => e = .returned (.tuple #[]) ∧ w'.ownsRow B 3 1 (.slice a L.length cap) L.length ((srt8 L).map iv) ∧ w.grownBy w' (blk a) ∧ Below B w w' := by
  rcases hown.2 with ⟨hn, _⟩ | ⟨g, cap', cur, he, hbase, hb, h1, h2, h3, h4⟩
  · simp at hn; omega
  simp only [Value.slice.injEq, true_and] at he
  obtain ⟨rfl, rfl⟩ := he
  have hm : ∀ M : List Int, M.map iv = M.map (Value.int .i64) := fun _ => rfl
  refine (Try.slices_Sort_int g 0 cap L w (holds_of_blockI hb (by rw [← hm, ← h4, Nat.mul_one])) (Array.getElem?_eq_some_iff.1 hb).1 (by omega)).mono ?_
  rintro e w' ⟨rfl, nn, os, rfl⟩
  have hg := grownBy_sortedI (w := w) (g := g) (n := nn) (os := os) (L.mergeSort fun x y => decide (x ≤ y)).toArray
  refine ⟨rfl, ?_, hg, ?_⟩
  · exact ownsRow_sortedI (by simp) hbase hb h1 h2 h3
  · exact ⟨hg.os, hg.tape, hg.output, hg.size, fun k hk => hg.block k (by have := (Array.getElem?_eq_some_iff.1 hb).1; omega) (fun e => by cases e; omega)⟩

theorem grow_none (w : World) : grow w #[] = w := by simp [grow]
theorem reverse_own8 (B : Nat) (a : Option Addr) (cap : Nat) (L : List Int) (w : World) (h0 : 0 < L.length) (hl : L.length ≤ 1048576) (hown : w.ownsRow B 3 1 (.slice a L.length cap) L.length (L.map iv)) :
    Calls Try.prog 116 #[.slice a L.length cap] w fun e w' => e = .returned (.tuple #[]) ∧ w'.ownsRow B 3 1 (.slice a L.length cap) L.length (L.reverse.map iv) ∧ w.grownBy w' (blk a) ∧ Below B w w' := by
  rcases hown.2 with ⟨hn, _⟩ | ⟨g, cap', cur, he, hbase, hb, h1, h2, h3, h4⟩
  · simp at hn; omega
  simp only [Value.slice.injEq, true_and] at he
  obtain ⟨rfl, rfl⟩ := he
  have hm : ∀ M : List Int, M.map iv = M.map (Value.int .i64) := fun _ => rfl
  refine (Try.slices_Reverse_int g 0 cap L w (holds_of_blockI hb (by rw [← hm, ← h4, Nat.mul_one])) (by omega)).mono ?_
  rintro e w' ⟨rfl, nn, rfl⟩
  have hg := grownBy_sortedI (w := w) (g := g) (n := nn) (os := #[]) L.reverse.toArray
  rw [grow_none] at hg
  refine ⟨rfl, ?_, hg, ?_⟩
  · have := ownsRow_sortedI (n := nn) (os := #[]) (ts := L.reverse) (ss := L) (by simp) hbase hb h1 h2 h3
    rw [grow_none] at this; exact this
  · exact ⟨hg.os, hg.tape, hg.output, hg.size, fun k hk => hg.block k (by have := (Array.getElem?_eq_some_iff.1 hb).1; omega) (fun e => by cases e; omega)⟩

theorem compact_own8 (B : Nat) (a : Option Addr) (cap : Nat) (L : List Int) (w : World) (h0 : 0 < L.length) (hl : L.length ≤ 1048576) (hown : w.ownsRow B 3 1 (.slice a L.length cap) L.length (L.map iv)) :
    Calls Try.prog 117 #[.slice a L.length cap] w fun e w' => e = .returned (.slice a (Go.Lib.compact L).length cap) ∧ w'.ownsRow B 3 1 (.slice a (Go.Lib.compact L).length cap) (Go.Lib.compact L).length ((Go.Lib.compact L).map iv) ∧ w.grownBy w' (blk a) ∧ Below B w w' := by
  rcases hown.2 with ⟨hn, _⟩ | ⟨g, cap', cur, he, hbase, hb, h1, h2, h3, h4⟩
  · simp at hn; omega
  simp only [Value.slice.injEq, true_and] at he
  obtain ⟨rfl, rfl⟩ := he
  have hm : ∀ M : List Int, M.map iv = M.map (Value.int .i64) := fun _ => rfl
  have hle : (Go.Lib.compact L).length ≤ L.length := by unfold Go.Lib.compact Go.Lib.compactUpTo; rw [List.length_map]; exact Nat.le_trans (List.length_filter_le _ _) (by simp)
  refine (Try.slices_Compact_int g 0 cap L w (holds_of_blockI hb (by rw [← hm, ← h4, Nat.mul_one])) (by omega) h1).mono ?_
  rintro e w' ⟨rfl, nn, rfl⟩
  obtain ⟨D, hD⟩ : ∃ D, D = Go.Lib.compact L ++ List.replicate (L.length - (Go.Lib.compact L).length) 0 := ⟨_, rfl⟩
  rw [← hD]
  have hDl : D.length = L.length := by rw [hD]; simp; omega
  have hg := grownBy_sortedI (w := w) (g := g) (n := nn) (os := #[]) D.toArray
  rw [grow_none] at hg
  have hp := heap_sortedI (n := nn) (os := #[]) D.toArray hb
  rw [grow_none] at hp
  refine ⟨rfl, ⟨by simp, .inr ⟨g, cap, _, rfl, hbase, hp, by omega, h2, by simp [Go.Sort.putCells, h3], ?_⟩⟩, hg, ?_⟩
  · have ht := take_putCellsI cur D (by omega)
    have h5 : ((Go.Sort.putCells (Value.int .i64) 0 D.toArray cur).toList.take D.length).take (Go.Lib.compact L).length = (D.map (Value.int .i64)).take (Go.Lib.compact L).length := by rw [ht]
    rw [List.take_take, Nat.min_eq_left (by omega), ← List.map_take, hD, List.take_left'] at h5
    · rw [Nat.mul_one]; rw [hD]; exact h5
    · rfl
  · exact ⟨hg.os, hg.tape, hg.output, hg.size, fun k hk => hg.block k (by have := (Array.getElem?_eq_some_iff.1 hb).1; omega) (fun e => by cases e; omega)⟩

/-! Sorted, turned, compacted. -/
theorem bang8 (L : List Int) (j : Nat) : L.toArray[j]! = L.getD j 0 := by
  rw [List.getD_eq_getElem?_getD]
  rcases Nat.lt_or_ge j L.length with h | h
  · simp [h]
  · simp [h]
theorem compact_down {L : List Int} (hd : ∀ i j, i < j → j < L.length → L.getD j 0 ≤ L.getD i 0) : ∀ m, m + 1 ≤ L.length →
    (Go.Lib.compactUpTo L.toArray (m + 1)).Pairwise (· > ·) ∧ (∀ x ∈ Go.Lib.compactUpTo L.toArray (m + 1), L.getD m 0 ≤ x) ∧ ∀ x, x ∈ Go.Lib.compactUpTo L.toArray (m + 1) ↔ ∃ j, j < m + 1 ∧ L.getD j 0 = x
  | 0, _ => by
    have e : Go.Lib.compactUpTo L.toArray (0 + 1) = [L.getD 0 0] := by
      rw [Go.Lib.compactUpTo_succ]
      simp [Go.Lib.compactUpTo, Go.Lib.keeps]
    rw [e]
    refine ⟨by simp, by simp, fun x => ?_⟩
    rw [List.mem_singleton]
    constructor
    · exact fun h => ⟨0, by omega, h.symm⟩
    · rintro ⟨j, hj, h⟩
      have : j = 0 := by omega
      rw [← h, this]
  | m + 1, hm => by
    obtain ⟨h1, h2, h3⟩ := compact_down hd m (by omega)
    rw [Go.Lib.compactUpTo_succ]
    have hle := hd m (m + 1) (by omega) (by omega)
    by_cases he : L.getD (m + 1) 0 = L.getD m 0
    · have hk : Go.Lib.keeps L.toArray (m + 1) = false := Go.Lib.keeps_neg (by omega) (by rw [bang8, bang8]; exact he)
      rw [hk]
      simp only [Bool.false_eq_true, if_false, List.append_nil]
      refine ⟨h1, fun x hx => by rw [he]; exact h2 x hx, fun x => ?_⟩
      rw [h3]
      constructor
      · rintro ⟨j, hj, e⟩; exact ⟨j, by omega, e⟩
      · rintro ⟨j, hj, e⟩
        rcases Nat.lt_or_ge j (m + 1) with h | h
        · exact ⟨j, h, e⟩
        · have : j = m + 1 := by omega
          exact ⟨m, by omega, by rw [← e, this, he]⟩
    · have hk : Go.Lib.keeps L.toArray (m + 1) = true := Go.Lib.keeps_pos (by rw [bang8, bang8]; exact he)
      rw [hk, bang8]
      simp only [if_true]
      refine ⟨?_, ?_, fun x => ?_⟩
      · rw [List.pairwise_append]
        refine ⟨h1, by simp, fun x hx y hy => ?_⟩
        rw [List.mem_singleton] at hy
        have := h2 x hx
        rw [hy]; show L.getD (m + 1) 0 < x; omega
      · intro x hx
        rcases List.mem_append.1 hx with h | h
        · have := h2 x h; omega
        · rw [List.mem_singleton] at h; omega
      · rw [List.mem_append, h3, List.mem_singleton]
        constructor
        · rintro (⟨j, hj, e⟩ | e)
          · exact ⟨j, by omega, e⟩
          · exact ⟨m + 1, by omega, e.symm⟩
        · rintro ⟨j, hj, e⟩
          rcases Nat.lt_or_ge j (m + 1) with h | h
          · exact .inl ⟨j, h, e⟩
          · have : j = m + 1 := by omega
            exact .inr (by rw [← e, this])
theorem getD_mem8 {L : List Int} {x : Int} : x ∈ L ↔ ∃ j, j < L.length ∧ L.getD j 0 = x := by
  rw [List.mem_iff_getElem]
  constructor
  · rintro ⟨i, hi, e⟩; exact ⟨i, hi, by rw [List.getD_eq_getElem?_getD, List.getElem?_eq_getElem hi]; exact e⟩
  · rintro ⟨i, hi, e⟩; exact ⟨i, hi, by rw [List.getD_eq_getElem?_getD, List.getElem?_eq_getElem hi] at e; exact e⟩
/-- The distinct ones of a list, the greatest first. -/
def down8 (L : List Int) : List Int := Go.Lib.compact (srt8 L).reverse
theorem down8_facts (L : List Int) (h0 : 0 < L.length) : (down8 L).Pairwise (· > ·) ∧ ∀ x, x ∈ down8 L ↔ x ∈ L := by
  have hs : (srt8 L).Pairwise (fun x y => decide (x ≤ y) = true) := List.pairwise_mergeSort (fun a b c h1 h2 => by simp only [decide_eq_true_eq] at *; omega) (fun a b => by simp only [Bool.or_eq_true, decide_eq_true_eq]; omega) L
  have hr : (srt8 L).reverse.Pairwise (fun x y => y ≤ x) := by
    rw [List.pairwise_reverse]
    exact hs.imp fun h => of_decide_eq_true h
  have hlen : (srt8 L).reverse.length = L.length := by simp [srt8]
  have hd : ∀ i j, i < j → j < (srt8 L).reverse.length → (srt8 L).reverse.getD j 0 ≤ (srt8 L).reverse.getD i 0 := by
    intro i j hij hj
    have := List.pairwise_iff_getElem.1 hr i j (by omega) hj hij
    rw [List.getD_eq_getElem?_getD, List.getD_eq_getElem?_getD, List.getElem?_eq_getElem hj, List.getElem?_eq_getElem (show i < _ by omega)]
    exact this
  obtain ⟨m, hm⟩ : ∃ m, (srt8 L).reverse.length = m + 1 := ⟨L.length - 1, by omega⟩
  obtain ⟨h1, _, h3⟩ := compact_down hd m (by omega)
  have e : down8 L = Go.Lib.compactUpTo (srt8 L).reverse.toArray (m + 1) := by unfold down8 Go.Lib.compact; rw [hm]
  rw [e]
  refine ⟨h1, fun x => ?_⟩
  rw [h3, ← hm, ← getD_mem8, List.mem_reverse]
  unfold srt8
  exact List.mem_mergeSort
end Go.Proofs.Ytgjogbihadiojaa
namespace Go.Proofs.Ytgjogbihadiojaa
open Go.ChangeShapes Go.WideShapes Go.ChangeAt Go.RowKit
set_option linter.unusedVariables false

theorem i64_andNot8 (x y : Nat) (hx : x < 2 ^ 62) (hy : y < 2 ^ 62) : bits .andNot .i64 (x : Int) (y : Int) = ((x ^^^ (x &&& y) : Nat) : Int) := by
  have e : BitVec.ofInt 64 (x : Int) &&& ~~~(BitVec.ofInt 64 (y : Int)) = BitVec.ofInt 64 (x : Int) ^^^ (BitVec.ofInt 64 (x : Int) &&& BitVec.ofInt 64 (y : Int)) := by
    apply BitVec.eq_of_getLsbD_eq
    intro i hi
    simp only [BitVec.getLsbD_and, BitVec.getLsbD_not, BitVec.getLsbD_xor, hi, decide_true, Bool.true_and]
    cases (BitVec.ofInt 64 (x : Int)).getLsbD i <;> cases (BitVec.ofInt 64 (y : Int)).getLsbD i <;> rfl
  show IntKind.i64.wrap ((BitVec.ofInt 64 x &&& ~~~(BitVec.ofInt 64 y)).toNat : Nat) = _
  rw [e, BitVec.toNat_xor, BitVec.toNat_and, ofInt_small x hx, ofInt_small y hy]
  have : x ^^^ (x &&& y) < 2 ^ 62 := Nat.xor_lt_two_pow hx (Nat.lt_of_le_of_lt Nat.and_le_left hx)
  exact wrap_small _ this

/-- What each player reaches. -/
noncomputable def rsL (l : List Int) : List Nat := (List.range l.length).map (Rc.rs l.length (ww l))
theorem rsL_len (l : List Int) : (rsL l).length = l.length := by simp [rsL]
/-- The distinct ones, the greatest first. -/
noncomputable def dsL (l : List Int) : List Nat := (down8 ((rsL l).map Int.ofNat)).map Int.toNat
theorem dsI_nat {l : List Int} (h0 : 0 < l.length) : down8 ((rsL l).map Int.ofNat) = (dsL l).map Int.ofNat := by
  have hf := (down8_facts ((rsL l).map Int.ofNat) (by rw [List.length_map, rsL_len]; exact h0)).2
  unfold dsL
  rw [List.map_map]
  have : ∀ L : List Int, (∀ x ∈ L, x ∈ (rsL l).map Int.ofNat) → L = L.map (Int.ofNat ∘ Int.toNat) := by
    intro L
    induction L with
    | nil => exact fun _ => rfl
    | cons x L ih =>
      intro h
      obtain ⟨y, _, hy⟩ := List.mem_map.1 (h x (by simp))
      rw [List.map_cons, ← ih (fun z hz => h z (by simp [hz]))]
      congr 1
      rw [← hy]; rfl
  exact this _ fun x hx => (hf x).1 hx
theorem vaR {n : Int} {l : List Int} (h : Ok n l) : Rc.Va l.length (ww l) := by
  refine ⟨h.wlt, fun i j hi hj hne => ?_⟩
  have bit : ∀ {p q : Nat}, p < l.length → (ww l p).testBit q = bt l p q := fun {p q} hp => by
    unfold bt; rw [(h.ww hp).1, bi_nat]
  rw [bit hi, bit hj]
  rcases Nat.lt_or_gt_of_ne hne with h1 | h1
  · have := (h.2.2.2 j hj).2.2 i h1
    change bt l j i ≠ bt l i j at this
    cases h2 : bt l i j <;> cases h3 : bt l j i <;> simp_all
  · have := (h.2.2.2 i hi).2.2 j h1
    change bt l i j ≠ bt l j i at this
    cases h2 : bt l i j <;> cases h3 : bt l j i <;> simp_all
theorem chainL {n : Int} {l : List Int} (h : Ok n l) : Rc.Chain l.length (ww l) (dsL l) := by
  have h0 : 0 < l.length := by have := h.1; have := h.2.2.1; omega
  obtain ⟨hp, hm⟩ := down8_facts ((rsL l).map Int.ofNat) (by rw [List.length_map, rsL_len]; exact h0)
  rw [dsI_nat h0] at hp hm
  constructor
  · rw [List.pairwise_map] at hp
    exact hp.imp fun h => by have := h; simp only [gt_iff_lt, Int.ofNat_eq_natCast] at this; omega
  · intro x
    have := hm (Int.ofNat x)
    rw [List.mem_map, List.mem_map] at this
    constructor
    · intro hx
      obtain ⟨y, hy, e⟩ := this.1 ⟨x, hx, rfl⟩
      have e2 : y = x := Int.ofNat.inj e
      rw [e2] at hy
      obtain ⟨a, ha, e3⟩ := List.mem_map.1 hy
      exact ⟨a, List.mem_range.1 ha, e3.symm⟩
    · rintro ⟨a, ha, rfl⟩
      obtain ⟨y, hy, e⟩ := this.2 ⟨_, List.mem_map.2 ⟨a, List.mem_range.2 ha, rfl⟩, rfl⟩
      have e2 : y = Rc.rs l.length (ww l) a := Int.ofNat.inj e
      rw [← e2]; exact hy
/-- What both 'StrongParts' return. -/
noncomputable def spR (n : Int) (l : List Int) : List Int := if okB n l then (Rc.dfs (dsL l)).map Int.ofNat else []
theorem ds_len {n : Int} {l : List Int} (h : Ok n l) : (dsL l).length ≤ 8 := by
  have h0 : 0 < l.length := by have := h.1; have := h.2.2.1; omega
  have h1 : (dsL l).length = (down8 ((rsL l).map Int.ofNat)).length := by rw [dsI_nat h0, List.length_map]
  have h2 : (down8 ((rsL l).map Int.ofNat)).length ≤ l.length := by
    unfold down8 Go.Lib.compact Go.Lib.compactUpTo
    rw [List.length_map]
    refine Nat.le_trans (List.length_filter_le _ _) ?_
    simp [srt8, rsL]
  have := h.2.1; have := h.2.2.1; omega
theorem spR_le (n : Int) (l : List Int) : (spR n l).length ≤ 8 := by
  unfold spR
  cases h : okB n l
  · simp
  · simp only [if_true, List.length_map, Rc.dfs_len]
    exact ds_len (okB_iff.1 h)
/-- The list while the next set is taken out of each. -/
def mix (ds : List Nat) (i : Nat) : List Nat := (Rc.dfs ds).take i ++ ds.drop i
theorem mix_len (ds : List Nat) (i : Nat) : (mix ds i).length = ds.length := by
  unfold mix; rw [List.length_append, List.length_take, List.length_drop, Rc.dfs_len]; omega
theorem mix_at {ds : List Nat} {i j : Nat} (hij : i ≤ j) (hj : j < ds.length) : (mix ds i)[j]? = some (ds.getD j 0) := by
  unfold mix
  rw [List.getElem?_append_right (by rw [List.length_take, Rc.dfs_len]; omega), List.length_take, Rc.dfs_len, Nat.min_eq_left (by omega), List.getElem?_drop, show i + (j - i) = j by omega, List.getD_eq_getElem?_getD, List.getElem?_eq_getElem hj]
  rfl
theorem mix_set {ds : List Nat} {i : Nat} (hi : i < ds.length) : (mix ds i).set i (Rc.df ds i) = mix ds (i + 1) := by
  unfold mix
  have hl : ((Rc.dfs ds).take i).length = i := by rw [List.length_take, Rc.dfs_len]; omega
  rw [List.set_append_right _ _ (by omega), hl, Nat.sub_self, take_snoc (Rc.dfs ds) i _ (Rc.dfs_at ds i hi), List.append_assoc]
  congr 1
  rw [List.drop_eq_getElem_cons hi, List.set_cons_zero]
  rfl
theorem mix_end {ds : List Nat} (h : 0 < ds.length) : mix ds (ds.length - 1) = Rc.dfs ds := by
  have h1 : ds.length - 1 < ds.length := by omega
  have h2 := mix_set h1
  rw [show ds.length - 1 + 1 = ds.length by omega] at h2
  have h3 : mix ds ds.length = Rc.dfs ds := by
    unfold mix
    rw [List.drop_length, List.append_nil, List.take_of_length_le (by rw [Rc.dfs_len]; exact Nat.le_refl _)]
  have h4 : Rc.df ds (ds.length - 1) = ds.getD (ds.length - 1) 0 := by
    unfold Rc.df
    rw [show ds.length - 1 + 1 = ds.length by omega, Rc.out_at (Nat.le_refl _)]
    simp
  rw [← h3, ← h2, h4]
  symm
  apply List.ext_getElem?
  intro j
  rw [List.getElem?_set]
  split
  · rename_i e
    subst e
    rw [if_pos (by rw [mix_len]; exact h1), mix_at (Nat.le_refl _) h1]
  · rfl
theorem ds_lt {n : Int} {l : List Int} (h : Ok n l) (i : Nat) : (dsL l).getD i 0 < 256 :=
  Nat.lt_of_lt_of_le (chainL h).size (pow_le _ (by have := h.2.1; have := h.2.2.1; omega))

/-- What the loops hold. -/
structure Lp9 (w W : World) (n : Int) (a : Option Addr) (l : List Int) (cap g c m : Nat) (L : List Nat) : Prop where
  hb : Below w.heap.size w W
  hx : Box W w.heap.size 25 (.int .i64 n) (.slice a l.length cap)
  hr : IntRow W a l
  ho : W.ownsRow (w.heap.size + 1) 3 1 (.slice (some ⟨g, 0, none⟩) m c) m (L.map nv)

set_option maxRecDepth 100000 in
set_option maxHeartbeats 4000000 in
theorem implParts (n : Int) (a : Option Addr) (l : List Int) (cap : Nat) (w : World) (hrow : IntRow w a l) (hl : l.length ≤ maxLen) :
    Calls Try.prog 68 #[.agg #[.int .i64 n, .slice a l.length cap]] w fun e w' => (∃ a0 c0, e = .returned (.slice a0 (spR n l).length c0) ∧ w'.ownsRow w.heap.size 3 1 (.slice a0 (spR n l).length c0) (spR n l).length ((spR n l).map iv)) ∧ Below w.heap.size w w' := by
  obtain ⟨i0, hi, hz0, hz1, hz2⟩ := info_parts infoInt
  obtain ⟨Wa, hWa⟩ : ∃ Wa, Wa = w.alloc (.cells #[.int .i64 n, .slice a l.length cap] 25) := ⟨_, rfl⟩
  have HWa := Lib.hid hWa
  have hba : Below w.heap.size w Wa := by rw [hWa]; exact (Below.refl _ _).alloc (Nat.le_refl _) _
  have xa : Box Wa w.heap.size 25 (.int .i64 n) (.slice a l.length cap) := by rw [hWa]; exact Box.new _ _ _ _
  have hrowa : IntRow Wa a l := hrow.below hba (Nat.le_refl _)
  have HRW := Lib.hid hrow
  have HL := Lib.hid hl
  clear hl hrow hWa
  cases hok : okB n l
  · have HO := Lib.hid hok
    have HE : Hid (spR n l = []) := by show _ = _; unfold spR; rw [hok]; rfl
    clear hok
    go_enter Try.func68, Try.ntmps68
    go_wp2_with fail
    rw [← HWa.out]
    refine (implTourOk n a l cap Wa hrowa HL.out).mono ?_
    rintro e w1 ⟨rfl, hb1⟩
    rw [HO.out]
    go_wp2
    go_ret
    refine ⟨⟨none, 0, by rw [HE.out]; rfl, ?_⟩, hba.trans (hb1.mono hba.size)⟩
    rw [HE.out]; exact World.ownsRow_nil _ _ _ _
  · have HO := Lib.hid hok
    have hk := okB_iff.1 hok
    have HK := Lib.hid hk
    have hl8 : l.length ≤ 8 := by have := hk.2.1; have := hk.2.2.1; omega
    have hl1 : 1 ≤ l.length := by have := hk.1; have := hk.2.2.1; omega
    obtain rfl : n = (l.length : Int) := hk.2.2.1.symm
    have HE : Hid (spR l.length l = (Rc.dfs (dsL l)).map Int.ofNat) := by show _ = _; unfold spR; rw [hok]; rfl
    clear hok hk
    go_enter Try.func68, Try.ntmps68
    go_wp2_with fail
    rw [← HWa.out]
    refine (implTourOk _ a l cap Wa hrowa HL.out).mono ?_
    rintro e w1 ⟨rfl, hb1⟩
    rw [HO.out]
    have xa1 := xa.below hb1 xa.lt
    have c0 := xa1.c0
    have B1 := Lib.hid (hba.trans (hb1.mono hba.size))
    have XA1 := Lib.hid xa1
    have hwl : Hid (w.heap.size + 1 ≤ w1.heap.size) := by have := xa1.lt; show _ ≤ _; omega
    clear hb1 xa xa1 hrowa
    go_wp2_with (refine wpList_make_full _ rfl _ _ 23 rfl w1.heap.size 3 i0 (.int .i64 0) 1 Try.underlying23 hi hz0 hz1 .i64 .i64 _ _ l.length rfl rfl rfl rfl ?c1 ?c2 ?c3 ?_)
    case c1 => rw [hz2]; omega
    case c2 => unfold maxLen; omega
    case c3 => exact Nat.le_refl _
    intro w2 hown hg
    have hb2 : Below w1.heap.size w1 w2 := (Below.refl _ w1).grown hg (Nat.le_refl _) (fun k hk => by cases hk)
    rw [zeros] at hown
    have HLP : Hid (Lp9 w w2 l.length a l cap w1.heap.size l.length l.length (fillTo (rsL l) l.length 0)) := by
      have b2 := B1.out.trans (hb2.mono B1.out.size)
      refine ⟨b2, XA1.out.below hb2 XA1.out.lt, HRW.out.below b2 (Nat.le_refl _), ?_⟩
      have e : fillTo (rsL l) l.length 0 = List.replicate l.length 0 := by simp [fillTo]
      rw [e]; exact hown.mono hwl.out
    obtain ⟨g, hgg⟩ : ∃ g, g = w1.heap.size := ⟨_, rfl⟩
    have hgw : Hid (w.heap.size ≠ g) := by have := hwl.out; show _ ≠ _; omega
    have hgl : Hid (w.heap.size ≤ g) := by have := hwl.out; show _ ≤ _; omega
    rw [← hgg] at HLP ⊢
    have hag : Hid (blk a ≠ some g) := by
      show _ ≠ _
      intro e
      rcases HRW.out with h | ⟨b', off, rfl, hbl, _⟩
      · rw [h] at hl1; simp at hl1
      · have e2 : b' = g := Option.some.inj e
        have := hgl.out; omega
    clear hown hg hb2 c0 hgg
    go_wp2
    go_loopw [14] (fun i wr => ∃ k : Nat, k ≤ l.length ∧ i = .int .i64 (k : Int) ∧ Hid (Lp9 w wr l.length a l cap g l.length l.length (fillTo (rsL l) l.length k))) (fun i _ => l.length - (intOf i).toNat)
    case atStart => exact ⟨0, Nat.zero_le _, rfl, HLP.out⟩
    case round =>
      clear HLP
      obtain ⟨k, hk, rfl, hlp⟩ := hrel
      by_cases hlt : k < l.length
      · have c0 := hlp.out.hx.c0
        have c1 := hlp.out.hx.c1
        have hcall := reachFrom_any l.length a l cap k wr hlp.out.hr HK.out hlt
        have hat : (rsL l)[k]? = some (Rc.rs l.length (ww l) k) := by unfold rsL; simp [hlt]
        obtain ⟨s, hs⟩ : ∃ s, s = Rc.rs l.length (ww l) k := ⟨_, rfl⟩
        rw [← hs] at hcall hat
        have HC := Lib.hid hcall
        have HAT := Lib.hid hat
        have hkl : (k : Int) < (l.length : Int) := by omega
        clear hcall hat hs
        go_wp2_with fail
        refine HC.out.mono ?_
        rintro e w4 ⟨rfl, hb4⟩
        have ho4 := own_below hlp.out.ho hb4
        have x4 := hlp.out.hx.below hb4 hlp.out.hx.lt
        have hcg : ∃ v, w4.cell? ⟨g, k, none⟩ = some v := by
          rw [ho4.cellAt k (by omega), List.getElem?_map]
          exact ⟨_, by rw [List.getElem?_eq_getElem (by have := ho4.1; rw [List.length_map] at this; omega)]; rfl⟩
        obtain ⟨v, hcg⟩ := hcg
        have hfg := ho4.frozenAt k
        have HN : Hid (Lp9 w (w4.setCell ⟨g, k, none⟩ (nv s)) l.length a l cap g l.length l.length (fillTo (rsL l) l.length (k + 1))) := by
          have b4 := hlp.out.hb.trans (hb4.mono hlp.out.hb.size)
          refine ⟨b4.setCell (p := ⟨g, k, none⟩) hgl.out _, x4.other _ _ hgw.out, ?_, ?_⟩
          · exact HRW.out.below (b4.setCell (p := ⟨g, k, none⟩) hgl.out _) (Nat.le_refl _)
          · have := (ho4.stored k (nv s)).1
            rw [← List.map_set, fillTo_set (rsL l) l.length k s (rsL_len l) hlt HAT.out] at this
            exact this
        clear c0 c1 ho4 x4 hb4
        go_wp2
        go_roundw
        case rel => exact ⟨k + 1, by omega, by go_num, HN.out⟩
        case measure => simp [intOf]; omega
      · obtain rfl : k = l.length := by omega
        obtain ⟨L, hL⟩ : ∃ L : List Int, L = (rsL l).map Int.ofNat := ⟨_, rfl⟩
        have hLl : L.length = l.length := by rw [hL, List.length_map, rsL_len]
        have hoL : Hid (wr.ownsRow (w.heap.size + 1) 3 1 (.slice (some ⟨g, 0, none⟩) L.length l.length) L.length (L.map iv)) := by
          have h1 := hlp.out.ho
          have h2 := fillTo_all (rsL l)
          rw [rsL_len] at h2
          rw [h2, nv_iv, ← hL] at h1
          rw [hLl]; exact h1
        obtain ⟨N, hN⟩ : ∃ N, N = l.length := ⟨_, rfl⟩
        have HD : Hid (down8 L = (dsL l).map Int.ofNat) := by show _ = _; rw [hL]; exact dsI_nat (by omega)
        have HLL := Lib.hid hLl
        have hsort := sort_own8 (w.heap.size + 1) (some ⟨g, 0, none⟩) l.length L wr (by omega) (by omega) hoL.out
        rw [hLl] at hsort
        have HS := Lib.hid hsort
        have HB := Lib.hid hlp.out.hb
        have HX := Lib.hid hlp.out.hx
        clear hsort hlp hL hLl
        go_wp2_with fail
        refine HS.out.mono ?_
        rintro e w5 ⟨rfl, ho5, hg5, _⟩
        have hrev := reverse_own8 (w.heap.size + 1) (some ⟨g, 0, none⟩) l.length (srt8 L) w5 (by rw [srt8_len, HLL.out]; omega) (by rw [srt8_len, HLL.out]; omega) (by rw [srt8_len, HLL.out]; exact ho5)
        rw [srt8_len, HLL.out] at hrev
        have HR := Lib.hid hrev
        have HG5 := Lib.hid hg5
        clear hrev ho5 hg5
        go_wp2_with fail
        refine HR.out.mono ?_
        rintro e w6 ⟨rfl, ho6, hg6, _⟩
        have hcm := compact_own8 (w.heap.size + 1) (some ⟨g, 0, none⟩) l.length (srt8 L).reverse w6 (by rw [List.length_reverse, srt8_len, HLL.out]; omega) (by rw [List.length_reverse, srt8_len, HLL.out]; omega) (by rw [List.length_reverse, srt8_len, HLL.out]; exact ho6)
        rw [List.length_reverse, srt8_len, HLL.out, show Go.Lib.compact (srt8 L).reverse = (dsL l).map Int.ofNat from HD.out, List.length_map] at hcm
        have HC := Lib.hid hcm
        have HG6 := Lib.hid hg6
        clear hcm ho6 hg6
        go_wp2_with fail
        refine HC.out.mono ?_
        rintro e w7 ⟨rfl, ho7, hg7, _⟩
        have hchain := chainL HK.out
        have hds0 : 0 < (dsL l).length := (hchain.head (vaR HK.out) (by omega)).2
        have hds8 : (dsL l).length ≤ 8 := ds_len HK.out
        have hdlt : Hid (∀ i, (dsL l).getD i 0 < 256) := fun i => ds_lt HK.out i
        obtain ⟨D, hD⟩ : ∃ D, D = dsL l := ⟨_, rfl⟩
        rw [← hD] at ho7 hds0 hds8 hdlt HE ⊢
        have hg57 : wr.grownBy w7 (some g) := (HG5.out.trans HG6.out).trans hg7
        have HLP : Hid (Lp9 w w7 l.length a l cap g l.length D.length (mix D 0)) := by
          have e : mix D 0 = D := by simp [mix]
          refine ⟨HB.out.grown hg57 HB.out.size (fun k e => by cases e; exact hgl.out), HX.out.grown hg57 (fun e => hgw.out (Option.some.inj e).symm), ?_, ?_⟩
          · exact HRW.out.below (HB.out.grown hg57 HB.out.size (fun k e => by cases e; exact hgl.out)) (Nat.le_refl _)
          · rw [e, nv_iv]; exact ho7
        obtain ⟨m, hm⟩ : ∃ m, D.length = m + 1 := ⟨D.length - 1, by omega⟩
        have HM := Lib.hid hm
        have hmm : ((m + 1 : Nat) : Int) - 1 = (m : Int) := by omega
        have hm7 : m ≤ 7 := by omega
        rw [hm] at HLP ⊢
        clear ho7 hg7 hg57 hchain hD hds0 hds8 hm
        go_wp2
        go_loopw [33] (fun i wr => ∃ k : Nat, k ≤ m ∧ i = .int .i64 (k : Int) ∧ Hid (Lp9 w wr l.length a l cap g l.length (m + 1) (mix D k))) (fun i _ => m - (intOf i).toNat)
        case atStart => exact ⟨0, Nat.zero_le _, rfl, HLP.out⟩
        case round =>
          clear HLP
          obtain ⟨k, hk, rfl, hlp⟩ := hrel
          by_cases hlt2 : k < m
          · obtain ⟨x, hx⟩ : ∃ x, x = D.getD k 0 := ⟨_, rfl⟩
            obtain ⟨y, hy⟩ : ∃ y, y = D.getD (k + 1) 0 := ⟨_, rfl⟩
            have hx8 : x < 256 := by rw [hx]; exact hdlt.out k
            have hy8 : y < 256 := by rw [hy]; exact hdlt.out (k + 1)
            have d0 : wr.cell? ⟨g, k, none⟩ = some (.int .i64 (x : Int)) := by
              rw [hlp.out.ho.cellAt k (by omega), List.getElem?_map, mix_at (Nat.le_refl _) (by rw [HM.out]; omega), ← hx]; rfl
            have d1 : wr.cell? ⟨g, k + 1, none⟩ = some (.int .i64 (y : Int)) := by
              rw [hlp.out.ho.cellAt (k + 1) (by omega), List.getElem?_map, mix_at (Nat.le_succ _) (by rw [HM.out]; omega), ← hy]; rfl
            have f0 := hlp.out.ho.frozenAt k
            obtain ⟨z, hz⟩ : ∃ z : Int, z = ((Rc.df D k : Nat) : Int) := ⟨_, rfl⟩
            have han : bits .andNot .i64 (x : Int) (y : Int) = z := by
              rw [hz, i64_andNot8 x y (by omega) (by omega), hx, hy]; rfl
            have hst := (hlp.out.ho.stored k (nv (Rc.df D k))).1
            rw [← List.map_set, mix_set (by rw [HM.out]; omega)] at hst
            have HN : Hid (Lp9 w (wr.setCell ⟨g, k, none⟩ (.int .i64 z)).drew l.length a l cap g l.length (m + 1) (mix D (k + 1))) := by
              have b4 := hlp.out.hb.setCell (p := ⟨g, k, none⟩) hgl.out (.int .i64 z)
              refine ⟨b4.drew, hlp.out.hx.other ⟨g, k, none⟩ (.int .i64 z) hgw.out, HRW.out.below b4.drew (Nat.le_refl _), ?_⟩
              rw [hz]; exact hst.drew
            have hw1 : IntKind.i64.wrap ((k : Int) + 1) = ((k + 1 : Nat) : Int) := wrap_small (k + 1) (by omega)
            have hk1 : ((k + 1 : Nat) : Int) < ((m + 1 : Nat) : Int) := by omega
            have hk0 : (k : Int) < ((m + 1 : Nat) : Int) := by omega
            have hk2 : (k : Int) < (m : Int) := by omega
            clear hx hy hlp hz hst
            go_wp2
            go_region
            all_goals
              go_wp2
              go_roundw
              case rel => exact ⟨k + 1, by omega, by go_num, HN.out⟩
              case measure => simp [intOf]; omega
          · obtain rfl : k = m := by omega
            have he : (spR l.length l).length = k + 1 := by rw [HE.out, List.length_map, Rc.dfs_len, HM.out]
            have HHE := Lib.hid he
            have hme := mix_end (ds := D) (by rw [HM.out]; omega)
            rw [HM.out, Nat.add_sub_cancel] at hme
            have hlo := hlp.out.ho
            rw [hme, nv_iv, ← HE.out] at hlo
            have HLO := Lib.hid hlo
            have HLB := Lib.hid hlp.out.hb
            clear hlp hlo hme he
            go_wp2
            go_ret
            exact ⟨⟨some ⟨g, 0, none⟩, l.length, by rw [HHE.out]; rfl, by rw [HHE.out]; exact HLO.out.mono (Nat.le_succ _)⟩, HLB.out⟩
end Go.Proofs.Ytgjogbihadiojaa
namespace Go.Proofs.Ytgjogbihadiojaa
open Go.ChangeShapes Go.WideShapes Go.ChangeAt Go.RowKit
set_option linter.unusedVariables false

theorem nb_step (f : Nat → Bool) (k : Nat) (c : Bool) (h : f k = c) : Rc.nb f (k + 1) = Rc.nb f k + if c then 2 ^ k else 0 := by subst h; rfl
theorem own_empty9 (w : World) (B p : Nat) (hB : B ≤ w.heap.size) (hp : w.heap.size = p) : (w.alloc (.cells #[] 3)).ownsRow B 3 1 (.slice (some ⟨p, 0, none⟩) 0 0) 0 [] := by
  subst hp
  have := World.ownsRow_lit (base := B) (e := 3) (size := 1) w #[] 0 hB (by simp) rfl
  simpa using this

/-- What the loops hold. -/
structure Lq (w W : World) (n : Int) (a : Option Addr) (l : List Int) (cap : Nat) (v : Value) (m : Nat) (L : List Value) : Prop where
  hb : Below w.heap.size w W
  hx : Box W w.heap.size 25 (.int .i64 n) (.slice a l.length cap)
  hr : IntRow W a l
  ho : W.ownsRow (w.heap.size + 1) 3 1 v m L
  hv : ∃ g, v.ownBlock = some g
theorem Lq.below {w W W' : World} {n : Int} {a : Option Addr} {l : List Int} {cap : Nat} {v : Value} {m : Nat} {L : List Value} (h : Lq w W n a l cap v m L) (hb : Below W.heap.size W W') : Lq w W' n a l cap v m L :=
  ⟨h.hb.trans (hb.mono h.hb.size), h.hx.below hb h.hx.lt, h.hr.below hb (Nat.le_refl _), h.ho.kept (grown_of_below hb) (by cases v.ownBlock <;> simp), h.hv⟩

end Go.Proofs.Ytgjogbihadiojaa
namespace Go.Proofs.Ytgjogbihadiojaa
open Go.ChangeShapes Go.WideShapes Go.ChangeAt Go.RowKit
set_option linter.unusedVariables false

/-- Whether everybody reaches everybody. -/
noncomputable def stB9 (l : List Int) : Bool := by classical exact decide (∀ a, a < l.length → Rc.rs l.length (ww l) a = 2 ^ l.length - 1)
theorem stB9_true {l : List Int} (h : ∀ a, a < l.length → Rc.rs l.length (ww l) a = 2 ^ l.length - 1) : stB9 l = true := by unfold stB9; exact decide_eq_true h
theorem stB9_false {l : List Int} {a : Nat} (ha : a < l.length) (h : Rc.rs l.length (ww l) a ≠ 2 ^ l.length - 1) : stB9 l = false := by unfold stB9; exact decide_eq_false fun k => h (k a ha)
theorem stB9_len {n : Int} {l : List Int} (h : Ok n l) : stB9 l = decide ((dsL l).length = 1) := by
  have h0 : 0 < l.length := by have := h.1; have := h.2.2.1; omega
  have := (chainL h).one (vaR h) h0
  unfold stB9
  rw [Bool.eq_iff_iff, decide_eq_true_iff, decide_eq_true_iff]
  exact this.symm
/-- What both 'IsStrong' answer. -/
noncomputable def isB9 (n : Int) (l : List Int) : Bool := okB n l && stB9 l

/-- What a loop holds of the memory. -/
structure Ls9 (w W : World) (n : Int) (a : Option Addr) (l : List Int) (cap : Nat) : Prop where
  hb : Below w.heap.size w W
  hx : Box W w.heap.size 25 (.int .i64 n) (.slice a l.length cap)
  hr : IntRow W a l
theorem Ls9.below {w W W' : World} {n : Int} {a : Option Addr} {l : List Int} {cap : Nat} (h : Ls9 w W n a l cap) (hb : Below W.heap.size W W') : Ls9 w W' n a l cap := ⟨h.hb.trans (hb.mono h.hb.size), h.hx.below hb h.hx.lt, h.hr.below hb (Nat.le_refl _)⟩

set_option maxRecDepth 100000 in
set_option maxHeartbeats 1000000 in
theorem implStrong (n : Int) (a : Option Addr) (l : List Int) (cap : Nat) (w : World) (hrow : IntRow w a l) (hl : l.length ≤ maxLen) :
    Calls Try.prog 26 #[.agg #[.int .i64 n, .slice a l.length cap]] w fun e w' => e = .returned (.bool (isB9 n l)) ∧ Below w.heap.size w w' := by
  obtain ⟨Wa, hWa⟩ : ∃ Wa, Wa = w.alloc (.cells #[.int .i64 n, .slice a l.length cap] 25) := ⟨_, rfl⟩
  have HWa := Lib.hid hWa
  have hba : Below w.heap.size w Wa := by rw [hWa]; exact (Below.refl _ _).alloc (Nat.le_refl _) _
  have hrowa : IntRow Wa a l := hrow.below hba (Nat.le_refl _)
  have hc := implParts n a l cap Wa hrowa hl
  obtain ⟨m, hm⟩ : ∃ m, m = (spR n l).length := ⟨_, rfl⟩
  have hm8 : m ≤ 8 := by rw [hm]; exact spR_le n l
  have HE : Hid (((m : Int) == 1) = isB9 n l) := by
    show _ = _
    unfold isB9
    rw [hm]
    cases hok : okB n l
    · have : spR n l = [] := by unfold spR; rw [hok]; rfl
      rw [this]; rfl
    · rw [Bool.true_and, stB9_len (okB_iff.1 hok), Bool.eq_iff_iff, beq_iff_eq, decide_eq_true_iff]
      have : (spR n l).length = (dsL l).length := by unfold spR; rw [hok]; simp only [if_true, List.length_map, Rc.dfs_len]
      rw [this]; omega
  rw [← hm] at hc
  have HC := Lib.hid hc
  clear hc hWa hrow hrowa hm hl
  go_enter Try.func26, Try.ntmps26
  go_wp2_with fail
  rw [← HWa.out]
  refine HC.out.mono ?_
  rintro e w1 ⟨⟨a0, c0, rfl, _⟩, hb1⟩
  go_wp2
  go_ret
  exact ⟨by rw [← HE.out]; rfl, hba.trans (hb1.mono hba.size)⟩
end Go.Proofs.Ytgjogbihadiojaa
