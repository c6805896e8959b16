/-
  'OrderBy' of the program. No conditions but the bounds that Go gives a slice.
-/
import Derived.Test.YtpndfmlkceplcaaGu
import Derived.Test.YtpndfmlkceplcaaGv
import Derived.Test.YtpndfmlkceplcaaGc
import Derived.Test.YtpndfmlkceplcaaL
import Derived.Sort.OwnSortedInts
namespace Go.Proofs.Ytpndfmlkceplcaa
open Go.ChangeShapes Go.WideShapes Go.ChangeAt Go.RowKit Go.Sort Go.Shelf Go.Lib
set_option linter.unusedVariables false

theorem isNaN_g (x : Int) (w : World) : Calls Try.prog 155 #[.int .i64 x] w fun e w' => e = .returned (.bool false) ∧ w = w' := by
  go_enter Try.func155, Try.ntmps155
  go_wp2
  go_ret
  exact ⟨by simp, rfl⟩
set_option maxHeartbeats 400000 in
theorem compare_g (x y : Int) (w : World) : Calls Try.prog 105 #[.int .i64 x, .int .i64 y] w fun e w' => e = .returned (.int .i64 (cmpG x y)) ∧ w = w' := by
  obtain ⟨c, hc⟩ : ∃ c, c = cmpG x y := ⟨_, rfl⟩
  have HC := Lib.hid hc
  rw [← hc]
  clear hc
  by_cases h1 : x < y
  · have HE : Hid (c = -1) := by rw [HC.out]; exact if_pos h1
    go_enter Try.func105, Try.ntmps105
    go_wp2_with (refine (isNaN_g _ _).mono ?_; rintro e w' ⟨rfl, rfl⟩)
    go_ret
    exact ⟨by rw [HE.out]; rfl, rfl⟩
  · by_cases h2 : y < x
    · have HE : Hid (c = 1) := by rw [HC.out]; unfold cmpG; rw [if_neg h1, if_pos h2]; rfl
      go_enter Try.func105, Try.ntmps105
      go_wp2_with (refine (isNaN_g _ _).mono ?_; rintro e w' ⟨rfl, rfl⟩)
      go_ret
      exact ⟨by rw [HE.out]; rfl, rfl⟩
    · have HE : Hid (c = 0) := by rw [HC.out]; unfold cmpG; rw [if_neg h1, if_neg h2]; rfl
      go_enter Try.func105, Try.ntmps105
      go_wp2_with (refine (isNaN_g _ _).mono ?_; rintro e w' ⟨rfl, rfl⟩)
      go_ret
      exact ⟨by rw [HE.out]; rfl, rfl⟩

set_option maxRecDepth 100000 in
set_option maxHeartbeats 4000000 in
/-- The question of 'OrderBy'. -/
theorem order1_any (p i k n cap : Nat) (a : Option Addr) (l : List Int) (W : World) (hp : W.cell? ⟨p, 0, none⟩ = some (.slice a n cap)) (hn : l.length = n) (hrow : IntRow W a l) (hi : i < n) (hk : k < n) :
    Calls Try.prog 104 #[.int .i64 (i : Int), .int .i64 (k : Int), .pointer (some ⟨p, 0, none⟩)] W fun e W' => e = .returned (.int .i64 (cmpG (l.getD k 0) (l.getD i 0))) ∧ ∃ q os', W' = grow (W.drewN q) os' := by
  subst hn
  obtain ⟨b, off, rfl, hb, hc⟩ := row_at hrow hk
  have f1 := hc k hk
  have f2 := hc i hi
  have hki : (k : Int) < (l.length : Int) := by omega
  have hii : (i : Int) < (l.length : Int) := by omega
  generalize l.getD k 0 = y at f1 ⊢
  generalize l.getD i 0 = x at f2 ⊢
  have HC := Lib.hid (compare_g y x)
  clear hc hrow
  go_enter Try.func104, Try.ntmps104
  go_wp2
  go_region_with (go_at_call 105; refine (HC.out _).mono ?_; rintro e w' ⟨rfl, rfl⟩)
  all_goals
    go_wp2
    go_ret
    exact ⟨rfl, 1, #[], by rw [grow_empty]; rfl⟩

theorem sw_grown {n : Nat} {w W : World} {g : Nat} {d : Array Nat} (h : SW (encM n) w g 0 d W) : w.grownBy W (some g) := by
  obtain ⟨m, os, rfl⟩ := h
  unfold sortWorld
  refine ⟨rfl, rfl, rfl, by simp, fun k hk hne => ?_⟩
  rw [Go.Sort.heap_grow_old _ _ (by simpa using hk)]
  have : g ≠ k := fun e => hne (by rw [e])
  simp [putRow, mapBlock, Sort.ahead, Array.getElem?_modify, this]
/-- The numbers of a row. -/
def numsM (n : Nat) (d : Array Nat) : List Int := d.toList.map fun x => ((x % n : Nat) : Int)
theorem putRow_nums (n : Nat) (w : World) (g : Nat) (d : Array Nat) : putRow (encM n) w g 0 d = putRow (Value.int .i64) w g 0 (numsM n d).toArray := by
  unfold putRow
  apply mapBlock_congr
  intro c e fr _
  unfold putCells
  have hs : (numsM n d).toArray.size = d.size := by simp [numsM]
  rw [hs]
  congr 1
  funext k x
  split
  · rename_i h
    have hk : k - 0 < d.size := by omega
    rw [getElem!_pos d _ hk, getElem!_pos (numsM n d).toArray _ (by rw [hs]; exact hk)]
    simp [encM, numsM]
  · rfl
theorem sw_own {n B g : Nat} {w W : World} {d : Array Nat} {xs : List Value} (h : SW (encM n) w g 0 d W) (hd : d.size = n) (ho : w.ownsRow B 3 1 (.slice (some ⟨g, 0, none⟩) n n) n xs) :
    W.ownsRow B 3 1 (.slice (some ⟨g, 0, none⟩) n n) n ((numsM n d).map iv) := by
  obtain ⟨m, os, rfl⟩ := h
  rcases ho.2 with ⟨hn, _⟩ | ⟨g2, c2, cur, he, hB, hb, h1, h2, h3, _⟩
  · cases hn
  · simp only [Value.slice.injEq, Option.some.injEq, Addr.mk.injEq, and_true, true_and] at he
    obtain ⟨rfl, rfl⟩ := he
    have hl : (numsM n d).length = n := by simp [numsM, hd]
    have := ownsRow_sortedI (n := m) (os := os) (ss := numsM n d) (ts := numsM n d) rfl hB hb (by rw [hl]; exact Nat.le_refl _) h2 h3
    rw [hl, ← putRow_nums] at this
    exact this

/-- The sort within 'OrderBy', of one index at least. -/
theorem sortIdx_any (l : List Int) (n cap : Nat) (hn : l.length = n) (h1 : 1 ≤ n) (h40 : n ≤ 40) (p g B : Nat) (a : Option Addr) (W : World) (hp : W.cell? ⟨p, 0, none⟩ = some (.slice a n cap)) (hpl : p < W.heap.size) (hpg : p ≠ g) (hga : blk a ≠ some g) (hrow : IntRow W a l)
    (hown : W.ownsRow B 3 1 (.slice (some ⟨g, 0, none⟩) n n) n ((fillR (fun i => (i : Int)) n n).map iv)) :
    Calls Try.prog 103 #[.slice (some ⟨g, 0, none⟩) n n, .func (.func 104) #[] #[.pointer (some ⟨p, 0, none⟩)]] W fun e w' => e = .returned (.tuple #[]) ∧ w'.ownsRow B 3 1 (.slice (some ⟨g, 0, none⟩) n n) n (((ordL l).map Int.ofNat).map iv) ∧ W.grownBy w' (some g) := by
  have hsz : (Array.range l.length).size = n := by rw [Array.size_range]; exact hn
  have hgl := (hown.lt g rfl).2
  have hH : Holds (encM n) W g 0 (Array.range l.length) := by
    intro j hj
    rw [hsz] at hj
    refine ⟨?_, by have := hown.frozenAt j; simpa using this⟩
    rw [range_at _ j (by omega), Nat.zero_add, hown.cellAt j (by omega), List.getElem?_map, List.getElem?_eq_getElem (by rw [fillR_len]; exact hj)]
    simp only [fillR, List.getElem_map, List.getElem_range, Option.map_some]
    rw [if_pos hj]
    unfold encM iv
    rw [Nat.mod_eq_of_lt hj]
  have R : Row1 (encM n) W g 0 (Array.range l.length) := ⟨fun _ => rfl, hH, hgl⟩
  have hcmp : CmpLays1 Try.prog 104 #[.pointer (some ⟨p, 0, none⟩)] (encM n) (cfO l) g 0 (Array.range l.length).size W := by
    intro m os dk hs x y
    have hgr : W.grownBy (sortWorld (encM n) W g 0 m dk os) (some g) := sw_grown ⟨m, os, rfl⟩
    have hp2 : (sortWorld (encM n) W g 0 m dk os).cell? ⟨p, 0, none⟩ = some (.slice a n cap) := by
      rw [← hp]
      unfold World.cell?
      rw [hgr.block p hpl (fun e => hpg (by cases e; rfl))]
    have := order1_any p (x % n) (y % n) n cap a l _ hp2 hn (hrow.but (KeepsBut.grown hgr) hga) (Nat.mod_lt _ (by omega)) (Nat.mod_lt _ (by omega))
    unfold cfO
    rw [hn]
    exact this
  have hC := sortStable_any n 104 #[.pointer (some ⟨p, 0, none⟩)] (cfO l) (ltO l) (ltO_swo l) (enters_of Try.func104 (by kernel_rfl) rfl) g 0 n (Array.range l.length) W hcmp R (by rw [hsz]; exact h40) (start_agrees l)
  rw [hsz] at hC
  refine hC.mono ?_
  rintro e w' ⟨rfl, d', hp', hu', hS'⟩
  rw [← hsz] at hp' hu'
  have hord := order_of l d' hp' hu'
  have hd : d'.size = n := by rw [hp'.1, hsz]
  refine ⟨rfl, ?_, sw_grown hS'⟩
  have hfin := sw_own hS' hd hown
  have e : numsM n d' = (ordL l).map Int.ofNat := by
    unfold numsM
    rw [hord]
    apply List.map_congr_left
    intro x hx
    have := ordTo_lt l l.length x hx
    rw [Nat.mod_eq_of_lt (by omega)]; rfl
  rw [e] at hfin
  exact hfin
end Go.Proofs.Ytpndfmlkceplcaa
