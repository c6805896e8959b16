/-
  The program sorts the players: by the number that is left, then by the player. Conditions: players below 8, a row of eight numbers.
-/
import Derived.Test.Ytnlbijmkehijiaa3Zc
import Derived.Test.YtnlbijmkehijiaaShelfF
import Derived.Shelf.GgSortFunc.Insertion
import Derived.Shelf.GgSortFunc.Compose
namespace Go.Proofs.Ytnlbijmkehijiaa
open Go.ChangeShapes Go.WideShapes Go.ChangeAt Go.RowKit Go.Sort
set_option linter.unusedVariables false

theorem below_two (w : World) (g : Nat) (x y : Int) (hg : g = w.heap.size) : (w.alloc (.cells #[.int .i64 x, .int .i64 y] 3)).cell? ⟨g, 0, none⟩ = some (.int .i64 x) ∧ (w.alloc (.cells #[.int .i64 x, .int .i64 y] 3)).cell? ⟨g, 1, none⟩ = some (.int .i64 y) := by
  subst hg
  exact cell_box2 w _ _ _
theorem alloc_drew (w : World) (o : Obj) : ∃ q os', (w.alloc o).drew = grow (w.drewN q) os' := ⟨1, #[o], by rw [alloc_eq_grow]; rfl⟩

set_option maxRecDepth 100000 in
set_option maxHeartbeats 2000000 in
theorem closure_any (a b Bx : Nat) (x y : Int) (ha : a < 8) (hb : b < 8) (w : World) (hx : w.cell? ⟨Bx, a, none⟩ = some (.int .i64 x)) (hy : w.cell? ⟨Bx, b, none⟩ = some (.int .i64 y)) :
    Calls Try.prog 72 #[.int .i64 a, .int .i64 b, .pointer (some ⟨Bx, 0, none⟩)] w fun e w' => e = .returned (.int .i64 (orI (cmpI x y) (cmpI a b))) ∧ ∃ q os', w' = grow (w.drewN q) os' := by
  go_enter Try.func72, Try.ntmps72
  go_wp2
  go_region_with (first | (go_at_call 74; refine (compare_any _ _ _).mono ?_; rintro e w' ⟨rfl, rfl⟩) | (go_at_call 73; refine (or_any _ _ (cmpI x y) (cmpI a b) _ (by simp only [World.cell?_drew]; exact (below_two _ _ _ _ (by simp)).1) (by simp only [World.cell?_drew]; exact (below_two _ _ _ _ (by simp)).2)).mono ?_; rintro e w' ⟨rfl, rfl⟩))
  all_goals
    go_wp2
    go_ret
    exact ⟨rfl, alloc_drew _ _⟩

def cfI (r : List Int) (a b : Nat) : Int := orI (cmpI (r.getD (a % 8) 0) (r.getD (b % 8) 0)) (cmpI ((a % 8 : Nat) : Int) ((b % 8 : Nat) : Int))
def enc8 (x : Nat) : Value := .int .i64 ((x % 8 : Nat) : Int)
theorem cfI_lt (r : List Int) (a b : Nat) : ltOf (cfI r) a b = decide (r.getD (a % 8) 0 < r.getD (b % 8) 0 ∨ (r.getD (a % 8) 0 = r.getD (b % 8) 0 ∧ a % 8 < b % 8)) := by
  unfold ltOf cfI orI cmpI
  generalize r.getD (a % 8) 0 = x
  generalize r.getD (b % 8) 0 = y
  have e : ((if (if x < y then (-1 : Int) else if y < x then 1 else 0) = 0 then (if ((a % 8 : Nat) : Int) < ((b % 8 : Nat) : Int) then (-1 : Int) else if ((b % 8 : Nat) : Int) < ((a % 8 : Nat) : Int) then 1 else 0) else (if x < y then (-1 : Int) else if y < x then 1 else 0)) < 0) = (x < y ∨ (x = y ∧ a % 8 < b % 8)) := by
    apply propext
    (repeat' split) <;> omega
  simp only [e]
theorem swo8 (r : List Int) : SWO (ltOf (cfI r)) where
  irrefl x := by rw [cfI_lt]; simp
  trans x y z h1 h2 := by rw [cfI_lt] at *; simp only [decide_eq_true_eq] at *; omega
  ntrans x y z h1 h2 := by rw [cfI_lt] at *; simp only [decide_eq_false_iff_not] at *; omega

/-- The players that lie in a row from a place on. -/
def Pls (W : World) (g off : Nat) (P : List Nat) : Prop := Holds enc8 W g off P.toArray ∧ g < W.heap.size

theorem sorted_players (r : List Int) (P : List Nat) (hP : ∀ x ∈ P, x < 8) (d' : Array Nat) (hp : PermIn 0 P.length P.toArray d') (hs : SortedIn (ltOf (cfI r)) 0 P.length d') : d' = (Tmpm.sortP r P).toArray := by
  have hsz : d'.size = P.length := by have := hp.1; simpa using this
  have hperm : d'.toList.Perm P := by
    have h := hp.2.2
    rw [← hsz, Array.extract_size] at h
    have e : P.toArray.extract 0 d'.size = P.toArray := by rw [show d'.size = P.toArray.size by rw [hsz]; simp]; exact Array.extract_size
    rw [e] at h
    exact h
  have hpw : d'.toList.Pairwise fun a b => Tmpm.leK r a b = true := by
    rw [List.pairwise_iff_getElem]
    intro i j hi hj hij
    have h := hs i j (Nat.zero_le _) hij (by rw [← hsz]; simpa using hj)
    have ei : d'[i]! = d'.toList[i] := by rw [getElem!_pos d' i (by simpa using hi)]; simp
    have ej : d'[j]! = d'.toList[j] := by rw [getElem!_pos d' j (by simpa using hj)]; simp
    rw [ei, ej, cfI_lt, decide_eq_false_iff_not] at h
    have hx : d'.toList[i] < 8 := hP _ (hperm.mem_iff.1 (List.getElem_mem hi))
    have hy : d'.toList[j] < 8 := hP _ (hperm.mem_iff.1 (List.getElem_mem hj))
    rw [Nat.mod_eq_of_lt hx, Nat.mod_eq_of_lt hy] at h
    rw [Tmpm.leK_iff]
    omega
  have := Tmpm.sortP_eq hperm hpw
  rw [← this]

set_option maxHeartbeats 1000000 in
theorem sortPlayers_any (r : List Int) (hr : r.length = 8) (g off cap : Nat) (P : List Nat) (hP : ∀ x ∈ P, x < 8) (w : World) (h : Pls w g off P) (hn : P.length ≤ 8) :
    Calls Try.prog 54 #[.agg (rv r), .slice (some ⟨g, off, none⟩) P.length cap] w fun e w' => (∃ v, e = .returned v) ∧ Pls w' g off (Tmpm.sortP r P) ∧ w.grownBy w' (some g) := by
  obtain ⟨hH, hg⟩ := h
  obtain ⟨W1, hW1⟩ : ∃ W1, W1 = w.alloc (.cells (rv r) 53) := ⟨_, rfl⟩
  have hb1 : Below w.heap.size w W1 := by rw [hW1]; exact (Below.refl _ _).alloc (Nat.le_refl _) _
  have hrow : W1.heap[w.heap.size]? = some (.cells (rv r) 53 (0, 0)) := by rw [hW1]; exact heap_alloc_new w _
  have s1 : W1.heap.size = w.heap.size + 1 := by rw [hW1]; simp
  have hg1 : w.grownBy W1 none := by rw [hW1]; exact World.grownBy_alloc _ _ _
  have hH1 : Holds enc8 W1 g off P.toArray := fun j hj => ⟨(hb1.cell (p := ⟨g, off + j, none⟩) hg).trans (hH j hj).1, (hb1.frozen (p := ⟨g, off + j, none⟩) hg).trans (hH j hj).2⟩
  have hcell : ∀ (m : Nat) (os : Array Obj) (dk : Array Nat) (x : Nat), x < 8 → (sortWorld enc8 W1 g off m dk os).cell? ⟨w.heap.size, x, none⟩ = some (.int .i64 (r.getD x 0)) := by
    intro m os dk x hx
    unfold sortWorld
    rw [cell?_grow _ _ _ (by rw [Go.Sort.size_putRow]; show w.heap.size < W1.heap.size; omega), cell?_putRow_other _ _ _ _ _ _ (.inl (by show w.heap.size ≠ g; omega)), cell?_ahead, cell_of_row _ _ _ _ _ _ hrow]
    unfold rv
    rw [List.getElem?_toArray, List.getElem?_map, List.getElem?_eq_getElem (by omega), List.getD_eq_getElem?_getD, List.getElem?_eq_getElem (by omega)]
    rfl
  have hcmp : CmpLays1 Try.prog 72 #[.pointer (some ⟨w.heap.size, 0, none⟩)] enc8 (cfI r) g off P.toArray.size W1 := by
    intro m os dk hs x y
    exact closure_any (x % 8) (y % 8) w.heap.size _ _ (Nat.mod_lt _ (by decide)) (Nat.mod_lt _ (by decide)) _ (hcell m os dk _ (Nat.mod_lt _ (by decide))) (hcell m os dk _ (Nat.mod_lt _ (by decide)))
  have hcon := Try.slices_SortFunc enc8 (fun _ => rfl) (cfI r) (swo8 r) 72 #[.pointer (some ⟨w.heap.size, 0, none⟩)] g off cap P.toArray W1 (enters_of Try.func72 (by kernel_rfl) rfl) hcmp hH1 (by omega) (by simp; omega)
  simp only [List.size_toArray] at hcon
  have hfin : ∀ (d' : Array Nat) (n : Nat) (os : Array Obj), PermIn 0 P.length P.toArray d' → SortedIn (ltOf (cfI r)) 0 P.length d' → Pls (sortWorld enc8 W1 g off n d' os) g off (Tmpm.sortP r P) ∧ w.grownBy (sortWorld enc8 W1 g off n d' os) (some g) := by
    intro d' n os hp hs
    have he := sorted_players r P hP d' hp hs
    have hh := holds_sortWorld enc8 W1 g off n P.toArray d' os (by omega) hH1 hp.1
    have hgr : W1.grownBy (sortWorld enc8 W1 g off n d' os) (some g) := by
      unfold sortWorld
      refine ⟨rfl, rfl, rfl, by simp, fun k hk hne => ?_⟩
      rw [Go.Sort.heap_grow_old _ _ (by simpa using hk)]
      have : g ≠ k := fun e => hne (by rw [e])
      simp [putRow, mapBlock, Sort.ahead, Array.getElem?_modify, this]
    refine ⟨⟨by rw [← he]; exact hh, Nat.lt_of_lt_of_le (by omega) hgr.size⟩, ?_⟩
    refine ⟨hgr.os.trans hg1.os, hgr.tape.trans hg1.tape, hgr.output.trans hg1.output, Nat.le_trans hg1.size hgr.size, fun k hk hne => ?_⟩
    exact (hgr.block k (by omega) hne).trans (hg1.block k hk (by simp))
  have HC := Lib.hid hcon
  have HF := Lib.hid hfin
  have HW := Lib.hid hW1
  clear hH hH1 hcell hcmp hcon hfin hW1 hrow hb1 hg1 s1
  go_enter Try.func54, Try.ntmps54
  go_wp2_with fail
  rw [← HW.out]
  refine HC.out.mono ?_
  rintro e w2 ⟨rfl, d', n, os, hp, hs, rfl⟩
  have hr2 := HF.out d' n os hp hs
  have HR := Lib.hid hr2
  clear hp hs hr2
  go_wp2
  go_end0
  exact ⟨⟨_, rfl⟩, HR.out⟩
end Go.Proofs.Ytnlbijmkehijiaa
