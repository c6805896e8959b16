/-
  'Tour.games': the iterator's contract: for every loop body that keeps the iterator's memory, every game comes once, by winner and loser in ascending order. No conditions else.
-/
import Derived.Test.YteiadhfjpohmdaaK
import Derived.Test.YteiadhfjpohmdaaG
import Derived.RangeFuncNested
import Derived.RangeFuncBound
import Derived.RangeFuncCalls
import Derived.RangeFuncLeaves
import Derived.Shelf.Abstract
import Derived.Shelf.RegionOpen
import Derived.OwnWalkIn
import Derived.TacticsInMore
import Derived.LoopNIn
import Derived.LoopIn
namespace Go.Proofs.Yteiadhfjpohmdaa
open Go.ChangeShapes Go.WideShapes Go.ChangeAt Go.RowKit Go.Shelf
attribute [local go_sem] Oper.semAt_some
set_option linter.unusedVariables false

abbrev Pl (m : Nat) := Fin m × Fin m
def encP {m : Nat} (x : Pl m) : Array Value := #[.int .i64 (x.1.val : Int), .int .i64 (x.2.val : Int)]
def losers (m : Nat) (l : List Int) (a : Nat) : List (Fin m) := (List.finRange m).filter fun b => bt l a b.val
def rowG (m : Nat) (l : List Int) (a : Fin m) : List (Pl m) := (losers m l a.val).map fun b => (a, b)
def gamesTo (m : Nat) (l : List Int) (k : Nat) : List (Pl m) := ((List.finRange m).take k).flatMap (rowG m l)
def gamesL (m : Nat) (l : List Int) : List (Pl m) := gamesTo m l m
theorem gamesTo_succ (m : Nat) (l : List Int) (k : Nat) (hk : k < m) : gamesTo m l (k + 1) = gamesTo m l k ++ rowG m l ⟨k, hk⟩ := by
  unfold gamesTo
  rw [take_snoc (List.finRange m) k ⟨k, hk⟩ (by simp [hk]), List.flatMap_append]
  simp
theorem gamesL_split (m : Nat) (l : List Int) (k : Nat) : ∃ rest, gamesL m l = gamesTo m l k ++ rest := by
  refine ⟨((List.finRange m).drop k).flatMap (rowG m l), ?_⟩
  unfold gamesL gamesTo
  rw [← List.flatMap_append, List.take_append_drop, List.take_of_length_le (by simp)]
theorem games_room (m : Nat) (l : List Int) (k j : Nat) (hk : k < m) (hj : j < (rowG m l ⟨k, hk⟩).length) : (gamesTo m l k ++ (rowG m l ⟨k, hk⟩).take j).length < (gamesL m l).length := by
  obtain ⟨rest, hr⟩ := gamesL_split m l (k + 1)
  rw [hr, gamesTo_succ m l k hk]
  simp only [List.length_append, List.length_take]
  omega
theorem elems_losers (m : Nat) (l : List Int) (k x : Nat) (hm : m ≤ 8) (hx : l.getD k 0 = (x : Int)) (hlt : x < 2 ^ m) : elems x = (losers m l k).map Fin.val := by
  have e1 : elTo x 8 = elTo x m := by
    unfold elTo
    have : (8 : Nat) = m + (8 - m) := by omega
    rw [this, List.range_add, List.filter_append]
    rw [show (List.map (m + ·) (List.range (8 - m))).filter (fun i => x.testBit i) = [] from by
      rw [List.filter_eq_nil_iff]
      intro b hb
      obtain ⟨c, _, rfl⟩ := List.mem_map.1 hb
      rw [Nat.testBit_lt_two_pow (Nat.lt_of_lt_of_le hlt (Nat.pow_le_pow_right (by decide) (by omega)))]
      simp]
    simp
  unfold elems
  rw [e1]
  unfold elTo losers
  have e2 : (List.finRange m).map Fin.val = List.range m := List.ext_getElem (by simp) (by intro i h1 h2; simp)
  rw [← e2, List.filter_map]
  congr 1
  apply List.filter_congr
  intro b _
  simp only [Function.comp, bt, hx, bi_nat]

/-- What a round leaves of the memory: every row but one lies as it lay. -/
structure KeepsBut (g : Nat) (W W' : World) : Prop where
  size : W.heap.size ≤ W'.heap.size
  same : ∀ (k : Nat) (o : Obj), W.heap[k]? = some o → o.isCells = true → k ≠ g → W'.heap[k]? = some o
theorem KeepsBut.refl (g : Nat) (W : World) : KeepsBut g W W := ⟨Nat.le_refl _, fun _ _ h _ _ => h⟩
theorem KeepsBut.trans {g : Nat} {A B C : World} (h : KeepsBut g A B) (k : KeepsBut g B C) : KeepsBut g A C :=
  ⟨Nat.le_trans h.size k.size, fun i o hi hc hg => k.same i o (h.same i o hi hc hg) hc hg⟩
theorem KeepsBut.below {g : Nat} {W W' : World} (h : Below W.heap.size W W') : KeepsBut g W W' :=
  ⟨h.size, fun k o hk _ _ => (h.block k (Array.getElem?_eq_some_iff.1 hk).1).trans hk⟩
theorem KeepsBut.grown {g : Nat} {W W' : World} (h : W.grownBy W' (some g)) : KeepsBut g W W' :=
  ⟨h.size, fun k o hk _ hg => (h.block k (Array.getElem?_eq_some_iff.1 hk).1 (fun e => hg (by cases e; rfl))).trans hk⟩
theorem KeepsBut.put (g : Nat) (W : World) (l : Nat) (o o' : Obj) (h : W.heap[l]? = some o) (hc : o.isCells = false) : KeepsBut g W (W.putObj l o') := by
  refine ⟨by simp, fun k ob hk hcb _ => ?_⟩
  have hne : k ≠ l := by intro e; subst e; rw [h] at hk; cases hk; rw [hc] at hcb; cases hcb
  exact (World.putObj_heap_other hne).trans hk
theorem Box.but {g p : Nat} {W W' : World} {t : TypeId} {v0 v1 : Value} (h : Box W p t v0 v1) (k : KeepsBut g W W') (hp : p ≠ g) : Box W' p t v0 v1 := k.same p _ h rfl hp
theorem cell_but {g : Nat} {W W' : World} {p : Addr} {v : Value} (h : W.cell? p = some v) (k : KeepsBut g W W') (hp : p.block ≠ g) : W'.cell? p = some v := by
  obtain ⟨o, ho, hc⟩ := cells_of_cell h
  exact (World.cell?_of_block ((k.same p.block o ho hc hp).trans ho.symm)).trans h
theorem IntRow.but {g : Nat} {W W' : World} {a : Option Addr} {l : List Int} (h : IntRow W a l) (k : KeepsBut g W W') (hp : blk a ≠ some g) : IntRow W' a l := by
  rcases h with h | ⟨b, off, rfl, hl, hc⟩
  · exact .inl h
  · refine .inr ⟨b, off, rfl, Nat.lt_of_lt_of_le hl k.size, fun j hj => cell_but (hc j hj) k (fun e => hp (by simp [blk]; exact e))⟩

set_option maxRecDepth 100000 in
set_option maxHeartbeats 2000000 in
theorem games1 (n : Nat) (hn : 1 ≤ n) (ly Bn g : Nat) (nn : Int) (a : Option Addr) (cap : Nat) (l : List Int) (hok : Ok nn l) (J Jx : List (Pl l.length) → World → Prop) (W : World)
    (hJ : AbidesFrom W.heap.size J)
    (hY : ∀ pre x W1, J pre W1 → pre.length < (gamesL l.length l).length → YieldAt Fence.wide (n - 1) Try.prog ly (encP x) W1 fun e W' =>
      (e = .returned (.bool true) ∧ J (pre ++ [x]) W' ∧ KeepsBut g W1 W') ∨ (e = .returned (.bool false) ∧ Jx (pre ++ [x]) W'))
    (hbox : Box W Bn 27 (.int .i64 nn) (.slice a l.length cap)) (hrow : IntRow W a l) (hBg : Bn ≠ g) (hag : blk a ≠ some g) (hgl : g < W.heap.size) (h0 : J [] W) :
    CallsIn Fence.wide n Try.prog 149 #[.func (.yield ly) #[] #[], .pointer (some ⟨Bn, 0, none⟩)] W fun e W' => (∃ v, e = .returned v) ∧
      ((∃ xs, xs = gamesL l.length l ∧ J xs W') ∨ (∃ pre, True ∧ Jx pre W')) := by
  have hl8 : l.length ≤ 8 := by have := hok.2.1; have := hok.2.2.1; omega
  have c0 := hbox.c0
  have c1 := hbox.c1
  have HBX := Lib.hid hbox
  have HR := Lib.hid hrow
  have HOK := Lib.hid hok
  refine callsIn_of_wp Try.func149 rfl trivial ?_ rfl
  simp only [Try.ntmps149, List.size_toArray, List.length_cons, List.length_nil, Nat.reduceAdd, Nat.reduceSub, Array.replicate_succ, Array.replicate_zero, List.push_toArray, List.append_toArray, List.nil_append, List.cons_append]
  clear hbox hrow hok
  gi_wp2
  gi_loopw [10] (fun i wr => ∃ k : Nat, k ≤ l.length ∧ i = .int .i64 k ∧ J (gamesTo l.length l k) wr ∧ KeepsBut g W wr) (fun i _ => l.length - (intOf i).toNat)
  case atStart => exact ⟨0, Nat.zero_le _, rfl, h0, KeepsBut.refl _ _⟩
  case round =>
    obtain ⟨k, hk, rfl, hJk, hkp⟩ := hrel
    by_cases hlt : k < l.length
    · obtain ⟨x, hx, hx2, hx8⟩ := HOK.out.nat hlt
      have hes := elems_losers l.length l k x hl8 hx hx2
      obtain ⟨b, off, rfl, hbb, hcx⟩ := HR.out.at hlt
      rw [hx] at hcx
      have hcr := cell_but hcx hkp (p := ⟨b, off + k, none⟩) (fun e => hag (by simp [blk]; exact e))
      have d1 := (HBX.out.but hkp hBg).c1
      have hib : (k : Int) < (l.length : Int) := by omega
      have hmx : l.length ≤ 9223372036854775807 := by omega
      have HK := Lib.hid hkp
      have HES := Lib.hid hes
      obtain ⟨m, hm⟩ : ∃ m, m = (elems x).length := ⟨_, rfl⟩
      have HM := Lib.hid hm
      have hm8 : m ≤ 8 := by rw [hm]; exact elTo_len x 8
      have hml : m = (losers l.length l k).length := by rw [hm, hes]; simp
      have HML := Lib.hid hml
      clear hx hcx hkp hes hm hml
      gi_wp2_with fail
      refine ⟨trivial, ?_⟩
      refine (callsIn_wide.2 (elementsOf_any x hx8 _)).mono ?_
      rintro e w1 ⟨⟨ge, ce, rfl, hown⟩, hb1⟩
      rw [← HM.out] at hown ⊢
      have hJ1 : J (gamesTo l.length l k) w1 := hJ _ wr w1 none hJk (grown_of_below hb1) (by simp)
      have HK1 := Lib.hid (HK.out.trans (KeepsBut.below hb1))
      have hge : ge ≠ g := by have := (hown.lt ge rfl).1; have := HK.out.size; omega
      have hgl1 : ge < w1.heap.size := (hown.lt ge rfl).2
      have HOW := Lib.hid hown
      clear hown hb1 hJk
      gi_wp2
      gi_loopw [18] (fun i wr => ∃ j : Nat, j ≤ m ∧ i = .int .i64 j ∧ J (gamesTo l.length l k ++ (rowG l.length l ⟨k, hlt⟩).take j) wr ∧ KeepsBut g w1 wr) (fun i _ => m - (intOf i).toNat)
      case atStart => exact ⟨0, Nat.zero_le _, rfl, by simpa using hJ1, KeepsBut.refl _ _⟩
      case round =>
        obtain ⟨j, hj, rfl, hJj, hkj⟩ := hrel
        by_cases hlt2 : j < m
        · have hjl : j < (losers l.length l k).length := by rw [← HML.out]; exact hlt2
          obtain ⟨y, hy⟩ : ∃ y : Fin l.length, y = (losers l.length l k)[j] := ⟨_, rfl⟩
          have hrl : (rowG l.length l ⟨k, hlt⟩).length = m := by rw [HML.out]; simp [rowG]
          have hsn : (rowG l.length l ⟨k, hlt⟩).take (j + 1) = (rowG l.length l ⟨k, hlt⟩).take j ++ [(⟨k, hlt⟩, y)] := by
            apply take_snoc
            simp [rowG, List.getElem?_eq_getElem hjl, hy]
          have hroom := games_room l.length l k j hlt (by rw [hrl]; exact hlt2)
          obtain ⟨fn, tmps, assign, body, hyy, hR⟩ := hY _ (⟨k, hlt⟩, y) wr hJj hroom
          dsimp only [encP] at hyy
          have hcy : w1.cell? ⟨ge, j, none⟩ = some (.int .i64 (y.val : Int)) := by
            rw [HOW.out.cellAt j (by omega), HES.out, List.map_map]
            simp [List.getElem?_eq_getElem hjl, ← hy, nv]
          have hcr2 := cell_but hcy hkj (p := ⟨ge, j, none⟩) hge
          have hjb : (j : Int) < (m : Int) := by omega
          have HSN := Lib.hid hsn
          clear hroom hsn hcy hy hrl hjl
          gi_wp2
          refine hR.mono ?_
          rintro e W3 (⟨rfl, hJ3, hk3⟩ | ⟨rfl, hJx3⟩)
          · rw [List.append_assoc, ← HSN.out] at hJ3
            have HK3 := Lib.hid (hkj.trans hk3)
            clear hR hkj hk3
            gi_wp2
            go_roundw
            case rel => exact ⟨j + 1, by omega, by go_num, hJ3, HK3.out⟩
            case measure => simp [intOf]; omega
          · clear hR
            gi_wp2
            refine bodyPost_ret (results_none rfl _ _ _) rfl ?_
            exact ⟨⟨_, rfl⟩, .inr ⟨_, trivial, hJx3⟩⟩
        · obtain rfl : j = m := by omega
          have hfull : (rowG l.length l ⟨k, hlt⟩).take j = rowG l.length l ⟨k, hlt⟩ := List.take_of_length_le (by rw [HML.out]; simp [rowG])
          rw [hfull, ← gamesTo_succ] at hJj
          have HK2 := Lib.hid (HK1.out.trans hkj)
          clear hfull hkj
          gi_wp2
          go_roundw
          case rel => exact ⟨k + 1, by omega, by go_num, hJj, HK2.out⟩
          case measure => simp [intOf]; omega
    · obtain rfl : k = l.length := by omega
      gi_wp2
      go_end0
      exact ⟨⟨_, rfl⟩, .inl ⟨_, rfl, hJk⟩⟩

/-- The iterator's contract. -/
theorem games_stops (n : Nat) (hn : 1 ≤ n) (Bn g : Nat) (nn : Int) (a : Option Addr) (cap : Nat) (l : List Int) (hok : Ok nn l) (w : World)
    (hbox : Box w Bn 27 (.int .i64 nn) (.slice a l.length cap)) (hrow : IntRow w a l) (hBg : Bn ≠ g) (hag : blk a ≠ some g) (hgl : g < w.heap.size) :
    SeqStopsK Fence.wide n Try.prog 149 #[.pointer (some ⟨Bn, 0, none⟩)] (encP (m := l.length)) (KeepsBut g) (fun xs => xs = gamesL l.length l) (fun _ => True) (gamesL l.length l).length w :=
  fun ly J Jx W hW hJ hJx hY h0 =>
    games1 n hn ly Bn g nn a cap l hok J Jx W hJ hY (hbox.below hW hbox.lt) (hrow.below hW (Nat.le_refl _)) hBg hag (Nat.lt_of_lt_of_le hgl hW.size) h0
end Go.Proofs.Yteiadhfjpohmdaa
