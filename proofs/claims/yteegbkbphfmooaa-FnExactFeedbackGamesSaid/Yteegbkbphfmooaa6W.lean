/-
  'Tour.games': the iterator's contract, the rows that are kept named by the caller: for every loop body that keeps the iterator's memory, every game comes once, by winner and loser in ascending order. No conditions else.
-/
import Derived.Test.YteegbkbphfmooaaV6B
import Derived.Test.YteegbkbphfmooaaL
import Derived.Test.Yteegbkbphfmooaa6A
import Derived.Test.YteegbkbphfmooaaG
import Derived.RangeFuncNested
import Derived.RangeFuncBound
import Derived.RangeFuncCalls
import Derived.RangeFuncLeaves
import Derived.Shelf.Abstract
import Derived.Shelf.RegionOpen
import Derived.OwnWalkIn
import Derived.TacticsInMore
import Derived.LoopNIn
import Derived.LoopIn
namespace Go.Proofs.Yteegbkbphfmooaa
open Go.ChangeShapes Go.WideShapes Go.ChangeAt Go.RowKit Go.Shelf
attribute [local go_sem] Oper.semAt_some
set_option linter.unusedVariables false

theorem games_nextW (m : Nat) (l : List Int) (k j : Nat) (hk : k < m) (x : Pl m) (hx : (rowG m l ⟨k, hk⟩)[j]? = some x) : ∃ rest, gamesL m l = (gamesTo m l k ++ (rowG m l ⟨k, hk⟩).take j) ++ x :: rest := by
  obtain ⟨rest, hr⟩ := gamesL_split m l (k + 1)
  refine ⟨(rowG m l ⟨k, hk⟩).drop (j + 1) ++ rest, ?_⟩
  have hj : j < (rowG m l ⟨k, hk⟩).length := by
    rcases Nat.lt_or_ge j (rowG m l ⟨k, hk⟩).length with h | h
    · exact h
    · rw [List.getElem?_eq_none h] at hx; cases hx
  have e : rowG m l ⟨k, hk⟩ = (rowG m l ⟨k, hk⟩).take j ++ x :: (rowG m l ⟨k, hk⟩).drop (j + 1) := by
    have h2 : (rowG m l ⟨k, hk⟩)[j] = x := by rw [List.getElem?_eq_getElem hj] at hx; exact Option.some.inj hx
    rw [← h2, ← List.drop_eq_getElem_cons hj, List.take_append_drop]
  rw [hr, gamesTo_succ m l k hk]
  conv => lhs; rw [e]
  simp
set_option maxRecDepth 100000 in
set_option maxHeartbeats 2000000 in
theorem games1W (n : Nat) (hn : 1 ≤ n) (ly Bn : Nat) (R : Nat → Obj → Prop) (nn : Int) (a : Option Addr) (cap : Nat) (l : List Int) (hok : Ok nn l) (Bz : Nat) (J Jx : List (Pl l.length) → World → Prop) (W : World)
    (hJ : OwnFrom W.heap.size J)
    (hY : ∀ pre x W1, J pre W1 → (∃ rest, gamesL l.length l = pre ++ x :: rest) → YieldAt Fence.wide (n - 1) Try.prog ly (encP x) W1 fun e W' =>
      (e = .returned (.bool true) ∧ J (pre ++ [x]) W' ∧ KeepR R W1 W' ∧ KeepsFrom Bz W1 W') ∨ (e = .returned (.bool false) ∧ Jx (pre ++ [x]) W' ∧ KeepsFrom Bz W1 W'))
    (hbox : Box W Bn 25 (.int .i64 nn) (.slice a l.length cap)) (hrow : IntRow W a l) (hBg : R Bn (.cells #[.int .i64 nn, .slice a l.length cap] 25 (0, 0))) (hag : ∀ b o, blk a = some b → R b o) (hfr : FreshR R W.heap.size) (h0 : J [] W) :
    CallsIn Fence.wide n Try.prog 123 #[.func (.yield ly) #[] #[], .pointer (some ⟨Bn, 0, none⟩)] W fun e W' => (∃ v, e = .returned v) ∧
      ((∃ xs, xs = gamesL l.length l ∧ J xs W') ∨ (∃ pre, True ∧ Jx pre W')) := by
  have hl8 : l.length ≤ 8 := by have := hok.2.1; have := hok.2.2.1; omega
  have c0 := hbox.c0
  have c1 := hbox.c1
  have HBX := Lib.hid hbox
  have HR := Lib.hid hrow
  have HOK := Lib.hid hok
  refine callsIn_of_wp Try.func123 rfl trivial ?_ rfl
  simp only [Try.ntmps123, List.size_toArray, List.length_cons, List.length_nil, Nat.reduceAdd, Nat.reduceSub, Array.replicate_succ, Array.replicate_zero, List.push_toArray, List.append_toArray, List.nil_append, List.cons_append]
  clear hbox hrow hok
  gi_wp2
  gi_loopw [10] (fun i wr => ∃ k : Nat, k ≤ l.length ∧ i = .int .i64 k ∧ J (gamesTo l.length l k) wr ∧ KeepR R W wr) (fun i _ => l.length - (intOf i).toNat)
  case atStart => exact ⟨0, Nat.zero_le _, rfl, h0, KeepR.refl _ _⟩
  case round =>
    obtain ⟨k, hk, rfl, hJk, hkp⟩ := hrel
    by_cases hlt : k < l.length
    · obtain ⟨x, hx, hx2, hx8⟩ := HOK.out.nat hlt
      have hes := elems_losers l.length l k x hl8 hx hx2
      obtain ⟨b, off, rfl, hbb, hcx⟩ := HR.out.at hlt
      rw [hx] at hcx
      have hcr := cell_keepR hcx hkp (p := ⟨b, off + k, none⟩) (fun o => hag b o rfl)
      have d1 := (HBX.out.keepR hkp hBg).c1
      have hib : (k : Int) < (l.length : Int) := by omega
      have hmx : l.length ≤ 9223372036854775807 := by omega
      have HK := Lib.hid hkp
      have HES := Lib.hid hes
      obtain ⟨m, hm⟩ : ∃ m, m = (elems x).length := ⟨_, rfl⟩
      have HM := Lib.hid hm
      have hm8 : m ≤ 8 := by rw [hm]; exact elTo_len x 8
      have hml : m = (losers l.length l k).length := by rw [hm, hes]; simp
      have HML := Lib.hid hml
      clear hx hcx hkp hes hm hml
      gi_wp2_with fail
      refine ⟨trivial, ?_⟩
      refine (callsIn_wide.2 (elementsOf_any x hx8 _)).mono ?_
      rintro e w1 ⟨⟨ge, ce, rfl, hown⟩, hb1⟩
      rw [← HM.out] at hown ⊢
      have hJ1 : J (gamesTo l.length l k) w1 := hJ _ wr w1 none hJk (grown_of_below hb1) (by simp)
      have HK1 := Lib.hid (HK.out.trans (KeepR.below hb1))
      have hsz := HK.out.size
      have HOW := Lib.hid hown
      clear hown hb1 hJk
      gi_wp2
      gi_loopw [18] (fun i wr => ∃ j : Nat, j ≤ m ∧ i = .int .i64 j ∧ J (gamesTo l.length l k ++ (rowG l.length l ⟨k, hlt⟩).take j) wr ∧ KeepR R w1 wr) (fun i _ => m - (intOf i).toNat)
      case atStart => exact ⟨0, Nat.zero_le _, rfl, by simpa using hJ1, KeepR.refl _ _⟩
      case round =>
        obtain ⟨j, hj, rfl, hJj, hkj⟩ := hrel
        by_cases hlt2 : j < m
        · have hjl : j < (losers l.length l k).length := by rw [← HML.out]; exact hlt2
          obtain ⟨y, hy⟩ : ∃ y : Fin l.length, y = (losers l.length l k)[j] := ⟨_, rfl⟩
          have hrl : (rowG l.length l ⟨k, hlt⟩).length = m := by rw [HML.out]; simp [rowG]
          have hsn : (rowG l.length l ⟨k, hlt⟩).take (j + 1) = (rowG l.length l ⟨k, hlt⟩).take j ++ [(⟨k, hlt⟩, y)] := by
            apply take_snoc
            simp [rowG, List.getElem?_eq_getElem hjl, hy]
          have hroom := games_nextW l.length l k j hlt (⟨k, hlt⟩, y) (by simp [rowG, List.getElem?_eq_getElem hjl, hy])
          obtain ⟨fn, tmps, assign, body, hyy, hR⟩ := hY _ (⟨k, hlt⟩, y) wr hJj hroom
          dsimp only [encP] at hyy
          have hcr2 : wr.cell? ⟨ge, j, none⟩ = some (.int .i64 (y.val : Int)) := by
            rw [(own_keepR HOW.out hkj (fun g cur hg => hfr.int g cur (by omega))).cellAt j (by omega), HES.out, List.map_map]
            simp [List.getElem?_eq_getElem hjl, ← hy, nv]
          have hjb : (j : Int) < (m : Int) := by omega
          have HSN := Lib.hid hsn
          clear hroom hsn hy hrl hjl
          gi_wp2
          refine hR.mono ?_
          rintro e W3 (⟨rfl, hJ3, hk3, _⟩ | ⟨rfl, hJx3, _⟩)
          · rw [List.append_assoc, ← HSN.out] at hJ3
            have HK3 := Lib.hid (hkj.trans hk3)
            clear hR hkj hk3
            gi_wp2
            go_roundw
            case rel => exact ⟨j + 1, by omega, by go_num, hJ3, HK3.out⟩
            case measure => simp [intOf]; omega
          · clear hR
            gi_wp2
            refine bodyPost_ret (results_none rfl _ _ _) rfl ?_
            exact ⟨⟨_, rfl⟩, .inr ⟨_, trivial, hJx3⟩⟩
        · obtain rfl : j = m := by omega
          have hfull : (rowG l.length l ⟨k, hlt⟩).take j = rowG l.length l ⟨k, hlt⟩ := List.take_of_length_le (by rw [HML.out]; simp [rowG])
          rw [hfull, ← gamesTo_succ] at hJj
          have HK2 := Lib.hid (HK1.out.trans hkj)
          clear hfull hkj
          gi_wp2
          go_roundw
          case rel => exact ⟨k + 1, by omega, by go_num, hJj, HK2.out⟩
          case measure => simp [intOf]; omega
    · obtain rfl : k = l.length := by omega
      gi_wp2
      go_end0
      exact ⟨⟨_, rfl⟩, .inl ⟨_, rfl, hJk⟩⟩

/-- The iterator's contract. -/
theorem games_stopsW (n : Nat) (hn : 1 ≤ n) (Bn Bz : Nat) (R : Nat → Obj → Prop) (nn : Int) (a : Option Addr) (cap : Nat) (l : List Int) (hok : Ok nn l) (w : World)
    (hbox : Box w Bn 25 (.int .i64 nn) (.slice a l.length cap)) (hrow : IntRow w a l) (hBg : R Bn (.cells #[.int .i64 nn, .slice a l.length cap] 25 (0, 0))) (hag : ∀ b o, blk a = some b → R b o) (hfr : FreshR R w.heap.size) :
    SeqY Fence.wide n Try.prog 123 #[.pointer (some ⟨Bn, 0, none⟩)] (encP (m := l.length)) (fun pre x _ => ∃ rest, gamesL l.length l = pre ++ x :: rest) (KeepR R) (fun xs => xs = gamesL l.length l) (fun _ => True) Bz w :=
  fun ly J Jx W hW _ hJ hJx hY h0 =>
    games1W n hn ly Bn R nn a cap l hok Bz J Jx W hJ hY (hbox.below hW hbox.lt) (hrow.below hW (Nat.le_refl _)) hBg hag (hfr.mono hW.size) h0
end Go.Proofs.Yteegbkbphfmooaa
