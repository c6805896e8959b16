/-
  'allOrders' of the program: the iterator's contract: for every loop body that keeps the iterator's row, every order of the numbers comes once, in lexicographic order, each one in the same row. Condition: one to six numbers.
-/
import Derived.Test.YteiadhfjpohmdaaXn
import Derived.Test.YteiadhfjpohmdaaXb
import Derived.Test.YteiadhfjpohmdaaV6B
namespace Go.Proofs.Yteiadhfjpohmdaa
open Go.ChangeShapes Go.WideShapes Go.ChangeAt Go.RowKit Go.Shelf
attribute [local go_sem] Oper.semAt_some
set_option linter.unusedVariables false

namespace Rn
def ascC : List (List Nat) → Bool
  | x :: y :: t => decide (cd x < cd y) && ascC (y :: t)
  | _ => true
theorem ascC_at : ∀ (pre : List (List Nat)) (x y : List Nat) (rest : List (List Nat)), ascC (pre ++ x :: y :: rest) = true → cd x < cd y
  | [], x, y, rest, h => by
    simp only [List.nil_append, ascC, Bool.and_eq_true, decide_eq_true_eq] at h
    exact h.1
  | p :: ps, x, y, rest, h => by
    refine ascC_at ps x y rest ?_
    cases ps with
    | nil => simp only [List.cons_append, List.nil_append, ascC, Bool.and_eq_true] at h ⊢; exact h.2
    | cons q qs => simp only [List.cons_append, ascC, Bool.and_eq_true] at h ⊢; exact h.2
theorem allO_asc {n : Nat} (h6 : n ≤ 6) {pre rest : List (List Nat)} {x y : List Nat} (h : allO n = pre ++ x :: y :: rest) : cd x < cd y := by
  have hk : ∀ n : Fin 7, ascC (allO n.val) = true := by decide +kernel
  have := hk ⟨n, by omega⟩
  simp only at this
  rw [h] at this
  exact ascC_at _ _ _ _ this
theorem allO_cd {n : Nat} (h6 : n ≤ 6) {x : List Nat} (h : x ∈ allO n) : cd x < 1000000 := by
  have hk : ∀ n : Fin 7, ((allO n.val).all fun o => decide (cd o < 1000000)) = true := by decide +kernel
  have := List.all_eq_true.1 (hk ⟨n, by omega⟩) x h
  simpa using this
end Rn

/-- An order that comes: its numbers; its row's block and room. -/
abbrev Or := List Nat × Nat × Nat
def encO (x : Or) : Array Value := #[.slice (some ⟨x.2.1, 0, none⟩) x.1.length x.2.2]
/-- What is known of an order that comes. -/
structure YO (n B M : Nat) (pre : List Or) (x : Or) (W : World) : Prop where
  next : ∃ rest, Rn.allO n = pre.map Prod.fst ++ x.1 :: rest
  own : W.ownsRow B 3 1 (.slice (some ⟨x.2.1, 0, none⟩) x.1.length x.2.2) x.1.length (x.1.map nv)
  low : x.2.1 < M
theorem own_turnX {A C : World} {row : Option Nat} {B n : Nat} {e : TypeId} {v : Value} {xs : List Value} (h : A.ownsRow B e 1 v n xs) (hg : A.grownBy C row) (hr : ∀ r, row = some r → ∃ o : Obj, A.heap[r]? = some o ∧ o.isCells = false) : C.ownsRow B e 1 v n xs := by
  rcases h.2 with ⟨hn, h0⟩ | ⟨g, cap, cur, he, hB, hgc, q⟩
  · exact ⟨h.1, .inl ⟨hn, h0⟩⟩
  · exact ⟨h.1, .inr ⟨g, cap, cur, he, hB, (grownBy_keeps_cells hg hr hgc rfl).trans hgc, q⟩⟩
theorem YO.put {n B M : Nat} {pre : List Or} {x : Or} {W : World} (h : YO n B M pre x W) (k : Nat) (o o2 : Obj) (ho : W.heap[k]? = some o) (hc : o.isCells = false) : YO n B M pre x (W.putObj k o2) :=
  ⟨h.next, own_turnX h.own (grownBy_putObj' W k o2) (fun r e => by cases e; exact ⟨o, ho, hc⟩), h.low⟩
theorem YO.is {n B M : Nat} {pre : List Or} {x : Or} {W : World} (h : YO n B M pre x W) (h6 : n ≤ 6) : Rn.isO n x.1 = true := by
  obtain ⟨rest, hr⟩ := h.next
  exact Rn.allO_is h6 (by rw [hr]; simp)

/-- The row's numbers, read off the memory. -/
def rdX (W : World) (g n : Nat) : List Nat := (List.range n).map fun j => match W.cell? ⟨g, j, none⟩ with
  | some (.int _ z) => z.toNat
  | _ => 0
theorem rdX_own {W : World} {B g n c : Nat} {x : List Nat} (hx : x.length = n) (h : W.ownsRow B 3 1 (.slice (some ⟨g, 0, none⟩) n c) n (x.map nv)) : rdX W g n = x := by
  apply List.ext_getElem
  · simp [rdX, hx]
  · intro j h1 h2
    have hj : j < n := by omega
    simp only [rdX, List.getElem_map, List.getElem_range]
    rw [h.cellAt j (by omega), List.getElem?_map, List.getElem?_eq_getElem h2]
    rfl

/-- How far the loop is. -/
def msX (f : Value) (W : World) (g n : Nat) : Nat := match f with
  | .bool true => 1000000 - Rn.cd (rdX W g n)
  | _ => 0
theorem own_keep1 {R : Nat → Obj → Prop} {W W2 : World} {B g c n : Nat} {e : TypeId} {xs : List Value} (h : W.ownsRow B e 1 (.slice (some ⟨g, 0, none⟩) n c) n xs) (k : KeepR R W W2) (hp : ∀ o, R g o) : W2.ownsRow B e 1 (.slice (some ⟨g, 0, none⟩) n c) n xs := by
  rcases h.2 with ⟨hn, h0⟩ | ⟨g2, cap, cur, he, hB, hg, q⟩
  · cases hn
  · simp only [Value.slice.injEq, Option.some.injEq, Addr.mk.injEq, and_true, true_and] at he
    obtain ⟨rfl, rfl⟩ := he
    exact ⟨h.1, .inr ⟨g, c, cur, rfl, hB, k.same g _ hg rfl (hp _), q⟩⟩
theorem allOrders_any (n : Int) (w : World) : Calls Try.prog 138 #[.int .i64 n] w fun e w' => e = .returned (.func (.func 169) #[] #[.pointer (some ⟨w.heap.size, 0, none⟩)]) ∧ w' = w.alloc (.cells #[.int .i64 n] 3) := by
  go_enter Try.func138, Try.ntmps138
  go_wp2
  go_ret
  exact ⟨rfl, rfl⟩

set_option maxRecDepth 100000 in
set_option maxHeartbeats 2000000 in
theorem orders1 (ly Bp Bz n : Nat) (h1 : 1 ≤ n) (h6 : n ≤ 6) (R : Nat → Nat → Obj → Prop) (J Jx : Nat → List Or → World → Prop) (B0 : Nat) (W : World) (hB0 : B0 ≤ W.heap.size)
    (hJ : ∀ M, OwnM W.heap.size M (J M))
    (hY : ∀ M pre x W1, J M pre W1 → YO n B0 M pre x W1 → YieldAt Fence.wide 6 Try.prog ly (encO x) W1 fun e W' =>
      (e = .returned (.bool true) ∧ J M (pre ++ [x]) W' ∧ KeepR (R M) W1 W' ∧ KeepsFrom Bz W1 W') ∨ (e = .returned (.bool false) ∧ Jx M (pre ++ [x]) W' ∧ KeepsFrom Bz W1 W'))
    (hbx : Boxed W Bp 3 (.int .i64 (n : Int))) (hfr : ∀ M b o, B0 ≤ b → b < M → R M b o)
    (h0 : ∀ M W1, Below W.heap.size W W1 → W.heap.size ≤ M → M ≤ W1.heap.size → J M [] W1) :
    Calls Try.prog 169 #[.func (.yield ly) #[] #[], .pointer (some ⟨Bp, 0, none⟩)] W fun e W' => (∃ v, e = .returned v) ∧
      ((∃ M xs, xs.map Prod.fst = Rn.allO n ∧ J M xs W') ∨ (∃ M pre, (∃ rest, Rn.allO n = pre.map Prod.fst ++ rest) ∧ Jx M pre W')) := by
  have hc := hbx.cell
  refine (callsIn_wide (n := 7)).1 ?_
  refine callsIn_of_wp Try.func169 rfl trivial ?_ rfl
  simp only [Try.ntmps169, List.size_toArray, List.length_cons, List.length_nil, Nat.reduceAdd, Nat.reduceSub, Array.replicate_succ, Array.replicate_zero, List.push_toArray, List.append_toArray, List.nil_append, List.cons_append]
  clear hbx
  gi_wp2_with fail
  refine ⟨trivial, ?_⟩
  refine (callsIn_wide.2 (playersOf_any n (by omega) W)).mono ?_
  rintro e w1 ⟨⟨g, c, rfl, ho⟩, hb⟩
  have hg := ho.lt g rfl
  obtain ⟨M, hM⟩ : ∃ M, M = w1.heap.size := ⟨_, rfl⟩
  have hj0 : J M [] w1 := h0 M w1 hb (by rw [hM]; exact hb.size) (by rw [hM]; exact Nat.le_refl _)
  have hgM : g < M := by rw [hM]; exact hg.2
  have hgW : W.heap.size ≤ g := hg.1
  have H0 : Hid (∃ (pre : List Or) (x : List Nat) (rest : List (List Nat)), Rn.allO n = pre.map Prod.fst ++ x :: rest ∧ w1.ownsRow W.heap.size 3 1 (.slice (some ⟨g, 0, none⟩) n c) n (x.map nv) ∧ J M pre w1) := by
    have hh := Rn.allO_head n
    cases ha : Rn.allO n with
    | nil => rw [ha] at hh; cases hh
    | cons x rest =>
      rw [ha] at hh
      obtain rfl : x = List.range n := by simpa using hh
      exact ⟨[], _, rest, rfl, ho, hj0⟩
  clear ho hb hM hg hj0 h0 hc
  gi_wp2
  gi_loopw [4] (fun f wr => (f = .bool true ∧ Hid (∃ (pre : List Or) (x : List Nat) (rest : List (List Nat)), Rn.allO n = pre.map Prod.fst ++ x :: rest ∧ wr.ownsRow W.heap.size 3 1 (.slice (some ⟨g, 0, none⟩) n c) n (x.map nv) ∧ J M pre wr)) ∨ (f = .bool false ∧ Hid (∃ pre : List Or, pre.map Prod.fst = Rn.allO n ∧ J M pre wr))) (fun f wr => msX f wr g n)
  case atStart => exact .inl ⟨rfl, H0.out⟩
  case round =>
    clear H0
    rcases hrel with ⟨rfl, hI⟩ | ⟨rfl, hI⟩
    · obtain ⟨pre, x, rest, hall, ho, hj⟩ := hI.out
      have hxl : x.length = n := Rn.isO_len (Rn.allO_is h6 (by rw [hall]; simp))
      have HRX := Lib.hid (rdX_own hxl ho)
      have hy : YO n B0 M pre (x, g, c) wr := ⟨⟨rest, hall⟩, by show wr.ownsRow _ _ _ _ _ _; rw [hxl]; exact ho.mono hB0, hgM⟩
      obtain ⟨fn, tmps, assign, body, hyy, hR⟩ := hY M pre (x, g, c) wr hj hy
      dsimp only [encO] at hyy
      rw [hxl] at hyy
      have HALL := Lib.hid hall
      have HXL := Lib.hid hxl
      have HO := Lib.hid ho
      clear hI hall hxl ho hj hy
      gi_wp2
      refine hR.mono ?_
      rintro e W3 (⟨rfl, hJ3, hk3, _⟩ | ⟨rfl, hJx3, _⟩)
      · have ho3 : W3.ownsRow W.heap.size 3 1 (.slice (some ⟨g, 0, none⟩) n c) n (x.map nv) := own_keep1 HO.out hk3 (fun o => hfr M g o (by omega) hgM)
        have HB := Lib.hid (becomeNext_any W.heap.size g n c x W3 HXL.out h1 (by omega) ho3)
        have hob : ∃ o : Obj, W3.heap[g]? = some o ∧ (o.isCells = false ∨ g < M) := by
          have := (ho3.lt g rfl).2
          exact ⟨_, Array.getElem?_eq_getElem this, .inr hgM⟩
        have HJ3 := Lib.hid hJ3
        have HOB := Lib.hid hob
        clear hR hJ3 hk3 ho3 hob hyy
        gi_wp2_with fail
        refine ⟨trivial, ?_⟩
        refine (callsIn_wide.2 HB.out).mono ?_
        rintro e W4 ⟨rfl, ho4, hg4⟩
        have hj4 : J M (pre ++ [(x, g, c)]) W4 := hJ M _ W3 W4 (some g) HJ3.out hg4 (fun r e => by cases e; exact ⟨hgW, HOB.out⟩)
        have hnx := Rn.allO_next h1 h6 HALL.out
        cases rest with
        | nil =>
          have hnx2 : Rn.nxt x = none := hnx
          rw [hnx2]
          have H5 : Hid (∃ pre : List Or, pre.map Prod.fst = Rn.allO n ∧ J M pre W4) := ⟨_, by rw [HALL.out]; simp, hj4⟩
          have hms : Rn.cd x < 1000000 := Rn.allO_cd h6 (by rw [HALL.out]; simp)
          have HMS : Hid (0 < msX (.bool true) wr g n) := by
            show 0 < 1000000 - Rn.cd (rdX wr g n)
            rw [HRX.out]; omega
          clear hnx hnx2 ho4 hg4 hj4 hms
          gi_wp2
          go_roundw
          case rel => exact .inr ⟨rfl, H5.out⟩
          case measure => exact HMS.out
        | cons y rest' =>
          have hnx2 : Rn.nxt x = some y := hnx
          rw [hnx2] at ho4 ⊢
          have H5 : Hid (∃ (pre : List Or) (x : List Nat) (rest : List (List Nat)), Rn.allO n = pre.map Prod.fst ++ x :: rest ∧ W4.ownsRow W.heap.size 3 1 (.slice (some ⟨g, 0, none⟩) n c) n (x.map nv) ∧ J M pre W4) :=
            ⟨_, y, rest', by rw [HALL.out]; simp, ho4, hj4⟩
          have hyl : y.length = n := Rn.isO_len (Rn.allO_is h6 (by rw [HALL.out]; simp))
          have hry : rdX W4 g n = y := rdX_own hyl ho4
          have hlt : Rn.cd x < Rn.cd y := Rn.allO_asc h6 HALL.out
          have hms : Rn.cd y < 1000000 := Rn.allO_cd h6 (by rw [HALL.out]; simp)
          have HMS : Hid (msX (.bool true) W4 g n < msX (.bool true) wr g n) := by
            show 1000000 - Rn.cd (rdX W4 g n) < 1000000 - Rn.cd (rdX wr g n)
            rw [HRX.out, hry]; omega
          clear hnx hnx2 ho4 hg4 hj4 hyl hry hlt hms
          gi_wp2
          go_roundw
          case rel => exact .inl ⟨rfl, H5.out⟩
          case measure => exact HMS.out
      · clear hR
        gi_wp2
        refine bodyPost_ret (results_none rfl _ _ _) rfl ?_
        exact ⟨⟨_, rfl⟩, .inr ⟨M, _, ⟨rest, by rw [HALL.out]; simp⟩, hJx3⟩⟩
    · gi_wp2
      go_end0
      obtain ⟨xs, h1, h2⟩ := hI.out
      exact ⟨⟨_, rfl⟩, .inl ⟨M, xs, h1, h2⟩⟩

theorem room_noneX {F : Fence} (hd : F.depth = none) (k : Nat) : F.room k := fun d h => by rw [hd] at h; cases h
/-- Where no depth is asked the figures are all one. -/
theorem yield_anyX {m m2 : Nat} {P : Program} {l : Nat} {args : Array Value} {W : World} {R : Ending → World → Prop} (h : YieldAt Fence.wide m P l args W R) : YieldAt Fence.wide m2 P l args W R := by
  obtain ⟨fn, tmps, asg, body, hy, hR⟩ := h
  exact ⟨fn, tmps, asg, body, hy, hR.1, fun c cs _ => hR.2 c cs (room_noneX rfl _)⟩
/-- The iterator's contract. -/
theorem orders_stops (q Bp Bz n : Nat) (h1 : 1 ≤ n) (h6 : n ≤ 6) (R : Nat → Nat → Obj → Prop) (w : World) (hbx : Boxed w Bp 3 (.int .i64 (n : Int))) (hfr : ∀ M b o, w.heap.size ≤ b → b < M → R M b o) :
    SeqM Fence.wide q Try.prog 169 #[.pointer (some ⟨Bp, 0, none⟩)] encO (YO n w.heap.size) (fun M => KeepR (R M)) (fun xs => xs.map Prod.fst = Rn.allO n) (fun pre => ∃ rest, Rn.allO n = pre.map Prod.fst ++ rest) Bz w :=
  fun ly J Jx W hW _ hJ hJx hY h0 =>
    callsIn_wide.2 (orders1 ly Bp Bz n h1 h6 R J Jx w.heap.size W hW.size hJ (fun M pre x W1 hj hy => yield_anyX (hY M pre x W1 hj hy)) ((hW.block _ hbx.lt).trans hbx) hfr h0)
end Go.Proofs.Yteiadhfjpohmdaa
