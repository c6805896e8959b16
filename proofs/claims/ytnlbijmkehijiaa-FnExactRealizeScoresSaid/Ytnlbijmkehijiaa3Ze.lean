/-
  What the program's RealizeScores holds of the memory between its steps. No conditions.
-/
import Derived.Test.Ytnlbijmkehijiaa3Zb
import Derived.Test.Ytnlbijmkehijiaa3Zd
import Derived.Test.YtnlbijmkehijiaaK
namespace Go.Proofs.Ytnlbijmkehijiaa
open Go.ChangeShapes Go.WideShapes Go.ChangeAt Go.RowKit Go.Sort
set_option linter.unusedVariables false

theorem slice_tail (g r m c : Nat) (hc : m + 1 ≤ c) (hc2 : c ≤ maxLen) : ∃ ax : Option Addr, (m ≠ 0 → ax = some ⟨g, r + 1, none⟩) ∧ ∀ W : World, (Instr.sliceAt 22 (.slice (some ⟨g, r, none⟩) (m + 1) c) (some (.int .i64 1)) none none).run Try.prog W = .ok (.slice ax m (c - 1)) W := by
  unfold maxLen at hc2
  have hmi : (1 : Int) ≤ (m : Int) + 1 := by omega
  by_cases h : c = 1
  · subst h
    obtain rfl : m = 0 := by omega
    refine ⟨some ⟨g, r, none⟩, fun h => absurd rfl h, fun W => ?_⟩
    simp [go_sem, Try.underlying22, Try.sizeOf3]
  · refine ⟨some ⟨g, r + 1, none⟩, fun _ => rfl, fun W => ?_⟩
    simp [go_sem, Try.underlying22, Try.sizeOf3]
    rw [if_pos hmi, if_neg h]
def lenV : Value → Nat
  | .slice _ n _ => n
  | _ => 0
theorem pls_of_own {W : World} {B g n c : Nat} {P : List Nat} (h : W.ownsRow B 3 1 (.slice (some ⟨g, 0, none⟩) n c) n (P.map nv)) (hP : ∀ x ∈ P, x < 8) : Pls W g 0 P := by
  have hn : P.length = n := by simpa using h.1
  refine ⟨fun j hj => ?_, (h.lt g rfl).2⟩
  have hjP : j < P.length := by simpa using hj
  rw [Nat.zero_add]
  refine ⟨?_, h.frozenAt j⟩
  rw [h.cellAt j (by omega), List.getElem?_map, List.getElem?_eq_getElem hjP]
  have e : P.toArray[j]! = P[j] := by rw [getElem!_pos P.toArray j hj]; simp
  rw [e]
  unfold enc8 nv
  rw [Nat.mod_eq_of_lt (hP _ (List.getElem_mem hjP))]
  rfl

theorem pad_set (L : List Int) (b : Nat) (z : Int) (hb : b < L.length) : (rv (pad L)).setIfInBounds b (.int .i64 z) = rv (pad (L.set b z)) := by
  unfold rv pad
  rw [List.setIfInBounds_toArray, List.length_set, ← List.set_append_left _ _ hb, List.map_set]
  rfl
theorem pad_getD (L : List Int) (x : Nat) : (pad L).getD x 0 = L.getD x 0 := by
  unfold pad
  rw [List.getD_eq_getElem?_getD, List.getD_eq_getElem?_getD, List.getElem?_append]
  split
  · rfl
  · rename_i h
    rw [List.getElem?_replicate, List.getElem?_eq_none (l := L) (by omega)]
    split <;> rfl
theorem leK_pad (L : List Int) : Tmpm.leK (pad L) = Tmpm.leK L := by
  funext a b
  unfold Tmpm.leK
  rw [pad_getD, pad_getD]
theorem sortP_pad (L : List Int) (P : List Nat) : Tmpm.sortP (pad L) P = Tmpm.sortP L P := by
  unfold Tmpm.sortP; rw [leK_pad]
theorem pad_cell (L : List Int) (b : Nat) (hb : b < L.length) (h8 : L.length ≤ 8) : (rv (pad L))[b]? = some (.int .i64 (L.getD b 0)) := by
  unfold rv pad
  rw [List.getElem?_toArray, List.getElem?_map, List.getElem?_append_left hb, List.getElem?_eq_getElem hb, List.getD_eq_getElem?_getD, List.getElem?_eq_getElem hb]
  rfl
theorem frozen_of_block {w w' : World} {a : Addr} (h : w'.heap[a.block]? = w.heap[a.block]?) : w'.frozen? a = w.frozen? a := by unfold World.frozen?; rw [h]
theorem Pls.grown {W W' : World} {g off : Nat} {P : List Nat} {row : Option Nat} (h : Pls W g off P) (hg : W.grownBy W' row) (hne : row ≠ some g) : Pls W' g off P := by
  have hb := hg.block g h.2 (fun e => hne e.symm)
  exact ⟨fun j hj => ⟨(World.cell?_of_block hb).trans (h.1 j hj).1, (frozen_of_block (a := ⟨g, off + j, none⟩) hb).trans (h.1 j hj).2⟩, Nat.lt_of_lt_of_le h.2 hg.size⟩
theorem Pls.at {W : World} {g off : Nat} {P : List Nat} (h : Pls W g off P) (hP : ∀ x ∈ P, x < 8) (j : Nat) (hj : j < P.length) : W.cell? ⟨g, off + j, none⟩ = some (.int .i64 (P.getD j 0 : Nat)) := by
  have h1 := (h.1 j (by simpa using hj)).1
  rw [h1]
  have e : P.toArray[j]! = P.getD j 0 := by
    rw [getElem!_pos P.toArray j (by simpa using hj), List.getD_eq_getElem?_getD, List.getElem?_eq_getElem hj]
    simp
  have hx : P.getD j 0 < 8 := by
    rw [List.getD_eq_getElem?_getD, List.getElem?_eq_getElem hj]
    exact hP _ (List.getElem_mem hj)
  rw [e]
  unfold enc8
  rw [Nat.mod_eq_of_lt hx]
theorem Pls.tail {W : World} {g off a : Nat} {T : List Nat} (h : Pls W g off (a :: T)) : Pls W g (off + 1) T := by
  refine ⟨fun j hj => ?_, h.2⟩
  have h1 := h.1 (j + 1) (by simpa using hj)
  have hjT : j < T.length := by simpa using hj
  rw [show off + 1 + j = off + (j + 1) by omega]
  have e : (a :: T).toArray[j + 1]! = T.toArray[j]! := by
    rw [getElem!_pos (a :: T).toArray (j + 1) (by simpa using hjT), getElem!_pos T.toArray j (by simpa using hjT)]
    simp
  rw [← e]
  exact h1

theorem own_aside {w : World} {B g n c : Nat} {xs : List Value} (h : w.ownsRow B 3 1 (.slice (some ⟨g, 0, none⟩) n c) n xs) (p : Addr) (u : Value) (hp : g ≠ p.block) : (w.setCell p u).ownsRow B 3 1 (.slice (some ⟨g, 0, none⟩) n c) n xs := by
  have hg : w.grownBy (w.setCell p u) (some p.block) := ⟨rfl, rfl, rfl, by simp [World.setCell], fun k hk hn => heap_setCell_other w p k u (fun e => hn (by rw [e]))⟩
  exact own_grown h hg (fun k hk e => hp (by simp [blk] at hk; simp at e; omega))
theorem grown_drewN (w : World) (q : Nat) : w.grownBy (w.drewN q) none := ⟨rfl, rfl, rfl, Nat.le_refl _, fun _ _ _ => rfl⟩

structure Dz (B Bt Bl g gp : Nat) : Prop where
  t0 : B < Bt
  l0 : B < Bl
  g0 : B < g
  p0 : B < gp
  tl : Bt ≠ Bl
  tg : Bt ≠ g
  tp : Bt ≠ gp
  lg : Bl ≠ g
  lp : Bl ≠ gp
  pp : g ≠ gp
structure Rz (w W : World) (Bt Bl g gp n r : Nat) (L : List Int) (ys P : List Nat) : Prop where
  d : Dz w.heap.size Bt Bl g gp
  hb : Below w.heap.size w W
  xt : Box W Bt 27 (.int .i64 n) (.slice (some ⟨g, 0, none⟩) n n)
  xr : Box W w.heap.size 27 (.int .i64 0) (.slice none 0 0)
  ow : W.ownsRow w.heap.size 3 1 (.slice (some ⟨g, 0, none⟩) n n) n (ys.map nv)
  lf : W.heap[Bl]? = some (.cells (rv (pad L)) 53 (0, 0))
  pl : Pls W gp r P
section
variable {w W W' : World} {Bt Bl g gp n r : Nat} {L : List Int} {ys P : List Nat}
theorem Rz.lfl (h : Rz w W Bt Bl g gp n r L ys P) : Bl < W.heap.size := (Array.getElem?_eq_some_iff.1 h.lf).1
theorem Rz.quiet (h : Rz w W Bt Bl g gp n r L ys P) (hg : W.grownBy W' none) : Rz w W' Bt Bl g gp n r L ys P :=
  ⟨h.d, h.hb.grown hg h.hb.size (fun k e => by cases e), h.xt.grown hg (by simp), h.xr.grown hg (by simp), own_grown h.ow hg (fun k _ => by simp), (hg.block Bl h.lfl (by simp)).trans h.lf, h.pl.grown hg (by simp)⟩
theorem Rz.sort {Q : List Nat} (h : Rz w W Bt Bl g gp n r L ys P) (hg : W.grownBy W' (some gp)) (hq : Pls W' gp r Q) : Rz w W' Bt Bl g gp n r L ys Q := by
  have d := h.d
  refine ⟨d, h.hb.grown hg h.hb.size (fun k e => by cases e; exact Nat.le_of_lt d.p0), h.xt.grown hg (fun e => d.tp (by cases e; rfl)), h.xr.grown hg (fun e => by cases e; exact absurd d.p0 (Nat.lt_irrefl _)), own_grown h.ow hg (fun k hk e => ?_), (hg.block Bl h.lfl (fun e => d.lp (by cases e; rfl))).trans h.lf, hq⟩
  have e1 : g = k := by simpa [blk] using hk
  have e2 : gp = k := by simpa using e
  exact d.pp (e1.trans e2.symm)
theorem Rz.win {zs : List Nat} (h : Rz w W Bt Bl g gp n r L ys P) (hg : W.grownBy W' (some g)) (ho : W'.ownsRow w.heap.size 3 1 (.slice (some ⟨g, 0, none⟩) n n) n (zs.map nv)) : Rz w W' Bt Bl g gp n r L zs P := by
  have d := h.d
  exact ⟨d, h.hb.grown hg h.hb.size (fun k e => by cases e; exact Nat.le_of_lt d.g0), h.xt.grown hg (fun e => d.tg (by cases e; rfl)), h.xr.grown hg (fun e => by cases e; exact absurd d.g0 (Nat.lt_irrefl _)), ho, (hg.block Bl h.lfl (fun e => d.lg (by cases e; rfl))).trans h.lf, h.pl.grown hg (fun e => d.pp (by cases e; rfl))⟩
theorem Rz.left (h : Rz w W Bt Bl g gp n r L ys P) (b : Nat) (z : Int) (hb : b < L.length) : Rz w (W.setCell ⟨Bl, b, none⟩ (.int .i64 z)) Bt Bl g gp n r (L.set b z) ys P := by
  have d := h.d
  have hg : W.grownBy (W.setCell ⟨Bl, b, none⟩ (.int .i64 z)) (some Bl) := ⟨rfl, rfl, rfl, by simp [World.setCell], fun k hk hn => heap_setCell_other W ⟨Bl, b, none⟩ k _ (fun e => hn (by rw [e]))⟩
  refine ⟨d, h.hb.grown hg h.hb.size (fun k e => by cases e; exact Nat.le_of_lt d.l0), h.xt.grown hg (fun e => d.tl (by cases e; rfl)), h.xr.grown hg (fun e => by cases e; exact absurd d.l0 (Nat.lt_irrefl _)), own_grown h.ow hg (fun k hk e => ?_), ?_, h.pl.grown hg (fun e => d.lp (by cases e; rfl))⟩
  · have e1 : g = k := by simpa [blk] using hk
    have e2 : Bl = k := by simpa using e
    exact d.lg (e2.trans e1.symm)
  · rw [heap_setCell_same _ _ _ _ _ _ h.lf, pad_set L b z hb]
theorem Rz.tail {a : Nat} {T : List Nat} (h : Rz w W Bt Bl g gp n r L ys (a :: T)) : Rz w W Bt Bl g gp n (r + 1) L ys T := ⟨h.d, h.hb, h.xt, h.xr, h.ow, h.lf, h.pl.tail⟩
theorem Rz.cell (h : Rz w W Bt Bl g gp n r L ys P) (b : Nat) (hb : b < L.length) (h8 : L.length ≤ 8) : W.cell? ⟨Bl, b, none⟩ = some (.int .i64 (L.getD b 0)) := by
  rw [cell_of_row _ _ _ _ _ _ h.lf, pad_cell L b hb h8]
theorem Rz.frozen (h : Rz w W Bt Bl g gp n r L ys P) (b : Nat) : W.frozen? ⟨Bl, b, none⟩ = false := frozen_of_row _ _ _ _ _ h.lf
end
set_option maxHeartbeats 400000 in
theorem addWin_gr (B g m cap i j : Nat) (ys : List Nat) (w : World) (hm : m ≤ 64) (hi : i < m) (hj : j ≤ 8) (hy : ∀ y ∈ ys, y < 256) (hB : B ≤ w.heap.size)
    (hown : w.ownsRow B 3 1 (.slice (some ⟨g, 0, none⟩) m cap) m (ys.map nv)) :
    Calls Try.prog 55 #[.agg #[.int .i64 m, .slice (some ⟨g, 0, none⟩) m cap], .int .i64 i, .int .i64 j] w fun e w' => (∃ v, e = .returned v) ∧ w'.ownsRow B 3 1 (.slice (some ⟨g, 0, none⟩) m cap) m ((ys.set i (ys.getD i 0 ||| 2 ^ j)).map nv) ∧ w.grownBy w' (some g) := by
  have hlen : ys.length = m := by simpa using hown.1
  have hgB := (hown.lt g rfl).1
  have hgl := (hown.lt g rfl).2
  have hown1 := hown.alloc (.cells #[.int .i64 m, .slice (some ⟨g, 0, none⟩) m cap] 27)
  obtain ⟨y, hyy⟩ : ∃ y, y = ys.getD i 0 := ⟨_, rfl⟩
  have hy256 : y < 256 := by rw [hyy, List.getD_eq_getElem?_getD, List.getElem?_eq_getElem (by omega)]; exact hy _ (List.getElem_mem _)
  have hc := hown1.cellAt i (by omega)
  rw [List.getElem?_map, show ys[i]? = some y by rw [hyy, List.getD_eq_getElem?_getD, List.getElem?_eq_getElem (by omega)]; rfl] at hc
  have hc' : (w.alloc (.cells #[.int .i64 (m : Int), .slice (some ⟨g, 0, none⟩) m cap] 27)).cell? ⟨g, i, none⟩ = some (.int .i64 (y : Int)) := hc
  have hf := hown1.frozenAt i
  have hp8 := pow_le j hj
  have hor : bits .or .i64 (y : Int) (wrap64 (2 ^ j)) = ((y ||| 2 ^ j : Nat) : Int) := by rw [wrapPow j hj]; exact i64_or _ _ (by omega) (by omega)
  have hst := (hown.stored i (nv (y ||| 2 ^ j))).1
  have hgr0 := (hown.stored i (nv (y ||| 2 ^ j))).2
  rw [show ((ys.map nv).set i (nv (y ||| 2 ^ j))) = (ys.set i (ys.getD i 0 ||| 2 ^ j)).map nv by rw [← hyy, List.map_set]] at hst
  obtain ⟨z, hz⟩ : ∃ z : Int, z = ((y ||| 2 ^ j : Nat) : Int) := ⟨_, rfl⟩
  have hst2 : (w.setCell ⟨g, i, none⟩ (.int .i64 z)).ownsRow B 3 1 (.slice (some ⟨g, 0, none⟩) m cap) m ((ys.set i (ys.getD i 0 ||| 2 ^ j)).map nv) := by rw [hz]; exact hst
  rw [← hz] at hor
  have hgr : w.grownBy (w.setCell ⟨g, i, none⟩ (.int .i64 z)) (some g) := by rw [hz]; exact hgr0
  have HG := Lib.hid hgr
  have HS := Lib.hid hst2
  have him : (i : Int) < (m : Int) := by omega
  clear hst hst2 hc hown hown1 hy hyy hz hgr hgr0
  go_enter Try.func55, Try.ntmps55
  go_wp2
  go_region
  all_goals
    go_wp2
    go_end0
    exact ⟨⟨_, rfl⟩, (HS.out.alloc (.cells #[.int .i64 m, .slice (some ⟨g, 0, none⟩) m cap] 27)).drew, (HG.out.trans (World.grownBy_alloc _ (.cells #[.int .i64 m, .slice (some ⟨g, 0, none⟩) m cap] 27) _)).trans ⟨rfl, rfl, rfl, Nat.le_refl _, fun _ _ _ => rfl⟩⟩

theorem elems_all (n : Nat) (h : n ≤ 8) : elems (2 ^ n - 1) = List.range n := by
  have : ∀ n : Fin 9, elems (2 ^ n.val - 1) = List.range n.val := by decide +kernel
  exact this ⟨n, by omega⟩
theorem wrapPow1 (n : Nat) (h : n ≤ 8) : IntKind.i64.wrap (wrap64 (2 ^ n) - 1) = ((2 ^ n - 1 : Nat) : Int) := by
  have : ∀ n : Fin 9, IntKind.i64.wrap (wrap64 (2 ^ n.val) - 1) = ((2 ^ n.val - 1 : Nat) : Int) := by decide +kernel
  exact this ⟨n, by omega⟩
set_option maxHeartbeats 400000 in
theorem playersOf_any (n : Nat) (hn : n ≤ 8) (w : World) :
    Calls Try.prog 53 #[.int .i64 n] w fun e w' => (∃ g c, e = .returned (.slice (some ⟨g, 0, none⟩) n c) ∧ w'.ownsRow w.heap.size 3 1 (.slice (some ⟨g, 0, none⟩) n c) n ((List.range n).map nv)) ∧ Below w.heap.size w w' := by
  obtain ⟨x, hx⟩ : ∃ x, x = 2 ^ n - 1 := ⟨_, rfl⟩
  have hx8 : x < 256 := by have := pow_le n hn; omega
  have hel : elems x = List.range n := by rw [hx]; exact elems_all n hn
  have hw := wrapPow1 n hn
  rw [← hx] at hw
  have hC := elementsOf_any x hx8 w
  rw [hel, List.length_range] at hC
  have HC := Lib.hid hC
  obtain ⟨p, hp⟩ : ∃ p, p = wrap64 (2 ^ n) := ⟨_, rfl⟩
  have hpb : p ≤ 256 := by rw [hp, wrapPow n hn]; have := pow_le n hn; omega
  have hp0 : 1 ≤ p := by rw [hp, wrapPow n hn]; have := Nat.two_pow_pos n; omega
  have hpx : Hid (p - 1 = (x : Int)) := by
    show _ = _
    rw [hp, wrapPow n hn]; have := Nat.two_pow_pos n; omega
  have hp2 : wrap64 (2 ^ n) = p := hp.symm
  clear hC hel hx hw hp
  go_enter Try.func53, Try.ntmps53
  go_wp2_with fail
  rw [hpx.out]
  refine HC.out.mono ?_
  rintro e w1 ⟨⟨g, c, rfl, ho⟩, hb⟩
  have HO := Lib.hid ho
  have HB := Lib.hid hb
  clear ho hb
  go_wp2
  go_ret
  exact ⟨⟨_, _, rfl, HO.out⟩, HB.out⟩
end Go.Proofs.Ytnlbijmkehijiaa
