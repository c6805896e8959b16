/-
  'balances' of the program: each player's balance by a list of weights. Conditions: a valid tour, a weight for each player, and the bounds that Go gives a slice.
-/
import Derived.Test.YtpndfmlkceplcaaM
import Derived.Test.YtpndfmlkceplcaaYb
import Derived.Test.YtpndfmlkceplcaaYr
namespace Go.Proofs.Ytpndfmlkceplcaa
open Go.ChangeShapes Go.WideShapes Go.ChangeAt Go.RowKit Go.Shelf
attribute [local go_sem] Oper.semAt_some
set_option linter.unusedVariables false

theorem wpIn_thenY {F : Fence} {n : Nat} {P : Program} {c : Code} {K : Act → World → Prop} {Q : Exit → Act → World → Prop} {a : Act} {w : World} (h : c.wpIn F n P (Exit.then K (fun _ _ _ => False)) a w) (hq : ∀ a w, K a w → Q .normal a w) : c.wpIn F n P Q a w :=
  wpIn_mono h (fun e a w hk => by
    cases e with
    | normal => exact hq a w hk
    | _ => exact hk.elim)
theorem Boxed.turnY {A C : World} {row : Option Nat} {b : Nat} {t : TypeId} {v : Value} (h : Boxed A b t v) (hg : A.grownBy C row) (hr : ∀ r, row = some r → ∃ o : Obj, A.heap[r]? = some o ∧ o.isCells = false) : Boxed C b t v :=
  boxed_own (β := Unit) b t (fun _ => v) () A C row h hg hr
theorem make_rowY (m : Nat) (hm : m ≤ 64) (W : World) : (Instr.makeSlice 22 (.int .i64 (m : Int)) (.int .i64 (m : Int))).run Try.prog W = .ok (.slice (some ⟨W.heap.size, 0, none⟩) m m) (W.alloc (.cells (madeCells #[.int .i64 0] m) 3)) := by
  obtain ⟨i0, hi, hz0, hz1, hz2⟩ := info_parts infoInt
  have := run_makeSlice (P := Try.prog) (w := W) 22 3 i0 (.int .i64 0) Try.underlying22 hi hz0 .i64 .i64 (m : Int) (m : Int) (by omega) (Int.le_refl _) (by rw [hz1]; simp; omega) (by rw [hz2]; omega) (by omega)
  rw [hz1] at this
  have e : (Value.int IntKind.i64 0).cells = #[.int .i64 0] := rfl
  simpa [e] using this
theorem zerosY (k : Nat) : (madeCells #[Value.int .i64 0] k).toList = (List.replicate k (0 : Int)).map iv := by
  rw [toList_madeCells_one]; simp [iv]
/-- The balances so far. -/
def balP {m : Nat} (x : Nat → Int) (pre : List (Pl m)) : List Int := balF m x (pre.map vP)
theorem balP_snoc {m : Nat} (x : Nat → Int) (pre : List (Pl m)) (p : Pl m) : balP x (pre ++ [p]) = balStep x (balP x pre) (vP p) := by unfold balP; rw [List.map_append, List.map_cons, List.map_nil, balF_snoc]
theorem balP_len {m : Nat} (x : Nat → Int) (pre : List (Pl m)) : (balP x pre).length = m := balF_len m x _
theorem balP_bd {m : Nat} (x : Nat → Int) (pre : List (Pl m)) (h : ∀ i, i < m → 0 ≤ x i ∧ x i ≤ 100000) (i : Nat) (hi : i < m) : -(pre.length * 100000 : Int) ≤ (balP x pre).getD i 0 ∧ (balP x pre).getD i 0 ≤ pre.length * 100000 := by
  have := balF_bd m x (pre.map vP) (by
    intro p hp
    obtain ⟨q, _, rfl⟩ := List.mem_map.1 hp
    exact ⟨q.1.isLt, q.2.isLt⟩) h i hi
  rw [List.length_map] at this
  exact this
theorem row_atY {w : World} {a : Option Addr} {l : List Int} (h : IntRow w a l) {j : Nat} (hj : j < l.length) : ∃ b off, a = some ⟨b, off, none⟩ ∧ b < w.heap.size ∧ ∀ j, j < l.length → w.cell? ⟨b, off + j, none⟩ = some (.int .i64 (l.getD j 0)) := by
  rcases h with h | ⟨b, off, rfl, hb, hc⟩
  · rw [h] at hj; exact absurd hj (Nat.not_lt_zero _)
  · exact ⟨b, off, rfl, hb, hc⟩
theorem own_at {w : World} {B g n c : Nat} {L : List Int} (h : w.ownsRow B 3 1 (.slice (some ⟨g, 0, none⟩) n c) n (L.map iv)) {j : Nat} (hj : j < n) : w.cell? ⟨g, j, none⟩ = some (.int .i64 (L.getD j 0)) := by
  have hl : L.length = n := by have := h.1; simpa using this
  rw [h.cellAt j (by omega), List.getElem?_map, List.getD_eq_getElem?_getD, List.getElem?_eq_getElem (show j < L.length by omega)]; rfl
theorem own_put {w : World} {B g n c : Nat} {L : List Int} (h : w.ownsRow B 3 1 (.slice (some ⟨g, 0, none⟩) n c) n (L.map iv)) (j : Nat) (z : Int) : (w.setCell ⟨g, j, none⟩ (.int .i64 z)).drew.ownsRow B 3 1 (.slice (some ⟨g, 0, none⟩) n c) n ((L.set j z).map iv) ∧ w.grownBy (w.setCell ⟨g, j, none⟩ (.int .i64 z)).drew (some g) := by
  have hst := h.stored j (iv z)
  rw [← List.map_set] at hst
  exact ⟨hst.1.drew, hst.2.trans ⟨rfl, rfl, rfl, Nat.le_refl _, fun _ _ _ => rfl⟩⟩

set_option maxRecDepth 100000 in
set_option maxHeartbeats 40000000 in
theorem balances_any (n : Int) (a : Option Addr) (l : List Int) (cap : Nat) (b : Option Addr) (ns : List Int) (cb : Nat) (w : World) (hrow : IntRow w a l) (hok : Ok n l) (hrb : IntRow w b ns) (hxl : ns.length = l.length) (hall : ns.all wOk = true) :
    Calls Try.prog 86 #[.agg #[.int .i64 n, .slice a l.length cap], .slice b l.length cb] w fun e w' => (∃ g, e = .returned (.slice (some ⟨g, 0, none⟩) l.length l.length) ∧ w'.ownsRow w.heap.size 3 1 (.slice (some ⟨g, 0, none⟩) l.length l.length) l.length (((List.range l.length).map (balZ l ns)).map iv)) ∧ Below w.heap.size w w' := by
  obtain ⟨Wb, hWb⟩ : ∃ Wb, Wb = w.alloc (.cells #[.int .i64 n, .slice a l.length cap] 27) := ⟨_, rfl⟩
  obtain ⟨Wa, hWa⟩ : ∃ Wa, Wa = Wb.alloc (.cells #[.slice b l.length cb] 22) := ⟨_, rfl⟩
  have sb : Wb.heap.size = w.heap.size + 1 := by rw [hWb]; simp
  have sa : Wa.heap.size = w.heap.size + 1 + 1 := by rw [hWa]; simp [sb]
  have hbb : Below w.heap.size w Wb := by rw [hWb]; exact (Below.refl _ _).alloc (Nat.le_refl _) _
  have hba : Below w.heap.size w Wa := by rw [hWa]; exact hbb.alloc hbb.size _
  have xt : Box Wa w.heap.size 27 (.int .i64 n) (.slice a l.length cap) := by
    rw [hWa]; exact (show Box Wb w.heap.size 27 (.int .i64 n) (.slice a l.length cap) by rw [hWb]; exact Box.new _ _ _ _).below ((Below.refl Wb.heap.size Wb).alloc (Nat.le_refl _) _) (by omega)
  have xr : Boxed Wa (w.heap.size + 1) 22 (.slice b l.length cb) := by rw [hWa, ← sb]; exact Boxed.new _ _ _
  have HWa : Hid (Wa = (w.alloc (.cells #[.int .i64 n, .slice a l.length cap] 27)).alloc (.cells #[.slice b l.length cb] 22)) := by rw [hWa, hWb]; exact rfl
  have hrowa : IntRow Wa a l := hrow.below hba (Nat.le_refl _)
  obtain ⟨x, hx⟩ : ∃ x : Nat → Int, x = fun i => ns.getD i 0 := ⟨_, rfl⟩
  have HXB : Hid (∀ i, i < l.length → 0 ≤ x i ∧ x i ≤ 100000) := fun i hi => by rw [hx]; exact all_at hall i (by omega)
  have HXE : Hid (∀ i, x i = ns.getD i 0) := fun i => by rw [hx]
  have HZ : Hid (balP x (gamesL l.length l) = (List.range l.length).map (balZ l ns)) := by
    show _ = _
    unfold balP
    rw [games_vL, balF_all, hx]; rfl
  have HRW := Lib.hid hrow
  have HRB := Lib.hid hrb
  have HXL := Lib.hid hxl
  clear hrow hWa hWb hbb hrb hxl hall hx
  have HK : Hid (Ok n l) := hok
  have hnl := HK.out.2.2.1
  have hl8 : l.length ≤ 8 := by have := HK.out.2.1; omega
  have hl1 : 1 ≤ l.length := by have := HK.out.1; omega
  subst hnl
  clear hok
  obtain ⟨i0, hi, hz0, hz1, hz2⟩ := info_parts infoInt
  have t0 := xt.c0
  refine (callsIn_wide (n := 8)).1 ?_
  refine callsIn_of_wp_marks Try.func86 rfl trivial ?_ rfl
  simp only [Try.ntmps86, List.size_toArray, List.length_cons, List.length_nil, Nat.reduceAdd, Nat.reduceSub, Array.replicate_succ, Array.replicate_zero, List.push_toArray, List.append_toArray, List.nil_append, List.cons_append]
  obtain ⟨cs, hcs⟩ : ∃ cs, cs = madeCells #[.int .i64 0] l.length := ⟨_, rfl⟩
  have hmk : ∀ W : World, (Instr.makeSlice 22 (.int .i64 (l.length : Int)) (.int .i64 (l.length : Int))).run Try.prog W = .ok (.slice (some ⟨W.heap.size, 0, none⟩) l.length l.length) (W.alloc (.cells cs 3)) := fun W => by rw [hcs]; exact make_rowY l.length (by omega) W
  have hcz : cs.toList = (List.replicate l.length (0 : Int)).map iv := by rw [hcs]; exact zerosY _
  have HCZ := Lib.hid hcz
  clear hcs hcz
  obtain ⟨W4, hW4⟩ : ∃ W4, W4 = (Wa.alloc (.cells cs 3)).alloc (.cells #[.slice (some ⟨w.heap.size + 1 + 1, 0, none⟩) l.length l.length] 22) := ⟨_, rfl⟩
  obtain ⟨g, hg⟩ : ∃ g, g = w.heap.size + 1 + 1 := ⟨_, rfl⟩
  obtain ⟨ps, hps⟩ : ∃ ps, ps = w.heap.size + 1 + 1 + 1 := ⟨_, rfl⟩
  have hcsz : cs.size = l.length := by have := congrArg List.length HCZ.out; simpa using this
  have hb4 : Below Wa.heap.size Wa W4 := by rw [hW4]; exact ((Below.refl _ _).alloc (Nat.le_refl _) _).alloc (by simp) _
  have hrow4 : W4.heap[g]? = some (.cells cs 3 (0, 0)) := by
    rw [hW4, hg, ← sa]
    exact ((World.grownBy_alloc (Wa.alloc (.cells cs 3)) (.cells #[.slice (some ⟨Wa.heap.size, 0, none⟩) l.length l.length] 22) none).block Wa.heap.size (by simp) (by simp)).trans (World.alloc_heap_new Wa _)
  have hs4 : W4.heap.size = ps + 1 := by rw [hW4, hps]; simp [sa]
  have xf4 : Boxed W4 ps 22 (.slice (some ⟨g, 0, none⟩) l.length l.length) := by
    have := Boxed.new (Wa.alloc (.cells cs 3)) 22 (.slice (some ⟨w.heap.size + 1 + 1, 0, none⟩) l.length l.length)
    rw [← hW4] at this
    rw [hg, hps]; simpa [sa] using this
  have ho4 : W4.ownsRow w.heap.size 3 1 (.slice (some ⟨g, 0, none⟩) l.length l.length) l.length ((List.replicate l.length (0 : Int)).map iv) :=
    ⟨by simp, .inr ⟨g, l.length, cs, rfl, by omega, hrow4, Nat.le_refl _, by unfold maxLen; omega, by omega, by rw [Nat.mul_one, List.take_of_length_le (by rw [Array.length_toList, hcsz]; exact Nat.le_refl _)]; exact HCZ.out⟩⟩
  have xr4 := xr.kept (grown_of_below hb4) (by simp)
  have hrw4 := hrowa.below hb4 (Nat.le_refl _)
  have B4 := hba.trans (hb4.mono hba.size)
  have HW4 : Hid (W4 = (((w.alloc (.cells #[.int .i64 l.length, .slice a l.length cap] 27)).alloc (.cells #[.slice b l.length cb] 22)).alloc (.cells cs 3)).alloc (.cells #[.slice (some ⟨w.heap.size + 1 + 1, 0, none⟩) l.length l.length] 22)) := by rw [hW4, HWa.out]; exact rfl
  clear hW4 hrow4 xt xr hrowa
  gi_wp2_with fail
  refine ⟨trivial, ?_⟩
  rw [← HW4.out, ← hps, ← hg]
  refine (callsIn_wide.2 (games_any _ a l.length cap W4)).mono ?_
  rintro e W6 ⟨rfl, hW6⟩
  have x6 : Box W6 W4.heap.size 27 (.int .i64 l.length) (.slice a l.length cap) := by rw [hW6]; exact Box.new _ _ _ _
  have hb6 : Below W4.heap.size W4 W6 := by rw [hW6]; exact (Below.refl _ _).alloc (Nat.le_refl _) _
  have s6 : W6.heap.size = W4.heap.size + 1 := by rw [hW6]; simp
  have hrow6 := hrw4.below hb6 (Nat.le_refl _)
  have ho6 := own_below ho4 hb6
  have xf6 := xf4.kept (grown_of_below hb6) (by simp)
  have xr6 := xr4.kept (grown_of_below hb6) (by simp)
  have B6 := B4.trans (hb6.mono B4.size)
  have hBg : W4.heap.size ≠ g := by omega
  have hg6 : g < W6.heap.size := by omega
  have hwg : w.heap.size ≤ g := by omega
  have hw6 : w.heap.size ≤ W6.heap.size := by omega
  have hpg : ps ≠ g := by omega
  have hrg : w.heap.size + 1 ≠ g := by omega
  have hag : blk a ≠ some g := by
    intro e
    rcases HRW.out with h | ⟨bb, off2, he, hbl2, _⟩
    · rw [h] at hl1; simp at hl1
    · rw [he] at e; simp only [blk] at e
      have e2 : bb = g := by simpa using e
      omega
  have X6 := Lib.hid x6
  have HR6 := Lib.hid hrow6
  have HO6 := Lib.hid ho6
  have XF6 := Lib.hid xf6
  have XR6 := Lib.hid xr6
  have BB6 := Lib.hid B6
  clear hW6 x6 hb6 hrow6 ho6 xf6 xr6 B6 hrw4 ho4 xf4 xr4 B4 hb4 hcsz hmk t0 hg hps sa sb hba HWa HCZ hs4 s6
  gi_wp2
  refine wpIn_rangeFunc_ownG (F := Fence.wide) rfl (by omega) (gf := 159) (lb := #[.pointer (some ⟨W4.heap.size, 0, none⟩)]) rfl trivial (enters_of Try.func159 (by kernel_rfl) rfl)
    (games_stops 7 (by omega) W4.heap.size g _ a cap l HK.out W6 X6.out HR6.out hBg hag hg6) (fun h k => h.trans k) (fun W l o o' _ h hc _ => KeepsBut.put g W l o o' h hc) (Below.refl _ _) (fun _ => rfl)
    (fun pre W => (W.ownsRow w.heap.size 3 1 (.slice (some ⟨g, 0, none⟩) l.length l.length) l.length ((balP x pre).map iv) ∧ Boxed W ps 22 (.slice (some ⟨g, 0, none⟩) l.length l.length) ∧ Boxed W (w.heap.size + 1) 22 (.slice b l.length cb)) ∧ Below w.heap.size w W)
    (fun _ _ _ => False)
    (OwnFrom.and (Own.from (fun s A B row hs hg hr => ⟨own_abides hs.1 hg hr, Boxed.turnY hs.2.1 hg hr, Boxed.turnY hs.2.2 hg hr⟩) _) (ownFrom_below (Nat.le_refl _) hw6))
    (fun _ _ _ _ _ hs _ _ => hs)
    ⟨⟨HO6.out, XF6.out, XR6.out⟩, BB6.out⟩
    (fun p => { tmps := #[.agg #[.int .i64 l.length, .slice a l.length cap], .slice b l.length cb, .pointer (some ⟨w.heap.size, 0, none⟩), .pointer (some ⟨w.heap.size + 1, 0, none⟩), .slice none 0 0, .pointer (some ⟨ps, 0, none⟩), .int .i64 (p.1.val : Int), .int .i64 (p.2.val : Int), .pointer (some ⟨w.heap.size, 0, none⟩), .int .i64 l.length, .slice (some ⟨g, 0, none⟩) l.length l.length, .agg #[.int .i64 l.length, .slice a l.length cap], .func (.func 159) #[] #[.pointer (some ⟨W4.heap.size, 0, none⟩)], .int .i64 (p.1.val : Int), .int .i64 (p.2.val : Int), undef, undef, undef, undef, undef, undef, undef, undef, undef, undef, undef, undef, undef, undef, undef, undef, undef, undef, undef, undef, undef], defers := [] }) ?assign ?body ?done ?stop
  case assign =>
    intro ly p W K hK
    unfold encP
    gi_wp2
    exact hK
  case body =>
    rintro ly pre p W ⟨⟨ho, hx, hxr⟩, hB⟩ hroom
    obtain ⟨⟨i1, hi1⟩, ⟨i2, hi2⟩⟩ := p
    have h64 : pre.length < 64 := Nat.lt_of_lt_of_le hroom (games_64Y l hl8)
    obtain ⟨bb, off, rfl, hbb, hcb⟩ := row_atY HRB.out (show i2 < ns.length by rw [HXL.out]; exact hi2)
    have hx1 := (hB.cell (p := ⟨bb, off + i1, none⟩) hbb).trans (hcb i1 (by rw [HXL.out]; exact hi1))
    have hx2 := (hB.cell (p := ⟨bb, off + i2, none⟩) hbb).trans (hcb i2 (by rw [HXL.out]; exact hi2))
    rw [← HXE.out] at hx1 hx2
    have hbb2 : bb ≠ g := by omega
    have hv1 := HXB.out i1 hi1
    have hv2 := HXB.out i2 hi2
    have hy2 := balP_bd x pre HXB.out i2 hi2
    have hy1 := balP_bd x pre HXB.out i1 hi1
    have hlP := balP_len x pre
    have hstep : (((balP x pre).set i2 ((balP x pre).getD i2 0 + x i1)).set i1 (((balP x pre).set i2 ((balP x pre).getD i2 0 + x i1)).getD i1 0 - x i2)) = balP x (pre ++ [(⟨i1, hi1⟩, ⟨i2, hi2⟩)]) := (balP_snoc x pre (⟨i1, hi1⟩, ⟨i2, hi2⟩)).symm
    obtain ⟨L, hL⟩ : ∃ L, L = balP x pre := ⟨_, rfl⟩
    rw [← hL] at hy1 hy2 hlP hstep ho
    obtain ⟨y, hy⟩ : ∃ y, y = L.getD i2 0 := ⟨_, rfl⟩
    obtain ⟨v1, hv1e⟩ : ∃ v, v = x i1 := ⟨_, rfl⟩
    obtain ⟨v2, hv2e⟩ : ∃ v, v = x i2 := ⟨_, rfl⟩
    rw [← hv1e] at hv1 hx1 hstep
    rw [← hv2e] at hv2 hx2 hstep
    rw [← hy] at hy2 hstep
    obtain ⟨L1, hL1⟩ : ∃ L1, L1 = L.set i2 (y + v1) := ⟨_, rfl⟩
    rw [← hL1] at hstep
    obtain ⟨z, hz⟩ : ∃ z, z = L1.getD i1 0 := ⟨_, rfl⟩
    rw [← hz] at hstep
    have hzb : -7000000 ≤ z ∧ z ≤ 7000000 := by
      rw [hz, hL1, getD_setI]
      split <;> omega
    have hi1i : (i1 : Int) < (l.length : Int) := by omega
    have hi2i : (i2 : Int) < (l.length : Int) := by omega
    have hcy := own_at ho hi2
    rw [← hy] at hcy
    have hfy := ho.frozenAt i2
    have hwr : IntKind.i64.wrap (y + v1) = y + v1 := by rw [IntKind.wrap_i64]; omega
    have hst := own_put ho i2 (y + v1)
    rw [← hL1] at hst
    obtain ⟨W1, hW1⟩ : ∃ W1, W1 = (W.setCell ⟨g, i2, none⟩ (.int .i64 (y + v1))).drew := ⟨_, rfl⟩
    have HW1 := Lib.hid hW1
    rw [← hW1] at hst
    have G1 := Lib.hid hst.1
    have GG := Lib.hid hst.2
    have G2 := Lib.hid (hx.kept hst.2 (by simp; omega))
    have G3 := Lib.hid (hxr.kept hst.2 (by simp; omega))
    have G4 : Hid (Below w.heap.size w W1) := by rw [hW1]; exact (hB.setCell (p := ⟨g, i2, none⟩) hwg _).drew
    have HX1 := Lib.hid (cell_but hx1 (KeepsBut.grown hst.2) hbb2)
    have HX2 := Lib.hid (cell_but hx2 (KeepsBut.grown hst.2) hbb2)
    have hL1l : Hid (L1.length = l.length) := by show _ = _; rw [hL1, List.length_set, hlP]
    have HST := Lib.hid hstep
    have HZ1 := Lib.hid hz
    have h5 := hx.cell
    have h3 := hxr.cell
    clear hst hx hxr hB ho hcb hL hL1 hy hv1e hv2e hz hstep hW1 hroom hy1 hlP hx2
    have mixed : Try.prog.follows .mixedOrders = true := by kernel_rfl
    gi_wp2_with fail
    refine wpIn_thenY (K := fun a' w' => a' = { tmps := #[.agg #[.int .i64 l.length, .slice a l.length cap], .slice (some ⟨bb, off, none⟩) l.length cb, .pointer (some ⟨w.heap.size, 0, none⟩), .pointer (some ⟨w.heap.size + 1, 0, none⟩), .slice none 0 0, .pointer (some ⟨ps, 0, none⟩), .int .i64 (i1 : Int), .int .i64 (i2 : Int), .pointer (some ⟨w.heap.size, 0, none⟩), .int .i64 l.length, .slice (some ⟨g, 0, none⟩) l.length l.length, .agg #[.int .i64 l.length, .slice a l.length cap], .func (.func 159) #[] #[.pointer (some ⟨W4.heap.size, 0, none⟩)], .int .i64 (i1 : Int), .int .i64 (i2 : Int), .slice (some ⟨g, 0, none⟩) l.length l.length, .int .i64 (i2 : Int), .pointer (some ⟨g, i2, none⟩), .int .i64 y, .slice (some ⟨bb, off, none⟩) l.length cb, .int .i64 (i1 : Int), .pointer (some ⟨bb, off + i1, none⟩), .int .i64 v1, .int .i64 (y + v1), .pointer (some ⟨g, i2, none⟩), undef, undef, undef, undef, undef, undef, undef, undef, undef, undef, undef], defers := [] } ∧ w' = (W.setCell ⟨g, i2, none⟩ (.int .i64 (y + v1))).drew) ?reg ?_
    case reg =>
      refine wpIn_region_any mixed ?_
      refine wpAnyIn_of (by kernel_rfl) (no_lets _) _ _ _ _ ?_
      change wpAny _ _ _ _ _ _ _ (World.drew _)
      refine wpAny_take (i := 1) (v := ?_) rfl (by kernel_rfl) (by kernel_rfl) (by kernel_rfl) (fun _ _ _ h => h) (Or.inl ⟨by rfl, by intro w0; go_simp; first | done | with_reducible rfl⟩) ?_
      refine wpAny_take (i := 5) (v := ?_) rfl (by kernel_rfl) (by kernel_rfl) (by kernel_rfl) (fun _ _ _ h => h) (Or.inl ⟨by rfl, by intro w0; go_simp; first | done | with_reducible rfl⟩) ?_
      refine wpAny_ready (rs := [0, 4]) (by kernel_rfl) (by simp) ?_
      refine AllReady.cons rfl (fun K hK => ?_) ?_
      · go_simp
        refine hK _ _ ?_
        clear hK K
        refine wpAny_take (i := 2) (v := ?_) rfl (by kernel_rfl) (by kernel_rfl) (by kernel_rfl) (fun _ _ _ h => h) (Or.inl ⟨by rfl, by intro w0; go_simp; first | done | with_reducible rfl⟩) ?_
        refine wpAny_ready (rs := [3, 4]) (by kernel_rfl) (by simp) ?_
        refine AllReady.cons rfl (fun K hK => ?_) ?_
        · go_simp
          refine hK _ _ ?_
          clear hK K
          refine wpAny_ready (rs := [4]) (by kernel_rfl) (by simp) ?_
          refine AllReady.cons rfl (fun K hK => ?_) AllReady.nil
          go_simp
          refine hK _ _ ?_
          clear hK K
          refine wpAny_take (i := 6) (v := ?_) rfl (by kernel_rfl) (by kernel_rfl) (by kernel_rfl) (fun _ _ _ h => h) (Or.inl ⟨by rfl, by intro w0; go_simp; first | done | with_reducible rfl⟩) ?_
          refine wpAny_ready (rs := [7]) (by kernel_rfl) (by simp) ?_
          refine AllReady.cons rfl (fun K hK => ?_) AllReady.nil
          go_simp
          refine hK _ _ ?_
          clear hK K
          refine wpAny_take (i := 8) (v := ?_) rfl (by kernel_rfl) (by kernel_rfl) (by kernel_rfl) (fun _ _ _ h => h) (Or.inl ⟨by rfl, by intro w0; go_simp; first | done | with_reducible rfl⟩) ?_
          refine wpAny_take (i := 9) (v := ?_) rfl (by kernel_rfl) (by kernel_rfl) (by kernel_rfl) (fun _ _ _ h => h) (Or.inl ⟨by rfl, by intro w0; go_simp; first | done | with_reducible rfl⟩) ?_
          refine wpAny_ready (rs := [10]) (by kernel_rfl) (by simp) ?_
          refine AllReady.cons rfl (fun K hK => ?_) AllReady.nil
          go_simp
          refine hK _ _ ?_
          clear hK K
          refine wpAny_done (by kernel_rfl) ?_ _
          exact ⟨rfl, rfl⟩
        refine AllReady.cons rfl (fun K hK => ?_) AllReady.nil
        go_simp
        refine hK _ _ ?_
        clear hK K
        refine wpAny_take (i := 6) (v := ?_) rfl (by kernel_rfl) (by kernel_rfl) (by kernel_rfl) (fun _ _ _ h => h) (Or.inl ⟨by rfl, by intro w0; go_simp; first | done | with_reducible rfl⟩) ?_
        refine wpAny_ready (rs := [3, 7]) (by kernel_rfl) (by simp) ?_
        refine AllReady.cons rfl (fun K hK => ?_) ?_
        · go_simp
          refine hK _ _ ?_
          clear hK K
          refine wpAny_ready (rs := [7]) (by kernel_rfl) (by simp) ?_
          refine AllReady.cons rfl (fun K hK => ?_) AllReady.nil
          go_simp
          refine hK _ _ ?_
          clear hK K
          refine wpAny_take (i := 8) (v := ?_) rfl (by kernel_rfl) (by kernel_rfl) (by kernel_rfl) (fun _ _ _ h => h) (Or.inl ⟨by rfl, by intro w0; go_simp; first | done | with_reducible rfl⟩) ?_
          refine wpAny_take (i := 9) (v := ?_) rfl (by kernel_rfl) (by kernel_rfl) (by kernel_rfl) (fun _ _ _ h => h) (Or.inl ⟨by rfl, by intro w0; go_simp; first | done | with_reducible rfl⟩) ?_
          refine wpAny_ready (rs := [10]) (by kernel_rfl) (by simp) ?_
          refine AllReady.cons rfl (fun K hK => ?_) AllReady.nil
          go_simp
          refine hK _ _ ?_
          clear hK K
          refine wpAny_done (by kernel_rfl) ?_ _
          exact ⟨rfl, rfl⟩
        refine AllReady.cons rfl (fun K hK => ?_) AllReady.nil
        go_simp
        refine hK _ _ ?_
        clear hK K
        refine wpAny_ready (rs := [3]) (by kernel_rfl) (by simp) ?_
        refine AllReady.cons rfl (fun K hK => ?_) AllReady.nil
        go_simp
        refine hK _ _ ?_
        clear hK K
        refine wpAny_take (i := 8) (v := ?_) rfl (by kernel_rfl) (by kernel_rfl) (by kernel_rfl) (fun _ _ _ h => h) (Or.inl ⟨by rfl, by intro w0; go_simp; first | done | with_reducible rfl⟩) ?_
        refine wpAny_take (i := 9) (v := ?_) rfl (by kernel_rfl) (by kernel_rfl) (by kernel_rfl) (fun _ _ _ h => h) (Or.inl ⟨by rfl, by intro w0; go_simp; first | done | with_reducible rfl⟩) ?_
        refine wpAny_ready (rs := [10]) (by kernel_rfl) (by simp) ?_
        refine AllReady.cons rfl (fun K hK => ?_) AllReady.nil
        go_simp
        refine hK _ _ ?_
        clear hK K
        refine wpAny_done (by kernel_rfl) ?_ _
        exact ⟨rfl, rfl⟩
      refine AllReady.cons rfl (fun K hK => ?_) AllReady.nil
      go_simp
      refine hK _ _ ?_
      clear hK K
      refine wpAny_take (i := 6) (v := ?_) rfl (by kernel_rfl) (by kernel_rfl) (by kernel_rfl) (fun _ _ _ h => h) (Or.inl ⟨by rfl, by intro w0; go_simp; first | done | with_reducible rfl⟩) ?_
      refine wpAny_ready (rs := [0, 7]) (by kernel_rfl) (by simp) ?_
      refine AllReady.cons rfl (fun K hK => ?_) ?_
      · go_simp
        refine hK _ _ ?_
        clear hK K
        refine wpAny_take (i := 2) (v := ?_) rfl (by kernel_rfl) (by kernel_rfl) (by kernel_rfl) (fun _ _ _ h => h) (Or.inl ⟨by rfl, by intro w0; go_simp; first | done | with_reducible rfl⟩) ?_
        refine wpAny_ready (rs := [3, 7]) (by kernel_rfl) (by simp) ?_
        refine AllReady.cons rfl (fun K hK => ?_) ?_
        · go_simp
          refine hK _ _ ?_
          clear hK K
          refine wpAny_ready (rs := [7]) (by kernel_rfl) (by simp) ?_
          refine AllReady.cons rfl (fun K hK => ?_) AllReady.nil
          go_simp
          refine hK _ _ ?_
          clear hK K
          refine wpAny_take (i := 8) (v := ?_) rfl (by kernel_rfl) (by kernel_rfl) (by kernel_rfl) (fun _ _ _ h => h) (Or.inl ⟨by rfl, by intro w0; go_simp; first | done | with_reducible rfl⟩) ?_
          refine wpAny_take (i := 9) (v := ?_) rfl (by kernel_rfl) (by kernel_rfl) (by kernel_rfl) (fun _ _ _ h => h) (Or.inl ⟨by rfl, by intro w0; go_simp; first | done | with_reducible rfl⟩) ?_
          refine wpAny_ready (rs := [10]) (by kernel_rfl) (by simp) ?_
          refine AllReady.cons rfl (fun K hK => ?_) AllReady.nil
          go_simp
          refine hK _ _ ?_
          clear hK K
          refine wpAny_done (by kernel_rfl) ?_ _
          exact ⟨rfl, rfl⟩
        refine AllReady.cons rfl (fun K hK => ?_) AllReady.nil
        go_simp
        refine hK _ _ ?_
        clear hK K
        refine wpAny_ready (rs := [3]) (by kernel_rfl) (by simp) ?_
        refine AllReady.cons rfl (fun K hK => ?_) AllReady.nil
        go_simp
        refine hK _ _ ?_
        clear hK K
        refine wpAny_take (i := 8) (v := ?_) rfl (by kernel_rfl) (by kernel_rfl) (by kernel_rfl) (fun _ _ _ h => h) (Or.inl ⟨by rfl, by intro w0; go_simp; first | done | with_reducible rfl⟩) ?_
        refine wpAny_take (i := 9) (v := ?_) rfl (by kernel_rfl) (by kernel_rfl) (by kernel_rfl) (fun _ _ _ h => h) (Or.inl ⟨by rfl, by intro w0; go_simp; first | done | with_reducible rfl⟩) ?_
        refine wpAny_ready (rs := [10]) (by kernel_rfl) (by simp) ?_
        refine AllReady.cons rfl (fun K hK => ?_) AllReady.nil
        go_simp
        refine hK _ _ ?_
        clear hK K
        refine wpAny_done (by kernel_rfl) ?_ _
        exact ⟨rfl, rfl⟩
      refine AllReady.cons rfl (fun K hK => ?_) AllReady.nil
      go_simp
      refine hK _ _ ?_
      clear hK K
      refine wpAny_ready (rs := [0]) (by kernel_rfl) (by simp) ?_
      refine AllReady.cons rfl (fun K hK => ?_) AllReady.nil
      go_simp
      refine hK _ _ ?_
      clear hK K
      refine wpAny_take (i := 2) (v := ?_) rfl (by kernel_rfl) (by kernel_rfl) (by kernel_rfl) (fun _ _ _ h => h) (Or.inl ⟨by rfl, by intro w0; go_simp; first | done | with_reducible rfl⟩) ?_
      refine wpAny_ready (rs := [3]) (by kernel_rfl) (by simp) ?_
      refine AllReady.cons rfl (fun K hK => ?_) AllReady.nil
      go_simp
      refine hK _ _ ?_
      clear hK K
      refine wpAny_take (i := 8) (v := ?_) rfl (by kernel_rfl) (by kernel_rfl) (by kernel_rfl) (fun _ _ _ h => h) (Or.inl ⟨by rfl, by intro w0; go_simp; first | done | with_reducible rfl⟩) ?_
      refine wpAny_take (i := 9) (v := ?_) rfl (by kernel_rfl) (by kernel_rfl) (by kernel_rfl) (fun _ _ _ h => h) (Or.inl ⟨by rfl, by intro w0; go_simp; first | done | with_reducible rfl⟩) ?_
      refine wpAny_ready (rs := [10]) (by kernel_rfl) (by simp) ?_
      refine AllReady.cons rfl (fun K hK => ?_) AllReady.nil
      go_simp
      refine hK _ _ ?_
      clear hK K
      refine wpAny_done (by kernel_rfl) ?_ _
      exact ⟨rfl, rfl⟩
    rintro a' w' ⟨rfl, rfl⟩
    rw [← HW1.out]
    have hcz := own_at G1.out hi1
    rw [← HZ1.out] at hcz
    have hfz := G1.out.frozenAt i1
    have hst := own_put G1.out i1 (z - v2)
    rw [HST.out] at hst
    have hwr2 : IntKind.i64.wrap (z - v2) = z - v2 := by rw [IntKind.wrap_i64]; omega
    have K1 := Lib.hid hst.1
    have K2 := Lib.hid (G2.out.kept hst.2 (by simp; omega))
    have K3 := Lib.hid (G3.out.kept hst.2 (by simp; omega))
    have K4 : Hid (Below w.heap.size w (W1.setCell ⟨g, i1, none⟩ (.int .i64 (z - v2))).drew) := (G4.out.setCell (p := ⟨g, i1, none⟩) hwg _).drew
    have K5 := Lib.hid (KeepsFrom.of_grownBy (GG.out.trans hst.2) (B := W6.heap.size) (fun j e => by cases e; exact hg6))
    have K6 := Lib.hid (KeepsBut.grown (GG.out.trans hst.2))
    have q5 := G2.out.cell
    have q3 := G3.out.cell
    have qx2 := HX2.out
    clear hst h5 h3 hcy hfy hwr hx1
    gi_wp2_with fail
    refine wpIn_thenY (K := fun a' w' => a' = { tmps := #[.agg #[.int .i64 l.length, .slice a l.length cap], .slice (some ⟨bb, off, none⟩) l.length cb, .pointer (some ⟨w.heap.size, 0, none⟩), .pointer (some ⟨w.heap.size + 1, 0, none⟩), .slice none 0 0, .pointer (some ⟨ps, 0, none⟩), .int .i64 (i1 : Int), .int .i64 (i2 : Int), .pointer (some ⟨w.heap.size, 0, none⟩), .int .i64 l.length, .slice (some ⟨g, 0, none⟩) l.length l.length, .agg #[.int .i64 l.length, .slice a l.length cap], .func (.func 159) #[] #[.pointer (some ⟨W4.heap.size, 0, none⟩)], .int .i64 (i1 : Int), .int .i64 (i2 : Int), .slice (some ⟨g, 0, none⟩) l.length l.length, .int .i64 (i2 : Int), .pointer (some ⟨g, i2, none⟩), .int .i64 y, .slice (some ⟨bb, off, none⟩) l.length cb, .int .i64 (i1 : Int), .pointer (some ⟨bb, off + i1, none⟩), .int .i64 v1, .int .i64 (y + v1), .pointer (some ⟨g, i2, none⟩), .slice (some ⟨g, 0, none⟩) l.length l.length, .int .i64 (i1 : Int), .pointer (some ⟨g, i1, none⟩), .int .i64 z, .slice (some ⟨bb, off, none⟩) l.length cb, .int .i64 (i2 : Int), .pointer (some ⟨bb, off + i2, none⟩), .int .i64 v2, .int .i64 (z - v2), .pointer (some ⟨g, i1, none⟩), undef], defers := [] } ∧ w' = (W1.setCell ⟨g, i1, none⟩ (.int .i64 (z - v2))).drew) ?reg2 ?_
    case reg2 =>
      refine wpIn_region_any mixed ?_
      refine wpAnyIn_of (by kernel_rfl) (no_lets _) _ _ _ _ ?_
      change wpAny _ _ _ _ _ _ _ (World.drew _)
      refine wpAny_take (i := 1) (v := ?_) rfl (by kernel_rfl) (by kernel_rfl) (by kernel_rfl) (fun _ _ _ h => h) (Or.inl ⟨by rfl, by intro w0; go_simp; first | done | with_reducible rfl⟩) ?_
      refine wpAny_take (i := 5) (v := ?_) rfl (by kernel_rfl) (by kernel_rfl) (by kernel_rfl) (fun _ _ _ h => h) (Or.inl ⟨by rfl, by intro w0; go_simp; first | done | with_reducible rfl⟩) ?_
      refine wpAny_ready (rs := [0, 4]) (by kernel_rfl) (by simp) ?_
      refine AllReady.cons rfl (fun K hK => ?_) ?_
      · go_simp
        refine hK _ _ ?_
        clear hK K
        refine wpAny_take (i := 2) (v := ?_) rfl (by kernel_rfl) (by kernel_rfl) (by kernel_rfl) (fun _ _ _ h => h) (Or.inl ⟨by rfl, by intro w0; go_simp; first | done | with_reducible rfl⟩) ?_
        refine wpAny_ready (rs := [3, 4]) (by kernel_rfl) (by simp) ?_
        refine AllReady.cons rfl (fun K hK => ?_) ?_
        · go_simp
          refine hK _ _ ?_
          clear hK K
          refine wpAny_ready (rs := [4]) (by kernel_rfl) (by simp) ?_
          refine AllReady.cons rfl (fun K hK => ?_) AllReady.nil
          go_simp
          refine hK _ _ ?_
          clear hK K
          refine wpAny_take (i := 6) (v := ?_) rfl (by kernel_rfl) (by kernel_rfl) (by kernel_rfl) (fun _ _ _ h => h) (Or.inl ⟨by rfl, by intro w0; go_simp; first | done | with_reducible rfl⟩) ?_
          refine wpAny_ready (rs := [7]) (by kernel_rfl) (by simp) ?_
          refine AllReady.cons rfl (fun K hK => ?_) AllReady.nil
          go_simp
          refine hK _ _ ?_
          clear hK K
          refine wpAny_take (i := 8) (v := ?_) rfl (by kernel_rfl) (by kernel_rfl) (by kernel_rfl) (fun _ _ _ h => h) (Or.inl ⟨by rfl, by intro w0; go_simp; first | done | with_reducible rfl⟩) ?_
          refine wpAny_take (i := 9) (v := ?_) rfl (by kernel_rfl) (by kernel_rfl) (by kernel_rfl) (fun _ _ _ h => h) (Or.inl ⟨by rfl, by intro w0; go_simp; first | done | with_reducible rfl⟩) ?_
          refine wpAny_ready (rs := [10]) (by kernel_rfl) (by simp) ?_
          refine AllReady.cons rfl (fun K hK => ?_) AllReady.nil
          go_simp
          refine hK _ _ ?_
          clear hK K
          refine wpAny_done (by kernel_rfl) ?_ _
          exact ⟨rfl, rfl⟩
        refine AllReady.cons rfl (fun K hK => ?_) AllReady.nil
        go_simp
        refine hK _ _ ?_
        clear hK K
        refine wpAny_take (i := 6) (v := ?_) rfl (by kernel_rfl) (by kernel_rfl) (by kernel_rfl) (fun _ _ _ h => h) (Or.inl ⟨by rfl, by intro w0; go_simp; first | done | with_reducible rfl⟩) ?_
        refine wpAny_ready (rs := [3, 7]) (by kernel_rfl) (by simp) ?_
        refine AllReady.cons rfl (fun K hK => ?_) ?_
        · go_simp
          refine hK _ _ ?_
          clear hK K
          refine wpAny_ready (rs := [7]) (by kernel_rfl) (by simp) ?_
          refine AllReady.cons rfl (fun K hK => ?_) AllReady.nil
          go_simp
          refine hK _ _ ?_
          clear hK K
          refine wpAny_take (i := 8) (v := ?_) rfl (by kernel_rfl) (by kernel_rfl) (by kernel_rfl) (fun _ _ _ h => h) (Or.inl ⟨by rfl, by intro w0; go_simp; first | done | with_reducible rfl⟩) ?_
          refine wpAny_take (i := 9) (v := ?_) rfl (by kernel_rfl) (by kernel_rfl) (by kernel_rfl) (fun _ _ _ h => h) (Or.inl ⟨by rfl, by intro w0; go_simp; first | done | with_reducible rfl⟩) ?_
          refine wpAny_ready (rs := [10]) (by kernel_rfl) (by simp) ?_
          refine AllReady.cons rfl (fun K hK => ?_) AllReady.nil
          go_simp
          refine hK _ _ ?_
          clear hK K
          refine wpAny_done (by kernel_rfl) ?_ _
          exact ⟨rfl, rfl⟩
        refine AllReady.cons rfl (fun K hK => ?_) AllReady.nil
        go_simp
        refine hK _ _ ?_
        clear hK K
        refine wpAny_ready (rs := [3]) (by kernel_rfl) (by simp) ?_
        refine AllReady.cons rfl (fun K hK => ?_) AllReady.nil
        go_simp
        refine hK _ _ ?_
        clear hK K
        refine wpAny_take (i := 8) (v := ?_) rfl (by kernel_rfl) (by kernel_rfl) (by kernel_rfl) (fun _ _ _ h => h) (Or.inl ⟨by rfl, by intro w0; go_simp; first | done | with_reducible rfl⟩) ?_
        refine wpAny_take (i := 9) (v := ?_) rfl (by kernel_rfl) (by kernel_rfl) (by kernel_rfl) (fun _ _ _ h => h) (Or.inl ⟨by rfl, by intro w0; go_simp; first | done | with_reducible rfl⟩) ?_
        refine wpAny_ready (rs := [10]) (by kernel_rfl) (by simp) ?_
        refine AllReady.cons rfl (fun K hK => ?_) AllReady.nil
        go_simp
        refine hK _ _ ?_
        clear hK K
        refine wpAny_done (by kernel_rfl) ?_ _
        exact ⟨rfl, rfl⟩
      refine AllReady.cons rfl (fun K hK => ?_) AllReady.nil
      go_simp
      refine hK _ _ ?_
      clear hK K
      refine wpAny_take (i := 6) (v := ?_) rfl (by kernel_rfl) (by kernel_rfl) (by kernel_rfl) (fun _ _ _ h => h) (Or.inl ⟨by rfl, by intro w0; go_simp; first | done | with_reducible rfl⟩) ?_
      refine wpAny_ready (rs := [0, 7]) (by kernel_rfl) (by simp) ?_
      refine AllReady.cons rfl (fun K hK => ?_) ?_
      · go_simp
        refine hK _ _ ?_
        clear hK K
        refine wpAny_take (i := 2) (v := ?_) rfl (by kernel_rfl) (by kernel_rfl) (by kernel_rfl) (fun _ _ _ h => h) (Or.inl ⟨by rfl, by intro w0; go_simp; first | done | with_reducible rfl⟩) ?_
        refine wpAny_ready (rs := [3, 7]) (by kernel_rfl) (by simp) ?_
        refine AllReady.cons rfl (fun K hK => ?_) ?_
        · go_simp
          refine hK _ _ ?_
          clear hK K
          refine wpAny_ready (rs := [7]) (by kernel_rfl) (by simp) ?_
          refine AllReady.cons rfl (fun K hK => ?_) AllReady.nil
          go_simp
          refine hK _ _ ?_
          clear hK K
          refine wpAny_take (i := 8) (v := ?_) rfl (by kernel_rfl) (by kernel_rfl) (by kernel_rfl) (fun _ _ _ h => h) (Or.inl ⟨by rfl, by intro w0; go_simp; first | done | with_reducible rfl⟩) ?_
          refine wpAny_take (i := 9) (v := ?_) rfl (by kernel_rfl) (by kernel_rfl) (by kernel_rfl) (fun _ _ _ h => h) (Or.inl ⟨by rfl, by intro w0; go_simp; first | done | with_reducible rfl⟩) ?_
          refine wpAny_ready (rs := [10]) (by kernel_rfl) (by simp) ?_
          refine AllReady.cons rfl (fun K hK => ?_) AllReady.nil
          go_simp
          refine hK _ _ ?_
          clear hK K
          refine wpAny_done (by kernel_rfl) ?_ _
          exact ⟨rfl, rfl⟩
        refine AllReady.cons rfl (fun K hK => ?_) AllReady.nil
        go_simp
        refine hK _ _ ?_
        clear hK K
        refine wpAny_ready (rs := [3]) (by kernel_rfl) (by simp) ?_
        refine AllReady.cons rfl (fun K hK => ?_) AllReady.nil
        go_simp
        refine hK _ _ ?_
        clear hK K
        refine wpAny_take (i := 8) (v := ?_) rfl (by kernel_rfl) (by kernel_rfl) (by kernel_rfl) (fun _ _ _ h => h) (Or.inl ⟨by rfl, by intro w0; go_simp; first | done | with_reducible rfl⟩) ?_
        refine wpAny_take (i := 9) (v := ?_) rfl (by kernel_rfl) (by kernel_rfl) (by kernel_rfl) (fun _ _ _ h => h) (Or.inl ⟨by rfl, by intro w0; go_simp; first | done | with_reducible rfl⟩) ?_
        refine wpAny_ready (rs := [10]) (by kernel_rfl) (by simp) ?_
        refine AllReady.cons rfl (fun K hK => ?_) AllReady.nil
        go_simp
        refine hK _ _ ?_
        clear hK K
        refine wpAny_done (by kernel_rfl) ?_ _
        exact ⟨rfl, rfl⟩
      refine AllReady.cons rfl (fun K hK => ?_) AllReady.nil
      go_simp
      refine hK _ _ ?_
      clear hK K
      refine wpAny_ready (rs := [0]) (by kernel_rfl) (by simp) ?_
      refine AllReady.cons rfl (fun K hK => ?_) AllReady.nil
      go_simp
      refine hK _ _ ?_
      clear hK K
      refine wpAny_take (i := 2) (v := ?_) rfl (by kernel_rfl) (by kernel_rfl) (by kernel_rfl) (fun _ _ _ h => h) (Or.inl ⟨by rfl, by intro w0; go_simp; first | done | with_reducible rfl⟩) ?_
      refine wpAny_ready (rs := [3]) (by kernel_rfl) (by simp) ?_
      refine AllReady.cons rfl (fun K hK => ?_) AllReady.nil
      go_simp
      refine hK _ _ ?_
      clear hK K
      refine wpAny_take (i := 8) (v := ?_) rfl (by kernel_rfl) (by kernel_rfl) (by kernel_rfl) (fun _ _ _ h => h) (Or.inl ⟨by rfl, by intro w0; go_simp; first | done | with_reducible rfl⟩) ?_
      refine wpAny_take (i := 9) (v := ?_) rfl (by kernel_rfl) (by kernel_rfl) (by kernel_rfl) (fun _ _ _ h => h) (Or.inl ⟨by rfl, by intro w0; go_simp; first | done | with_reducible rfl⟩) ?_
      refine wpAny_ready (rs := [10]) (by kernel_rfl) (by simp) ?_
      refine AllReady.cons rfl (fun K hK => ?_) AllReady.nil
      go_simp
      refine hK _ _ ?_
      clear hK K
      refine wpAny_done (by kernel_rfl) ?_ _
      exact ⟨rfl, rfl⟩
    rintro a' w' ⟨rfl, rfl⟩
    · gi_wp2
      exact ⟨K5.out, K6.out, ⟨K1.out, K2.out, K3.out⟩, K4.out⟩
    all_goals exact 0
  case done =>
    rintro D ys W hD rfl ⟨⟨ho, hx, hxr⟩, hB⟩ hK
    have h5 := hx.cell
    have hput := own_abides ho (grownBy_putObj' W D (.deferred none)) (fun r e => by cases e; exact ⟨_, hK, rfl⟩)
    have hbp := hB.grown (grownBy_putObj' W D (.deferred none)) (by have := hB.size; omega) (fun k e => by cases e; omega)
    rw [HZ.out] at hput
    have H1 := Lib.hid hput
    have H4 := Lib.hid hbp
    have H5 := Lib.hid hK
    clear ho hx hxr hB hput hbp hK
    gi_wp2
    refine ⟨by simp, .inl ⟨_, _, rfl, run_takeDeferred H5.out, ?_⟩⟩
    exact ⟨_, results_tmp rfl _ _ _, ⟨g, rfl, H1.out⟩, H4.out⟩
  case stop =>
    rintro D c pre W _ _ h _
    exact h.elim
end Go.Proofs.Ytpndfmlkceplcaa
