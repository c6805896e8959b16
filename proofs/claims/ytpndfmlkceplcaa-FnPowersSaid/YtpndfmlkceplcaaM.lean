/-
  'TurnTour' of the program: every game the other way round. No conditions but the bounds that Go gives a slice.
-/
import Derived.Test.YtpndfmlkceplcaaL
import Derived.Test.YtpndfmlkceplcaaI
namespace Go.Proofs.Ytpndfmlkceplcaa
open Go.ChangeShapes Go.WideShapes Go.ChangeAt Go.RowKit Go.Shelf
attribute [local go_sem] Oper.semAt_some
set_option linter.unusedVariables false

set_option maxHeartbeats 400000 in
theorem addWin_g (B g m cap i j : Nat) (ys : List Nat) (w : World) (hm : m ≤ 64) (hi : i < m) (hj : j ≤ 8) (hy : ∀ y ∈ ys, y < 256) (hB : B ≤ w.heap.size)
    (hown : w.ownsRow B 3 1 (.slice (some ⟨g, 0, none⟩) m cap) m (ys.map nv)) :
    Calls Try.prog 116 #[.agg #[.int .i64 m, .slice (some ⟨g, 0, none⟩) m cap], .int .i64 i, .int .i64 j] w fun e w' => (∃ v, e = .returned v) ∧ w'.ownsRow B 3 1 (.slice (some ⟨g, 0, none⟩) m cap) m ((ys.set i (ys.getD i 0 ||| 2 ^ j)).map nv) ∧ Below B w w' ∧ w.grownBy w' (some g) := by
  have hlen : ys.length = m := by simpa using hown.1
  have hgB := (hown.lt g rfl).1
  have hgl := (hown.lt g rfl).2
  have hown1 := hown.alloc (.cells #[.int .i64 m, .slice (some ⟨g, 0, none⟩) m cap] 27)
  obtain ⟨y, hyy⟩ : ∃ y, y = ys.getD i 0 := ⟨_, rfl⟩
  have hy256 : y < 256 := by rw [hyy, List.getD_eq_getElem?_getD, List.getElem?_eq_getElem (by omega)]; exact hy _ (List.getElem_mem _)
  have hc := hown1.cellAt i (by omega)
  rw [List.getElem?_map, show ys[i]? = some y by rw [hyy, List.getD_eq_getElem?_getD, List.getElem?_eq_getElem (by omega)]; rfl] at hc
  have hc' : (w.alloc (.cells #[.int .i64 (m : Int), .slice (some ⟨g, 0, none⟩) m cap] 27)).cell? ⟨g, i, none⟩ = some (.int .i64 (y : Int)) := hc
  have hf := hown1.frozenAt i
  have hp8 := pow_le j hj
  have hor : bits .or .i64 (y : Int) (wrap64 (2 ^ j)) = ((y ||| 2 ^ j : Nat) : Int) := by rw [wrapPow j hj]; exact i64_or _ _ (by omega) (by omega)
  have hst := (hown.stored i (nv (y ||| 2 ^ j))).1
  have hgr0 := (hown.stored i (nv (y ||| 2 ^ j))).2
  rw [show ((ys.map nv).set i (nv (y ||| 2 ^ j))) = (ys.set i (ys.getD i 0 ||| 2 ^ j)).map nv by rw [← hyy, List.map_set]] at hst
  obtain ⟨z, hz⟩ : ∃ z : Int, z = ((y ||| 2 ^ j : Nat) : Int) := ⟨_, rfl⟩
  have hst2 : (w.setCell ⟨g, i, none⟩ (.int .i64 z)).ownsRow B 3 1 (.slice (some ⟨g, 0, none⟩) m cap) m ((ys.set i (ys.getD i 0 ||| 2 ^ j)).map nv) := by rw [hz]; exact hst
  rw [← hz] at hor
  have hgr : w.grownBy (w.setCell ⟨g, i, none⟩ (.int .i64 z)) (some g) := by rw [hz]; exact hgr0
  have HG := Lib.hid hgr
  have HS := Lib.hid hst2
  have him : (i : Int) < (m : Int) := by omega
  clear hst hst2 hc hown hown1 hy hyy hz hgr hgr0
  go_enter Try.func116, Try.ntmps116
  go_wp2
  go_region
  all_goals
    go_wp2
    go_end0
    exact ⟨⟨_, rfl⟩, (HS.out.alloc (.cells #[.int .i64 m, .slice (some ⟨g, 0, none⟩) m cap] 27)).drew, (((Below.refl B w).setCell (p := ⟨g, i, none⟩) hgB _).alloc (by simpa using hB) _).drew, (HG.out.trans (World.grownBy_alloc _ (.cells #[.int .i64 m, .slice (some ⟨g, 0, none⟩) m cap] 27) _)).trans ⟨rfl, rfl, rfl, Nat.le_refl _, fun _ _ _ => rfl⟩⟩


theorem games_any (n : Int) (a : Option Addr) (len cap : Nat) (w : World) : Calls Try.prog 117 #[.agg #[.int .i64 n, .slice a len cap]] w fun e w' => e = .returned (.func (.func 159) #[] #[.pointer (some ⟨w.heap.size, 0, none⟩)]) ∧ w' = w.alloc (.cells #[.int .i64 n, .slice a len cap] 27) := by
  go_enter Try.func117, Try.ntmps117
  go_wp2
  go_ret
  exact ⟨rfl, rfl⟩

/-- Rows and boxes abide the turn of whatever is no cells. -/
theorem own_abides {W W' : World} {row : Option Nat} {B g n c : Nat} {xs : List Value} (h : W.ownsRow B 3 1 (.slice (some ⟨g, 0, none⟩) n c) n xs) (hg : W.grownBy W' row) (hr : ∀ r, row = some r → ∃ o : Obj, W.heap[r]? = some o ∧ o.isCells = false) : W'.ownsRow B 3 1 (.slice (some ⟨g, 0, none⟩) n c) n xs := by
  refine own_grown h hg (fun k hk e => ?_)
  obtain ⟨o, ho, hc⟩ := hr k e
  have hkg : k = g := by simp [blk] at hk; omega
  subst hkg
  rcases h.2 with ⟨h', _⟩ | ⟨g', cap', cur, h', _, hgg, _⟩
  · simp at h'
  · simp only [Value.slice.injEq, Option.some.injEq, Addr.mk.injEq, and_true, true_and] at h'
    obtain ⟨rfl, _⟩ := h'
    rw [hgg] at ho; cases ho; cases hc
theorem Box.abides {W W' : World} {row : Option Nat} {p : Nat} {t : TypeId} {v0 v1 : Value} (h : Box W p t v0 v1) (hg : W.grownBy W' row) (hr : ∀ r, row = some r → ∃ o : Obj, W.heap[r]? = some o ∧ o.isCells = false) : Box W' p t v0 v1 := by
  refine h.grown hg (fun e => ?_)
  obtain ⟨o, ho, hc⟩ := hr p e
  unfold Box at h
  rw [h] at ho; cases ho; cases hc

/-- The rows while the games come in. -/
def turnStep {m : Nat} (ys : List Nat) (x : Pl m) : List Nat := ys.set x.2.val (ys.getD x.2.val 0 ||| 2 ^ x.1.val)
def turnF {m : Nat} (pre : List (Pl m)) : List Nat := pre.foldl turnStep (List.replicate m 0)
theorem turnF_snoc {m : Nat} (pre : List (Pl m)) (x : Pl m) : turnF (pre ++ [x]) = turnStep (turnF pre) x := by simp [turnF]
theorem or_lt256 (a j : Nat) (ha : a < 256) (hj : j < 8) : a ||| 2 ^ j < 256 := by
  have h2 : a < 2 ^ 8 := ha
  have h3 : 2 ^ j < 2 ^ 8 := Nat.pow_lt_pow_right (by decide) hj
  exact Nat.or_lt_two_pow h2 h3
theorem getD_lt256 (ys : List Nat) (i : Nat) (h : ∀ y ∈ ys, y < 256) : ys.getD i 0 < 256 := by
  rw [List.getD_eq_getElem?_getD]
  rcases Nat.lt_or_ge i ys.length with hi | hi
  · rw [List.getElem?_eq_getElem hi]; exact h _ (List.getElem_mem _)
  · rw [List.getElem?_eq_none hi]; decide
theorem turnStep_lt {m : Nat} (hm : m ≤ 8) (ys : List Nat) (x : Pl m) (h : ∀ y ∈ ys, y < 256) : ∀ y ∈ turnStep ys x, y < 256 := by
  intro y hy
  rcases List.mem_or_eq_of_mem_set hy with h1 | h1
  · exact h y h1
  · rw [h1]; exact or_lt256 _ _ (getD_lt256 ys _ h) (by have := x.1.isLt; omega)
theorem turnF_lt {m : Nat} (hm : m ≤ 8) (pre : List (Pl m)) : ∀ y ∈ turnF pre, y < 256 := by
  have : ∀ (L : List (Pl m)) (ys : List Nat), (∀ y ∈ ys, y < 256) → ∀ y ∈ L.foldl turnStep ys, y < 256 := by
    intro L
    induction L with
    | nil => exact fun ys h => h
    | cons x L ih => exact fun ys h => ih _ (turnStep_lt hm ys x h)
  exact this pre _ (by intro y hy; simp at hy; omega)

noncomputable def turnN (n : Int) (l : List Int) : Int := if okB n l then n else 0
noncomputable def turnR (n : Int) (l : List Int) : List Int := if okB n l then (turnF (gamesL l.length l)).map Int.ofNat else []

set_option maxRecDepth 100000 in
set_option maxHeartbeats 2000000 in
theorem implTurn_ok (n : Int) (a : Option Addr) (l : List Int) (cap : Nat) (w : World) (hrow : IntRow w a l) (hl : l.length ≤ maxLen) (hok : okB n l = true) :
    Calls Try.prog 100 #[.agg #[.int .i64 n, .slice a l.length cap]] w fun e w' => (∃ a0 c0, e = .returned (.tuple #[.agg #[.int .i64 (turnN n l), .slice a0 (turnR n l).length c0], .bool true]) ∧ w'.ownsRow w.heap.size 3 1 (.slice a0 (turnR n l).length c0) (turnR n l).length ((turnR n l).map iv)) ∧ Below w.heap.size w w' := by
  obtain ⟨Wb, hWb⟩ : ∃ Wb, Wb = w.alloc (.cells #[.int .i64 n, .slice a l.length cap] 27) := ⟨_, rfl⟩
  obtain ⟨Wa, hWa⟩ : ∃ Wa, Wa = Wb.alloc (.cells #[.int .i64 0, .slice none 0 0] 27) := ⟨_, rfl⟩
  have sb : Wb.heap.size = w.heap.size + 1 := by rw [hWb]; simp
  have sa : Wa.heap.size = w.heap.size + 1 + 1 := by rw [hWa]; simp [sb]
  have hbb : Below w.heap.size w Wb := by rw [hWb]; exact (Below.refl _ _).alloc (Nat.le_refl _) _
  have hba : Below w.heap.size w Wa := by rw [hWa]; exact hbb.alloc hbb.size _
  have xt : Box Wa w.heap.size 27 (.int .i64 n) (.slice a l.length cap) := by
    rw [hWa]; exact (show Box Wb w.heap.size 27 (.int .i64 n) (.slice a l.length cap) by rw [hWb]; exact Box.new _ _ _ _).below ((Below.refl Wb.heap.size Wb).alloc (Nat.le_refl _) _) (by omega)
  have xr : Box Wa (w.heap.size + 1) 27 (.int .i64 0) (.slice none 0 0) := by rw [hWa, ← sb]; exact Box.new _ _ _ _
  have HWa : Hid (Wa = (w.alloc (.cells #[.int .i64 n, .slice a l.length cap] 27)).alloc (.cells #[.int .i64 0, .slice none 0 0] 27)) := by rw [hWa, hWb]; exact rfl
  have hrowa : IntRow Wa a l := hrow.below hba (Nat.le_refl _)
  have HL := Lib.hid hl
  clear hl hrow hWa hWb hbb
  have HO := Lib.hid hok
  have HK : Hid (Ok n l) := okB_iff.1 hok
  have hnl := HK.out.2.2.1
  have hl8 : l.length ≤ 8 := by have := HK.out.2.1; omega
  have hl1 : 1 ≤ l.length := by have := HK.out.1; omega
  subst hnl
  clear hok
  refine (callsIn_wide (n := 8)).1 ?_
  refine callsIn_of_wp_marks Try.func100 rfl trivial ?_ rfl
  simp only [Try.ntmps100, List.size_toArray, List.length_cons, List.length_nil, Nat.reduceAdd, Nat.reduceSub, Array.replicate_succ, Array.replicate_zero, List.push_toArray, List.append_toArray, List.nil_append, List.cons_append]
  gi_wp2_with fail
  refine ⟨trivial, ?_⟩
  rw [← HWa.out]
  refine (callsIn_wide.2 (implTourOk _ a l cap Wa hrowa HL.out)).mono ?_
  rintro e w1 ⟨rfl, hb1⟩
  rw [HO.out]
  have B1 := hba.trans (hb1.mono hba.size)
  have xr1 := xr.below hb1 xr.lt
  have xt1 := xt.below hb1 xt.lt
  have hrow1 := hrowa.below hb1 (Nat.le_refl _)
  clear xr xt hrowa
  have c0 := xt1.c0
  have c1 := xt1.c1
  gi_wp2_with fail
  refine ⟨trivial, ?_⟩
  refine (callsIn_wide.2 (newTour_any l.length w1 (by omega))).mono ?_
  rintro e w4 ⟨⟨g, rfl, ho4⟩, hb4⟩
  have B4 := B1.trans (hb4.mono B1.size)
  have xr4 := xr1.below hb4 xr1.lt
  have xt4 := xt1.below hb4 xt1.lt
  have hrow4 := hrow1.below hb4 (Nat.le_refl _)
  obtain ⟨W4, hW4⟩ : ∃ W4, W4 = w4.alloc (.cells #[.int .i64 l.length, .slice (some ⟨g, 0, none⟩) l.length l.length] 27) := ⟨_, rfl⟩
  have HW4 := Lib.hid hW4
  have hbW4 : Below w4.heap.size w4 W4 := by rw [hW4]; exact (Below.refl _ _).alloc (Nat.le_refl _) _
  have xf : Box W4 w4.heap.size 27 (.int .i64 l.length) (.slice (some ⟨g, 0, none⟩) l.length l.length) := by rw [hW4]; exact Box.new _ _ _ _
  have s4 : W4.heap.size = w4.heap.size + 1 := by rw [hW4]; simp
  have xr5 := xr4.below hbW4 xr4.lt
  have xt5 := xt4.below hbW4 xt4.lt
  have hrow5 := hrow4.below hbW4 (Nat.le_refl _)
  have ho5 := own_below ho4 hbW4
  have B5 := B4.trans (hbW4.mono B4.size)
  have hgl := (ho4.lt g rfl)
  clear c0 c1
  have c0 := xt5.c0
  have c1 := xt5.c1
  rw [HW4.out] at c0 c1
  clear hW4
  gi_wp2_with fail
  refine ⟨trivial, ?_⟩
  rw [← HW4.out]
  refine (callsIn_wide.2 (games_any _ a l.length cap W4)).mono ?_
  rintro e W6 ⟨rfl, hW6⟩
  have hgW4 : g < W4.heap.size := by omega
  have x6 : Box W6 W4.heap.size 27 (.int .i64 l.length) (.slice a l.length cap) := by rw [hW6]; exact Box.new _ _ _ _
  have hb6 : Below W4.heap.size W4 W6 := by rw [hW6]; exact (Below.refl _ _).alloc (Nat.le_refl _) _
  have s6 : W6.heap.size = W4.heap.size + 1 := by rw [hW6]; simp
  have hrow6 := hrow5.below hb6 (Nat.le_refl _)
  have ho6 := (own_below ho5 hb6).mono B1.size
  have xf6 := xf.below hb6 xf.lt
  have xr6 := xr5.below hb6 xr5.lt
  have B6 := B5.trans (hb6.mono B5.size)
  have hBg : W4.heap.size ≠ g := by omega
  have hag : blk a ≠ some g := by
    intro e
    rcases hrow1 with h | ⟨b, off, rfl, hbl, _⟩
    · rw [h] at hl1; simp at hl1
    · simp [blk] at e; omega
  have hfg : g ≠ w4.heap.size := by omega
  have hrg : g ≠ w.heap.size + 1 := by have := xr1.lt; omega
  have hg6 : g < W6.heap.size := by omega
  have hwg : w.heap.size ≤ g := by have := B1.size; omega
  have hw6 : w.heap.size ≤ W6.heap.size := B6.size
  have X6 := Lib.hid x6
  have HR6 := Lib.hid hrow6
  have HO6 := Lib.hid ho6
  have XF6 := Lib.hid xf6
  have XR6 := Lib.hid xr6
  have BB6 := Lib.hid B6
  clear hW6 x6 hb6 hrow6 ho6 xf6 xr6 B6 hrow5 ho5 xf xr5 xt5 B5 hbW4 hrow4 xt4 xr4 B4 hb4 ho4 hrow1 xt1 xr1 B1 hb1 c0 c1 hba hgl s4
  gi_wp2
  refine wpIn_rangeFunc_ownG (F := Fence.wide) rfl (by omega) (gf := 159) (lb := #[.pointer (some ⟨W4.heap.size, 0, none⟩)]) rfl trivial (enters_of Try.func159 (by kernel_rfl) rfl)
    (games_stops 7 (by omega) W4.heap.size g _ a cap l HK.out W6 X6.out HR6.out hBg hag hg6) (fun h k => h.trans k) (fun W l o o' _ h hc _ => KeepsBut.put g W l o o' h hc) (Below.refl _ _) (fun _ => rfl)
    (fun pre W => (W.ownsRow w.heap.size 3 1 (.slice (some ⟨g, 0, none⟩) l.length l.length) l.length ((turnF pre).map nv) ∧ Box W w4.heap.size 27 (.int .i64 l.length) (.slice (some ⟨g, 0, none⟩) l.length l.length) ∧ Box W (w.heap.size + 1) 27 (.int .i64 0) (.slice none 0 0)) ∧ Below w.heap.size w W)
    (fun _ _ _ => False)
    (OwnFrom.and (Own.from (fun s A B row hs hg hr => ⟨own_abides hs.1 hg hr, hs.2.1.abides hg hr, hs.2.2.abides hg hr⟩) _) (ownFrom_below (Nat.le_refl _) hw6))
    (fun _ _ _ _ _ hs _ _ => hs)
    ⟨⟨HO6.out, XF6.out, XR6.out⟩, BB6.out⟩
    (fun x => { tmps := #[.agg #[.int .i64 l.length, .slice a l.length cap], .pointer (some ⟨w.heap.size, 0, none⟩), .pointer (some ⟨w.heap.size + 1, 0, none⟩), .bool false, .pointer (some ⟨w4.heap.size, 0, none⟩), .int .i64 (x.1.val : Int), .int .i64 (x.2.val : Int), .agg #[.int .i64 l.length, .slice a l.length cap], .bool true, .bool false, undef, .pointer (some ⟨w.heap.size, 0, none⟩), .int .i64 l.length, .agg #[.int .i64 l.length, .slice (some ⟨g, 0, none⟩) l.length l.length], .agg #[.int .i64 l.length, .slice a l.length cap], .func (.func 159) #[] #[.pointer (some ⟨W4.heap.size, 0, none⟩)], .int .i64 (x.1.val : Int), .int .i64 (x.2.val : Int), undef, undef, undef, undef, undef], defers := [] }) ?assign ?body ?done ?stop
  case assign =>
    intro ly x W K hK
    unfold encP
    gi_wp2
    exact hK
  case body =>
    rintro ly pre x W ⟨⟨ho, hx, hxr⟩, hB⟩ _
    have d0 := hx.c0
    have d1 := hx.c1
    have H1 := Lib.hid ho
    have H2 := Lib.hid hx
    have H3 := Lib.hid hxr
    have H4 := Lib.hid hB
    clear ho hx hxr hB
    gi_wp2_with fail
    refine ⟨trivial, ?_⟩
    refine (CallsIn.inRound ly (callsIn_wide.2 (addWin_g w.heap.size g l.length l.length x.2.val x.1.val (turnF pre) W (by omega) x.2.isLt (by have := x.1.isLt; omega) (turnF_lt hl8 pre) H4.out.size H1.out))).mono ?_
    rintro e W' ⟨⟨v, rfl⟩, ho', hb', hg'⟩
    have G1 := Lib.hid ho'
    have G2 := Lib.hid (H2.out.grown hg' (by simp; omega))
    have G3 := Lib.hid (H3.out.grown hg' (by simp; omega))
    have G4 := Lib.hid (H4.out.trans hb')
    have G5 := Lib.hid (KeepsFrom.of_grownBy hg' (B := W6.heap.size) (fun j e => by cases e; exact hg6))
    have G6 := Lib.hid (KeepsBut.grown hg')
    clear ho' hb' hg' d0 d1
    gi_wp2
    exact ⟨G5.out, G6.out, ⟨by rw [turnF_snoc]; exact G1.out, G2.out, G3.out⟩, G4.out⟩
  case done =>
    rintro D ys W hD rfl ⟨⟨ho, hx, hxr⟩, hB⟩ hK
    have d0 := hx.c0
    have d1 := hx.c1
    have e0 := hxr.c0
    have e1 := hxr.c1
    have e2 := hxr.f0
    have e3 := hxr.f1
    have H1 := Lib.hid ho
    have H3 := Lib.hid hxr
    have H4 := Lib.hid hB
    have H5 := Lib.hid hK
    clear ho hx hxr hB hK
    gi_wp2
    have hK1 := ((KeepsOthers.setCell W ⟨w.heap.size + 1, 0, none⟩ (.int .i64 (l.length : Int))).trans (KeepsOthers.setCell _ ⟨w.heap.size + 1, 1, none⟩ (.slice (some ⟨g, 0, none⟩) l.length l.length))).same D _ H5.out rfl
    refine ⟨by simp, .inl ⟨_, _, rfl, run_takeDeferred hK1, ?_⟩⟩
    have hput := grownBy_putObj' ((W.setCell ⟨w.heap.size + 1, 0, none⟩ (.int .i64 (l.length : Int))).setCell ⟨w.heap.size + 1, 1, none⟩ (.slice (some ⟨g, 0, none⟩) l.length l.length)) D (.deferred none)
    have hno : ∀ r, some D = some r → ∃ o : Obj, ((W.setCell ⟨w.heap.size + 1, 0, none⟩ (.int .i64 (l.length : Int))).setCell ⟨w.heap.size + 1, 1, none⟩ (.slice (some ⟨g, 0, none⟩) l.length l.length)).heap[r]? = some o ∧ o.isCells = false := fun r e => by cases e; exact ⟨_, hK1, rfl⟩
    have xz := ((H3.out.set0 (.int .i64 (l.length : Int))).set1 (.slice (some ⟨g, 0, none⟩) l.length l.length)).abides hput hno
    have oz := own_abides (own_other (own_other H1.out ⟨w.heap.size + 1, 0, none⟩ (.int .i64 (l.length : Int)) hrg) ⟨w.heap.size + 1, 1, none⟩ (.slice (some ⟨g, 0, none⟩) l.length l.length) hrg) hput hno
    have hn : turnN l.length l = l.length := by unfold turnN; rw [HO.out]; rfl
    have hr : turnR l.length l = (turnF (gamesL l.length l)).map Int.ofNat := by unfold turnR; rw [HO.out]; rfl
    have hlen : ((turnF (gamesL l.length l)).map Int.ofNat).length = l.length := by have := H1.out.1; simp at this; simp [this]
    refine ⟨.tuple #[.agg #[.int .i64 l.length, .slice (some ⟨g, 0, none⟩) l.length l.length], .bool true], Box.res2 rfl _ rfl rfl xz, ⟨some ⟨g, 0, none⟩, l.length, ?_, ?_⟩, ?_⟩
    · rw [hn, hr, hlen]
    · rw [hr, hlen, ← nv_iv]; exact oz
    · exact ((H4.out.setCell (p := ⟨w.heap.size + 1, 0, none⟩) (Nat.le_succ _) _).setCell (p := ⟨w.heap.size + 1, 1, none⟩) (Nat.le_succ _) _).grown hput (by simp; have := H4.out.size; omega) (fun k e => by cases e; omega)
  case stop =>
    rintro D c pre W _ _ h _
    exact h.elim
end Go.Proofs.Ytpndfmlkceplcaa
