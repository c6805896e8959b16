/-
  'WayBetween' of the program. No conditions but the bounds that Go gives a slice.
-/
import Derived.Test.YtnlpfajncpbjpaaJU
import Derived.Test.YtnlpfajncpbjpaaJO
namespace Go.Proofs.Ytnlpfajncpbjpaa
open Go.ChangeShapes Go.WideShapes Go.ChangeAt Go.RowKit Go.Shelf
attribute [local go_sem] Oper.semAt_some
set_option linter.unusedVariables false

/-- What 'WayBetween' answers. -/
noncomputable def wbR (n : Int) (l : List Int) (q k : Int) : Option (List Nat) := if okB n l && pl n q && pl n k then (List.range l.length).findSome? (fun j => (Hw.ways (ww l) ((j + 1 : Nat) : Int) q.toNat).find? (Hw.endB k.toNat)) else none
theorem wbR_no {n : Int} {l : List Int} {q k : Int} (h : (okB n l && pl n q && pl n k) = false) : wbR n l q k = none := by unfold wbR; rw [h]; rfl
theorem wbR_yes {n : Int} {l : List Int} {q k : Nat} (hok : okB n l = true) (hq : pl n (q : Int) = true) (hk : pl n (k : Int) = true) : wbR n l (q : Int) (k : Int) = (List.range l.length).findSome? (fun j => (Hw.ways (ww l) ((j + 1 : Nat) : Int) q).find? (Hw.endB k)) := by
  unfold wbR; rw [hok, hq, hk]; rfl
theorem four_new {W W3 : World} {n k : Int} {a : Option Addr} {len cap : Nat} (h : W3 = (((W.alloc (.cells #[.int .i64 n, .slice a len cap] 25)).alloc (.cells #[.int .i64 k] 3)).alloc (.cells #[.slice none 0 0] 23)).alloc (.cells #[.bool false] 4)) :
    Below W.heap.size W W3 ∧ Box W3 W.heap.size 25 (.int .i64 n) (.slice a len cap) ∧ Boxed W3 (W.heap.size + 1) 3 (.int .i64 k) ∧ Boxed W3 (W.heap.size + 1 + 1) 23 (.slice none 0 0) ∧ Boxed W3 (W.heap.size + 1 + 1 + 1) 4 (.bool false) ∧ W3.heap.size = W.heap.size + 1 + 1 + 1 + 1 := by
  obtain ⟨W1, hW1⟩ : ∃ W1, W1 = W.alloc (.cells #[.int .i64 n, .slice a len cap] 25) := ⟨_, rfl⟩
  obtain ⟨W2, hW2⟩ : ∃ W2, W2 = W1.alloc (.cells #[.int .i64 k] 3) := ⟨_, rfl⟩
  obtain ⟨W4, hW4⟩ : ∃ W4, W4 = W2.alloc (.cells #[.slice none 0 0] 23) := ⟨_, rfl⟩
  rw [← hW1, ← hW2, ← hW4] at h
  have s1 : W1.heap.size = W.heap.size + 1 := by rw [hW1]; simp
  have s2 : W2.heap.size = W.heap.size + 1 + 1 := by rw [hW2]; simp [s1]
  have s4 : W4.heap.size = W.heap.size + 1 + 1 + 1 := by rw [hW4]; simp [s2]
  have b1 : Below W.heap.size W W1 := by rw [hW1]; exact (Below.refl _ _).alloc (Nat.le_refl _) _
  have b2 : Below W1.heap.size W1 W2 := by rw [hW2]; exact (Below.refl _ _).alloc (Nat.le_refl _) _
  have b4 : Below W2.heap.size W2 W4 := by rw [hW4]; exact (Below.refl _ _).alloc (Nat.le_refl _) _
  have b3 : Below W4.heap.size W4 W3 := by rw [h]; exact (Below.refl _ _).alloc (Nat.le_refl _) _
  have x1 : Box W1 W.heap.size 25 (.int .i64 n) (.slice a len cap) := by rw [hW1]; exact Box.new _ _ _ _
  have x2 : Boxed W2 (W.heap.size + 1) 3 (.int .i64 k) := by rw [hW2, ← s1]; exact Boxed.new _ _ _
  have x4 : Boxed W4 (W.heap.size + 1 + 1) 23 (.slice none 0 0) := by rw [hW4, ← s2]; exact Boxed.new _ _ _
  have x3 : Boxed W3 (W.heap.size + 1 + 1 + 1) 4 (.bool false) := by rw [h, ← s4]; exact Boxed.new _ _ _
  have b43 := b4.trans (b3.mono b4.size)
  have b13 := b2.trans (b43.mono b2.size)
  exact ⟨b1.trans (b13.mono b1.size), x1.below b13 x1.lt, (b43.block _ x2.lt).trans x2, (b3.block _ x4.lt).trans x4, x3, by rw [h]; simp [s4]⟩
/-- Where the loop over the numbers of players stands. -/
structure Wf (w : World) (n : Int) (a : Option Addr) (cap : Nat) (l : List Int) (q k : Nat) (j : Nat) (g : Nat) (ds : List Deferred) (W : World) : Prop where
  le : j ≤ l.length
  ln : ds.length = j
  no : ∀ i, i < j → (Hw.ways (ww l) ((i + 1 : Nat) : Int) q).find? (Hw.endB k) = none
  xt : Box W w.heap.size 25 (.int .i64 n) (.slice a l.length cap)
  xq : Boxed W (w.heap.size + 1) 3 (.int .i64 (k : Int))
  xr : Boxed W (w.heap.size + 1 + 1) 23 (.slice none 0 0)
  xb : Boxed W (w.heap.size + 1 + 1 + 1) 4 (.bool false)
  xi : Boxed W g 3 (.int .i64 ((j : Int) + 1))
  gi : w.heap.size + 1 + 1 + 1 < g
  hb : Below w.heap.size w W
  ms : ∃ U, Marks w.heap.size U ds W ∧ U ≤ W.heap.size
theorem endB_at {k j : Nat} {w : List Nat} (h : w.length = j + 1) : Hw.endB k w = (w.getD j 0 == k) := by
  unfold Hw.endB
  rw [Hw.last_getD w (by intro e; rw [e] at h; simp at h), h]; rfl

set_option maxRecDepth 100000 in
set_option maxHeartbeats 2000000 in
theorem implWayBetween (n : Int) (a : Option Addr) (l : List Int) (cap : Nat) (q k : Int) (w : World) (hrow : IntRow w a l) (hl : l.length ≤ maxLen) :
    Calls Try.prog 22 #[.agg #[.int .i64 n, .slice a l.length cap], .int .i64 q, .int .i64 k] w (RetB w (wbR n l q k)) := by
  obtain ⟨Wa, hWa⟩ : ∃ Wa, Wa = (((w.alloc (.cells #[.int .i64 n, .slice a l.length cap] 25)).alloc (.cells #[.int .i64 k] 3)).alloc (.cells #[.slice none 0 0] 23)).alloc (.cells #[.bool false] 4) := ⟨_, rfl⟩
  obtain ⟨hba, xa, xq, xr, xb, hsa⟩ := four_new hWa
  have hrowa : IntRow Wa a l := hrow.below hba (Nat.le_refl _)
  have HWa := Lib.hid hWa
  have HRW := Lib.hid hrow
  have HL := Lib.hid hl
  clear hl hrow hWa
  cases hok : okB n l
  · have HO := Lib.hid hok
    have HE : Hid (wbR n l q k = none) := wbR_no (by rw [hok]; rfl)
    clear hok
    go_enter Try.func22, Try.ntmps22
    go_wp2_with fail
    rw [← HWa.out]
    refine (implTourOk n a l cap Wa hrowa HL.out).mono ?_
    rintro e w1 ⟨rfl, hb1⟩
    rw [HO.out]
    have HB := Lib.hid hb1
    clear hb1
    have xr1 : Boxed w1 (w.heap.size + 1 + 1) 23 (.slice none 0 0) := (HB.out.block _ xr.lt).trans xr
    have xb1 : Boxed w1 (w.heap.size + 1 + 1 + 1) 4 (.bool false) := (HB.out.block _ xb.lt).trans xb
    have d0 := xr1.cell
    have d1 := xr1.frozen
    have d2 := xb1.cell
    have d3 := xb1.frozen
    have XR := Lib.hid xr1
    have XB := Lib.hid xb1
    have B1 := Lib.hid (hba.trans (HB.out.mono hba.size))
    clear xr1 xb1 hba
    go_wp2
    refine bodyPost_ret (v := .tuple #[.slice none 0 0, .bool false]) (Boxed.resSB rfl _ rfl rfl ((XR.out.set (.slice none 0 0)).other (by omega) _) ((XB.out.other (by omega) _).set (.bool false))) rfl ⟨⟨_, by rw [HE.out]; rfl, ?_⟩, ?_⟩
    · rw [HE.out]; exact World.ownsRow_nil _ _ _ _
    · exact (B1.out.setCell (p := ⟨w.heap.size + 1 + 1, 0, none⟩) (by simp only; omega) _).setCell (p := ⟨w.heap.size + 1 + 1 + 1, 0, none⟩) (by simp only; omega) _
  cases hp : pl n q
  · have HO := Lib.hid hok
    have HP := Lib.hid hp
    have HE : Hid (wbR n l q k = none) := wbR_no (by rw [hok, hp]; rfl)
    clear hok hp
    go_enter Try.func22, Try.ntmps22
    go_wp2_with fail
    rw [← HWa.out]
    refine (implTourOk n a l cap Wa hrowa HL.out).mono ?_
    rintro e w1 ⟨rfl, hb1⟩
    rw [HO.out]
    have xa1 := xa.below hb1 xa.lt
    have c0 := xa1.c0
    have c1 := xa1.c1
    go_wp2_with fail
    refine (hasPlayer_any n a l.length cap q w1).mono ?_
    rintro e w2 ⟨rfl, hb2⟩
    rw [show (decide (0 ≤ q) && decide (q < n)) = false from HP.out]
    have HB := Lib.hid (hb1.trans (hb2.mono hb1.size))
    clear hb1 hb2 c0 c1 xa1
    have xr1 : Boxed w2 (w.heap.size + 1 + 1) 23 (.slice none 0 0) := (HB.out.block _ xr.lt).trans xr
    have xb1 : Boxed w2 (w.heap.size + 1 + 1 + 1) 4 (.bool false) := (HB.out.block _ xb.lt).trans xb
    have d0 := xr1.cell
    have d1 := xr1.frozen
    have d2 := xb1.cell
    have d3 := xb1.frozen
    have XR := Lib.hid xr1
    have XB := Lib.hid xb1
    have B1 := Lib.hid (hba.trans (HB.out.mono hba.size))
    clear xr1 xb1 hba
    go_wp2
    refine bodyPost_ret (v := .tuple #[.slice none 0 0, .bool false]) (Boxed.resSB rfl _ rfl rfl ((XR.out.set (.slice none 0 0)).other (by omega) _) ((XB.out.other (by omega) _).set (.bool false))) rfl ⟨⟨_, by rw [HE.out]; rfl, ?_⟩, ?_⟩
    · rw [HE.out]; exact World.ownsRow_nil _ _ _ _
    · exact (B1.out.setCell (p := ⟨w.heap.size + 1 + 1, 0, none⟩) (by simp only; omega) _).setCell (p := ⟨w.heap.size + 1 + 1 + 1, 0, none⟩) (by simp only; omega) _
  cases hp2 : pl n k
  · have HO := Lib.hid hok
    have HP := Lib.hid hp
    have HP2 := Lib.hid hp2
    have HE : Hid (wbR n l q k = none) := wbR_no (by rw [hok, hp, hp2]; rfl)
    clear hok hp hp2
    go_enter Try.func22, Try.ntmps22
    go_wp2_with fail
    rw [← HWa.out]
    refine (implTourOk n a l cap Wa hrowa HL.out).mono ?_
    rintro e w1 ⟨rfl, hb1⟩
    rw [HO.out]
    have xa1 := xa.below hb1 xa.lt
    have c0 := xa1.c0
    have c1 := xa1.c1
    go_wp2_with fail
    refine (hasPlayer_any n a l.length cap q w1).mono ?_
    rintro e w2 ⟨rfl, hb2⟩
    rw [show (decide (0 ≤ q) && decide (q < n)) = true from HP.out]
    have hb12 := hb1.trans (hb2.mono hb1.size)
    have xa2 := xa.below hb12 xa.lt
    have xq2 : Boxed w2 (w.heap.size + 1) 3 (.int .i64 k) := (hb12.block _ xq.lt).trans xq
    clear c0 c1
    have c0 := xa2.c0
    have c1 := xa2.c1
    have e0 := xq2.cell
    go_wp2_with fail
    refine (hasPlayer_any n a l.length cap k w2).mono ?_
    rintro e w3 ⟨rfl, hb3⟩
    rw [show (decide (0 ≤ k) && decide (k < n)) = false from HP2.out]
    have HB := Lib.hid (hb12.trans (hb3.mono hb12.size))
    clear hb1 hb2 hb12 hb3 c0 c1 e0 xa1 xa2 xq2
    have xr1 : Boxed w3 (w.heap.size + 1 + 1) 23 (.slice none 0 0) := (HB.out.block _ xr.lt).trans xr
    have xb1 : Boxed w3 (w.heap.size + 1 + 1 + 1) 4 (.bool false) := (HB.out.block _ xb.lt).trans xb
    have d0 := xr1.cell
    have d1 := xr1.frozen
    have d2 := xb1.cell
    have d3 := xb1.frozen
    have XR := Lib.hid xr1
    have XB := Lib.hid xb1
    have B1 := Lib.hid (hba.trans (HB.out.mono hba.size))
    clear xr1 xb1 hba
    go_wp2
    refine bodyPost_ret (v := .tuple #[.slice none 0 0, .bool false]) (Boxed.resSB rfl _ rfl rfl ((XR.out.set (.slice none 0 0)).other (by omega) _) ((XB.out.other (by omega) _).set (.bool false))) rfl ⟨⟨_, by rw [HE.out]; rfl, ?_⟩, ?_⟩
    · rw [HE.out]; exact World.ownsRow_nil _ _ _ _
    · exact (B1.out.setCell (p := ⟨w.heap.size + 1 + 1, 0, none⟩) (by simp only; omega) _).setCell (p := ⟨w.heap.size + 1 + 1 + 1, 0, none⟩) (by simp only; omega) _
  have HO := Lib.hid hok
  have HP := Lib.hid hp
  have HP2 := Lib.hid hp2
  have hk := okB_iff.1 hok
  obtain ⟨qq, rfl, hqq⟩ : ∃ qq : Nat, q = qq ∧ qq < l.length := by have := pl_iff.1 hp; have := hk.2.2.1; exact ⟨q.toNat, by omega, by omega⟩
  obtain ⟨kk, rfl, hkk⟩ : ∃ kk : Nat, k = kk ∧ kk < l.length := by have := pl_iff.1 hp2; have := hk.2.2.1; exact ⟨k.toNat, by omega, by omega⟩
  have HE := Lib.hid (wbR_yes hok hp hp2)
  have HK := Lib.hid hk
  have hnl := hk.2.2.1
  have hl8 : l.length ≤ 8 := by have := hk.2.1; omega
  subst hnl
  clear hok hp hp2 hk
  refine (callsIn_wide (n := 8)).1 ?_
  refine callsIn_of_wp_marks Try.func22 rfl trivial ?_ rfl
  simp only [Try.ntmps22, List.size_toArray, List.length_cons, List.length_nil, Nat.reduceAdd, Nat.reduceSub, Array.replicate_succ, Array.replicate_zero, List.push_toArray, List.append_toArray, List.nil_append, List.cons_append]
  gi_wp2_with fail
  refine ⟨trivial, ?_⟩
  rw [← HWa.out]
  refine (callsIn_wide.2 (implTourOk _ a l cap Wa hrowa HL.out)).mono ?_
  rintro e w1 ⟨rfl, hb1⟩
  rw [HO.out]
  have xa1 := xa.below hb1 xa.lt
  have c0 := xa1.c0
  have c1 := xa1.c1
  gi_wp2_with fail
  refine ⟨trivial, ?_⟩
  refine (callsIn_wide.2 (hasPlayer_any _ a l.length cap (qq : Int) w1)).mono ?_
  rintro e w2 ⟨rfl, hb2⟩
  rw [show (decide (0 ≤ (qq : Int)) && decide ((qq : Int) < (l.length : Int))) = true from HP.out]
  have hb12 := hb1.trans (hb2.mono hb1.size)
  have xa2 := xa.below hb12 xa.lt
  have xq2 : Boxed w2 (w.heap.size + 1) 3 (.int .i64 (kk : Int)) := (hb12.block _ xq.lt).trans xq
  clear c0 c1
  have c0 := xa2.c0
  have c1 := xa2.c1
  have e0 := xq2.cell
  gi_wp2_with fail
  refine ⟨trivial, ?_⟩
  refine (callsIn_wide.2 (hasPlayer_any _ a l.length cap (kk : Int) w2)).mono ?_
  rintro e w3 ⟨rfl, hb3⟩
  rw [show (decide (0 ≤ (kk : Int)) && decide ((kk : Int) < (l.length : Int))) = true from HP2.out]
  have hb13 := hb12.trans (hb3.mono hb12.size)
  obtain ⟨W0, hW0⟩ : ∃ W0, W0 = w3.alloc (.cells #[.int .i64 1] 3) := ⟨_, rfl⟩
  have hb30 : Below w3.heap.size w3 W0 := by rw [hW0]; exact (Below.refl _ _).alloc (Nat.le_refl _) _
  have xi0 : Boxed W0 w3.heap.size 3 (.int .i64 1) := by rw [hW0]; exact Boxed.new _ _ _
  have hb0 := hb13.trans (hb30.mono hb13.size)
  have hx3 : w.heap.size + 1 + 1 + 1 < w3.heap.size := by have := hb13.size; omega
  have HST : Hid (Wf w (l.length : Int) a cap l qq kk 0 w3.heap.size [] W0) := ⟨Nat.zero_le _, rfl, fun i h => absurd h (Nat.not_lt_zero _), xa.below hb0 xa.lt, (hb0.block _ xq.lt).trans xq, (hb0.block _ xr.lt).trans xr, (hb0.block _ xb.lt).trans xb, xi0, hx3, hba.trans (hb0.mono hba.size), ⟨W0.heap.size, Marks.nil _ _ _, Nat.le_refl _⟩⟩
  have HW0 := Lib.hid hW0
  clear hb0 hb30 xi0 hW0 hb13 hb3 e0 c0 c1 xq2 xa2 hb12 hb2 xa1 hb1 xr xb xa xq hba hrowa
  gi_wp2
  rw [← HW0.out]
  refine wpIn_loop (fun a2 W => ∃ (j g : Nat) (ds : List Deferred) (v9 v25 v26 v27 v28 v29 v30 v31 v32 v33 v34 v35 v36 v37 v38 v39 v40 v41 v42 v43 v44 : Value), Wf w (l.length : Int) a cap l qq kk j g ds W ∧ a2 = { tmps := #[.agg #[.int .i64 (l.length : Int), .slice a l.length cap], .int .i64 (qq : Int), .int .i64 (kk : Int), .pointer (some ⟨w.heap.size, 0, none⟩), undef, .pointer (some ⟨w.heap.size + 1, 0, none⟩), .pointer (some ⟨w.heap.size + 1 + 1, 0, none⟩), .pointer (some ⟨w.heap.size + 1 + 1 + 1, 0, none⟩), .pointer (some ⟨g, 0, none⟩), v9, .agg #[.int .i64 (l.length : Int), .slice a l.length cap], .bool true, .bool false, .bool false, .agg #[.int .i64 (l.length : Int), .slice a l.length cap], .int .i64 (qq : Int), .bool true, .bool false, .bool false, .bool false, .agg #[.int .i64 (l.length : Int), .slice a l.length cap], .int .i64 (kk : Int), .bool true, .bool false, .bool false, v25, v26, v27, v28, v29, v30, v31, v32, v33, v34, v35, v36, v37, v38, v39, v40, v41, v42, v43, v44], defers := ds }) (fun a2 _ => l.length - a2.defers.length) ⟨0, _, [], undef, undef, undef, undef, undef, undef, undef, undef, undef, undef, undef, undef, undef, undef, undef, undef, undef, undef, undef, undef, undef, HST.out, rfl⟩ ?_
  rintro a2 W ⟨j, g, ds, v9, v25, v26, v27, v28, v29, v30, v31, v32, v33, v34, v35, v36, v37, v38, v39, v40, v41, v42, v43, v44, hff, rfl⟩
  clear HST
  have c0 := hff.xt.c0
  have c1 := hff.xt.c1
  have e1 := hff.xi.cell
  have hgg := hff.gi
  have HFF := Lib.hid hff
  by_cases hlt : j < l.length
  · have hjb : (j : Int) + 1 ≤ (l.length : Int) := by omega
    obtain ⟨W3, hW3⟩ : ∃ W3, W3 = ((W.alloc (.cells #[.int .i64 (l.length : Int), .slice a l.length cap] 25)).alloc (.cells #[.int .i64 (qq : Int)] 3)).alloc (.cells #[.int .i64 ((j : Int) + 1)] 3) := ⟨_, rfl⟩
    obtain ⟨hb3, xt3, xq3, xk3, hs3⟩ := three_new hW3
    obtain ⟨U, hms, hU⟩ := hff.ms
    have q1 : g < W.heap.size := hff.xi.lt
    have XT := Lib.hid xt3
    have XQ := Lib.hid xq3
    have XK := Lib.hid xk3
    have HR := Lib.hid (HRW.out.below (hff.hb.trans (hb3.mono hff.hb.size)) (Nat.le_refl _))
    have BW := Lib.hid (hff.hb.trans (hb3.mono hff.hb.size))
    have XA := Lib.hid (hff.xt.below hb3 hff.xt.lt)
    have XB1 : Hid (Boxed W3 (w.heap.size + 1) 3 (.int .i64 (kk : Int))) := (hb3.block _ hff.xq.lt).trans hff.xq
    have XR : Hid (Boxed W3 (w.heap.size + 1 + 1) 23 (.slice none 0 0)) := (hb3.block _ hff.xr.lt).trans hff.xr
    have XB : Hid (Boxed W3 (w.heap.size + 1 + 1 + 1) 4 (.bool false)) := (hb3.block _ hff.xb.lt).trans hff.xb
    have XI : Hid (Boxed W3 g 3 (.int .i64 ((j : Int) + 1))) := (hb3.block _ hff.xi.lt).trans hff.xi
    have MS := Lib.hid (hms.below hb3)
    have hU3 : U ≤ W3.heap.size := by omega
    have HW3 := Lib.hid hW3
    clear hW3 xt3 xq3 xk3 hff hms hb3
    gi_wp2_with fail
    refine ⟨trivial, ?_⟩
    refine (callsIn_wide.2 (waysFrom_any _ a l.length cap (qq : Int) ((j : Int) + 1) W)).mono ?_
    rintro e w4 ⟨rfl, hw4⟩
    rw [← HW3.out] at hw4
    have hw5 := hw4.symm
    clear hw4
    subst hw5
    clear c0 c1 e1
    gi_wp2
    refine rangeZ (F := Fence.wide) (Z := Zl) rfl (by omega) (gf := 97) (lb := #[.pointer (some ⟨W.heap.size + 1, 0, none⟩), .pointer (some ⟨W.heap.size + 1 + 1, 0, none⟩), .pointer (some ⟨W.heap.size, 0, none⟩)]) rfl trivial (enters_of Try.func97 (by kernel_rfl) rfl)
      (ways_stops W.heap.size (W.heap.size + 1) (W.heap.size + 1 + 1) (W3.heap.size + 2) (fun _ _ => True) _ a cap l qq ((j : Int) + 1) HK.out hqq W3 XT.out XQ.out XK.out HR.out (fun _ => trivial) (fun _ => trivial) (fun _ _ _ => trivial) (fun _ _ _ => trivial))
      (fun h k => h.trans k) (fun W l o o2 h hc => KeepR.put W l o o2 h hc) (fun pre x W l o o2 _ ho hc h => h.put l o o2 ho hc) (Below.refl _ _) (fun _ => rfl)
      (fun pre W => ((((((∀ y ∈ pre, Hw.endB kk y.1 = false) ∧ Box W w.heap.size 25 (.int .i64 (l.length : Int)) (.slice a l.length cap)) ∧ Boxed W (w.heap.size + 1) 3 (.int .i64 (kk : Int))) ∧ Boxed W (w.heap.size + 1 + 1) 23 (.slice none 0 0)) ∧ Boxed W (w.heap.size + 1 + 1 + 1) 4 (.bool false)) ∧ Boxed W g 3 (.int .i64 ((j : Int) + 1))) ∧ (Below w.heap.size w W ∧ Marks w.heap.size U ds W))
      (fun c pre W => (∃ (p0 : List Wx) (x : Wx), (c = .ret ∧ pre = p0 ++ [x] ∧ (∀ y ∈ p0, Hw.endB kk y.1 = false) ∧ Hw.endB kk x.1 = true) ∧ Boxed W (w.heap.size + 1 + 1) 23 (.slice (some ⟨x.2.1, 0, none⟩) x.1.length x.2.2) ∧ Boxed W (w.heap.size + 1 + 1 + 1) 4 (.bool true) ∧ W.ownsRow w.heap.size 3 1 (.slice (some ⟨x.2.1, 0, none⟩) x.1.length x.2.2) x.1.length (x.1.map nv)) ∧ (Below w.heap.size w W ∧ Marks w.heap.size U ds W))
      (OwnZ.and (OwnZ.and (OwnZ.and (OwnZ.and (OwnZ.and (OwnZ.and (ownZ_pure _ (fun pre : List Wx => ∀ y ∈ pre, Hw.endB kk y.1 = false)) (ownZ_box _ _ _ _)) (ownZ_boxed _ _ _ (fun _ => .int .i64 (kk : Int)))) (ownZ_boxed _ _ _ (fun _ => .slice none 0 0))) (ownZ_boxed _ _ _ (fun _ => .bool false))) (ownZ_boxed _ _ _ (fun _ => .int .i64 ((j : Int) + 1)))) (OwnZ.and (ownZ_below (Nat.le_refl _) (by omega)) (ownZ_marks hU3)))
      (fun c s A C row hs hg hr => by
        obtain ⟨⟨p0, x, h1, h2, h3, h4⟩, h5, h6⟩ := hs
        exact ⟨⟨p0, x, h1, Boxed.turnZ h2 hg (fun r e => (hr r e).2), Boxed.turnZ h3 hg (fun r e => (hr r e).2), own_turnL h4 hg (fun r e => (hr r e).2)⟩, ownZ_below (β := Unit) (Nat.le_refl _) (by omega) () A C row h5 hg hr, ownZ_marks (β := Unit) hU3 () A C row h6 hg hr⟩)
      ⟨⟨⟨⟨⟨⟨by simp, XA.out⟩, XB1.out⟩, XR.out⟩, XB.out⟩, XI.out⟩, BW.out, MS.out⟩
      (fun x => { tmps := #[.agg #[.int .i64 (l.length : Int), .slice a l.length cap], .int .i64 (qq : Int), .int .i64 (kk : Int), .pointer (some ⟨w.heap.size, 0, none⟩), undef, .pointer (some ⟨w.heap.size + 1, 0, none⟩), .pointer (some ⟨w.heap.size + 1 + 1, 0, none⟩), .pointer (some ⟨w.heap.size + 1 + 1 + 1, 0, none⟩), .pointer (some ⟨g, 0, none⟩), .slice (some ⟨x.2.1, 0, none⟩) x.1.length x.2.2, .agg #[.int .i64 (l.length : Int), .slice a l.length cap], .bool true, .bool false, .bool false, .agg #[.int .i64 (l.length : Int), .slice a l.length cap], .int .i64 (qq : Int), .bool true, .bool false, .bool false, .bool false, .agg #[.int .i64 (l.length : Int), .slice a l.length cap], .int .i64 (kk : Int), .bool true, .bool false, .bool false, .int .i64 ((j : Int) + 1), .pointer (some ⟨w.heap.size, 0, none⟩), .int .i64 (l.length : Int), .bool true, v29, v30, .agg #[.int .i64 (l.length : Int), .slice a l.length cap], .int .i64 (qq : Int), .int .i64 ((j : Int) + 1), .func (.func 97) #[] #[.pointer (some ⟨W.heap.size + 1, 0, none⟩), .pointer (some ⟨W.heap.size + 1 + 1, 0, none⟩), .pointer (some ⟨W.heap.size, 0, none⟩)], .slice (some ⟨x.2.1, 0, none⟩) x.1.length x.2.2, v36, v37, v38, v39, v40, v41, v42, v43, v44], defers := [] }) ?assign ?body ?done ?stop
    case assign =>
      intro lg x W' K hK
      unfold encW
      gi_wp2
      exact hK
    case body =>
      rintro lg pre x Wr ⟨⟨⟨⟨⟨⟨hno, hx⟩, hq⟩, hr⟩, ht⟩, hi⟩, hB, hM⟩ hy
      have hf0 := hq.cell
      have hf1 := hi.cell
      have d0 := hr.cell
      have d1 := hr.frozen
      have d2 := ht.cell
      have d3 := ht.frozen
      obtain ⟨hw1, hw2, hw3, _⟩ := ways_at HK.out hqq hy.mem
      have hxl : x.1.length = j + 1 := by omega
      obtain ⟨ev, hev⟩ : ∃ ev : Nat, ev = x.1.getD j 0 := ⟨_, rfl⟩
      have hcell : Wr.cell? ⟨x.2.1, 0 + j, none⟩ = some (.int .i64 (ev : Int)) := by
        obtain ⟨b2, off2, h1, _, h2⟩ := hy.row.at (k := j) (by rw [List.length_map]; omega)
        cases h1
        rw [h2, hev]
        congr 2
        rw [List.getD_eq_getElem?_getD, List.getD_eq_getElem?_getD, List.getElem?_map]
        cases x.1[j]? <;> rfl
      have hend : Hw.endB kk x.1 = (ev == kk) := by rw [endB_at hxl, hev]
      have hjl : (j : Int) < (x.1.length : Int) := by omega
      have HEV := Lib.hid hev
      have HEND := Lib.hid hend
      have HNO := Lib.hid hno
      have HX := Lib.hid hx
      have HQ := Lib.hid hq
      have HI := Lib.hid hi
      have HRR := Lib.hid hr
      have HT := Lib.hid ht
      have HB := Lib.hid hB
      have HM := Lib.hid hM
      have HY := Lib.hid hy
      have HXL := Lib.hid hxl
      clear hx hr ht hB hM hy hw1 hw2 hw3 hno hq hi hev hend hxl
      rw [Nat.zero_add] at hcell
      have hwr : IntKind.i64.wrap (j : Int) = (j : Int) := by
        have hall : ∀ i : Fin 9, IntKind.i64.wrap ((i.val : Nat) : Int) = ((i.val : Nat) : Int) := by decide +kernel
        exact hall ⟨j, by omega⟩
      have hmx : Try.prog.follows .mixedOrders = true := by kernel_rfl
      gi_wp2
      refine wpIn_then (K := fun a' w' => a' = { tmps := #[.agg #[.int .i64 (l.length : Int), .slice a l.length cap], .int .i64 (qq : Int), .int .i64 (kk : Int), .pointer (some ⟨w.heap.size, 0, none⟩), undef, .pointer (some ⟨w.heap.size + 1, 0, none⟩), .pointer (some ⟨w.heap.size + 1 + 1, 0, none⟩), .pointer (some ⟨w.heap.size + 1 + 1 + 1, 0, none⟩), .pointer (some ⟨g, 0, none⟩), .slice (some ⟨x.2.1, 0, none⟩) x.1.length x.2.2, .agg #[.int .i64 (l.length : Int), .slice a l.length cap], .bool true, .bool false, .bool false, .agg #[.int .i64 (l.length : Int), .slice a l.length cap], .int .i64 (qq : Int), .bool true, .bool false, .bool false, .bool false, .agg #[.int .i64 (l.length : Int), .slice a l.length cap], .int .i64 (kk : Int), .bool true, .bool false, .bool false, .int .i64 ((j : Int) + 1), .pointer (some ⟨w.heap.size, 0, none⟩), .int .i64 (l.length : Int), .bool true, v29, v30, .agg #[.int .i64 (l.length : Int), .slice a l.length cap], .int .i64 (qq : Int), .int .i64 ((j : Int) + 1), .func (.func 97) #[] #[.pointer (some ⟨W.heap.size + 1, 0, none⟩), .pointer (some ⟨W.heap.size + 1 + 1, 0, none⟩), .pointer (some ⟨W.heap.size, 0, none⟩)], .slice (some ⟨x.2.1, 0, none⟩) x.1.length x.2.2, .slice (some ⟨x.2.1, 0, none⟩) x.1.length x.2.2, .int .i64 ((j : Int) + 1), .int .i64 (j : Int), .pointer (some ⟨x.2.1, j, none⟩), .int .i64 (ev : Int), .int .i64 (kk : Int), .bool ((ev : Int) == (kk : Int)), v43, v44], defers := [] } ∧ w' = Wr.drew) ?reg ?_
      case reg =>
        gi_region_with_o (fail)
        all_goals exact ⟨rfl, rfl⟩
      rintro a' w' ⟨rfl, rfl⟩
      have hbd : Below Wr.heap.size Wr Wr.drew := below_drew Wr
      have xr5 : Boxed Wr.drew (w.heap.size + 1 + 1) 23 (.slice none 0 0) := HRR.out
      have xt5 : Boxed Wr.drew (w.heap.size + 1 + 1 + 1) 4 (.bool false) := HT.out
      have d4 := xr5.cell
      have d5 := xr5.frozen
      have d6 := xt5.cell
      have d7 := xt5.frozen
      have hB5 := HB.out.trans (hbd.mono HB.out.size)
      have ho5 := own_below HY.out.own hbd
      have hM5 := HM.out.below hbd
      have H5 := Lib.hid hbd
      have XR5 := Lib.hid xr5
      have XT5 := Lib.hid xt5
      have HB5 := Lib.hid hB5
      have HO5 := Lib.hid ho5
      have HM5 := Lib.hid hM5
      clear hbd xr5 xt5 hB5 ho5 hM5
      cases hd : ((ev : Int) == (kk : Int))
      · have HD : Hid (Hw.endB kk x.1 = false) := by
          show _ = _
          rw [HEND.out]
          cases h : (ev == kk)
          · rfl
          · exfalso; rw [beq_iff_eq] at h; rw [h] at hd; simp at hd
        clear hd
        gi_wp2
        refine ⟨kf_below H5.out, KeepR.below H5.out, ⟨⟨⟨⟨⟨fun y hy => ?_, HX.out.below H5.out HX.out.lt⟩, (H5.out.block _ HQ.out.lt).trans HQ.out⟩, XR5.out⟩, XT5.out⟩, (H5.out.block _ HI.out.lt).trans HI.out⟩, HB5.out, HM5.out⟩
        rcases List.mem_append.1 hy with h | h
        · exact HNO.out y h
        · have : y = x := by simpa using h
          rw [this]; exact HD.out
      · have HD : Hid (Hw.endB kk x.1 = true) := by
          show _ = _
          rw [HEND.out]
          have h2 : (ev : Int) = (kk : Int) := by simpa using hd
          have : ev = kk := by omega
          rw [this]; simp
        clear hd
        gi_wp2
        refine ⟨((kf_below H5.out).trans ((KeepsOthers.setCell _ _ _).from _)).trans ((KeepsOthers.setCell _ _ _).from _), ⟨pre, x, ⟨rfl, rfl, HNO.out, HD.out⟩, (XR5.out.set _).other (by omega) _, (XT5.out.other (by omega) _).set _, ?_⟩, (HB5.out.setCell (p := ⟨w.heap.size + 1 + 1, 0, none⟩) (by simp only; omega) _).setCell (p := ⟨w.heap.size + 1 + 1 + 1, 0, none⟩) (by simp only; omega) _, (HM5.out.others (KeepsOthers.setCell _ _ _)).others (KeepsOthers.setCell _ _ _)⟩
        exact (own_set (own_set HO5.out ⟨w.heap.size + 1 + 1, 0, none⟩ _ (by simp only; omega)) ⟨w.heap.size + 1 + 1 + 1, 0, none⟩ _ (by simp only; omega)).mono (by omega)
    case done =>
      rintro D ys W' hD hS ⟨⟨⟨⟨⟨⟨hno, hx⟩, hq⟩, hr⟩, ht⟩, hi⟩, hB, hM⟩ hK
      have hnone : (Hw.ways (ww l) ((j + 1 : Nat) : Int) qq).find? (Hw.endB kk) = none := by
        have e : (((j + 1 : Nat) : Int)) = (j : Int) + 1 := rfl
        rw [e, ← hS, List.find?_eq_none]
        intro y hy
        obtain ⟨z, hz, rfl⟩ := List.mem_map.1 hy
        rw [hno z hz]; simp
      have e1 := hi.cell
      obtain ⟨W9, hW9⟩ : ∃ W9, W9 = W'.alloc (.cells #[.int .i64 ((j : Int) + 1 + 1)] 3) := ⟨_, rfl⟩
      have hb9 : Below W'.heap.size W' W9 := by rw [hW9]; exact (Below.refl _ _).alloc (Nat.le_refl _) _
      have xi9 : Boxed W9 W'.heap.size 3 (.int .i64 ((j : Int) + 1 + 1)) := by rw [hW9]; exact Boxed.new _ _ _
      have HN : Hid (Wf w (l.length : Int) a cap l qq kk (j + 1) W'.heap.size ({ target := .collected D, args := #[] } :: ds) W9) :=
        ⟨by omega, by simp [HFF.out.ln], fun i h => by
          rcases Nat.lt_or_ge i j with h2 | h2
          · exact HFF.out.no i h2
          · obtain rfl : i = j := by omega
            exact hnone, hx.below hb9 hx.lt, (hb9.block _ hq.lt).trans hq, (hb9.block _ hr.lt).trans hr, (hb9.block _ ht.lt).trans ht, xi9, by have := hi.lt; omega, hB.trans (hb9.mono hB.size), ⟨D + 1, (hM.cons (by omega) (by omega) hK).below hb9, by have := (Array.getElem?_eq_some_iff.1 hK).1; have := hb9.size; omega⟩⟩
      have hln := HFF.out.ln
      have HW9 := Lib.hid hW9
      clear hx hr hB hM hK hS hno hq ht hi hnone hb9 xi9 hW9
      gi_wp2
      rw [← HW9.out]
      refine ⟨⟨j + 1, _, { target := .collected D, args := #[] } :: ds, _, _, _, _, _, _, _, _, _, _, _, _, _, _, _, _, _, _, _, _, _, HN.out, rfl⟩, ?_⟩
      simp only [List.length_cons]
      omega
    case stop =>
      rintro D c pre W' hD ⟨rest, hrest⟩ ⟨⟨p0, x, ⟨rfl, rfl, hno, hyes⟩, hr, ht, ho⟩, hB, hM⟩ hK
      have hsome : wbR (l.length : Int) l (qq : Int) (kk : Int) = some x.1 := by
        rw [HE.out]
        refine Hw.findSome_range hlt HFF.out.no ?_
        have e : (((j + 1 : Nat) : Int)) = (j : Int) + 1 := rfl
        rw [e, hrest, List.map_append, List.append_assoc, List.find?_append]
        have h0 : (p0.map Prod.fst).find? (Hw.endB kk) = none := by
          rw [List.find?_eq_none]
          intro y hy
          obtain ⟨z, hz, rfl⟩ := List.mem_map.1 hy
          rw [hno z hz]; simp
        rw [h0]
        simp [hyes]
      have HN := Lib.hid hsome
      have HM := Lib.hid (hM.cons (by omega) (by omega) hK)
      have HRR := Lib.hid hr
      have HT := Lib.hid ht
      have HOO := Lib.hid ho
      have HB := Lib.hid hB
      clear hno hyes hr ht ho hB hM hK hsome hrest
      gi_wp2
      refine leaves_marks (B := w.heap.size) (U := D + 1) (S := fun W3 => Below w.heap.size w W3 ∧ (Boxed W3 (w.heap.size + 1 + 1) 23 (.slice (some ⟨x.2.1, 0, none⟩) x.1.length x.2.2) ∧ Boxed W3 (w.heap.size + 1 + 1 + 1) 4 (.bool true)) ∧ W3.ownsRow w.heap.size 3 1 (.slice (some ⟨x.2.1, 0, none⟩) x.1.length x.2.2) x.1.length (x.1.map nv)) ?_ ?_ _ _ HM.out ⟨HB.out, ⟨HRR.out, HT.out⟩, HOO.out⟩
      · rintro W3 D hB hD ⟨h1, ⟨h2, h4⟩, h3⟩
        have hg := grownBy_putObj' W3 D (.deferred none)
        have hr : ∀ r, some D = some r → ∃ o : Obj, W3.heap[r]? = some o ∧ (o.isCells = false ∨ Zl o) := fun r e => by cases e; exact ⟨_, hD, .inl rfl⟩
        exact ⟨h1.grown hg h1.size (fun j e => by cases e; exact hB), ⟨Boxed.turnZ h2 hg hr, Boxed.turnZ h4 hg hr⟩, own_turnL h3 hg hr⟩
      · rintro W3 ⟨h1, ⟨h2, h4⟩, h3⟩
        exact ⟨_, Boxed.resSB rfl _ rfl rfl h2 h4, ⟨_, by rw [HN.out]; rfl, by rw [HN.out]; exact h3⟩, h1⟩
  · have hjb : ¬ (j : Int) + 1 ≤ (l.length : Int) := by omega
    have hnone : wbR (l.length : Int) l (qq : Int) (kk : Int) = none := by
      rw [HE.out]
      refine Hw.findSome_range_none fun i hi => HFF.out.no i ?_
      have := HFF.out.le
      omega
    obtain ⟨U, hms, hU⟩ := hff.ms
    have d0 := hff.xr.cell
    have d1 := hff.xr.frozen
    have d2 := hff.xb.cell
    have d3 := hff.xb.frozen
    have HN := Lib.hid hnone
    have HM := Lib.hid hms
    clear hms hnone hff
    gi_wp2
    refine leaves_marks (B := w.heap.size) (U := U) (S := fun W3 => Below w.heap.size w W3 ∧ Boxed W3 (w.heap.size + 1 + 1) 23 (.slice none 0 0) ∧ Boxed W3 (w.heap.size + 1 + 1 + 1) 4 (.bool false)) ?_ ?_ _ _ ((HM.out.others (KeepsOthers.setCell _ _ _)).others (KeepsOthers.setCell _ _ _)) ⟨(HFF.out.hb.setCell (p := ⟨w.heap.size + 1 + 1, 0, none⟩) (by simp only; omega) _).setCell (p := ⟨w.heap.size + 1 + 1 + 1, 0, none⟩) (by simp only; omega) _, (HFF.out.xr.set _).other (by omega) _, (HFF.out.xb.other (by omega) _).set _⟩
    · rintro W3 D hB hD ⟨h1, h2, h3⟩
      have hg := grownBy_putObj' W3 D (.deferred none)
      have hr : ∀ r, some D = some r → ∃ o : Obj, W3.heap[r]? = some o ∧ (o.isCells = false ∨ Zl o) := fun r e => by cases e; exact ⟨_, hD, .inl rfl⟩
      exact ⟨h1.grown hg h1.size (fun j e => by cases e; exact hB), Boxed.turnZ h2 hg hr, Boxed.turnZ h3 hg hr⟩
    · rintro W3 ⟨h1, h2, h3⟩
      exact ⟨_, Boxed.resSB rfl _ rfl rfl h2 h3, ⟨_, by rw [HN.out]; rfl, by rw [HN.out]; exact World.ownsRow_nil _ _ _ _⟩, h1⟩
end Go.Proofs.Ytnlpfajncpbjpaa
