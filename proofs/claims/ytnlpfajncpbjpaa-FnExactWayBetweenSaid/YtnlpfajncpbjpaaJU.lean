/-
  'CycleThrough' of the program. No conditions but the bounds that Go gives a slice.
-/
import Derived.Test.YtnlpfajncpbjpaaJR
namespace Go.Proofs.Ytnlpfajncpbjpaa
open Go.ChangeShapes Go.WideShapes Go.ChangeAt Go.RowKit Go.Shelf
attribute [local go_sem] Oper.semAt_some
set_option linter.unusedVariables false

/-- What 'CycleThrough' answers. -/
noncomputable def ctR (n : Int) (l : List Int) (q k : Int) : Option (List Nat) := if okB n l && pl n q then (Hw.ways (ww l) k q.toNat).find? (Hw.cyc (ww l)) else none
theorem ctR_no {n : Int} {l : List Int} {q k : Int} (h : (okB n l && pl n q) = false) : ctR n l q k = none := by unfold ctR; rw [h]; rfl
theorem ctR_yes {n : Int} {l : List Int} {q : Nat} {k : Int} (hok : okB n l = true) (hq : pl n (q : Int) = true) : ctR n l (q : Int) k = (Hw.ways (ww l) k q).find? (Hw.cyc (ww l)) := by
  unfold ctR; rw [hok, hq]; rfl
/-- A row that the call owns, or none; and whether there is one. -/
def RetB (w : World) (r : Option (List Nat)) (e : Ending) (w' : World) : Prop := (∃ v, e = .returned (.tuple #[v, .bool r.isSome]) ∧ w'.ownsRow w.heap.size 3 1 v (r.getD []).length ((r.getD []).map nv)) ∧ Below w.heap.size w w'
theorem Boxed.resSB {w : World} {g h : Nat} {v u : Value} {fn : Func} {p q : Tmp} (hf : fn.results = #[.cell p 23, .cell q 4]) (tmps : Array Value) (hp : tmps.getD p undef = .pointer (some ⟨g, 0, none⟩)) (hq : tmps.getD q undef = .pointer (some ⟨h, 0, none⟩)) (hv : Boxed w g 23 v) (hu : Boxed w h 4 u) :
    (results fn tmps).run Try.prog w = .ok (.tuple #[v, u]) w := by
  have hc := hv.cell
  have hd := hu.cell
  have hp2 : tmps[p]?.getD undef = .pointer (some ⟨g, 0, none⟩) := by rw [← hp]; simp
  have hq2 : tmps[q]?.getD undef = .pointer (some ⟨h, 0, none⟩) := by rw [← hq]; simp
  simp [results, hf, hp2, hq2, asAddr, hc, hd, go_sem]
theorem two_new {W W3 : World} {n : Int} {a : Option Addr} {len cap : Nat} (h : W3 = ((W.alloc (.cells #[.int .i64 n, .slice a len cap] 25)).alloc (.cells #[.slice none 0 0] 23)).alloc (.cells #[.bool false] 4)) :
    Below W.heap.size W W3 ∧ Box W3 W.heap.size 25 (.int .i64 n) (.slice a len cap) ∧ Boxed W3 (W.heap.size + 1) 23 (.slice none 0 0) ∧ Boxed W3 (W.heap.size + 1 + 1) 4 (.bool false) ∧ W3.heap.size = W.heap.size + 1 + 1 + 1 := by
  obtain ⟨W1, hW1⟩ : ∃ W1, W1 = W.alloc (.cells #[.int .i64 n, .slice a len cap] 25) := ⟨_, rfl⟩
  obtain ⟨W2, hW2⟩ : ∃ W2, W2 = W1.alloc (.cells #[.slice none 0 0] 23) := ⟨_, rfl⟩
  rw [← hW1, ← hW2] at h
  have s1 : W1.heap.size = W.heap.size + 1 := by rw [hW1]; simp
  have s2 : W2.heap.size = W.heap.size + 1 + 1 := by rw [hW2]; simp [s1]
  have b1 : Below W.heap.size W W1 := by rw [hW1]; exact (Below.refl _ _).alloc (Nat.le_refl _) _
  have b2 : Below W1.heap.size W1 W2 := by rw [hW2]; exact (Below.refl _ _).alloc (Nat.le_refl _) _
  have b3 : Below W2.heap.size W2 W3 := by rw [h]; exact (Below.refl _ _).alloc (Nat.le_refl _) _
  have x1 : Box W1 W.heap.size 25 (.int .i64 n) (.slice a len cap) := by rw [hW1]; exact Box.new _ _ _ _
  have x2 : Boxed W2 (W.heap.size + 1) 23 (.slice none 0 0) := by rw [hW2, ← s1]; exact Boxed.new _ _ _
  have x3 : Boxed W3 (W.heap.size + 1 + 1) 4 (.bool false) := by rw [h, ← s2]; exact Boxed.new _ _ _
  have b13 := b2.trans (b3.mono b2.size)
  exact ⟨b1.trans (b13.mono b1.size), x1.below b13 x1.lt, (b3.block _ x2.lt).trans x2, x3, by rw [h]; simp [s2]⟩

set_option maxRecDepth 100000 in
set_option maxHeartbeats 2000000 in
theorem implCycleThrough (n : Int) (a : Option Addr) (l : List Int) (cap : Nat) (q k : Int) (w : World) (hrow : IntRow w a l) (hl : l.length ≤ maxLen) :
    Calls Try.prog 20 #[.agg #[.int .i64 n, .slice a l.length cap], .int .i64 q, .int .i64 k] w (RetB w (ctR n l q k)) := by
  obtain ⟨Wa, hWa⟩ : ∃ Wa, Wa = ((w.alloc (.cells #[.int .i64 n, .slice a l.length cap] 25)).alloc (.cells #[.slice none 0 0] 23)).alloc (.cells #[.bool false] 4) := ⟨_, rfl⟩
  obtain ⟨hba, xa, xr, xb, hsa⟩ := two_new hWa
  have hrowa : IntRow Wa a l := hrow.below hba (Nat.le_refl _)
  have HWa := Lib.hid hWa
  have HRW := Lib.hid hrow
  have HL := Lib.hid hl
  clear hl hrow hWa
  cases hok : okB n l
  · have HO := Lib.hid hok
    have HE : Hid (ctR n l q k = none) := ctR_no (by rw [hok]; rfl)
    clear hok
    go_enter Try.func20, Try.ntmps20
    go_wp2_with fail
    rw [← HWa.out]
    refine (implTourOk n a l cap Wa hrowa HL.out).mono ?_
    rintro e w1 ⟨rfl, hb1⟩
    rw [HO.out]
    have xr1 : Boxed w1 (w.heap.size + 1) 23 (.slice none 0 0) := (hb1.block _ xr.lt).trans xr
    have xb1 : Boxed w1 (w.heap.size + 1 + 1) 4 (.bool false) := (hb1.block _ xb.lt).trans xb
    have d0 := xr1.cell
    have d1 := xr1.frozen
    have d2 := xb1.cell
    have d3 := xb1.frozen
    have XR := Lib.hid xr1
    have XB := Lib.hid xb1
    have B1 := Lib.hid (hba.trans (hb1.mono hba.size))
    clear hb1 xr1 xb1
    go_wp2
    refine bodyPost_ret (v := .tuple #[.slice none 0 0, .bool false]) (Boxed.resSB rfl _ rfl rfl ((XR.out.set (.slice none 0 0)).other (by omega) _) ((XB.out.other (by omega) _).set (.bool false))) rfl ⟨⟨_, by rw [HE.out]; rfl, ?_⟩, ?_⟩
    · rw [HE.out]; exact World.ownsRow_nil _ _ _ _
    · exact (B1.out.setCell (p := ⟨w.heap.size + 1, 0, none⟩) (by simp only; omega) _).setCell (p := ⟨w.heap.size + 1 + 1, 0, none⟩) (by simp only; omega) _
  cases hp : pl n q
  · have HO := Lib.hid hok
    have HP := Lib.hid hp
    have HE : Hid (ctR n l q k = none) := ctR_no (by rw [hok, hp]; rfl)
    clear hok hp
    go_enter Try.func20, Try.ntmps20
    go_wp2_with fail
    rw [← HWa.out]
    refine (implTourOk n a l cap Wa hrowa HL.out).mono ?_
    rintro e w1 ⟨rfl, hb1⟩
    rw [HO.out]
    have xa1 := xa.below hb1 xa.lt
    have c0 := xa1.c0
    have c1 := xa1.c1
    go_wp2_with fail
    refine (hasPlayer_any n a l.length cap q w1).mono ?_
    rintro e w2 ⟨rfl, hb2⟩
    rw [show (decide (0 ≤ q) && decide (q < n)) = false from HP.out]
    have hb12 := hb1.trans (hb2.mono hb1.size)
    have xr1 : Boxed w2 (w.heap.size + 1) 23 (.slice none 0 0) := (hb12.block _ xr.lt).trans xr
    have xb1 : Boxed w2 (w.heap.size + 1 + 1) 4 (.bool false) := (hb12.block _ xb.lt).trans xb
    have d0 := xr1.cell
    have d1 := xr1.frozen
    have d2 := xb1.cell
    have d3 := xb1.frozen
    have XR := Lib.hid xr1
    have XB := Lib.hid xb1
    have B1 := Lib.hid (hba.trans (hb12.mono hba.size))
    clear hb1 hb2 hb12 xr1 xb1 c0 c1 xa1
    go_wp2
    refine bodyPost_ret (v := .tuple #[.slice none 0 0, .bool false]) (Boxed.resSB rfl _ rfl rfl ((XR.out.set (.slice none 0 0)).other (by omega) _) ((XB.out.other (by omega) _).set (.bool false))) rfl ⟨⟨_, by rw [HE.out]; rfl, ?_⟩, ?_⟩
    · rw [HE.out]; exact World.ownsRow_nil _ _ _ _
    · exact (B1.out.setCell (p := ⟨w.heap.size + 1, 0, none⟩) (by simp only; omega) _).setCell (p := ⟨w.heap.size + 1 + 1, 0, none⟩) (by simp only; omega) _
  have HO := Lib.hid hok
  have HP := Lib.hid hp
  have hk := okB_iff.1 hok
  obtain ⟨qq, rfl, hqq⟩ : ∃ qq : Nat, q = qq ∧ qq < l.length := by have := pl_iff.1 hp; have := hk.2.2.1; exact ⟨q.toNat, by omega, by omega⟩
  have HE := Lib.hid (ctR_yes (k := k) hok hp)
  have HK := Lib.hid hk
  have hnl := hk.2.2.1
  have hl8 : l.length ≤ 8 := by have := hk.2.1; omega
  subst hnl
  have hlow : Hid (∀ b, blk a = some b → b < w.heap.size) := fun b e => by
    rcases HRW.out with h2 | ⟨b2, off, rfl, hb, _⟩
    · rw [h2] at hqq; simp at hqq
    · simp [blk] at e; omega
  clear hok hp hk
  refine (callsIn_wide (n := 8)).1 ?_
  refine callsIn_of_wp_marks Try.func20 rfl trivial ?_ rfl
  simp only [Try.ntmps20, List.size_toArray, List.length_cons, List.length_nil, Nat.reduceAdd, Nat.reduceSub, Array.replicate_succ, Array.replicate_zero, List.push_toArray, List.append_toArray, List.nil_append, List.cons_append]
  gi_wp2_with fail
  refine ⟨trivial, ?_⟩
  rw [← HWa.out]
  refine (callsIn_wide.2 (implTourOk _ a l cap Wa hrowa HL.out)).mono ?_
  rintro e w1 ⟨rfl, hb1⟩
  rw [HO.out]
  have xa1 := xa.below hb1 xa.lt
  have c0 := xa1.c0
  have c1 := xa1.c1
  gi_wp2_with fail
  refine ⟨trivial, ?_⟩
  refine (callsIn_wide.2 (hasPlayer_any _ a l.length cap (qq : Int) w1)).mono ?_
  rintro e w2 ⟨rfl, hb2⟩
  rw [show (decide (0 ≤ (qq : Int)) && decide ((qq : Int) < (l.length : Int))) = true from HP.out]
  have hb12 := hb1.trans (hb2.mono hb1.size)
  have xa2 := xa.below hb12 xa.lt
  have xr2 : Boxed w2 (w.heap.size + 1) 23 (.slice none 0 0) := (hb12.block _ xr.lt).trans xr
  have xb2 : Boxed w2 (w.heap.size + 1 + 1) 4 (.bool false) := (hb12.block _ xb.lt).trans xb
  have bw2 := hba.trans (hb12.mono hba.size)
  obtain ⟨W3, hW3⟩ : ∃ W3, W3 = ((w2.alloc (.cells #[.int .i64 (l.length : Int), .slice a l.length cap] 25)).alloc (.cells #[.int .i64 (qq : Int)] 3)).alloc (.cells #[.int .i64 k] 3) := ⟨_, rfl⟩
  obtain ⟨hb3, xt3, xq3, xk3, hs3⟩ := three_new hW3
  have q1 : w.heap.size + 1 + 1 < w2.heap.size := xb2.lt
  have XT := Lib.hid xt3
  have XQ := Lib.hid xq3
  have XK := Lib.hid xk3
  have BW := Lib.hid (bw2.trans (hb3.mono bw2.size))
  have HR := Lib.hid (HRW.out.below BW.out (Nat.le_refl _))
  have XA := Lib.hid (xa2.below hb3 xa2.lt)
  have XR : Hid (Boxed W3 (w.heap.size + 1) 23 (.slice none 0 0)) := (hb3.block _ xr2.lt).trans xr2
  have XB : Hid (Boxed W3 (w.heap.size + 1 + 1) 4 (.bool false)) := (hb3.block _ xb2.lt).trans xb2
  have HW3 := Lib.hid hW3
  have hac : ∀ b, blk a = some b → b < w.heap.size := hlow.out
  clear c0 c1
  have c0 := xa2.c0
  have c1 := xa2.c1
  clear hW3 xt3 xq3 xk3 hb3 bw2 xb2 xr2 xa2 hb12 hb2 xa1 hb1 xr xb xa hba hrowa
  gi_wp2_with fail
  refine ⟨trivial, ?_⟩
  refine (callsIn_wide.2 (waysFrom_any _ a l.length cap (qq : Int) k w2)).mono ?_
  rintro e w4 ⟨rfl, hw4⟩
  rw [← HW3.out] at hw4
  have hw5 := hw4.symm
  clear hw4
  subst hw5
  clear c0 c1
  gi_wp2
  refine rangeZ (F := Fence.wide) (Z := Zl) rfl (by omega) (gf := 97) (lb := #[.pointer (some ⟨w2.heap.size + 1, 0, none⟩), .pointer (some ⟨w2.heap.size + 1 + 1, 0, none⟩), .pointer (some ⟨w2.heap.size, 0, none⟩)]) rfl trivial (enters_of Try.func97 (by kernel_rfl) rfl)
    (ways_stops w2.heap.size (w2.heap.size + 1) (w2.heap.size + 1 + 1) (W3.heap.size + 2) (fun _ _ => True) _ a cap l qq k HK.out hqq W3 XT.out XQ.out XK.out HR.out (fun _ => trivial) (fun _ => trivial) (fun _ _ _ => trivial) (fun _ _ _ => trivial))
    (fun h k => h.trans k) (fun W l o o2 h hc => KeepR.put W l o o2 h hc) (fun pre x W l o o2 _ ho hc h => h.put l o o2 ho hc) (Below.refl _ _) (fun _ => rfl)
    (fun pre W => ((((∀ y ∈ pre, Hw.cyc (ww l) y.1 = false) ∧ Box W w.heap.size 25 (.int .i64 (l.length : Int)) (.slice a l.length cap)) ∧ Boxed W (w.heap.size + 1) 23 (.slice none 0 0)) ∧ Boxed W (w.heap.size + 1 + 1) 4 (.bool false)) ∧ Below w.heap.size w W)
    (fun c pre W => (∃ (p0 : List Wx) (x : Wx), (c = .ret ∧ pre = p0 ++ [x] ∧ (∀ y ∈ p0, Hw.cyc (ww l) y.1 = false) ∧ Hw.cyc (ww l) x.1 = true) ∧ Boxed W (w.heap.size + 1) 23 (.slice (some ⟨x.2.1, 0, none⟩) x.1.length x.2.2) ∧ Boxed W (w.heap.size + 1 + 1) 4 (.bool true) ∧ W.ownsRow w.heap.size 3 1 (.slice (some ⟨x.2.1, 0, none⟩) x.1.length x.2.2) x.1.length (x.1.map nv)) ∧ Below w.heap.size w W)
    (OwnZ.and (OwnZ.and (OwnZ.and (OwnZ.and (ownZ_pure _ (fun pre : List Wx => ∀ y ∈ pre, Hw.cyc (ww l) y.1 = false)) (ownZ_box _ _ _ _)) (ownZ_boxed _ _ _ (fun _ => .slice none 0 0))) (ownZ_boxed _ _ _ (fun _ => .bool false))) (ownZ_below (Nat.le_refl _) (by omega)))
    (fun c s A C row hs hg hr => by
      obtain ⟨⟨p0, x, h1, h2, h3, h4⟩, h5⟩ := hs
      exact ⟨⟨p0, x, h1, Boxed.turnZ h2 hg (fun r e => (hr r e).2), Boxed.turnZ h3 hg (fun r e => (hr r e).2), own_turnL h4 hg (fun r e => (hr r e).2)⟩, ownZ_below (β := Unit) (Nat.le_refl _) (by omega) () A C row h5 hg hr⟩)
    ⟨⟨⟨⟨by simp, XA.out⟩, XR.out⟩, XB.out⟩, BW.out⟩
    (fun x => { tmps := #[.agg #[.int .i64 (l.length : Int), .slice a l.length cap], .int .i64 (qq : Int), .int .i64 k, .pointer (some ⟨w.heap.size, 0, none⟩), undef, undef, .pointer (some ⟨w.heap.size + 1, 0, none⟩), .pointer (some ⟨w.heap.size + 1 + 1, 0, none⟩), .slice (some ⟨x.2.1, 0, none⟩) x.1.length x.2.2, .agg #[.int .i64 (l.length : Int), .slice a l.length cap], .bool true, .bool false, .bool false, .agg #[.int .i64 (l.length : Int), .slice a l.length cap], .int .i64 (qq : Int), .bool true, .bool false, .bool false, .agg #[.int .i64 (l.length : Int), .slice a l.length cap], .int .i64 (qq : Int), .int .i64 k, .func (.func 97) #[] #[.pointer (some ⟨w2.heap.size + 1, 0, none⟩), .pointer (some ⟨w2.heap.size + 1 + 1, 0, none⟩), .pointer (some ⟨w2.heap.size, 0, none⟩)], .slice (some ⟨x.2.1, 0, none⟩) x.1.length x.2.2, undef, undef, undef, undef], defers := [] }) ?assign ?body ?done ?stop
  case assign =>
    intro lg x W' K hK
    unfold encW
    gi_wp2
    exact hK
  case body =>
    rintro lg pre x Wr ⟨⟨⟨⟨hno, hx⟩, hr⟩, ht⟩, hB⟩ hy
    have c0 := hx.c0
    have c1 := hx.c1
    obtain ⟨hw1, hw2, hw3, _⟩ := ways_at HK.out hqq hy.mem
    have hxl := Hw.way_len hw1.1 hw3
    have hcy := implIsCycle (l.length : Int) a l cap (some ⟨x.2.1, 0, none⟩) (x.1.map Int.ofNat) x.2.2 Wr (HRW.out.below hB (Nat.le_refl _)) HL.out hy.row (by rw [List.length_map]; unfold maxLen; omega)
    rw [List.length_map, isC_ofNat HK.out hw1 hw3] at hcy
    have HCY := Lib.hid hcy
    have HNO := Lib.hid hno
    have HX := Lib.hid hx
    have HRR := Lib.hid hr
    have HT := Lib.hid ht
    have HB := Lib.hid hB
    have HY := Lib.hid hy
    clear hx hr ht hB hy hcy hw1 hw2 hw3 hno
    gi_wp2_with fail
    refine ⟨trivial, ?_⟩
    refine (CallsIn.inRound lg (callsIn_wide.2 HCY.out)).mono ?_
    rintro e w5 ⟨rfl, hb5⟩
    have xr5 : Boxed w5 (w.heap.size + 1) 23 (.slice none 0 0) := (hb5.block _ HRR.out.lt).trans HRR.out
    have xt5 : Boxed w5 (w.heap.size + 1 + 1) 4 (.bool false) := (hb5.block _ HT.out.lt).trans HT.out
    have hx5 := HX.out.below hb5 HX.out.lt
    have hB5 := HB.out.trans (hb5.mono HB.out.size)
    have ho5 := own_below HY.out.own hb5
    have d0 := xr5.cell
    have d1 := xr5.frozen
    have d2 := xt5.cell
    have d3 := xt5.frozen
    have H5 := Lib.hid hb5
    have XR5 := Lib.hid xr5
    have XT5 := Lib.hid xt5
    have HX5 := Lib.hid hx5
    have HB5 := Lib.hid hB5
    have HO5 := Lib.hid ho5
    clear hb5 xr5 xt5 hx5 hB5 ho5 c0 c1 HCY
    cases ha : Hw.cyc (ww l) x.1
    · have HA := Lib.hid ha
      clear ha
      gi_wp2
      refine ⟨kf_below H5.out, KeepR.below H5.out, ⟨⟨⟨fun y hy => ?_, HX5.out⟩, XR5.out⟩, XT5.out⟩, HB5.out⟩
      rcases List.mem_append.1 hy with h | h
      · exact HNO.out y h
      · have : y = x := by simpa using h
        rw [this]; exact HA.out
    · have HA := Lib.hid ha
      clear ha
      gi_wp2
      refine ⟨((kf_below H5.out).trans ((KeepsOthers.setCell _ _ _).from _)).trans ((KeepsOthers.setCell _ _ _).from _), ⟨pre, x, ⟨rfl, rfl, HNO.out, HA.out⟩, (XR5.out.set _).other (by omega) _, (XT5.out.other (by omega) _).set _, ?_⟩, (HB5.out.setCell (p := ⟨w.heap.size + 1, 0, none⟩) (by simp only; omega) _).setCell (p := ⟨w.heap.size + 1 + 1, 0, none⟩) (by simp only; omega) _⟩
      exact (own_set (own_set HO5.out ⟨w.heap.size + 1, 0, none⟩ _ (by simp only; omega)) ⟨w.heap.size + 1 + 1, 0, none⟩ _ (by simp only; omega)).mono (by omega)
  case done =>
    rintro D ys W' hD hS ⟨⟨⟨⟨hno, hx⟩, hr⟩, ht⟩, hB⟩ hK
    have hnone : ctR (l.length : Int) l (qq : Int) k = none := by
      rw [HE.out, ← hS, List.find?_eq_none]
      intro y hy
      obtain ⟨z, hz, rfl⟩ := List.mem_map.1 hy
      rw [hno z hz]; simp
    have HN := Lib.hid hnone
    have d0 := hr.cell
    have d1 := hr.frozen
    have d2 := ht.cell
    have d3 := ht.frozen
    have HM := Lib.hid ((Marks.nil w.heap.size 0 W').cons (by omega) (Nat.zero_le D) hK)
    have HRR := Lib.hid hr
    have HT := Lib.hid ht
    have HB := Lib.hid hB
    clear hno hx hr ht hB hK hnone hS
    gi_wp2
    refine leaves_marks (B := w.heap.size) (U := D + 1) (S := fun W3 => Below w.heap.size w W3 ∧ Boxed W3 (w.heap.size + 1) 23 (.slice none 0 0) ∧ Boxed W3 (w.heap.size + 1 + 1) 4 (.bool false)) ?_ ?_ _ _ ((HM.out.others (KeepsOthers.setCell _ _ _)).others (KeepsOthers.setCell _ _ _)) ⟨(HB.out.setCell (p := ⟨w.heap.size + 1, 0, none⟩) (by simp only; omega) _).setCell (p := ⟨w.heap.size + 1 + 1, 0, none⟩) (by simp only; omega) _, (HRR.out.set _).other (by omega) _, (HT.out.other (by omega) _).set _⟩
    · rintro W3 D hB hD ⟨h1, h2, h3⟩
      have hg := grownBy_putObj' W3 D (.deferred none)
      have hr : ∀ r, some D = some r → ∃ o : Obj, W3.heap[r]? = some o ∧ (o.isCells = false ∨ Zl o) := fun r e => by cases e; exact ⟨_, hD, .inl rfl⟩
      exact ⟨h1.grown hg h1.size (fun j e => by cases e; exact hB), Boxed.turnZ h2 hg hr, Boxed.turnZ h3 hg hr⟩
    · rintro W3 ⟨h1, h2, h3⟩
      exact ⟨_, Boxed.resSB rfl _ rfl rfl h2 h3, ⟨_, by rw [HN.out]; rfl, by rw [HN.out]; exact World.ownsRow_nil _ _ _ _⟩, h1⟩
  case stop =>
    rintro D c pre W' hD ⟨rest, hrest⟩ ⟨⟨p0, x, ⟨rfl, rfl, hno, hyes⟩, hr, ht, ho⟩, hB⟩ hK
    have hsome : ctR (l.length : Int) l (qq : Int) k = some x.1 := by
      rw [HE.out, hrest, List.map_append, List.append_assoc, List.find?_append]
      have h0 : (p0.map Prod.fst).find? (Hw.cyc (ww l)) = none := by
        rw [List.find?_eq_none]
        intro y hy
        obtain ⟨z, hz, rfl⟩ := List.mem_map.1 hy
        rw [hno z hz]; simp
      rw [h0]
      simp [hyes]
    have HN := Lib.hid hsome
    have HM := Lib.hid ((Marks.nil w.heap.size 0 W').cons (by omega) (Nat.zero_le D) hK)
    have HRR := Lib.hid hr
    have HT := Lib.hid ht
    have HOO := Lib.hid ho
    have HB := Lib.hid hB
    clear hno hyes hr ht ho hB hK hsome hrest
    gi_wp2
    refine leaves_marks (B := w.heap.size) (U := D + 1) (S := fun W3 => Below w.heap.size w W3 ∧ (Boxed W3 (w.heap.size + 1) 23 (.slice (some ⟨x.2.1, 0, none⟩) x.1.length x.2.2) ∧ Boxed W3 (w.heap.size + 1 + 1) 4 (.bool true)) ∧ W3.ownsRow w.heap.size 3 1 (.slice (some ⟨x.2.1, 0, none⟩) x.1.length x.2.2) x.1.length (x.1.map nv)) ?_ ?_ _ _ HM.out ⟨HB.out, ⟨HRR.out, HT.out⟩, HOO.out⟩
    · rintro W3 D hB hD ⟨h1, ⟨h2, h4⟩, h3⟩
      have hg := grownBy_putObj' W3 D (.deferred none)
      have hr : ∀ r, some D = some r → ∃ o : Obj, W3.heap[r]? = some o ∧ (o.isCells = false ∨ Zl o) := fun r e => by cases e; exact ⟨_, hD, .inl rfl⟩
      exact ⟨h1.grown hg h1.size (fun j e => by cases e; exact hB), ⟨Boxed.turnZ h2 hg hr, Boxed.turnZ h4 hg hr⟩, own_turnL h3 hg hr⟩
    · rintro W3 ⟨h1, ⟨h2, h4⟩, h3⟩
      exact ⟨_, Boxed.resSB rfl _ rfl rfl h2 h4, ⟨_, by rw [HN.out]; rfl, by rw [HN.out]; exact h3⟩, h1⟩
end Go.Proofs.Ytnlpfajncpbjpaa
