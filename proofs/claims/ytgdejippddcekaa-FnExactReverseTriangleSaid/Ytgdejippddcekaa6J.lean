/-
  'IsTriangle' of the program. No conditions but the bounds that Go gives a slice.
-/
import Derived.Test.Ytgdejippddcekaa6I
namespace Go.Proofs.Ytgdejippddcekaa
open Go.ChangeShapes Go.WideShapes Go.ChangeAt Go.RowKit Go.Shelf
attribute [local go_sem] Oper.semAt_some
set_option linter.unusedVariables false

theorem Boxed.resB {w : World} {g : Nat} {v : Value} {fn : Func} {p : Tmp} (hf : fn.results = #[.cell p 4]) (tmps : Array Value) (hp : tmps.getD p undef = .pointer (some ⟨g, 0, none⟩)) (h : Boxed w g 4 v) :
    (results fn tmps).run Try.prog w = .ok v w := by
  have hc := h.cell
  have hp2 : tmps[p]?.getD undef = .pointer (some ⟨g, 0, none⟩) := by rw [← hp]; simp
  simp [results, hf, hp2, asAddr, hc, go_sem]

set_option maxRecDepth 100000 in
set_option maxHeartbeats 2000000 in
theorem implIsTriangle (n : Int) (a : Option Addr) (l : List Int) (cap : Nat) (b : Option Addr) (r : List Int) (cb : Nat) (w : World) (hrow : IntRow w a l) (hl : l.length ≤ maxLen) (hrb : IntRow w b r) (hlr : r.length ≤ maxLen) :
    Calls Try.prog 19 #[.agg #[.int .i64 n, .slice a l.length cap], .slice b r.length cb] w fun e w' => e = .returned (.bool (isB n l r)) ∧ Below w.heap.size w w' := by
  obtain ⟨W1, hW1⟩ : ∃ W1, W1 = w.alloc (.cells #[.int .i64 n, .slice a l.length cap] 28) := ⟨_, rfl⟩
  obtain ⟨W2, hW2⟩ : ∃ W2, W2 = W1.alloc (.cells #[.slice b r.length cb] 22) := ⟨_, rfl⟩
  obtain ⟨Wa, hWa⟩ : ∃ Wa, Wa = W2.alloc (.cells #[.bool false] 4) := ⟨_, rfl⟩
  have hb1 : Below w.heap.size w W1 := by rw [hW1]; exact (Below.refl _ _).alloc (Nat.le_refl _) _
  have hb2 : Below W1.heap.size W1 W2 := by rw [hW2]; exact (Below.refl _ _).alloc (Nat.le_refl _) _
  have hb3 : Below W2.heap.size W2 Wa := by rw [hWa]; exact (Below.refl _ _).alloc (Nat.le_refl _) _
  have x1 : Box W1 w.heap.size 28 (.int .i64 n) (.slice a l.length cap) := by rw [hW1]; exact Box.new _ _ _ _
  have x2 : Boxed W2 W1.heap.size 22 (.slice b r.length cb) := by rw [hW2]; exact Boxed.new _ _ _
  have xr : Boxed Wa W2.heap.size 4 (.bool false) := by rw [hWa]; exact Boxed.new _ _ _
  have xa := (x1.below hb2 x1.lt).below hb3 (x1.below hb2 x1.lt).lt
  have xl : Boxed Wa W1.heap.size 22 (.slice b r.length cb) := (hb3.block _ x2.lt).trans x2
  have hba : Below w.heap.size w Wa := (hb1.trans (hb2.mono hb1.size)).trans (hb3.mono (Nat.le_trans hb1.size hb2.size))
  have q1 : w.heap.size < W1.heap.size := x1.lt
  have q2 : W1.heap.size < W2.heap.size := x2.lt
  have q3 : W2.heap.size < Wa.heap.size := xr.lt
  have sw1 : Hid (W1.heap.size = w.heap.size + 1) := by show _ = _; rw [hW1]; simp
  have sw2 : Hid (W2.heap.size = w.heap.size + 1 + 1) := by show _ = _; rw [hW2, World.size_alloc, sw1.out]
  have hrowa : IntRow Wa a l := hrow.below hba (Nat.le_refl _)
  have HWa : Hid (Wa = ((w.alloc (.cells #[.int .i64 n, .slice a l.length cap] 28)).alloc (.cells #[.slice b r.length cb] 22)).alloc (.cells #[.bool false] 4)) := by show _ = _; rw [hWa, hW2, hW1]
  have HL := Lib.hid hl
  have HLR := Lib.hid hlr
  have HRB := Lib.hid hrb
  have HLow : Hid (1 ≤ l.length → ∀ b, blk a = some b → b < w.heap.size) := fun h b e => by
    rcases hrow with h2 | ⟨b2, off, rfl, hb, _⟩
    · rw [h2] at h; simp at h
    · simp [blk] at e; omega
  clear hl hlr hrow hrb hW1 hW2 hWa hb1 hb2 hb3 x1 x2
  have c0 := xa.c0
  have c1 := xa.c1
  cases hok : okB n l
  · have HO := Lib.hid hok
    have HE : Hid (isB n l r = false) := by show _ = _; unfold isB; rw [hok]; rfl
    clear hok
    rw [HWa.out] at c0 c1
    go_enter Try.func19, Try.ntmps19
    go_wp2_with fail
    rw [← HWa.out]
    refine (implTourOk n a l cap Wa hrowa HL.out).mono ?_
    rintro e w1 ⟨rfl, hb1⟩
    rw [HO.out]
    have xr1 : Boxed w1 W2.heap.size 4 (.bool false) := (hb1.block _ q3).trans xr
    rw [sw2.out] at xr1
    have d0 := xr1.cell
    have d1 := xr1.frozen
    have XR := Lib.hid xr1
    clear c0 c1 xr1
    go_wp2
    refine bodyPost_ret (v := .bool false) (Boxed.resB rfl _ rfl (XR.out.set (.bool false))) rfl ⟨by rw [HE.out], ?_⟩
    exact (hba.trans (hb1.mono hba.size)).setCell (p := ⟨w.heap.size + 1 + 1, 0, none⟩) (by simp only; omega) _
  have HO := Lib.hid hok
  have hk := okB_iff.1 hok
  have HK := Lib.hid hk
  have HE : Hid (isB n l r = decide (r ∈ triL l)) := by show _ = _; unfold isB; rw [hok, triOk_mem hk]; rfl
  have hl8 : l.length ≤ 8 := by have := hk.2.1; have := hk.2.2.1; omega
  have hlow := HLow.out (by have := hk.1; have := hk.2.2.1; omega)
  clear hok hk HLow
  refine (callsIn_wide (n := 8)).1 ?_
  refine callsIn_of_wp_marks Try.func19 rfl trivial ?_ rfl
  simp only [Try.ntmps19, List.size_toArray, List.length_cons, List.length_nil, Nat.reduceAdd, Nat.reduceSub, Array.replicate_succ, Array.replicate_zero, List.push_toArray, List.append_toArray, List.nil_append, List.cons_append]
  rw [HWa.out] at c0 c1
  gi_wp2_with fail
  refine ⟨trivial, ?_⟩
  rw [← HWa.out]
  refine (callsIn_wide.2 (implTourOk n a l cap Wa hrowa HL.out)).mono ?_
  rintro e w1 ⟨rfl, hb1⟩
  rw [HO.out]
  have xa1 := xa.below hb1 xa.lt
  have xl1 : Boxed w1 W1.heap.size 22 (.slice b r.length cb) := (hb1.block _ (Nat.lt_trans q2 q3)).trans xl
  have xr1 : Boxed w1 W2.heap.size 4 (.bool false) := (hb1.block _ q3).trans xr
  have hrow1 := hrowa.below hb1 (Nat.le_refl _)
  have bw1 := hba.trans (hb1.mono hba.size)
  have q4 : W2.heap.size < w1.heap.size := xr1.lt
  clear c0 c1
  have c0 := xa1.c0
  have c1 := xa1.c1
  obtain ⟨W3, hW3⟩ : ∃ W3, W3 = w1.alloc (.cells #[.int .i64 n, .slice a l.length cap] 28) := ⟨_, rfl⟩
  have hb3 : Below w1.heap.size w1 W3 := by rw [hW3]; exact (Below.refl _ _).alloc (Nat.le_refl _) _
  have xt : Box W3 w1.heap.size 28 (.int .i64 n) (.slice a l.length cap) := by rw [hW3]; exact Box.new _ _ _ _
  have q5 : w1.heap.size < W3.heap.size := xt.lt
  have XT := Lib.hid xt
  have XL : Hid (Boxed W3 W1.heap.size 22 (.slice b r.length cb)) := (hb3.block _ xl1.lt).trans xl1
  have XR : Hid (Boxed W3 W2.heap.size 4 (.bool false)) := (hb3.block _ xr1.lt).trans xr1
  have HR := Lib.hid (hrow1.below hb3 (Nat.le_refl _))
  have BW := Lib.hid (bw1.trans (hb3.mono bw1.size))
  have HW3 := Lib.hid hW3
  clear hW3 hb3 xt xa1 xl1 xr1 hrow1 bw1 hb1 hba hrowa xa xl xr
  gi_wp2_with fail
  refine ⟨trivial, ?_⟩
  refine (callsIn_wide.2 (triangles_any _ a l.length cap w1)).mono ?_
  rintro e w4 ⟨rfl, hw4⟩
  rw [← HW3.out] at hw4
  have hw5 := hw4.symm
  clear hw4
  subst hw5
  clear c0 c1
  gi_wp2
  rw [← sw2.out, ← sw1.out]
  refine rangeY (F := Fence.wide) rfl (by omega) (gf := 51) (lb := #[.pointer (some ⟨w1.heap.size, 0, none⟩)]) rfl trivial (enters_of Try.func51 (by kernel_rfl) rfl)
    (tri_stops w1.heap.size (W3.heap.size + 2) (fun b _ => b ≠ W2.heap.size) n a cap l HK.out W3 XT.out HR.out (by omega) (fun b o e => by have := hlow b e; omega) ⟨fun b _ h e => by omega, fun b _ _ h e => by omega, fun b _ h e => by omega⟩)
    (fun h k => h.trans k) (fun W l o o2 h hc => KeepR.put W l o o2 h hc) (fun pre x W l o o2 _ ho hc h => h.put l o o2 ho hc) (Below.refl _ _) (fun _ => rfl)
    (fun pre W => (Boxed W W2.heap.size 4 (.bool false) ∧ Boxed W W1.heap.size 22 (.slice b r.length cb)) ∧ Below w.heap.size w W ∧ ∀ y ∈ pre, y.1 ≠ r)
    (fun c pre W => (c = .ret ∧ r ∈ triL l) ∧ Boxed W W2.heap.size 4 (.bool true) ∧ Below w.heap.size w W)
    (fun s A B row hs hg hr => ⟨⟨Boxed.turn hs.1.1 hg (fun r e => (hr r e).2), Boxed.turn hs.1.2 hg (fun r e => (hr r e).2)⟩, ownFrom_below (β := Unit) (Nat.le_refl _) (by have := BW.out.size; omega) () A B row hs.2.1 hg hr, hs.2.2⟩)
    (fun c s A B row hs hg hr => ⟨hs.1, Boxed.turn hs.2.1 hg (fun r e => (hr r e).2), ownFrom_below (β := Unit) (Nat.le_refl _) (by have := BW.out.size; omega) () A B row hs.2.2 hg hr⟩)
    ⟨⟨XR.out, XL.out⟩, BW.out, fun _ h => absurd h (by simp)⟩
    (fun x => { tmps := #[.agg #[.int .i64 n, .slice a l.length cap], .slice b r.length cb, .pointer (some ⟨w.heap.size, 0, none⟩), .pointer (some ⟨W1.heap.size, 0, none⟩), .pointer (some ⟨W2.heap.size, 0, none⟩), .slice (some ⟨x.2, 0, none⟩) 3 3, .agg #[.int .i64 n, .slice a l.length cap], .bool true, .bool false, .agg #[.int .i64 n, .slice a l.length cap], .func (.func 51) #[] #[.pointer (some ⟨w1.heap.size, 0, none⟩)], .slice (some ⟨x.2, 0, none⟩) 3 3, undef, undef, undef], defers := [] }) ?assign ?body ?done ?stop
  case assign =>
    intro lg x W K hK
    unfold encT
    gi_wp2
    exact hK
  case body =>
    rintro lg pre x W ⟨⟨hr0, hl0⟩, hB, hno⟩ hy
    have hx3 := hy.len
    have hrb := HRB.out.below hB (Nat.le_refl _)
    have hmem : x.1 ∈ triL l := by obtain ⟨rest, h⟩ := hy.next; rw [h]; simp
    have heq := equal_any (some ⟨x.2, 0, none⟩) b x.1 r 3 cb W hy.int hrb (by rw [hx3]; decide) HLR.out
    rw [hx3] at heq
    have hcl := hl0.cell
    have HEQ := Lib.hid heq
    have H1 := Lib.hid hr0
    have H2 := Lib.hid hl0
    have HB := Lib.hid hB
    have HN := Lib.hid hno
    have HM := Lib.hid hmem
    clear heq hr0 hl0 hB hno hmem hx3 hy hrb
    gi_wp2_with fail
    refine ⟨trivial, ?_⟩
    refine (CallsIn.inRound lg (callsIn_wide.2 HEQ.out)).mono ?_
    rintro e w5 ⟨rfl, hb5⟩
    have H1' : Boxed w5 W2.heap.size 4 (.bool false) := (hb5.block _ H1.out.lt).trans H1.out
    have H2' : Hid (Boxed w5 W1.heap.size 22 (.slice b r.length cb)) := (hb5.block _ H2.out.lt).trans H2.out
    have HB5 := Lib.hid (HB.out.trans (hb5.mono HB.out.size))
    have HB6 := Lib.hid hb5
    have d0 := H1'.cell
    have d1 := H1'.frozen
    have H3 := Lib.hid H1'
    clear H1' hb5 hcl
    cases hq : eqB x.1 r
    · have hne : x.1 ≠ r := by unfold eqB at hq; exact of_decide_eq_false hq
      have HNE := Lib.hid (show ∀ y ∈ pre ++ [x], y.1 ≠ r from fun y hy => by
        rcases List.mem_append.1 hy with h | h
        · exact HN.out y h
        · have : y = x := by simpa using h
          rw [this]; exact hne)
      clear hq hne
      gi_wp2
      exact ⟨kf_below HB6.out, KeepR.below HB6.out, ⟨H3.out, H2'.out⟩, HB5.out, HNE.out⟩
    · have hee : x.1 = r := by unfold eqB at hq; exact of_decide_eq_true hq
      have HR2 : Hid (r ∈ triL l) := by show _; rw [← hee]; exact HM.out
      clear hq hee
      gi_wp2
      exact ⟨(kf_below HB6.out).trans ((KeepsOthers.setCell _ _ _).from _), ⟨rfl, HR2.out⟩, Boxed.set _ H3.out, HB5.out.setCell (p := ⟨W2.heap.size, 0, none⟩) (by simp only; omega) _⟩
  case done =>
    rintro D ys W hD hS ⟨⟨hr0, hl0⟩, hB, hno⟩ hK
    have hne : decide (r ∈ triL l) = false := by
      rw [decide_eq_false_iff_not, ← hS]
      intro h
      obtain ⟨y, hy, e⟩ := List.mem_map.1 h
      exact hno y hy e
    have d0 := hr0.cell
    have d1 := hr0.frozen
    have HNE := Lib.hid hne
    have H1 := Lib.hid hr0
    have HB := Lib.hid hB
    have HKK := Lib.hid hK
    clear hne hr0 hl0 hB hno hK hS
    gi_wp2
    have hK1 := (KeepsOthers.setCell W ⟨W2.heap.size, 0, none⟩ (.bool false)).same D _ HKK.out rfl
    refine ⟨by simp, .inl ⟨_, _, rfl, run_takeDeferred hK1, ?_⟩⟩
    have hput := grownBy_putObj' (W.setCell ⟨W2.heap.size, 0, none⟩ (.bool false)) D (.deferred none)
    have xz := Boxed.turn (H1.out.set (.bool false)) hput (fun r e => by cases e; exact ⟨_, hK1, rfl⟩)
    refine ⟨.bool false, Boxed.resB rfl _ rfl xz, by rw [HE.out, HNE.out], ?_⟩
    exact (HB.out.setCell (p := ⟨W2.heap.size, 0, none⟩) (by simp only; omega) _).grown hput (by simp; have := HB.out.size; omega) (fun k e => by cases e; have := BW.out.size; omega)
  case stop =>
    rintro D c pre W hD _ ⟨⟨rfl, hm⟩, hr0, hB⟩ hK
    have HM := Lib.hid hm
    have H1 := Lib.hid hr0
    have HB := Lib.hid hB
    have HKK := Lib.hid hK
    clear hm hr0 hB hK
    gi_wp2
    refine ⟨by simp, .inl ⟨_, _, rfl, run_takeDeferred HKK.out, ?_⟩⟩
    have hput := grownBy_putObj' W D (.deferred none)
    have xz := Boxed.turn H1.out hput (fun r e => by cases e; exact ⟨_, HKK.out, rfl⟩)
    refine ⟨.bool true, Boxed.resB rfl _ rfl xz, by rw [HE.out, decide_eq_true HM.out], ?_⟩
    exact HB.out.grown hput (by have := HB.out.size; omega) (fun k e => by cases e; have := BW.out.size; omega)
end Go.Proofs.Ytgdejippddcekaa
