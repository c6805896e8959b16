/-
  'FirstFullWay' of the program. No conditions but the bounds that Go gives a slice.
-/
import Derived.Test.YtnlpfajncpbjpaaJQ
import Derived.Test.YtnlpfajncpbjpaaJP
namespace Go.Proofs.Ytnlpfajncpbjpaa
open Go.ChangeShapes Go.WideShapes Go.ChangeAt Go.RowKit Go.Shelf
attribute [local go_sem] Oper.semAt_some
set_option linter.unusedVariables false

/-- What 'FirstFullWay' answers. -/
noncomputable def ffR (n : Int) (l : List Int) : List Nat := if okB n l then (Hw.full (ww l) l.length).head?.getD [] else []
theorem tot_of {n : Int} {l : List Int} (hok : Ok n l) : Hw.Tot (ww l) l.length := by
  intro a b ha hb hab hf
  rw [← wwBit hok ha] at hf
  rw [← wwBit hok hb]
  have key : bt l a b ≠ bt l b a := by
    rcases Nat.lt_or_ge b a with h | h
    · exact (hok.2.2.2 a ha).2.2 b h
    · exact ((hok.2.2.2 b hb).2.2 a (by omega)).symm
  rw [hf] at key
  simpa using key.symm
/-- A row that the call owns, or none. -/
def RetR (w : World) (L : List Nat) (e : Ending) (w' : World) : Prop := (∃ v, e = .returned v ∧ w'.ownsRow w.heap.size 3 1 v L.length (L.map nv)) ∧ Below w.heap.size w w'
theorem fullT_head {l : List Int} {j : Nat} (hj : j ≤ l.length) (h : fullT l j = []) (rest : List (List Nat)) (hr : Hw.full (ww l) l.length = fullT l j ++ rest) : (Hw.full (ww l) l.length).head? = rest.head? := by rw [hr, h]; rfl
theorem fullT_split (l : List Int) {j : Nat} (hj : j < l.length) : ∃ rest, Hw.full (ww l) l.length = fullT l j ++ (Hw.ways (ww l) (l.length : Int) j ++ rest) := by
  refine ⟨((List.range l.length).drop (j + 1)).flatMap (Hw.ways (ww l) (l.length : Int)), ?_⟩
  rw [← List.append_assoc, ← fullT_succ]
  unfold Hw.full fullT
  rw [← List.flatMap_append]
  congr 1
  have e : List.range (j + 1) = (List.range l.length).take (j + 1) := by rw [List.take_range, Nat.min_eq_left (by omega)]
  rw [e, List.take_append_drop]

theorem Boxed.resS {w : World} {g : Nat} {v : Value} {fn : Func} {p : Tmp} (hf : fn.results = #[.cell p 23]) (tmps : Array Value) (hp : tmps.getD p undef = .pointer (some ⟨g, 0, none⟩)) (h : Boxed w g 23 v) :
    (results fn tmps).run Try.prog w = .ok v w := by
  have hc := h.cell
  have hp2 : tmps[p]?.getD undef = .pointer (some ⟨g, 0, none⟩) := by rw [← hp]; simp
  simp [results, hf, hp2, asAddr, hc, go_sem]
/-- Where the loop over the players stands. -/
structure Ff (w : World) (n : Int) (a : Option Addr) (cap : Nat) (l : List Int) (j : Nat) (ds : List Deferred) (W : World) : Prop where
  le : j ≤ l.length
  ln : ds.length = j
  no : fullT l j = []
  xt : Box W w.heap.size 25 (.int .i64 n) (.slice a l.length cap)
  xr : Boxed W (w.heap.size + 1) 23 (.slice none 0 0)
  hb : Below w.heap.size w W
  ms : ∃ U, Marks w.heap.size U ds W ∧ U ≤ W.heap.size
theorem own_turnL {A C : World} {row : Option Nat} {B n : Nat} {v : Value} {xs : List Value} (h : A.ownsRow B 3 1 v n xs) (hg : A.grownBy C row) (hr : ∀ r, row = some r → ∃ o : Obj, A.heap[r]? = some o ∧ (o.isCells = false ∨ Zl o)) : C.ownsRow B 3 1 v n xs := by
  rcases h.2 with ⟨hn, h0⟩ | ⟨g, cap, cur, he, hB, hgc, q⟩
  · exact ⟨h.1, .inl ⟨hn, h0⟩⟩
  · refine ⟨h.1, .inr ⟨g, cap, cur, he, hB, (hg.block g (Array.getElem?_eq_some_iff.1 hgc).1 (fun e2 => ?_)).trans hgc, q⟩⟩
    obtain ⟨o, ho, h2⟩ := hr g e2.symm
    rw [hgc] at ho
    cases ho
    rcases h2 with h2 | ⟨v2, v3, h2⟩
    · cases h2
    · simp at h2
theorem ownZ_marks {β : Type} {B U B2 : Nat} {ds : List Deferred} (h : U ≤ B2) : OwnZ Zl B2 (fun (_ : β) W => Marks B U ds W) := fun s A C row hs hg hr => hs.beyond hg (fun r e => by have := (hr r e).1; omega)

set_option maxRecDepth 100000 in
set_option maxHeartbeats 2000000 in
theorem implFirstFullWay (n : Int) (a : Option Addr) (l : List Int) (cap : Nat) (w : World) (hrow : IntRow w a l) (hl : l.length ≤ maxLen) :
    Calls Try.prog 27 #[.agg #[.int .i64 n, .slice a l.length cap]] w (RetR w (ffR n l)) := by
  obtain ⟨Wt, hWt⟩ : ∃ Wt, Wt = w.alloc (.cells #[.int .i64 n, .slice a l.length cap] 25) := ⟨_, rfl⟩
  obtain ⟨Wa, hWa⟩ : ∃ Wa, Wa = Wt.alloc (.cells #[.slice none 0 0] 23) := ⟨_, rfl⟩
  have hbt : Below w.heap.size w Wt := by rw [hWt]; exact (Below.refl _ _).alloc (Nat.le_refl _) _
  have hbr : Below Wt.heap.size Wt Wa := by rw [hWa]; exact (Below.refl _ _).alloc (Nat.le_refl _) _
  have hba : Below w.heap.size w Wa := hbt.trans (hbr.mono hbt.size)
  have xt : Box Wt w.heap.size 25 (.int .i64 n) (.slice a l.length cap) := by rw [hWt]; exact Box.new _ _ _ _
  have xa := xt.below hbr xt.lt
  have st : Wt.heap.size = w.heap.size + 1 := by rw [hWt]; simp
  have xr : Boxed Wa (w.heap.size + 1) 23 (.slice none 0 0) := by rw [hWa, ← st]; exact Boxed.new _ _ _
  have hrowa : IntRow Wa a l := hrow.below hba (Nat.le_refl _)
  have HWa : Hid (Wa = (w.alloc (.cells #[.int .i64 n, .slice a l.length cap] 25)).alloc (.cells #[.slice none 0 0] 23)) := by show _ = _; rw [hWa, hWt]
  have HRW := Lib.hid hrow
  have HL := Lib.hid hl
  clear hl hrow hWa hWt hbt hbr xt
  cases hok : okB n l
  · have HO := Lib.hid hok
    have HE : Hid (ffR n l = []) := by show _ = _; unfold ffR; rw [hok]; rfl
    clear hok
    go_enter Try.func27, Try.ntmps27
    go_wp2_with fail
    rw [← HWa.out]
    refine (implTourOk n a l cap Wa hrowa HL.out).mono ?_
    rintro e w1 ⟨rfl, hb1⟩
    rw [HO.out]
    have xr1 : Boxed w1 (w.heap.size + 1) 23 (.slice none 0 0) := (hb1.block _ xr.lt).trans xr
    have d0 := xr1.cell
    have d1 := xr1.frozen
    have XR := Lib.hid xr1
    have B1 := Lib.hid (hba.trans (hb1.mono hba.size))
    clear hb1 xr1
    go_wp2
    refine bodyPost_ret (v := .slice none 0 0) (Boxed.resS rfl _ rfl (XR.out.set _)) rfl ⟨⟨_, rfl, ?_⟩, ?_⟩
    · rw [HE.out]; exact World.ownsRow_nil _ _ _ _
    · exact B1.out.setCell (p := ⟨w.heap.size + 1, 0, none⟩) (by simp only; omega) _
  have HO := Lib.hid hok
  have hk := okB_iff.1 hok
  have HE : Hid (ffR n l = (Hw.full (ww l) l.length).head?.getD []) := by show _ = _; unfold ffR; rw [hok]; rfl
  have HK := Lib.hid hk
  have hnl := hk.2.2.1
  have hl8 : l.length ≤ 8 := by have := hk.2.1; omega
  have hl1 : 1 ≤ l.length := by have := hk.1; omega
  subst hnl
  have hlow : Hid (∀ b, blk a = some b → b < w.heap.size) := fun b e => by
    rcases HRW.out with h2 | ⟨b2, off, rfl, hb, _⟩
    · rw [h2] at hl1; simp at hl1
    · simp [blk] at e; omega
  clear hok hk
  refine (callsIn_wide (n := 8)).1 ?_
  refine callsIn_of_wp_marks Try.func27 rfl trivial ?_ rfl
  simp only [Try.ntmps27, List.size_toArray, List.length_cons, List.length_nil, Nat.reduceAdd, Nat.reduceSub, Array.replicate_succ, Array.replicate_zero, List.push_toArray, List.append_toArray, List.nil_append, List.cons_append]
  gi_wp2_with fail
  refine ⟨trivial, ?_⟩
  rw [← HWa.out]
  refine (callsIn_wide.2 (implTourOk _ a l cap Wa hrowa HL.out)).mono ?_
  rintro e w1 ⟨rfl, hb1⟩
  rw [HO.out]
  have X1 := Lib.hid (xa.below hb1 xa.lt)
  have XR1 : Hid (Boxed w1 (w.heap.size + 1) 23 (.slice none 0 0)) := (hb1.block _ xr.lt).trans xr
  have B1 := Lib.hid (hba.trans (hb1.mono hba.size))
  have c0 := X1.out.c0
  have c1 := X1.out.c1
  clear hb1 hba xa hrowa xr
  gi_wp2
  have HST : Hid (Ff w (l.length : Int) a cap l 0 [] w1) := ⟨Nat.zero_le _, rfl, rfl, X1.out, XR1.out, B1.out, ⟨w1.heap.size, Marks.nil _ _ _, Nat.le_refl _⟩⟩
  clear c0 c1 X1 XR1 B1
  refine wpIn_loop (fun a2 W => ∃ (j : Nat) (ds : List Deferred) (v3 v4 v11 v12 v13 v14 v15 v16 v17 v18 v19 v20 : Value), Ff w (l.length : Int) a cap l j ds W ∧ a2 = { tmps := #[.agg #[.int .i64 (l.length : Int), .slice a l.length cap], .pointer (some ⟨w.heap.size, 0, none⟩), .pointer (some ⟨w.heap.size + 1, 0, none⟩), v3, v4, .agg #[.int .i64 (l.length : Int), .slice a l.length cap], .bool true, .bool false, .pointer (some ⟨w.heap.size, 0, none⟩), .int .i64 (l.length : Int), .int .i64 (j : Int), v11, v12, v13, v14, v15, v16, v17, v18, v19, v20], defers := ds }) (fun a2 _ => l.length - a2.defers.length) ⟨0, [], undef, undef, undef, undef, undef, undef, undef, undef, undef, undef, undef, undef, HST.out, rfl⟩ ?_
  rintro a2 W ⟨j, ds, v3, v4, v11, v12, v13, v14, v15, v16, v17, v18, v19, v20, hff, rfl⟩
  clear HST
  by_cases hlt : j < l.length
  · have hjb : (j : Int) < (l.length : Int) := by omega
    have c0 := hff.xt.c0
    have c1 := hff.xt.c1
    obtain ⟨W3, hW3⟩ : ∃ W3, W3 = ((W.alloc (.cells #[.int .i64 (l.length : Int), .slice a l.length cap] 25)).alloc (.cells #[.int .i64 (j : Int)] 3)).alloc (.cells #[.int .i64 (l.length : Int)] 3) := ⟨_, rfl⟩
    obtain ⟨hb3, xt3, xq3, xk3, hs3⟩ := three_new hW3
    obtain ⟨U, hms, hU⟩ := hff.ms
    have q1 : w.heap.size + 1 < W.heap.size := hff.xr.lt
    have XT := Lib.hid xt3
    have XQ := Lib.hid xq3
    have XK := Lib.hid xk3
    have HR := Lib.hid (HRW.out.below (hff.hb.trans (hb3.mono hff.hb.size)) (Nat.le_refl _))
    have BW := Lib.hid (hff.hb.trans (hb3.mono hff.hb.size))
    have XA := Lib.hid (hff.xt.below hb3 hff.xt.lt)
    have XR : Hid (Boxed W3 (w.heap.size + 1) 23 (.slice none 0 0)) := (hb3.block _ hff.xr.lt).trans hff.xr
    have MS := Lib.hid (hms.below hb3)
    have hU3 : U ≤ W3.heap.size := by omega
    have HFF := Lib.hid hff
    have HW3 := Lib.hid hW3
    have hac : ∀ b, blk a = some b → b ≠ w.heap.size + 1 := fun b e => by have := hlow.out b e; omega
    clear hW3 xt3 xq3 xk3 hff hms hb3
    gi_wp2_with fail
    refine ⟨trivial, ?_⟩
    refine (callsIn_wide.2 (waysFrom_any _ a l.length cap (j : Int) (l.length : Int) W)).mono ?_
    rintro e w4 ⟨rfl, hw4⟩
    rw [← HW3.out] at hw4
    have hw5 := hw4.symm
    clear hw4
    subst hw5
    clear c0 c1
    gi_wp2
    refine rangeZ (F := Fence.wide) (Z := Zl) rfl (by omega) (gf := 97) (lb := #[.pointer (some ⟨W.heap.size + 1, 0, none⟩), .pointer (some ⟨W.heap.size + 1 + 1, 0, none⟩), .pointer (some ⟨W.heap.size, 0, none⟩)]) rfl trivial (enters_of Try.func97 (by kernel_rfl) rfl)
      (ways_stops W.heap.size (W.heap.size + 1) (W.heap.size + 1 + 1) (W3.heap.size + 2) (fun b _ => b ≠ w.heap.size + 1) _ a cap l j (l.length : Int) HK.out hlt W3 XT.out XQ.out XK.out HR.out (fun _ => by omega) (fun _ => by omega) (fun b o e => hac b e) (fun b o h => by omega))
      (fun h k => h.trans k) (fun W l o o2 h hc => KeepR.put W l o o2 h hc) (fun pre x W l o o2 _ ho hc h => h.put l o o2 ho hc) (Below.refl _ _) (fun _ => rfl)
      (fun pre W => ((pre = [] ∧ Box W w.heap.size 25 (.int .i64 (l.length : Int)) (.slice a l.length cap)) ∧ Boxed W (w.heap.size + 1) 23 (.slice none 0 0)) ∧ (Below w.heap.size w W ∧ Marks w.heap.size U ds W))
      (fun c pre W => (∃ x : Wx, (c = .ret ∧ pre = [x]) ∧ Boxed W (w.heap.size + 1) 23 (.slice (some ⟨x.2.1, 0, none⟩) x.1.length x.2.2) ∧ W.ownsRow w.heap.size 3 1 (.slice (some ⟨x.2.1, 0, none⟩) x.1.length x.2.2) x.1.length (x.1.map nv)) ∧ (Below w.heap.size w W ∧ Marks w.heap.size U ds W))
      (OwnZ.and (OwnZ.and (OwnZ.and (ownZ_pure _ (fun pre : List Wx => pre = [])) (ownZ_box _ _ _ _)) (ownZ_boxed _ _ _ (fun _ => .slice none 0 0))) (OwnZ.and (ownZ_below (Nat.le_refl _) (by omega)) (ownZ_marks hU3)))
      (fun c s A C row hs hg hr => by
        obtain ⟨⟨x, h1, h2, h3⟩, h4, h5⟩ := hs
        refine ⟨⟨x, h1, Boxed.turnZ h2 hg (fun r e => (hr r e).2), own_turnL h3 hg (fun r e => (hr r e).2)⟩, ownZ_below (β := Unit) (Nat.le_refl _) (by omega) () A C row h4 hg hr, ownZ_marks (β := Unit) hU3 () A C row h5 hg hr⟩)
      ⟨⟨⟨rfl, XA.out⟩, XR.out⟩, BW.out, MS.out⟩
      (fun x => { tmps := #[.agg #[.int .i64 (l.length : Int), .slice a l.length cap], .pointer (some ⟨w.heap.size, 0, none⟩), .pointer (some ⟨w.heap.size + 1, 0, none⟩), .int .i64 (j : Int), .slice (some ⟨x.2.1, 0, none⟩) x.1.length x.2.2, .agg #[.int .i64 (l.length : Int), .slice a l.length cap], .bool true, .bool false, .pointer (some ⟨w.heap.size, 0, none⟩), .int .i64 (l.length : Int), .int .i64 (j : Int), .bool true, .int .i64 (j : Int), .agg #[.int .i64 (l.length : Int), .slice a l.length cap], .int .i64 (j : Int), .pointer (some ⟨w.heap.size, 0, none⟩), .int .i64 (l.length : Int), .func (.func 97) #[] #[.pointer (some ⟨W.heap.size + 1, 0, none⟩), .pointer (some ⟨W.heap.size + 1 + 1, 0, none⟩), .pointer (some ⟨W.heap.size, 0, none⟩)], .slice (some ⟨x.2.1, 0, none⟩) x.1.length x.2.2, v19, v20], defers := [] }) ?assign ?body ?done ?stop
    case assign =>
      intro lg x W' K hK
      unfold encW
      gi_wp2
      exact hK
    case body =>
      rintro lg pre x Wr ⟨⟨⟨rfl, hx⟩, hr⟩, hB, hM⟩ hy
      have d0 := hr.cell
      have d1 := hr.frozen
      have HX := Lib.hid hx
      have HRR := Lib.hid hr
      have HB := Lib.hid hB
      have HM := Lib.hid hM
      have HY := Lib.hid hy
      clear hx hr hB hM hy
      gi_wp2
      refine ⟨(KeepsOthers.setCell _ _ _).from _, ⟨x, ⟨rfl, rfl⟩, Boxed.set _ HRR.out, ?_⟩, HB.out.setCell (p := ⟨w.heap.size + 1, 0, none⟩) (by simp only; omega) _, HM.out.grown (grownBy_setCell' _ _ _) (fun r e h => ?_)⟩
      · exact (own_set HY.out.own ⟨w.heap.size + 1, 0, none⟩ _ (by simp only; omega)).mono (by omega)
      · cases e
        have h2 := HRR.out
        rw [show Wr.heap[w.heap.size + 1]? = _ from h2] at h
        cases h
    case done =>
      rintro D ys W' hD hS ⟨⟨⟨rfl, hx⟩, hr⟩, hB, hM⟩ hK
      have hno : fullT l (j + 1) = [] := by
        rw [fullT_succ, HFF.out.no, ← hS]; rfl
      have HN : Hid (Ff w (l.length : Int) a cap l (j + 1) ({ target := .collected D, args := #[] } :: ds) W') :=
        ⟨by omega, by simp [HFF.out.ln], hno, hx, hr, hB, ⟨D + 1, hM.cons (by omega) (by omega) hK, (Array.getElem?_eq_some_iff.1 hK).1⟩⟩
      have hln := HFF.out.ln
      clear hx hr hB hM hK hS hno
      gi_wp2
      refine ⟨⟨j + 1, { target := .collected D, args := #[] } :: ds, _, _, _, _, _, _, _, _, _, _, _, _, HN.out, rfl⟩, ?_⟩
      simp only [List.length_cons]
      omega
    case stop =>
      rintro D c pre W' hD ⟨rest, hrest⟩ ⟨⟨x, ⟨rfl, rfl⟩, hr, ho⟩, hB, hM⟩ hK
      have hff : ffR (l.length : Int) l = x.1 := by
        obtain ⟨r2, h2⟩ := fullT_split l hlt
        rw [HE.out, fullT_head (by omega) HFF.out.no _ h2, hrest]; rfl
      have HF := Lib.hid hff
      have HM := Lib.hid (hM.cons (by omega) (by omega) hK)
      have HRR := Lib.hid hr
      have HOO := Lib.hid ho
      have HB := Lib.hid hB
      clear hr ho hB hM hK hff hrest
      gi_wp2
      refine leaves_marks (B := w.heap.size) (U := D + 1) (S := fun W3 => Below w.heap.size w W3 ∧ Boxed W3 (w.heap.size + 1) 23 (.slice (some ⟨x.2.1, 0, none⟩) x.1.length x.2.2) ∧ W3.ownsRow w.heap.size 3 1 (.slice (some ⟨x.2.1, 0, none⟩) x.1.length x.2.2) x.1.length (x.1.map nv)) ?_ ?_ _ _ HM.out ⟨HB.out, HRR.out, HOO.out⟩
      · rintro W3 D hB hD ⟨h1, h2, h3⟩
        have hg := grownBy_putObj' W3 D (.deferred none)
        have hr : ∀ r, some D = some r → ∃ o : Obj, W3.heap[r]? = some o ∧ (o.isCells = false ∨ Zl o) := fun r e => by cases e; exact ⟨_, hD, .inl rfl⟩
        exact ⟨h1.grown hg h1.size (fun j e => by cases e; exact hB), Boxed.turnZ h2 hg hr, own_turnL h3 hg hr⟩
      · rintro W3 ⟨h1, h2, h3⟩
        exact ⟨_, Boxed.resS rfl _ rfl h2, ⟨_, rfl, by rw [HF.out]; exact h3⟩, h1⟩
  · exfalso
    obtain rfl : j = l.length := by have := hff.le; omega
    exact Hw.full_ne (tot_of HK.out) hl1 hl8 hff.no
end Go.Proofs.Ytnlpfajncpbjpaa
