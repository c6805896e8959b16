/-
  FirstFullWay and FullWay: four texts in one.
-/
import Derived.Test.YtgjogbihadiojaaVI
import Derived.Test.YtgjogbihadiojaaVP
namespace Go.Proofs.Ytgjogbihadiojaa
open Go.ChangeShapes Go.WideShapes Go.ChangeAt Go.RowKit
set_option linter.unusedVariables false

/-- The marks of the ranges that are over: each block still bears an empty list. -/
structure Marks (B U : Nat) (ds : List Deferred) (W : World) : Prop where
  all : ∀ d ∈ ds, ∃ D, d = { target := .collected D, args := #[] } ∧ B ≤ D ∧ D < U ∧ W.heap[D]? = some (.deferred (some []))
  nd : ds.Pairwise (fun d e => ∀ D, d = { target := .collected D, args := #[] } → e ≠ { target := .collected D, args := #[] })
section
variable {B U : Nat} {ds : List Deferred} {W W2 : World}
theorem Marks.nil (B U : Nat) (W : World) : Marks B U [] W := ⟨by simp, List.Pairwise.nil⟩
theorem Marks.mono (h : Marks B U ds W) {U2 : Nat} (hU : U ≤ U2) : Marks B U2 ds W := ⟨fun d hd => by obtain ⟨D, h1, h2, h3, h4⟩ := h.all d hd; exact ⟨D, h1, h2, by omega, h4⟩, h.nd⟩
/-- A step that turns a block which is no such list. -/
theorem Marks.grown (h : Marks B U ds W) {row : Option Nat} (hg : W.grownBy W2 row) (hr : ∀ r, row = some r → W.heap[r]? ≠ some (.deferred (some []))) : Marks B U ds W2 := by
  refine ⟨fun d hd => ?_, h.nd⟩
  obtain ⟨D, h1, h2, h3, h4⟩ := h.all d hd
  exact ⟨D, h1, h2, h3, (hg.block D (Array.getElem?_eq_some_iff.1 h4).1 (fun e => hr D e.symm h4)).trans h4⟩
theorem Marks.below (h : Marks B U ds W) (hb : Below W.heap.size W W2) : Marks B U ds W2 := by
  refine ⟨fun d hd => ?_, h.nd⟩
  obtain ⟨D, h1, h2, h3, h4⟩ := h.all d hd
  exact ⟨D, h1, h2, h3, (hb.block D (Array.getElem?_eq_some_iff.1 h4).1).trans h4⟩
/-- What lies from U on may turn. -/
theorem Marks.beyond (h : Marks B U ds W) {row : Option Nat} (hg : W.grownBy W2 row) (hr : ∀ r, row = some r → U ≤ r) : Marks B U ds W2 := by
  refine ⟨fun d hd => ?_, h.nd⟩
  obtain ⟨D, h1, h2, h3, h4⟩ := h.all d hd
  exact ⟨D, h1, h2, h3, (hg.block D (Array.getElem?_eq_some_iff.1 h4).1 (fun e => by have := hr D e.symm; omega)).trans h4⟩
theorem Marks.cons (h : Marks B U ds W) {D : Nat} (hB : B ≤ D) (hU : U ≤ D) (hD : W.heap[D]? = some (.deferred (some []))) : Marks B (D + 1) ({ target := .collected D, args := #[] } :: ds) W := by
  refine ⟨fun d hd => ?_, List.Pairwise.cons (fun e he D2 h1 h2 => ?_) h.nd⟩
  · rcases List.mem_cons.1 hd with rfl | hd
    · exact ⟨D, rfl, hB, Nat.lt_succ_self D, hD⟩
    · obtain ⟨D2, h1, h2, h3, h4⟩ := h.all d hd
      exact ⟨D2, h1, h2, by omega, h4⟩
  · obtain ⟨D3, h3, _, h4, _⟩ := h.all e he
    rw [h3] at h2
    have e1 : D = D2 := by simpa using h1
    have e2 : D3 = D2 := by simpa using h2
    omega
end
/-- A function leaves through all its marks. -/
theorem leaves_marks {F : Fence} {n : Nat} {P : Program} {fn : Func} {tmps : Array Value} {R : Ending → World → Prop} {B U : Nat} {S : World → Prop}
    (hS : ∀ W D, B ≤ D → W.heap[D]? = some (.deferred (some [])) → S W → S (W.putObj D (.deferred none))) (hR : ∀ W, S W → LeavesInM F n P fn tmps R [] .returning W) :
    ∀ (ds : List Deferred) (W : World), Marks B U ds W → S W → LeavesInM F n P fn tmps R ds .returning W := by
  intro ds
  induction ds with
  | nil => exact fun W _ h => hR W h
  | cons d ds ih =>
    intro W hm hs
    obtain ⟨D, hd, hB, hU, hD⟩ := hm.all d (by simp)
    have hnd := List.pairwise_cons.1 hm.nd
    refine ⟨by simp, .inl ⟨D, W.putObj D (.deferred none), by rw [hd], run_takeDeferred hD, ih _ ⟨fun e he => ?_, hnd.2⟩ (hS W D hB hD hs)⟩⟩
    obtain ⟨D2, h1, h2, h3, h4⟩ := hm.all e (by simp [he])
    have hne : D2 ≠ D := by
      intro e2
      exact hnd.1 e he D hd (by rw [h1, e2])
    exact ⟨D2, h1, h2, h3, (World.putObj_heap_other hne).trans h4⟩

theorem Marks.others {B U : Nat} {ds : List Deferred} {W W2 : World} (h : Marks B U ds W) (hk : KeepsOthers W W2) : Marks B U ds W2 := by
  refine ⟨fun d hd => ?_, h.nd⟩
  obtain ⟨D, h1, h2, h3, h4⟩ := h.all d hd
  exact ⟨D, h1, h2, h3, hk.same D _ h4 rfl⟩
end Go.Proofs.Ytgjogbihadiojaa
namespace Go.Proofs.Ytgjogbihadiojaa
open Go.ChangeShapes Go.WideShapes Go.ChangeAt Go.RowKit Go.Shelf
attribute [local go_sem] Oper.semAt_some
set_option linter.unusedVariables false

/-- What 'FirstFullWay' answers. -/
noncomputable def ffR (n : Int) (l : List Int) : List Nat := if okB n l then (Hw.full (ww l) l.length).head?.getD [] else []
theorem tot_of {n : Int} {l : List Int} (hok : Ok n l) : Hw.Tot (ww l) l.length := by
  intro a b ha hb hab hf
  rw [← wwBit hok ha] at hf
  rw [← wwBit hok hb]
  have key : bt l a b ≠ bt l b a := by
    rcases Nat.lt_or_ge b a with h | h
    · exact (hok.2.2.2 a ha).2.2 b h
    · exact ((hok.2.2.2 b hb).2.2 a (by omega)).symm
  rw [hf] at key
  simpa using key.symm
/-- A row that the call owns, or none. -/
def RetR (w : World) (L : List Nat) (e : Ending) (w' : World) : Prop := (∃ v, e = .returned v ∧ w'.ownsRow w.heap.size 3 1 v L.length (L.map nv)) ∧ Below w.heap.size w w'
theorem fullT_head {l : List Int} {j : Nat} (hj : j ≤ l.length) (h : fullT l j = []) (rest : List (List Nat)) (hr : Hw.full (ww l) l.length = fullT l j ++ rest) : (Hw.full (ww l) l.length).head? = rest.head? := by rw [hr, h]; rfl
theorem fullT_split (l : List Int) {j : Nat} (hj : j < l.length) : ∃ rest, Hw.full (ww l) l.length = fullT l j ++ (Hw.ways (ww l) (l.length : Int) j ++ rest) := by
  refine ⟨((List.range l.length).drop (j + 1)).flatMap (Hw.ways (ww l) (l.length : Int)), ?_⟩
  rw [← List.append_assoc, ← fullT_succ]
  unfold Hw.full fullT
  rw [← List.flatMap_append]
  congr 1
  have e : List.range (j + 1) = (List.range l.length).take (j + 1) := by rw [List.take_range, Nat.min_eq_left (by omega)]
  rw [e, List.take_append_drop]

theorem Boxed.resS {w : World} {g : Nat} {v : Value} {fn : Func} {p : Tmp} (hf : fn.results = #[.cell p 23]) (tmps : Array Value) (hp : tmps.getD p undef = .pointer (some ⟨g, 0, none⟩)) (h : Boxed w g 23 v) :
    (results fn tmps).run Try.prog w = .ok v w := by
  have hc := h.cell
  have hp2 : tmps[p]?.getD undef = .pointer (some ⟨g, 0, none⟩) := by rw [← hp]; simp
  simp [results, hf, hp2, asAddr, hc, go_sem]
/-- Where the loop over the players stands. -/
structure Ff (w : World) (n : Int) (a : Option Addr) (cap : Nat) (l : List Int) (j : Nat) (ds : List Deferred) (W : World) : Prop where
  le : j ≤ l.length
  ln : ds.length = j
  no : fullT l j = []
  xt : Box W w.heap.size 25 (.int .i64 n) (.slice a l.length cap)
  xr : Boxed W (w.heap.size + 1) 23 (.slice none 0 0)
  hb : Below w.heap.size w W
  ms : ∃ U, Marks w.heap.size U ds W ∧ U ≤ W.heap.size
theorem own_turnL {A C : World} {row : Option Nat} {B n : Nat} {v : Value} {xs : List Value} (h : A.ownsRow B 3 1 v n xs) (hg : A.grownBy C row) (hr : ∀ r, row = some r → ∃ o : Obj, A.heap[r]? = some o ∧ (o.isCells = false ∨ Zl o)) : C.ownsRow B 3 1 v n xs := by
  rcases h.2 with ⟨hn, h0⟩ | ⟨g, cap, cur, he, hB, hgc, q⟩
  · exact ⟨h.1, .inl ⟨hn, h0⟩⟩
  · refine ⟨h.1, .inr ⟨g, cap, cur, he, hB, (hg.block g (Array.getElem?_eq_some_iff.1 hgc).1 (fun e2 => ?_)).trans hgc, q⟩⟩
    obtain ⟨o, ho, h2⟩ := hr g e2.symm
    rw [hgc] at ho
    cases ho
    rcases h2 with h2 | ⟨v2, v3, h2⟩
    · cases h2
    · simp at h2
theorem ownZ_marks {β : Type} {B U B2 : Nat} {ds : List Deferred} (h : U ≤ B2) : OwnZ Zl B2 (fun (_ : β) W => Marks B U ds W) := fun s A C row hs hg hr => hs.beyond hg (fun r e => by have := (hr r e).1; omega)

set_option maxRecDepth 100000 in
set_option maxHeartbeats 2000000 in
theorem implFirstFullWay (n : Int) (a : Option Addr) (l : List Int) (cap : Nat) (w : World) (hrow : IntRow w a l) (hl : l.length ≤ maxLen) :
    Calls Try.prog 17 #[.agg #[.int .i64 n, .slice a l.length cap]] w (RetR w (ffR n l)) := by
  obtain ⟨Wt, hWt⟩ : ∃ Wt, Wt = w.alloc (.cells #[.int .i64 n, .slice a l.length cap] 25) := ⟨_, rfl⟩
  obtain ⟨Wa, hWa⟩ : ∃ Wa, Wa = Wt.alloc (.cells #[.slice none 0 0] 23) := ⟨_, rfl⟩
  have hbt : Below w.heap.size w Wt := by rw [hWt]; exact (Below.refl _ _).alloc (Nat.le_refl _) _
  have hbr : Below Wt.heap.size Wt Wa := by rw [hWa]; exact (Below.refl _ _).alloc (Nat.le_refl _) _
  have hba : Below w.heap.size w Wa := hbt.trans (hbr.mono hbt.size)
  have xt : Box Wt w.heap.size 25 (.int .i64 n) (.slice a l.length cap) := by rw [hWt]; exact Box.new _ _ _ _
  have xa := xt.below hbr xt.lt
  have st : Wt.heap.size = w.heap.size + 1 := by rw [hWt]; simp
  have xr : Boxed Wa (w.heap.size + 1) 23 (.slice none 0 0) := by rw [hWa, ← st]; exact Boxed.new _ _ _
  have hrowa : IntRow Wa a l := hrow.below hba (Nat.le_refl _)
  have HWa : Hid (Wa = (w.alloc (.cells #[.int .i64 n, .slice a l.length cap] 25)).alloc (.cells #[.slice none 0 0] 23)) := by show _ = _; rw [hWa, hWt]
  have HRW := Lib.hid hrow
  have HL := Lib.hid hl
  clear hl hrow hWa hWt hbt hbr xt
  cases hok : okB n l
  · have HO := Lib.hid hok
    have HE : Hid (ffR n l = []) := by show _ = _; unfold ffR; rw [hok]; rfl
    clear hok
    go_enter Try.func17, Try.ntmps17
    go_wp2_with fail
    rw [← HWa.out]
    refine (implTourOk n a l cap Wa hrowa HL.out).mono ?_
    rintro e w1 ⟨rfl, hb1⟩
    rw [HO.out]
    have xr1 : Boxed w1 (w.heap.size + 1) 23 (.slice none 0 0) := (hb1.block _ xr.lt).trans xr
    have d0 := xr1.cell
    have d1 := xr1.frozen
    have XR := Lib.hid xr1
    have B1 := Lib.hid (hba.trans (hb1.mono hba.size))
    clear hb1 xr1
    go_wp2
    refine bodyPost_ret (v := .slice none 0 0) (Boxed.resS rfl _ rfl (XR.out.set _)) rfl ⟨⟨_, rfl, ?_⟩, ?_⟩
    · rw [HE.out]; exact World.ownsRow_nil _ _ _ _
    · exact B1.out.setCell (p := ⟨w.heap.size + 1, 0, none⟩) (by simp only; omega) _
  have HO := Lib.hid hok
  have hk := okB_iff.1 hok
  have HE : Hid (ffR n l = (Hw.full (ww l) l.length).head?.getD []) := by show _ = _; unfold ffR; rw [hok]; rfl
  have HK := Lib.hid hk
  have hnl := hk.2.2.1
  have hl8 : l.length ≤ 8 := by have := hk.2.1; omega
  have hl1 : 1 ≤ l.length := by have := hk.1; omega
  subst hnl
  have hlow : Hid (∀ b, blk a = some b → b < w.heap.size) := fun b e => by
    rcases HRW.out with h2 | ⟨b2, off, rfl, hb, _⟩
    · rw [h2] at hl1; simp at hl1
    · simp [blk] at e; omega
  clear hok hk
  refine (callsIn_wide (n := 8)).1 ?_
  refine callsIn_of_wp_marks Try.func17 rfl trivial ?_ rfl
  simp only [Try.ntmps17, List.size_toArray, List.length_cons, List.length_nil, Nat.reduceAdd, Nat.reduceSub, Array.replicate_succ, Array.replicate_zero, List.push_toArray, List.append_toArray, List.nil_append, List.cons_append]
  gi_wp2_with fail
  refine ⟨trivial, ?_⟩
  rw [← HWa.out]
  refine (callsIn_wide.2 (implTourOk _ a l cap Wa hrowa HL.out)).mono ?_
  rintro e w1 ⟨rfl, hb1⟩
  rw [HO.out]
  have X1 := Lib.hid (xa.below hb1 xa.lt)
  have XR1 : Hid (Boxed w1 (w.heap.size + 1) 23 (.slice none 0 0)) := (hb1.block _ xr.lt).trans xr
  have B1 := Lib.hid (hba.trans (hb1.mono hba.size))
  have c0 := X1.out.c0
  have c1 := X1.out.c1
  clear hb1 hba xa hrowa xr
  gi_wp2
  have HST : Hid (Ff w (l.length : Int) a cap l 0 [] w1) := ⟨Nat.zero_le _, rfl, rfl, X1.out, XR1.out, B1.out, ⟨w1.heap.size, Marks.nil _ _ _, Nat.le_refl _⟩⟩
  clear c0 c1 X1 XR1 B1
  refine wpIn_loop (fun a2 W => ∃ (j : Nat) (ds : List Deferred) (v3 v4 v11 v12 v13 v14 v15 v16 v17 v18 v19 v20 : Value), Ff w (l.length : Int) a cap l j ds W ∧ a2 = { tmps := #[.agg #[.int .i64 (l.length : Int), .slice a l.length cap], .pointer (some ⟨w.heap.size, 0, none⟩), .pointer (some ⟨w.heap.size + 1, 0, none⟩), v3, v4, .agg #[.int .i64 (l.length : Int), .slice a l.length cap], .bool true, .bool false, .pointer (some ⟨w.heap.size, 0, none⟩), .int .i64 (l.length : Int), .int .i64 (j : Int), v11, v12, v13, v14, v15, v16, v17, v18, v19, v20], defers := ds }) (fun a2 _ => l.length - a2.defers.length) ⟨0, [], undef, undef, undef, undef, undef, undef, undef, undef, undef, undef, undef, undef, HST.out, rfl⟩ ?_
  rintro a2 W ⟨j, ds, v3, v4, v11, v12, v13, v14, v15, v16, v17, v18, v19, v20, hff, rfl⟩
  clear HST
  by_cases hlt : j < l.length
  · have hjb : (j : Int) < (l.length : Int) := by omega
    have c0 := hff.xt.c0
    have c1 := hff.xt.c1
    obtain ⟨W3, hW3⟩ : ∃ W3, W3 = ((W.alloc (.cells #[.int .i64 (l.length : Int), .slice a l.length cap] 25)).alloc (.cells #[.int .i64 (j : Int)] 3)).alloc (.cells #[.int .i64 (l.length : Int)] 3) := ⟨_, rfl⟩
    obtain ⟨hb3, xt3, xq3, xk3, hs3⟩ := three_new hW3
    obtain ⟨U, hms, hU⟩ := hff.ms
    have q1 : w.heap.size + 1 < W.heap.size := hff.xr.lt
    have XT := Lib.hid xt3
    have XQ := Lib.hid xq3
    have XK := Lib.hid xk3
    have HR := Lib.hid (HRW.out.below (hff.hb.trans (hb3.mono hff.hb.size)) (Nat.le_refl _))
    have BW := Lib.hid (hff.hb.trans (hb3.mono hff.hb.size))
    have XA := Lib.hid (hff.xt.below hb3 hff.xt.lt)
    have XR : Hid (Boxed W3 (w.heap.size + 1) 23 (.slice none 0 0)) := (hb3.block _ hff.xr.lt).trans hff.xr
    have MS := Lib.hid (hms.below hb3)
    have hU3 : U ≤ W3.heap.size := by omega
    have HFF := Lib.hid hff
    have HW3 := Lib.hid hW3
    have hac : ∀ b, blk a = some b → b ≠ w.heap.size + 1 := fun b e => by have := hlow.out b e; omega
    clear hW3 xt3 xq3 xk3 hff hms hb3
    gi_wp2_with fail
    refine ⟨trivial, ?_⟩
    refine (callsIn_wide.2 (waysFrom_any _ a l.length cap (j : Int) (l.length : Int) W)).mono ?_
    rintro e w4 ⟨rfl, hw4⟩
    rw [← HW3.out] at hw4
    have hw5 := hw4.symm
    clear hw4
    subst hw5
    clear c0 c1
    gi_wp2
    refine rangeZ (F := Fence.wide) (Z := Zl) rfl (by omega) (gf := 111) (lb := #[.pointer (some ⟨W.heap.size + 1, 0, none⟩), .pointer (some ⟨W.heap.size + 1 + 1, 0, none⟩), .pointer (some ⟨W.heap.size, 0, none⟩)]) rfl trivial (enters_of Try.func111 (by kernel_rfl) rfl)
      (ways_stops W.heap.size (W.heap.size + 1) (W.heap.size + 1 + 1) (W3.heap.size + 2) (fun b _ => b ≠ w.heap.size + 1) _ a cap l j (l.length : Int) HK.out hlt W3 XT.out XQ.out XK.out HR.out (fun _ => by omega) (fun _ => by omega) (fun b o e => hac b e) (fun b o h => by omega))
      (fun h k => h.trans k) (fun W l o o2 h hc => KeepR.put W l o o2 h hc) (fun pre x W l o o2 _ ho hc h => h.put l o o2 ho hc) (Below.refl _ _) (fun _ => rfl)
      (fun pre W => ((pre = [] ∧ Box W w.heap.size 25 (.int .i64 (l.length : Int)) (.slice a l.length cap)) ∧ Boxed W (w.heap.size + 1) 23 (.slice none 0 0)) ∧ (Below w.heap.size w W ∧ Marks w.heap.size U ds W))
      (fun c pre W => (∃ x : Wx, (c = .ret ∧ pre = [x]) ∧ Boxed W (w.heap.size + 1) 23 (.slice (some ⟨x.2.1, 0, none⟩) x.1.length x.2.2) ∧ W.ownsRow w.heap.size 3 1 (.slice (some ⟨x.2.1, 0, none⟩) x.1.length x.2.2) x.1.length (x.1.map nv)) ∧ (Below w.heap.size w W ∧ Marks w.heap.size U ds W))
      (OwnZ.and (OwnZ.and (OwnZ.and (ownZ_pure _ (fun pre : List Wx => pre = [])) (ownZ_box _ _ _ _)) (ownZ_boxed _ _ _ (fun _ => .slice none 0 0))) (OwnZ.and (ownZ_below (Nat.le_refl _) (by omega)) (ownZ_marks hU3)))
      (fun c s A C row hs hg hr => by
        obtain ⟨⟨x, h1, h2, h3⟩, h4, h5⟩ := hs
        refine ⟨⟨x, h1, Boxed.turnZ h2 hg (fun r e => (hr r e).2), own_turnL h3 hg (fun r e => (hr r e).2)⟩, ownZ_below (β := Unit) (Nat.le_refl _) (by omega) () A C row h4 hg hr, ownZ_marks (β := Unit) hU3 () A C row h5 hg hr⟩)
      ⟨⟨⟨rfl, XA.out⟩, XR.out⟩, BW.out, MS.out⟩
      (fun x => { tmps := #[.agg #[.int .i64 (l.length : Int), .slice a l.length cap], .pointer (some ⟨w.heap.size, 0, none⟩), .pointer (some ⟨w.heap.size + 1, 0, none⟩), .int .i64 (j : Int), .slice (some ⟨x.2.1, 0, none⟩) x.1.length x.2.2, .agg #[.int .i64 (l.length : Int), .slice a l.length cap], .bool true, .bool false, .pointer (some ⟨w.heap.size, 0, none⟩), .int .i64 (l.length : Int), .int .i64 (j : Int), .bool true, .int .i64 (j : Int), .agg #[.int .i64 (l.length : Int), .slice a l.length cap], .int .i64 (j : Int), .pointer (some ⟨w.heap.size, 0, none⟩), .int .i64 (l.length : Int), .func (.func 111) #[] #[.pointer (some ⟨W.heap.size + 1, 0, none⟩), .pointer (some ⟨W.heap.size + 1 + 1, 0, none⟩), .pointer (some ⟨W.heap.size, 0, none⟩)], .slice (some ⟨x.2.1, 0, none⟩) x.1.length x.2.2, v19, v20], defers := [] }) ?assign ?body ?done ?stop
    case assign =>
      intro lg x W' K hK
      unfold encW
      gi_wp2
      exact hK
    case body =>
      rintro lg pre x Wr ⟨⟨⟨rfl, hx⟩, hr⟩, hB, hM⟩ hy
      have d0 := hr.cell
      have d1 := hr.frozen
      have HX := Lib.hid hx
      have HRR := Lib.hid hr
      have HB := Lib.hid hB
      have HM := Lib.hid hM
      have HY := Lib.hid hy
      clear hx hr hB hM hy
      gi_wp2
      refine ⟨(KeepsOthers.setCell _ _ _).from _, ⟨x, ⟨rfl, rfl⟩, Boxed.set _ HRR.out, ?_⟩, HB.out.setCell (p := ⟨w.heap.size + 1, 0, none⟩) (by simp only; omega) _, HM.out.grown (grownBy_setCell' _ _ _) (fun r e h => ?_)⟩
      · exact (own_set HY.out.own ⟨w.heap.size + 1, 0, none⟩ _ (by simp only; omega)).mono (by omega)
      · cases e
        have h2 := HRR.out
        rw [show Wr.heap[w.heap.size + 1]? = _ from h2] at h
        cases h
    case done =>
      rintro D ys W' hD hS ⟨⟨⟨rfl, hx⟩, hr⟩, hB, hM⟩ hK
      have hno : fullT l (j + 1) = [] := by
        rw [fullT_succ, HFF.out.no, ← hS]; rfl
      have HN : Hid (Ff w (l.length : Int) a cap l (j + 1) ({ target := .collected D, args := #[] } :: ds) W') :=
        ⟨by omega, by simp [HFF.out.ln], hno, hx, hr, hB, ⟨D + 1, hM.cons (by omega) (by omega) hK, (Array.getElem?_eq_some_iff.1 hK).1⟩⟩
      have hln := HFF.out.ln
      clear hx hr hB hM hK hS hno
      gi_wp2
      refine ⟨⟨j + 1, { target := .collected D, args := #[] } :: ds, _, _, _, _, _, _, _, _, _, _, _, _, HN.out, rfl⟩, ?_⟩
      simp only [List.length_cons]
      omega
    case stop =>
      rintro D c pre W' hD ⟨rest, hrest⟩ ⟨⟨x, ⟨rfl, rfl⟩, hr, ho⟩, hB, hM⟩ hK
      have hff : ffR (l.length : Int) l = x.1 := by
        obtain ⟨r2, h2⟩ := fullT_split l hlt
        rw [HE.out, fullT_head (by omega) HFF.out.no _ h2, hrest]; rfl
      have HF := Lib.hid hff
      have HM := Lib.hid (hM.cons (by omega) (by omega) hK)
      have HRR := Lib.hid hr
      have HOO := Lib.hid ho
      have HB := Lib.hid hB
      clear hr ho hB hM hK hff hrest
      gi_wp2
      refine leaves_marks (B := w.heap.size) (U := D + 1) (S := fun W3 => Below w.heap.size w W3 ∧ Boxed W3 (w.heap.size + 1) 23 (.slice (some ⟨x.2.1, 0, none⟩) x.1.length x.2.2) ∧ W3.ownsRow w.heap.size 3 1 (.slice (some ⟨x.2.1, 0, none⟩) x.1.length x.2.2) x.1.length (x.1.map nv)) ?_ ?_ _ _ HM.out ⟨HB.out, HRR.out, HOO.out⟩
      · rintro W3 D hB hD ⟨h1, h2, h3⟩
        have hg := grownBy_putObj' W3 D (.deferred none)
        have hr : ∀ r, some D = some r → ∃ o : Obj, W3.heap[r]? = some o ∧ (o.isCells = false ∨ Zl o) := fun r e => by cases e; exact ⟨_, hD, .inl rfl⟩
        exact ⟨h1.grown hg h1.size (fun j e => by cases e; exact hB), Boxed.turnZ h2 hg hr, own_turnL h3 hg hr⟩
      · rintro W3 ⟨h1, h2, h3⟩
        exact ⟨_, Boxed.resS rfl _ rfl h2, ⟨_, rfl, by rw [HF.out]; exact h3⟩, h1⟩
  · exfalso
    obtain rfl : j = l.length := by have := hff.le; omega
    exact Hw.full_ne (tot_of HK.out) hl1 hl8 hff.no
end Go.Proofs.Ytgjogbihadiojaa
namespace Go.Proofs.Ytgjogbihadiojaa
open Go.ChangeShapes Go.WideShapes Go.ChangeAt Go.RowKit Go.Shelf
set_option linter.unusedVariables false

/-- What 'FullWay' answers. -/
noncomputable def fwR (n : Int) (l : List Int) : List Nat := if okB n l then Hw.fwL (ww l) l.length else []
theorem insW_at {f : Nat → Nat} {a : Nat} : ∀ (L : List Nat) (i : Nat), i ≤ L.length → (∀ j, j < i → (f a).testBit (L.getD j 0) = false) → (i < L.length → (f a).testBit (L.getD i 0) = true) → Hw.insW f a L = L.take i ++ a :: L.drop i := by
  intro L
  induction L with
  | nil => intro i hi _ _; simp at hi; subst hi; rfl
  | cons x L ih =>
    intro i hi h1 h2
    unfold Hw.insW
    cases i with
    | zero =>
      have := h2 (by simp)
      rw [if_pos (by simpa using this)]; rfl
    | succ i =>
      have := h1 0 (by omega)
      rw [if_neg (by rw [show (x :: L).getD 0 0 = x from rfl] at this; rw [this]; simp)]
      rw [ih i (by simpa using hi) (fun j hj => h1 (j + 1) (by omega)) (fun h => h2 (by simpa using h))]
      rfl
theorem ins_getD (L : List Nat) (i x j : Nat) (hi : i ≤ L.length) : (L.take i ++ x :: L.drop i).getD j 0 = if j < i then L.getD j 0 else if j = i then x else L.getD (j - 1) 0 := by
  have ht : (L.take i).length = i := by simp; omega
  split
  · rename_i h
    rw [List.getD_eq_getElem?_getD, List.getElem?_append_left (by omega), List.getElem?_take, if_pos h, List.getD_eq_getElem?_getD]
  · rename_i h
    rw [List.getD_eq_getElem?_getD, List.getElem?_append_right (by omega), ht]
    split
    · rename_i h2; rw [h2, Nat.sub_self]; rfl
    · rename_i h2
      obtain ⟨d, hd⟩ : ∃ d, j - i = d + 1 := ⟨j - i - 1, by omega⟩
      rw [hd, List.getElem?_cons_succ, List.getElem?_drop, show i + d = j - 1 by omega, List.getD_eq_getElem?_getD]
theorem ins_len (L : List Nat) (i x : Nat) (hi : i ≤ L.length) : (L.take i ++ x :: L.drop i).length = L.length + 1 := by
  simp; omega
/-- The pointer cells of a chain: the first one's variable, the links' own. -/
def atB (gs : List Nat) (Bf i : Nat) : Nat := if i = 0 then Bf else gs.getD (i - 1) 0
def atO (i : Nat) : Nat := if i = 0 then 0 else 1
/-- Where the loop stands: a chain of the call's own. -/
structure Fw (w : World) (n : Int) (a : Option Addr) (cap : Nat) (l : List Int) (Bf : Nat) (ps gs : List Nat) (W : World) : Prop where
  ch : Ch W gs ps (.pointer none)
  nd : gs.Nodup
  lo : ∀ g ∈ gs, Bf < g ∧ g < W.heap.size
  fst : Boxed W Bf 54 (pV gs 0 (.pointer none))
  xt : Box W w.heap.size 25 (.int .i64 n) (.slice a l.length cap)
  hb : Below w.heap.size w W
  bf : w.heap.size < Bf
section
variable {w W W2 : World} {n : Int} {a : Option Addr} {cap : Nat} {l : List Int} {Bf : Nat} {ps gs : List Nat}
theorem Fw.below (h : Fw w n a cap l Bf ps gs W) (hb : Below W.heap.size W W2) : Fw w n a cap l Bf ps gs W2 :=
  ⟨h.ch.below hb, h.nd, fun g hg => ⟨(h.lo g hg).1, Nat.lt_of_lt_of_le (h.lo g hg).2 hb.size⟩, (hb.block _ h.fst.lt).trans h.fst, h.xt.below hb h.xt.lt, h.hb.trans (hb.mono h.hb.size), h.bf⟩
/-- The pointer cell at a place. -/
theorem Fw.at (h : Fw w n a cap l Bf ps gs W) {i : Nat} (hi : i ≤ ps.length) : W.cell? ⟨atB gs Bf i, atO i, none⟩ = some (pV gs i (.pointer none)) ∧ W.frozen? ⟨atB gs Bf i, atO i, none⟩ = false ∧ atB gs Bf i < W.heap.size ∧ Bf ≤ atB gs Bf i := by
  unfold atB atO
  by_cases h0 : i = 0
  · subst h0
    exact ⟨h.fst.cell, h.fst.frozen, h.fst.lt, Nat.le_refl _⟩
  · rw [if_neg h0, if_neg h0]
    have hn := h.ch.node (i - 1) (by omega)
    rw [show i - 1 + 1 = i by omega] at hn
    have hlo := h.lo (gs.getD (i - 1) 0) (getD_mem (by have := h.ch.len; omega))
    exact ⟨hn.c1, hn.f1, hlo.2, Nat.le_of_lt hlo.1⟩
/-- A further link at a place. -/
theorem Fw.ins (h : Fw w n a cap l Bf ps gs W) {i x : Nat} (hi : i ≤ ps.length) {W3 : World} (hW3 : W3 = (W.alloc (.cells #[.int .i64 (x : Int), pV gs i (.pointer none)] 57)).setCell ⟨atB gs Bf i, atO i, none⟩ (.pointer (some ⟨W.heap.size, 0, none⟩))) :
    Fw w n a cap l Bf (ps.take i ++ x :: ps.drop i) (gs.take i ++ W.heap.size :: gs.drop i) W3 := by
  have hlen := h.ch.len
  have hat := h.at hi
  obtain ⟨W2, hW2⟩ : ∃ W2, W2 = W.alloc (.cells #[.int .i64 (x : Int), pV gs i (.pointer none)] 57) := ⟨_, rfl⟩
  rw [← hW2] at hW3
  have b2 : Below W.heap.size W W2 := by rw [hW2]; exact (Below.refl _ _).alloc (Nat.le_refl _) _
  have hg3 : W2.grownBy W3 (some (atB gs Bf i)) := by rw [hW3]; exact grownBy_setAt W2 _ _ _
  have xn : Box W2 W.heap.size 57 (.int .i64 (x : Int)) (pV gs i (.pointer none)) := by rw [hW2]; exact Box.new _ _ _ _
  have xn3 := xn.grown hg3 (fun e => by have := Option.some.inj e; have := hat.2.2.1; omega)
  have h2 := h.below b2
  have s3 : W3.heap.size = W.heap.size + 1 := by
    have h1 : W2.heap.size = W.heap.size + 1 := by rw [hW2]; simp
    rw [hW3]; simp [h1]
  -- a link that is not turned
  have keep : ∀ j, j < ps.length → (i ≠ j + 1) → Box W3 (gs.getD j 0) 57 (.int .i64 ((ps.getD j 0 : Nat) : Int)) (pV gs (j + 1) (.pointer none)) := fun j hj hne => by
    refine (h2.ch.node j hj).grown hg3 (fun e => ?_)
    have e2 : atB gs Bf i = gs.getD j 0 := Option.some.inj e
    unfold atB at e2
    split at e2
    · have := (h.lo (gs.getD j 0) (getD_mem (by omega))).1; omega
    · exact getD_ne h.nd (i := i - 1) (j := j) (by omega) (by omega) (by omega) e2
  refine ⟨⟨by rw [ins_len _ _ _ (by omega), ins_len _ _ _ hi, hlen], fun j hj => ?_⟩, ?_, fun g hg => ?_, ?_, ?_, ?_, h.bf⟩
  · rw [ins_len _ _ _ hi] at hj
    rw [ins_getD _ _ _ _ (by omega), ins_getD _ _ _ _ hi]
    have hpv : pV (gs.take i ++ W.heap.size :: gs.drop i) (j + 1) (.pointer none) = if j + 1 < i then pV gs (j + 1) (.pointer none) else if j + 1 = i then .pointer (some ⟨W.heap.size, 0, none⟩) else pV gs j (.pointer none) := by
      unfold pV
      rw [ins_len _ _ _ (by omega), ins_getD _ _ _ _ (by omega)]
      split
      · rename_i h1
        by_cases h3 : j + 1 < i
        · rw [if_pos h3, if_pos h3, if_pos (by omega)]
        · rw [if_neg h3, if_neg h3]
          by_cases h4 : j + 1 = i
          · rw [if_pos h4, if_pos h4]
          · rw [if_neg h4, if_neg h4, if_pos (by omega), Nat.add_sub_cancel]
      · rename_i h1
        rw [if_neg (by omega), if_neg (by omega), if_neg (by omega)]
    rw [hpv]
    by_cases h1 : j < i
    · rw [if_pos h1, if_pos h1]
      by_cases h3 : j + 1 < i
      · rw [if_pos h3]; exact keep j (by omega) (by omega)
      · obtain rfl : i = j + 1 := by omega
        rw [if_neg (by omega), if_pos rfl]
        have hn := h2.ch.node j (by omega)
        have e : atB gs Bf (j + 1) = gs.getD j 0 := by unfold atB; rw [if_neg (by omega), Nat.add_sub_cancel]
        have e2 : atO (j + 1) = 1 := by unfold atO; rw [if_neg (by omega)]
        rw [hW3, e, e2]
        exact hn.set1 _
    · rw [if_neg h1, if_neg h1]
      by_cases h3 : j = i
      · subst h3
        rw [if_pos rfl, if_pos rfl, if_neg (by omega), if_neg (by omega)]
        exact xn3
      · rw [if_neg h3, if_neg h3, if_neg (by omega), if_neg (by omega)]
        have := keep (j - 1) (by omega) (by omega)
        rw [show j - 1 + 1 = j by omega] at this
        exact this
  · refine (List.perm_middle (a := W.heap.size) (l₁ := gs.take i) (l₂ := gs.drop i)).nodup_iff.2 ?_
    rw [List.take_append_drop, List.nodup_cons]
    exact ⟨fun hm => by have := (h.lo _ hm).2; omega, h.nd⟩
  · have hm := (List.perm_middle (a := W.heap.size) (l₁ := gs.take i) (l₂ := gs.drop i)).mem_iff.1 hg
    rw [List.take_append_drop] at hm
    rcases List.mem_cons.1 hm with rfl | hm
    · have := h.fst.lt; omega
    · have := h.lo g hm; omega
  · have hp0 : pV (gs.take i ++ W.heap.size :: gs.drop i) 0 (.pointer none) = if i = 0 then .pointer (some ⟨W.heap.size, 0, none⟩) else pV gs 0 (.pointer none) := by
      unfold pV
      rw [ins_len _ _ _ (by omega), ins_getD _ _ _ _ (by omega), if_pos (by omega)]
      by_cases h0 : i = 0
      · rw [if_pos h0, if_neg (by omega), if_pos h0.symm]
      · rw [if_neg h0, if_pos (by omega), if_pos (by omega)]
    rw [hp0]
    by_cases h0 : i = 0
    · rw [if_pos h0, hW3]
      subst h0
      exact h2.fst.set _
    · rw [if_neg h0]
      refine h2.fst.kept hg3 (fun e => ?_)
      have e2 : Bf = atB gs Bf i := by simpa using e
      unfold atB at e2
      rw [if_neg h0] at e2
      have := (h.lo (gs.getD (i - 1) 0) (getD_mem (by omega))).1
      omega
  · exact h2.xt.grown hg3 (fun e => by have := Option.some.inj e; have := h.bf; have := hat.2.2.2; omega)
  · exact h2.hb.grown hg3 h2.hb.size (fun k e => by have := Option.some.inj e; have := h.bf; have := hat.2.2.2; omega)
end
/-- How far the pointer has come. -/
def posn (gs : List Nat) : Value → Nat
  | .pointer (some p) => if p.off = 0 then 0 else gs.idxOf p.block + 1
  | _ => 0
theorem posn_at {gs : List Nat} (hnd : gs.Nodup) (Bf : Nat) {i : Nat} (hi : i ≤ gs.length) : posn gs (.pointer (some ⟨atB gs Bf i, atO i, none⟩)) = i := by
  unfold posn atB atO
  by_cases h0 : i = 0
  · rw [if_pos h0]; simp [h0]
  · rw [if_neg h0, if_neg h0]
    simp only [if_neg (show ¬ (1 : Nat) = 0 by omega)]
    have hlt : i - 1 < gs.length := by omega
    rw [List.getD_eq_getElem?_getD, List.getElem?_eq_getElem hlt, Option.getD_some, hnd.idxOf_getElem]
    omega
end Go.Proofs.Ytgjogbihadiojaa
namespace Go.Proofs.Ytgjogbihadiojaa
open Go.ChangeShapes Go.WideShapes Go.ChangeAt Go.RowKit Go.Shelf
set_option linter.unusedVariables false

theorem pV_ptr (gs : List Nat) (i : Nat) : ∃ po : Option Addr, .pointer po = pV gs i (.pointer none) := by
  unfold pV
  split
  · exact ⟨_, rfl⟩
  · exact ⟨_, rfl⟩

set_option maxRecDepth 100000 in
set_option maxHeartbeats 2000000 in
theorem implFullWay (n : Int) (a : Option Addr) (l : List Int) (cap : Nat) (w : World) (hrow : IntRow w a l) (hl : l.length ≤ maxLen) :
    Calls Try.prog 16 #[.agg #[.int .i64 n, .slice a l.length cap]] w (RetR w (fwR n l)) := by
  obtain ⟨Wa, hWa⟩ : ∃ Wa, Wa = w.alloc (.cells #[.int .i64 n, .slice a l.length cap] 25) := ⟨_, rfl⟩
  have HWa := Lib.hid hWa
  have hba : Below w.heap.size w Wa := by rw [hWa]; exact (Below.refl _ _).alloc (Nat.le_refl _) _
  have xa : Box Wa w.heap.size 25 (.int .i64 n) (.slice a l.length cap) := by rw [hWa]; exact Box.new _ _ _ _
  have hrowa : IntRow Wa a l := hrow.below hba (Nat.le_refl _)
  have HL := Lib.hid hl
  have HRW := Lib.hid hrow
  clear hl hrow hWa
  cases hok : okB n l
  · have HO := Lib.hid hok
    have HE : Hid (fwR n l = []) := by show _ = _; unfold fwR; rw [hok]; rfl
    clear hok
    go_enter Try.func16, Try.ntmps16
    go_wp2_with fail
    rw [← HWa.out]
    refine (implTourOk n a l cap Wa hrowa HL.out).mono ?_
    rintro e w1 ⟨rfl, hb1⟩
    rw [HO.out]
    have B1 := Lib.hid (hba.trans (hb1.mono hba.size))
    clear hb1
    go_wp2
    go_ret
    exact ⟨⟨_, rfl, by rw [HE.out]; exact World.ownsRow_nil _ _ _ _⟩, B1.out⟩
  have HO := Lib.hid hok
  have hk := okB_iff.1 hok
  have HE : Hid (fwR n l = Hw.fwL (ww l) l.length) := by show _ = _; unfold fwR; rw [hok]; rfl
  have HK := Lib.hid hk
  have hnl := hk.2.2.1
  have hl8 : l.length ≤ 8 := by have := hk.2.1; omega
  have hl1 : 1 ≤ l.length := by have := hk.1; omega
  subst hnl
  clear hok hk
  go_enter Try.func16, Try.ntmps16
  go_wp2_with fail
  rw [← HWa.out]
  refine (implTourOk _ a l cap Wa hrowa HL.out).mono ?_
  rintro e w1 ⟨rfl, hb1⟩
  rw [HO.out]
  have xa1 := xa.below hb1 xa.lt
  have bw1 := hba.trans (hb1.mono hba.size)
  obtain ⟨W2, hW2⟩ : ∃ W2, W2 = w1.alloc (.cells #[.pointer none] 54) := ⟨_, rfl⟩
  have hb2 : Below w1.heap.size w1 W2 := by rw [hW2]; exact (Below.refl _ _).alloc (Nat.le_refl _) _
  have xf : Boxed W2 w1.heap.size 54 (.pointer none) := by rw [hW2]; exact Boxed.new _ _ _
  have xa2 := xa1.below hb2 xa1.lt
  have hst : Fw w (l.length : Int) a cap l w1.heap.size [] [] W2 :=
    ⟨⟨rfl, fun i hi => absurd hi (Nat.not_lt_zero _)⟩, List.nodup_nil, fun g hg => absurd hg (by simp), xf, xa2, bw1.trans (hb2.mono bw1.size), xa1.lt⟩
  have c0 := xa2.c0
  have c1 := xa2.c1
  rw [hW2] at c0 c1
  have HW2 := Lib.hid hW2
  have HST := Lib.hid hst
  clear hW2 hst xf xa2 hb2 bw1 xa1 hb1 xa hba hrowa
  go_wp2
  rw [← HW2.out]
  clear c0 c1
  go_loopw [11] (fun i wr => ∃ (k : Nat) (gs : List Nat), k ≤ l.length ∧ i = .int .i64 (k : Int) ∧ Fw w (l.length : Int) a cap l w1.heap.size (Hw.fwL (ww l) k) gs wr) (fun i _ => l.length - (intOf i).toNat)
  case atStart => exact ⟨0, [], Nat.zero_le _, rfl, HST.out⟩
  case round =>
    clear HST HW2
    obtain ⟨k, gs, hk, rfl, hfw⟩ := hrel
    have hpl := Hw.fwL_len (ww l) k
    have hgl : gs.length = k := by rw [hfw.ch.len, hpl]
    by_cases hlt : k < l.length
    · have hkb : (k : Int) < (l.length : Int) := by omega
      obtain ⟨ps, hps⟩ : ∃ ps, ps = Hw.fwL (ww l) k := ⟨_, rfl⟩
      rw [← hps] at hfw hpl
      have HPS := Lib.hid hps
      have HFW := Lib.hid hfw
      have HPL := Lib.hid hpl
      have HGL := Lib.hid hgl
      have HSM : Hid (∀ x ∈ ps, x < l.length) := fun x hx => by rw [hps] at hx; have := Hw.fwL_mem.1 hx; omega
      have hat0 : Hid (atB gs w1.heap.size 0 = w1.heap.size ∧ atO 0 = 0) := ⟨rfl, rfl⟩
      clear hps hfw hpl hgl
      obtain ⟨wo, rfl⟩ : ∃ wo, wo = wr := ⟨_, rfl⟩
      go_wp2
      go_loopw [5] (fun q w2 => ∃ i : Nat, i ≤ k ∧ q = .pointer (some ⟨atB gs w1.heap.size i, atO i, none⟩) ∧ Hid (∀ j, j < i → (ww l k).testBit (ps.getD j 0) = false) ∧ Below wo.heap.size wo w2) (fun q _ => k - posn gs q)
      case atStart => exact ⟨0, Nat.zero_le _, rfl, fun j hj => absurd hj (Nat.not_lt_zero _), Below.refl _ _⟩
      case round =>
        obtain ⟨i, hik, rfl, hno, hb⟩ := hrel
        have hf := HFW.out.below hb
        obtain ⟨hc, hz, hlt2, hge2⟩ := hf.at (i := i) (by rw [HPL.out]; exact hik)
        obtain ⟨AB, hAB⟩ : ∃ AB, AB = atB gs w1.heap.size i := ⟨_, rfl⟩
        obtain ⟨AO, hAO⟩ : ∃ AO, AO = atO i := ⟨_, rfl⟩
        rw [← hAB, ← hAO] at hc
        rw [← hAB, ← hAO]
        have HAB := Lib.hid hAB
        have HAO := Lib.hid hAO
        have HB := Lib.hid hb
        have HF := Lib.hid hf
        have t0 := hf.xt.c0
        have t1 := hf.xt.c1
        have hq0 := fun d os => cell_regrown t0 d os
        have hq1 := fun d os => cell_regrown t1 d os
        have hrr := HRW.out.below hf.hb (Nat.le_refl _)
        have hrq : ∀ d os, IntRow (Go.Sort.grow (redrawn wr d) os) a l := fun d os => hrr.below (below_regrown wr d os) (Nat.le_refl _)
        by_cases hik2 : i < k
        · rw [pV_lt _ (by rw [HGL.out]; exact hik2)] at hc
          obtain ⟨gi, hgi⟩ : ∃ gi, gi = gs.getD i 0 := ⟨_, rfl⟩
          obtain ⟨x, hx⟩ : ∃ x, x = ps.getD i 0 := ⟨_, rfl⟩
          have hnd := hf.ch.node i (by rw [HPL.out]; exact hik2)
          rw [← hgi, ← hx] at hnd
          rw [← hgi] at hc
          have hqc := fun d os => cell_regrown hc d os
          have n0 := hnd.c0
          have hqn := fun d os => cell_regrown n0 d os
          have hxl : x < l.length := HSM.out x (by rw [hx]; exact getD_mem (by rw [HPL.out]; exact hik2))
          have cB : ∀ (b : Bool), (ww l k).testBit x = b → ∀ d os, Calls Try.prog 57 #[.agg #[.int .i64 (l.length : Int), .slice a l.length cap], .int .i64 (k : Int), .int .i64 (x : Int)] (Go.Sort.grow (redrawn wr d) os) fun e w'' => e = .returned (.bool b) ∧ ∃ p : Regrown, w'' = Go.Sort.grow (redrawn wr p.d) p.os :=
            fun b hb2 d os => Calls.regrown_of ((beats_any _ _ l cap k x _ (hrq d os) HL.out hlt (by omega)).mono fun e w' ⟨he, hw⟩ => ⟨by rw [he, wwBit HK.out hlt, hb2], hw⟩)
          have HGI := Lib.hid hgi
          have HX := Lib.hid hx
          cases hbe : (ww l k).testBit x
          · have cB0 := cB false hbe
            have HNN : Hid (∀ j, j < i + 1 → (ww l k).testBit (ps.getD j 0) = false) := fun j hj => by
              by_cases e : j = i
              · rw [e, ← HX.out]; exact hbe
              · exact hno.out j (by omega)
            clear hf hb hAB hAO hrr hrq hnd hgi hx cB hbe hno
            go_wp2
            refine wp_region_quiet_below (by kernel_rfl) (by kernel_rfl) ?_
            repeat (go_big_quiet_step (exact cB0 _ _))
            refine wpQuiet_nil ?_
            intro wq hw'
            have hbq : Below wr.heap.size wr wq := by obtain ⟨⟨dq, osq⟩, hw''⟩ := hw'; rw [hw'']; exact below_regrown wr dq osq
            have HFQ := Lib.hid (HF.out.below hbq)
            have HB2 := Lib.hid (HB.out.trans (hbq.mono HB.out.size))
            have hfq := HFQ.out
            have hat := hfq.at (i := i) (by rw [HPL.out]; omega)
            rw [← HAB.out, ← HAO.out, pV_lt _ (by rw [HGL.out]; exact hik2), ← HGI.out] at hat
            obtain ⟨d1, d2, d3, d4⟩ := hat
            have HNP : Hid (Value.pointer (some ⟨gi, 1, none⟩) = .pointer (some ⟨atB gs w1.heap.size (i + 1), atO (i + 1), none⟩)) := by
              show _ = _
              rw [HGI.out]; unfold atB atO
              rw [if_neg (by omega), if_neg (by omega), Nat.add_sub_cancel]
            have HM1 : Hid (posn gs (.pointer (some ⟨AB, AO, none⟩)) = i) := by show _ = _; rw [HAB.out, HAO.out]; exact posn_at HFW.out.nd _ (by rw [HGL.out]; omega)
            have HM2 : Hid (posn gs (.pointer (some ⟨gi, 1, none⟩)) = i + 1) := by show _ = _; rw [HNP.out]; exact posn_at HFW.out.nd _ (by rw [HGL.out]; omega)
            clear hw' hbq hfq hq0 hq1 hqc hqn cB0 hc n0 t0 t1 d2 d4
            go_wp2
            go_roundw
            case rel => exact ⟨i + 1, by omega, HNP.out, HNN.out, HB2.out⟩
            case measure =>
              show k - posn gs (.pointer (some ⟨gi, 1, none⟩)) < k - posn gs (.pointer (some ⟨AB, AO, none⟩))
              rw [HM1.out, HM2.out]; omega
          · have cB0 := cB true hbe
            have HYES : Hid (i < k → (ww l k).testBit (ps.getD i 0) = true) := fun _ => by rw [← HX.out]; exact hbe
            clear hf hb hAB hAO hrr hrq hnd hgi hx cB hbe
            go_wp2
            refine wp_region_quiet_below (by kernel_rfl) (by kernel_rfl) ?_
            repeat (go_big_quiet_step (exact cB0 _ _))
            refine wpQuiet_nil ?_
            intro wq hw'
            have hbq : Below wr.heap.size wr wq := by obtain ⟨⟨dq, osq⟩, hw''⟩ := hw'; rw [hw'']; exact below_regrown wr dq osq
            have HFQ := Lib.hid (HF.out.below hbq)
            have HB2 := Lib.hid (HB.out.trans (hbq.mono HB.out.size))
            clear hw' hbq hq0 hq1 hqc hqn cB0 hc n0 t0 t1
            have hfq := HFQ.out
            have hat := hfq.at (i := i) (by rw [HPL.out]; omega)
            rw [← HAB.out, ← HAO.out] at hat
            obtain ⟨po, hpv⟩ : ∃ po : Option Addr, .pointer po = pV gs i (.pointer none) := pV_ptr gs i
            obtain ⟨W3, hW3⟩ : ∃ W3, W3 = (wq.alloc (.cells #[.int .i64 (k : Int), .pointer po] 57)).setCell ⟨AB, AO, none⟩ (.pointer (some ⟨wq.heap.size, 0, none⟩)) := ⟨_, rfl⟩
            have hins := hfq.ins (i := i) (x := k) (by rw [HPL.out]; omega) (W3 := W3) (by rw [hW3, HAB.out, HAO.out, hpv])
            have HIN : Hid (Fw w (l.length : Int) a cap l w1.heap.size (Hw.fwL (ww l) (k + 1)) (gs.take i ++ wq.heap.size :: gs.drop i) W3) := by
              show Fw _ _ _ _ _ _ _ _ _
              have e : Hw.fwL (ww l) (k + 1) = ps.take i ++ k :: ps.drop i := by
                show Hw.insW (ww l) k (Hw.fwL (ww l) k) = _
                rw [← HPS.out]
                exact insW_at ps i (by rw [HPL.out]; omega) hno.out (by rw [HPL.out]; exact HYES.out)
              rw [e]; exact hins
            have hba2 : Below wq.heap.size wq (wq.alloc (.cells #[.int .i64 (k : Int), .pointer po] 57)) := (Below.refl _ _).alloc (Nat.le_refl _) _
            have hat2 := (hfq.below hba2).at (i := i) (by rw [HPL.out]; omega)
            rw [← HAB.out, ← HAO.out, ← hpv] at hat2
            obtain ⟨e1, e2, e3, e4⟩ := hat2
            rw [← hpv] at hat
            obtain ⟨d1, d2, d3, d4⟩ := hat
            rw [set_alloc _ _ _ _ _ d3] at hW3
            have HW3 := Lib.hid hW3
            clear hfq hpv hins hba2 hW3 d2 d4 e3 e4 hno HYES
            go_wp2
            rw [← HW3.out]
            go_roundw
            case rel => exact ⟨k + 1, _, by omega, by go_num, HIN.out⟩
            case measure => simp [intOf]; omega
        · obtain rfl : k = i := by omega
          rw [pV_ge _ (by rw [HGL.out]; omega)] at hc
          have hqc := fun d os => cell_regrown hc d os
          have HYES : Hid (k < k → (ww l k).testBit (ps.getD k 0) = true) := fun h => absurd h (Nat.lt_irrefl _)
          have cB0 := fun (x : Nat) (hx : x < 64) d os => (Calls.regrown_of (beats_any (l.length : Int) a l cap k x (Go.Sort.grow (redrawn wr d) os) (hrq d os) HL.out hlt hx))
          clear hf hb hAB hAO hrr hrq
          go_wp2
          refine wp_region_quiet_below (by kernel_rfl) (by kernel_rfl) ?_
          repeat (go_big_quiet_step (exact cB0 _ (by omega) _ _))
          refine wpQuiet_nil ?_
          intro wq hw'
          have hbq : Below wr.heap.size wr wq := by obtain ⟨⟨dq, osq⟩, hw''⟩ := hw'; rw [hw'']; exact below_regrown wr dq osq
          have HFQ := Lib.hid (HF.out.below hbq)
          have HB2 := Lib.hid (HB.out.trans (hbq.mono HB.out.size))
          clear hw' hbq hq0 hq1 hqc cB0 hc t0 t1
          have hfq := HFQ.out
          have hat := hfq.at (i := k) (by rw [HPL.out]; omega)
          rw [← HAB.out, ← HAO.out] at hat
          obtain ⟨po, hpv⟩ : ∃ po : Option Addr, .pointer po = pV gs k (.pointer none) := pV_ptr gs k
          obtain ⟨W3, hW3⟩ : ∃ W3, W3 = (wq.alloc (.cells #[.int .i64 (k : Int), .pointer po] 57)).setCell ⟨AB, AO, none⟩ (.pointer (some ⟨wq.heap.size, 0, none⟩)) := ⟨_, rfl⟩
          have hins := hfq.ins (i := k) (x := k) (by rw [HPL.out]; omega) (W3 := W3) (by rw [hW3, HAB.out, HAO.out, hpv])
          have HIN : Hid (Fw w (l.length : Int) a cap l w1.heap.size (Hw.fwL (ww l) (k + 1)) (gs.take k ++ wq.heap.size :: gs.drop k) W3) := by
            show Fw _ _ _ _ _ _ _ _ _
            have e : Hw.fwL (ww l) (k + 1) = ps.take k ++ k :: ps.drop k := by
              show Hw.insW (ww l) k (Hw.fwL (ww l) k) = _
              rw [← HPS.out]
              exact insW_at ps k (by rw [HPL.out]; omega) hno.out (by rw [HPL.out]; exact HYES.out)
            rw [e]; exact hins
          have hba2 : Below wq.heap.size wq (wq.alloc (.cells #[.int .i64 (k : Int), .pointer po] 57)) := (Below.refl _ _).alloc (Nat.le_refl _) _
          have hat2 := (hfq.below hba2).at (i := k) (by rw [HPL.out]; omega)
          rw [← HAB.out, ← HAO.out, ← hpv] at hat2
          obtain ⟨e1, e2, e3, e4⟩ := hat2
          rw [← hpv] at hat
          obtain ⟨d1, d2, d3, d4⟩ := hat
          rw [set_alloc _ _ _ _ _ d3] at hW3
          have HW3 := Lib.hid hW3
          clear hfq hpv hins hba2 hW3 d2 d4 e3 e4 hno HYES
          go_wp2
          rw [← HW3.out]
          go_roundw
          case rel => exact ⟨k + 1, _, by omega, by go_num, HIN.out⟩
          case measure => simp [intOf]; omega
    · obtain rfl : k = l.length := by omega
      have hch := hfw.ch
      have hpa := players_any gs (Hw.fwL (ww l) l.length) wr hch (by rw [hpl]; omega)
      rw [hpl] at hpa
      have d0 := hfw.fst.cell
      obtain ⟨pv, hpv⟩ : ∃ pv, pv = pV gs 0 (.pointer none) := ⟨_, rfl⟩
      rw [← hpv] at hpa d0
      have HPA := Lib.hid hpa
      have HBF := Lib.hid hfw.hb
      clear hfw hch hpa hpl hgl hpv
      go_wp2_with fail
      refine HPA.out.mono ?_
      rintro e w5 ⟨⟨g, c, rfl, hown⟩, hb5⟩
      have HO5 := Lib.hid (hown.mono HBF.out.size)
      have B5 := Lib.hid (HBF.out.trans (hb5.mono HBF.out.size))
      have HLEN := Hw.fwL_len (ww l) l.length
      have HLN := Lib.hid HLEN
      clear hown hb5 d0 HLEN
      go_wp2
      go_ret
      exact ⟨⟨_, rfl, by rw [HE.out, HLN.out]; exact HO5.out⟩, B5.out⟩
end Go.Proofs.Ytgjogbihadiojaa
