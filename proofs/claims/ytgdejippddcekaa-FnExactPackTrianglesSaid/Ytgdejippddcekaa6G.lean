/-
  'TrianglesOf' of the program: what the iterator gives, collected. No conditions but the bounds that Go gives a slice.
-/
import Derived.Test.Ytgdejippddcekaa6F
namespace Go.Proofs.Ytgdejippddcekaa
open Go.ChangeShapes Go.WideShapes Go.ChangeAt Go.RowKit Go.Shelf
attribute [local go_sem] Oper.semAt_some
set_option linter.unusedVariables false

/-- What lies below B, and whatever is no slice of slices, is kept. -/
def RC (B : Nat) (k : Nat) (o : Obj) : Prop := k < B ∨ (∀ cur, o ≠ .cells cur 22 (0, 0)) ∧ ∀ cur, o ≠ .cells cur 26 (0, 0)
theorem RC.other (B k : Nat) (cur : Array Value) (t : TypeId) (h1 : t ≠ 22) (h2 : t ≠ 26) : RC B k (.cells cur t (0, 0)) :=
  .inr ⟨fun c e => h1 (by simp only [Obj.cells.injEq] at e; exact e.2.1), fun c e => h2 (by simp only [Obj.cells.injEq] at e; exact e.2.1)⟩
theorem RC.fresh (B B2 : Nat) : FreshR (RC B) B2 := ⟨fun k c _ => RC.other B k c _ (by decide) (by decide), fun k v0 v1 _ => RC.other B k _ _ (by decide) (by decide), fun k v _ => RC.other B k _ _ (by decide) (by decide)⟩
theorem RC.not (B g : Nat) (cur : Array Value) (t : TypeId) (h : B ≤ g) (ht : t = 22 ∨ t = 26) : ¬ RC B g (.cells cur t (0, 0)) := by
  rintro (h1 | ⟨h1, h2⟩)
  · omega
  · rcases ht with rfl | rfl
    · exact h1 _ rfl
    · exact h2 _ rfl
theorem grown_blk {A C : World} {a : Option Addr} {n c : Nat} (h : A.grownBy C (Value.slice a n c).ownBlock) : A.grownBy C (blk a) := by rw [← blk_own a n c]; exact h
theorem IntRow.low {w : World} {a : Option Addr} {l : List Int} (h : IntRow w a l) (hl : 1 ≤ l.length) : ∀ b, blk a = some b → b < w.heap.size := by
  intro b e
  rcases h with h | ⟨b2, off, rfl, hb, _⟩
  · rw [h] at hl; simp at hl
  · simp [blk] at e; omega

set_option maxRecDepth 100000 in
set_option maxHeartbeats 2000000 in
theorem appendSeqT (Bt : Nat) (n : Int) (a : Option Addr) (cap : Nat) (l : List Int) (hok : Ok n l) (w : World) (hbox : Box w Bt 28 (.int .i64 n) (.slice a l.length cap)) (hrow : IntRow w a l) :
    Calls Try.prog 50 #[.slice none 0 0, .func (.func 51) #[] #[.pointer (some ⟨Bt, 0, none⟩)]] w (RetSS w (triL l)) := by
  obtain ⟨i0, hi, hz0, hz1, hz2⟩ := info_parts infoSl
  have hl8 : l.length ≤ 8 := by have := hok.2.1; have := hok.2.2.1; omega
  have hl1 : 1 ≤ l.length := by have := hok.1; have := hok.2.2.1; omega
  have hlow := hrow.low hl1
  obtain ⟨W1, hW1⟩ : ∃ W1, W1 = w.alloc (.cells #[.slice none 0 0] 26) := ⟨_, rfl⟩
  have hb1 : Below w.heap.size w W1 := by rw [hW1]; exact (Below.refl _ _).alloc (Nat.le_refl _) _
  have x1 : Boxed W1 w.heap.size 26 (.slice none 0 0) := by rw [hW1]; exact Boxed.new _ _ _
  have hs1 : w.heap.size < W1.heap.size := x1.lt
  have XT := Lib.hid (hbox.below hb1 hbox.lt)
  have HR := Lib.hid (hrow.below hb1 (Nat.le_refl _))
  have HW1 := Lib.hid hW1
  have HB1 := Lib.hid hb1
  have HX1 := Lib.hid x1
  have HOK := Lib.hid hok
  have hBt : RC w.heap.size Bt (.cells #[.int .i64 n, .slice a l.length cap] 28 (0, 0)) := RC.other _ _ _ _ (by decide) (by decide)
  clear hW1 hb1 x1 hbox hrow hok
  refine (callsIn_wide (n := 8)).1 ?_
  refine callsIn_of_wp_marks Try.func50 rfl trivial ?_ rfl
  simp only [Try.ntmps50, List.size_toArray, List.length_cons, List.length_nil, Nat.reduceAdd, Nat.reduceSub, Array.replicate_succ, Array.replicate_zero, List.push_toArray, List.append_toArray, List.nil_append, List.cons_append]
  gi_wp2
  rw [← HW1.out]
  refine rangeY (F := Fence.wide) rfl (by omega) (gf := 51) (lb := #[.pointer (some ⟨Bt, 0, none⟩)]) rfl trivial (enters_of Try.func51 (by kernel_rfl) rfl)
    (tri_stops Bt (W1.heap.size + 2) (RC w.heap.size) n a cap l HOK.out W1 XT.out HR.out hBt (fun b o e => .inl (hlow b e)) (RC.fresh _ _))
    (fun h k => h.trans k) (fun W l o o2 h hc => KeepR.put W l o o2 h hc) (fun pre x W l o o2 _ ho hc h => h.put l o o2 ho hc) (Below.refl _ _) (fun _ => rfl)
    (fun pre W => (∃ a1 c1, Col W w.heap.size w.heap.size a1 c1 pre) ∧ Below w.heap.size w W ∧ ∀ y ∈ pre, y.1.length = 3)
    (fun _ _ _ => False)
    (fun s A B row hs hg hr => ⟨by obtain ⟨a1, c1, h⟩ := hs.1; exact ⟨a1, c1, h.turn hg (fun r e => (hr r e).2)⟩, ownFrom_below (β := Unit) (Nat.le_refl _) (Nat.le_of_lt hs1) () A B row hs.2.1 hg hr, hs.2.2⟩)
    (fun _ _ _ _ _ hs _ _ => hs)
    ⟨⟨none, 0, HX1.out, OwnSS.nil _ _⟩, HB1.out, fun _ h => absurd h (by simp)⟩
    (fun x => { tmps := #[.slice none 0 0, .func (.func 51) #[] #[.pointer (some ⟨Bt, 0, none⟩)], .pointer (some ⟨w.heap.size, 0, none⟩), undef, .slice none 0 0, .slice (some ⟨x.2, 0, none⟩) 3 3, .func (.func 51) #[] #[.pointer (some ⟨Bt, 0, none⟩)], .slice (some ⟨x.2, 0, none⟩) 3 3, undef, undef, undef, undef, undef], defers := [] }) ?assign ?body ?done ?stop
  case assign =>
    intro lg x W K hK
    unfold encT
    gi_wp2
    exact hK
  case body =>
    rintro lg pre x W ⟨⟨a1, c1, hcol⟩, hB, h3⟩ hy
    have hvc := hcol.bx.cell
    have hx3 := hy.len
    have hpos := hy.pos hl8
    have hsz := hB.size
    have hlow2 : w.heap.size ≤ x.2 := by have := hy.low; omega
    have hout : W.ownsRow w.heap.size 22 1 (.slice a1 pre.length c1) pre.length (svs (gsT pre) (pre.map Prod.fst)) := by have := hcol.ss.out; rwa [List.length_map] at this
    have HC := Lib.hid hcol
    have HB := Lib.hid hB
    have HY := Lib.hid hy
    have H3 := Lib.hid h3
    have HX3 := Lib.hid hx3
    have HO := Lib.hid hout
    clear hcol hB hy h3 hx3 hout
    gi_wp2_with (gi_at_builtin; refine wpListIn_append_own _ rfl _ _ 26 rfl w.heap.size 22 i0 (.slice none 0 0) 1 24 Try.underlying26 hi hz0 hz1 hz2 rfl (by decide) _ _ _ rfl (HO.out.alloc _) ⟨W.heap.size, 0, none⟩ 1 1 [.slice (some ⟨x.2, 0, none⟩) 3 3] rfl rfl (cell_one_new _ _ _) (by intro u hu; simp at hu; subst hu; rfl) (by unfold maxLen; omega) (by omega) (by simp; omega) ?_; intro v' w1 hown' hgrow _; obtain ⟨g', cap', rfl⟩ := ownsRow_succ hown'; replace hgrow := grown_blk (a := a1) (n := pre.length) (c := c1) hgrow; obtain ⟨hcol2, hv1, hk2, hb2, hkr⟩ := HC.out.push (R := RC w.heap.size) hsz (Nat.le_refl _) HY.out.row HX3.out hlow2 HY.out.after (fun g cur t hg ht => RC.not w.heap.size g cur t hg ht) hown' hgrow; have hc1 := hv1.cell; have hf1 := hv1.frozen)
    exact ⟨hk2.from _, hkr, ⟨_, _, hcol2⟩, HB.out.trans hb2, fun y hy => by
      rcases List.mem_append.1 hy with h | h
      · exact H3.out y h
      · have : y = x := by simpa using h
        rw [this]; exact HX3.out⟩
  case done =>
    rintro D ys W hD hS ⟨⟨a1, c1, hcol⟩, hB, _⟩ hK
    have hvc := hcol.bx.cell
    have hlen : ys.length = (triL l).length := by rw [← hS]; simp
    rw [hlen] at hvc
    have HC := Lib.hid hcol
    have HB := Lib.hid hB
    have HK := Lib.hid hK
    have HS := Lib.hid hS
    clear hcol hB hK hS hlen
    gi_wp2
    refine ⟨by simp, .inl ⟨_, _, rfl, run_takeDeferred HK.out, ?_⟩⟩
    have hput := HC.out.turn (grownBy_putObj' W D (.deferred none)) (fun r e => by cases e; exact ⟨_, HK.out, rfl⟩)
    refine ⟨_, results_tmp rfl _ _ _, ⟨a1, c1, gsT ys, rfl, ?_⟩, HB.out.trans (belowK_b (w := w) (Nat.le_refl _) W D _ _ (by omega) HK.out rfl rfl)⟩
    rw [← HS.out]; exact hput.ss
  case stop =>
    rintro D c pre W _ _ h _
    exact h.elim

theorem collectT (Bt : Nat) (n : Int) (a : Option Addr) (cap : Nat) (l : List Int) (hok : Ok n l) (w : World) (hbox : Box w Bt 28 (.int .i64 n) (.slice a l.length cap)) (hrow : IntRow w a l) :
    Calls Try.prog 33 #[.func (.func 51) #[] #[.pointer (some ⟨Bt, 0, none⟩)]] w (RetSS w (triL l)) := by
  have hC := Lib.hid (appendSeqT Bt n a cap l hok w hbox hrow)
  clear hbox hrow hok
  go_enter Try.func33, Try.ntmps33
  go_wp2_with fail
  refine hC.out.mono ?_
  rintro e w1 ⟨⟨a1, c1, gs, rfl, ho⟩, hb⟩
  have HO := Lib.hid ho
  have HB := Lib.hid hb
  clear ho hb
  go_wp2
  go_ret
  exact ⟨⟨_, _, _, rfl, HO.out⟩, HB.out⟩

set_option maxHeartbeats 400000 in
theorem implTrianglesOf (n : Int) (a : Option Addr) (l : List Int) (cap : Nat) (w : World) (hrow : IntRow w a l) (hl : l.length ≤ maxLen) :
    Calls Try.prog 11 #[.agg #[.int .i64 n, .slice a l.length cap]] w (RetSS w (trR n l)) := by
  obtain ⟨Wa, hWa⟩ : ∃ Wa, Wa = w.alloc (.cells #[.int .i64 n, .slice a l.length cap] 28) := ⟨_, rfl⟩
  have HWa := Lib.hid hWa
  have hba : Below w.heap.size w Wa := by rw [hWa]; exact (Below.refl _ _).alloc (Nat.le_refl _) _
  have xa : Box Wa w.heap.size 28 (.int .i64 n) (.slice a l.length cap) := by rw [hWa]; exact Box.new _ _ _ _
  have hrowa : IntRow Wa a l := hrow.below hba (Nat.le_refl _)
  have HL := Lib.hid hl
  clear hl hrow hWa
  cases hok : okB n l
  · have HO := Lib.hid hok
    have HE : Hid (trR n l = []) := by show _ = _; unfold trR; rw [hok]; rfl
    clear hok
    go_enter Try.func11, Try.ntmps11
    go_wp2_with fail
    rw [← HWa.out]
    refine (implTourOk n a l cap Wa hrowa HL.out).mono ?_
    rintro e w1 ⟨rfl, hb1⟩
    rw [HO.out]
    go_wp2
    go_ret
    refine ⟨⟨none, 0, [], ?_, ?_⟩, hba.trans (hb1.mono hba.size)⟩
    · rw [HE.out]; rfl
    · rw [HE.out]; exact OwnSS.nil _ _
  have HO := Lib.hid hok
  have HK := Lib.hid (okB_iff.1 hok)
  have HE : Hid (trR n l = triL l) := by show _ = _; unfold trR; rw [hok]; rfl
  clear hok
  go_enter Try.func11, Try.ntmps11
  go_wp2_with fail
  rw [← HWa.out]
  refine (implTourOk n a l cap Wa hrowa HL.out).mono ?_
  rintro e w1 ⟨rfl, hb1⟩
  rw [HO.out]
  have c0 := (xa.below hb1 xa.lt).c0
  have c1 := (xa.below hb1 xa.lt).c1
  have hrow1 := hrowa.below hb1 (Nat.le_refl _)
  have B1 := hba.trans (hb1.mono hba.size)
  go_wp2_with fail
  refine (triangles_any _ a l.length cap w1).mono ?_
  rintro e w2 ⟨rfl, hw2⟩
  have xb : Box w2 w1.heap.size 28 (.int .i64 n) (.slice a l.length cap) := by rw [hw2]; exact Box.new _ _ _ _
  have hb2 : Below w1.heap.size w1 w2 := by rw [hw2]; exact (Below.refl _ _).alloc (Nat.le_refl _) _
  have B2 := B1.trans (hb2.mono B1.size)
  have HC := Lib.hid (collectT w1.heap.size n a cap l HK.out w2 xb (hrow1.below hb2 (Nat.le_refl _)))
  clear hw2 xb hb2 c0 c1
  go_wp2_with fail
  refine HC.out.mono ?_
  rintro e w3 ⟨⟨a0, c0', gs, rfl, hs⟩, hb3⟩
  have HS := Lib.hid (hs.mono B2.size)
  have HB := Lib.hid (B2.trans (hb3.mono B2.size))
  clear hs hb3
  go_wp2
  go_ret
  exact ⟨⟨a0, c0', gs, by rw [HE.out]; rfl, by rw [HE.out]; exact HS.out⟩, HB.out⟩
end Go.Proofs.Ytgdejippddcekaa
