/-
  'CountWaysFrom' of the program. No conditions but the bounds that Go gives a slice.
-/
import Derived.Test.YtgjogbihadiojaaJG
namespace Go.Proofs.Ytgjogbihadiojaa
open Go.ChangeShapes Go.WideShapes Go.ChangeAt Go.RowKit Go.Shelf
attribute [local go_sem] Oper.semAt_some
set_option linter.unusedVariables false

theorem Boxed.turnZ {A C : World} {row : Option Nat} {g : Nat} {e : TypeId} {v : Value} (h : Boxed A g e v) (hg : A.grownBy C row) (hr : ∀ r, row = some r → ∃ o : Obj, A.heap[r]? = some o ∧ (o.isCells = false ∨ Zl o)) : Boxed C g e v := by
  refine (hg.block g h.lt (fun e2 => ?_)).trans h
  obtain ⟨o, ho, h2⟩ := hr g e2.symm
  rw [show A.heap[g]? = _ from h] at ho
  cases ho
  rcases h2 with h2 | ⟨v0, v1, h2⟩
  · cases h2
  · simp at h2
theorem ownZ_boxed {β : Type} (B g : Nat) (e : TypeId) (f : β → Value) : OwnZ Zl B (fun (s : β) W => Boxed W g e (f s)) := fun s A C row hs hg hr => Boxed.turnZ hs hg (fun r e => (hr r e).2)
theorem ownZ_below {β : Type} {n0 B : Nat} {w0 : World} (hn : n0 ≤ w0.heap.size) (hB : n0 ≤ B) : OwnZ Zl B (fun (_ : β) W => Below n0 w0 W) :=
  fun s A C row hs hg hr => hs.grown hg (Nat.le_trans hn hs.size) (fun k e => by have := (hr k e).1; omega)
theorem ownZ_pure {β : Type} (B : Nat) (p : β → Prop) : OwnZ Zl B (fun s (_ : World) => p s) := fun _ _ _ _ hs _ _ => hs
theorem wways_len (l : List Int) (k : Int) (q : Nat) : (Hw.ways (ww l) k q).length ≤ 2097152 := Hw.ways_len _ _ _

/-- What 'CountWaysFrom' answers. -/
noncomputable def cwR (n : Int) (l : List Int) (q : Int) : Int := if okB n l && pl n q then ((Hw.ways (ww l) (l.length : Int) q.toNat).length : Int) else -1
theorem cwR_no {n : Int} {l : List Int} {q : Int} (h : (okB n l && pl n q) = false) : cwR n l q = -1 := by unfold cwR; rw [h]; rfl
theorem cwR_yes {n : Int} {l : List Int} {q : Nat} (hok : okB n l = true) (hq : pl n (q : Int) = true) : cwR n l (q : Int) = ((Hw.ways (ww l) (l.length : Int) q).length : Int) := by
  unfold cwR; rw [hok, hq]; rfl

set_option maxRecDepth 100000 in
set_option maxHeartbeats 2000000 in
theorem implCountWaysFrom (n : Int) (a : Option Addr) (l : List Int) (cap : Nat) (q : Int) (w : World) (hrow : IntRow w a l) (hl : l.length ≤ maxLen) :
    Calls Try.prog 19 #[.agg #[.int .i64 n, .slice a l.length cap], .int .i64 q] w fun e w' => e = .returned (.int .i64 (cwR n l q)) ∧ Below w.heap.size w w' := by
  obtain ⟨Wa, hWa⟩ : ∃ Wa, Wa = w.alloc (.cells #[.int .i64 n, .slice a l.length cap] 25) := ⟨_, rfl⟩
  have HWa := Lib.hid hWa
  have hba : Below w.heap.size w Wa := by rw [hWa]; exact (Below.refl _ _).alloc (Nat.le_refl _) _
  have xa : Box Wa w.heap.size 25 (.int .i64 n) (.slice a l.length cap) := by rw [hWa]; exact Box.new _ _ _ _
  have hrowa : IntRow Wa a l := hrow.below hba (Nat.le_refl _)
  have HL := Lib.hid hl
  clear hl hrow hWa
  cases hok : okB n l
  · have HO := Lib.hid hok
    have HE : Hid (cwR n l q = -1) := cwR_no (by rw [hok]; rfl)
    clear hok
    go_enter Try.func19, Try.ntmps19
    go_wp2_with fail
    rw [← HWa.out]
    refine (implTourOk n a l cap Wa hrowa HL.out).mono ?_
    rintro e w1 ⟨rfl, hb1⟩
    rw [HO.out]
    have B1 := Lib.hid (hba.trans (hb1.mono hba.size))
    clear hb1
    go_wp2
    go_ret
    exact ⟨by rw [HE.out]; rfl, B1.out⟩
  cases hp : pl n q
  · have HO := Lib.hid hok
    have HP := Lib.hid hp
    have HE : Hid (cwR n l q = -1) := cwR_no (by rw [hok, hp]; rfl)
    clear hok hp
    go_enter Try.func19, Try.ntmps19
    go_wp2_with fail
    rw [← HWa.out]
    refine (implTourOk n a l cap Wa hrowa HL.out).mono ?_
    rintro e w1 ⟨rfl, hb1⟩
    rw [HO.out]
    have xa1 := xa.below hb1 xa.lt
    have c0 := xa1.c0
    have c1 := xa1.c1
    go_wp2_with fail
    refine (hasPlayer_any n a l.length cap q w1).mono ?_
    rintro e w2 ⟨rfl, hb2⟩
    rw [show (decide (0 ≤ q) && decide (q < n)) = false from HP.out]
    have b1 := hba.trans (hb1.mono hba.size)
    have B2 := Lib.hid (b1.trans (hb2.mono b1.size))
    clear b1 hb1 hb2 c0 c1
    go_wp2
    go_ret
    exact ⟨by rw [HE.out]; rfl, B2.out⟩
  have HO := Lib.hid hok
  have HP := Lib.hid hp
  have hk := okB_iff.1 hok
  obtain ⟨qq, rfl, hqq⟩ : ∃ qq : Nat, q = qq ∧ qq < l.length := by have := pl_iff.1 hp; have := hk.2.2.1; exact ⟨q.toNat, by omega, by omega⟩
  have HE := Lib.hid (cwR_yes hok hp)
  have HK := Lib.hid hk
  have hnl := hk.2.2.1
  subst hnl
  have hlow : Hid (∀ b, blk a = some b → b < w.heap.size + 1) := fun b e => by
    have hsz : Wa.heap.size = w.heap.size + 1 := by rw [HWa.out]; simp
    rcases hrowa with h2 | ⟨b2, off, rfl, hb, _⟩
    · rw [h2] at hqq; simp at hqq
    · simp [blk] at e; omega
  clear hok hp hk
  refine (callsIn_wide (n := 8)).1 ?_
  refine callsIn_of_wp_marks Try.func19 rfl trivial ?_ rfl
  simp only [Try.ntmps19, List.size_toArray, List.length_cons, List.length_nil, Nat.reduceAdd, Nat.reduceSub, Array.replicate_succ, Array.replicate_zero, List.push_toArray, List.append_toArray, List.nil_append, List.cons_append]
  gi_wp2_with fail
  refine ⟨trivial, ?_⟩
  rw [← HWa.out]
  refine (callsIn_wide.2 (implTourOk _ a l cap Wa hrowa HL.out)).mono ?_
  rintro e w1 ⟨rfl, hb1⟩
  rw [HO.out]
  have xa1 := xa.below hb1 xa.lt
  have hrow1 := hrowa.below hb1 (Nat.le_refl _)
  have bw1 := hba.trans (hb1.mono hba.size)
  have c0 := xa1.c0
  have c1 := xa1.c1
  gi_wp2_with fail
  refine ⟨trivial, ?_⟩
  refine (callsIn_wide.2 (hasPlayer_any _ a l.length cap (qq : Int) w1)).mono ?_
  rintro e w2 ⟨rfl, hb2⟩
  rw [show (decide (0 ≤ (qq : Int)) && decide ((qq : Int) < (l.length : Int))) = true from HP.out]
  have xa2 := xa1.below hb2 xa1.lt
  have hrow2 := hrow1.below hb2 (Nat.le_refl _)
  have bw2 := bw1.trans (hb2.mono bw1.size)
  obtain ⟨W2, hW2⟩ : ∃ W2, W2 = w2.alloc (.cells #[.int .i64 0] 3) := ⟨_, rfl⟩
  have hbW : Below w2.heap.size w2 W2 := by rw [hW2]; exact (Below.refl _ _).alloc (Nat.le_refl _) _
  have xc : Boxed W2 w2.heap.size 3 (.int .i64 0) := by rw [hW2]; exact Boxed.new _ _ _
  have xa3 := xa2.below hbW xa2.lt
  have hrow3 := hrow2.below hbW (Nat.le_refl _)
  have bw3 := bw2.trans (hbW.mono bw2.size)
  obtain ⟨W3, hW3⟩ : ∃ W3, W3 = ((W2.alloc (.cells #[.int .i64 (l.length : Int), .slice a l.length cap] 25)).alloc (.cells #[.int .i64 (qq : Int)] 3)).alloc (.cells #[.int .i64 (l.length : Int)] 3) := ⟨_, rfl⟩
  obtain ⟨hb3, xt, xq, xk, hs3⟩ := three_new hW3
  have xc4 : Boxed W3 w2.heap.size 3 (.int .i64 0) := (hb3.block _ xc.lt).trans xc
  have hrow4 := hrow3.below hb3 (Nat.le_refl _)
  have bw4 := bw3.trans (hb3.mono bw3.size)
  have q1 : w.heap.size < w2.heap.size := xa2.lt
  have q2 : w2.heap.size < W2.heap.size := xc.lt
  have hac : ∀ b, blk a = some b → b ≠ w2.heap.size := fun b e => by have := hlow.out b e; omega
  clear c0 c1
  have c0 := xa3.c0
  have c1 := xa3.c1
  rw [hW2] at c0 c1
  have HW2 := Lib.hid hW2
  have HW3 := Lib.hid hW3
  have XT := Lib.hid xt
  have XC := Lib.hid xc4
  have XQ := Lib.hid xq
  have XK := Lib.hid xk
  have HR := Lib.hid hrow4
  have BW := Lib.hid bw4
  clear hW2 hW3 xt xc4 xq xk hrow4 bw4 bw3 hrow3 xa3 xc bw2 hrow2 xa2 bw1 hrow1 xa1 hbW hb3 hb1 hb2 hba xa hrowa
  gi_wp2_with fail
  refine ⟨trivial, ?_⟩
  rw [← HW2.out]
  refine (callsIn_wide.2 (waysFrom_any _ a l.length cap (qq : Int) (l.length : Int) W2)).mono ?_
  rintro e w4 ⟨rfl, hw4⟩
  rw [← HW3.out] at hw4
  have hw5 := hw4.symm
  clear hw4
  subst hw5
  clear c0 c1
  gi_wp2
  refine rangeZ (F := Fence.wide) (Z := Zl) rfl (by omega) (gf := 111) (lb := #[.pointer (some ⟨W2.heap.size + 1, 0, none⟩), .pointer (some ⟨W2.heap.size + 1 + 1, 0, none⟩), .pointer (some ⟨W2.heap.size, 0, none⟩)]) rfl trivial (enters_of Try.func111 (by kernel_rfl) rfl)
    (ways_stops W2.heap.size (W2.heap.size + 1) (W2.heap.size + 1 + 1) (W3.heap.size + 2) (fun b _ => b ≠ w2.heap.size) _ a cap l qq (l.length : Int) HK.out hqq W3 XT.out XQ.out XK.out HR.out (fun _ => by omega) (fun _ => by omega) (fun b o e => hac b e) (fun b o h => by omega))
    (fun h k => h.trans k) (fun W l o o2 h hc => KeepR.put W l o o2 h hc) (fun pre x W l o o2 _ ho hc h => h.put l o o2 ho hc) (Below.refl _ _) (fun _ => rfl)
    (fun pre W => Boxed W w2.heap.size 3 (.int .i64 ((pre.length : Nat) : Int)) ∧ Below w.heap.size w W)
    (fun _ _ _ => False)
    (OwnZ.and (ownZ_boxed _ _ _ (fun pre : List Wx => .int .i64 ((pre.length : Nat) : Int))) (ownZ_below (Nat.le_refl _) (by omega)))
    (fun _ _ _ _ _ hs _ _ => hs)
    ⟨XC.out, BW.out⟩
    (fun x => { tmps := #[.agg #[.int .i64 (l.length : Int), .slice a l.length cap], .int .i64 (qq : Int), .pointer (some ⟨w.heap.size, 0, none⟩), undef, .int .i64 0, .pointer (some ⟨w2.heap.size, 0, none⟩), .agg #[.int .i64 (l.length : Int), .slice a l.length cap], .bool true, .bool false, .bool false, .agg #[.int .i64 (l.length : Int), .slice a l.length cap], .int .i64 (qq : Int), .bool true, .bool false, .bool false, .agg #[.int .i64 (l.length : Int), .slice a l.length cap], .int .i64 (qq : Int), .pointer (some ⟨w.heap.size, 0, none⟩), .int .i64 (l.length : Int), .func (.func 111) #[] #[.pointer (some ⟨W2.heap.size + 1, 0, none⟩), .pointer (some ⟨W2.heap.size + 1 + 1, 0, none⟩), .pointer (some ⟨W2.heap.size, 0, none⟩)], .slice (some ⟨x.2.1, 0, none⟩) x.1.length x.2.2, undef, undef, undef], defers := [] }) ?assign ?body ?done ?stop
  case assign =>
    intro lg x W' K hK
    unfold encW
    gi_wp2
    simp
    exact hK
  case body =>
    rintro lg pre x Wr ⟨hc, hB⟩ hy
    have hcc := hc.cell
    have hcf := hc.frozen
    have hcnt := hy.count
    have hle := wways_len l (l.length : Int) qq
    obtain ⟨v, hv⟩ : ∃ v, v = pre.length := ⟨_, rfl⟩
    rw [← hv] at hcc hcnt
    have hv2 : v ≤ 2097152 := by omega
    have HV1 : Hid (((v : Int) + 1) = (((pre ++ [x]).length : Nat) : Int)) := by show _ = _; rw [hv]; simp
    have HC := Lib.hid hc
    have HB := Lib.hid hB
    clear hc hB hy hv hcnt hle
    gi_wp2
    refine ⟨(KeepsOthers.setCell _ _ _).from _, KeepR.grown (grownBy_setCell' _ _ _) (fun g o e _ hn => by cases e; exact hn rfl), ?_, HB.out.setCell (p := ⟨w2.heap.size, 0, none⟩) (by simp only; omega) _⟩
    rw [← HV1.out]
    exact Boxed.set _ HC.out
  case done =>
    rintro D ys W' hD hS ⟨hc, hB⟩ hK
    have hcc := hc.cell
    have hcnt : ys.length = (Hw.ways (ww l) (l.length : Int) qq).length := by rw [← hS, List.length_map]
    rw [hcnt, ← HE.out] at hcc
    have HB := Lib.hid hB
    have HKK := Lib.hid hK
    clear hc hB hK hcnt hS
    gi_wp2
    refine ⟨by simp, .inl ⟨_, _, rfl, run_takeDeferred HKK.out, ?_⟩⟩
    exact ⟨_, results_tmp rfl _ _ _, rfl, HB.out.trans (belowK_b (w := W3) (by have := BW.out.size; omega) W' D _ _ (by omega) HKK.out rfl rfl)⟩
  case stop =>
    rintro D c pre W _ _ h _
    exact h.elim
end Go.Proofs.Ytgjogbihadiojaa
