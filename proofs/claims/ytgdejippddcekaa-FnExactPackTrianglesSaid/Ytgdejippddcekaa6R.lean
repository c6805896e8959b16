/-
  'PackTriangles' of the program. No conditions but the bounds that Go gives a slice.
-/
import Derived.Test.Ytgdejippddcekaa6Q
import Derived.Test.Ytgdejippddcekaa6P
import Derived.Test.Ytgdejippddcekaa6G
import Derived.Test.YtgdejippddcekaaWj
namespace Go.Proofs.Ytgdejippddcekaa
open Go.ChangeShapes Go.WideShapes Go.ChangeAt Go.RowKit Go.Shelf
attribute [local go_sem] Oper.semAt_some
set_option linter.unusedVariables false

/-- The triangles that are taken of those that have come. -/
def tkS (acc : List Tr) (x : Tr) : List Tr := if clash (acc.map Prod.fst) x.1 then acc else acc ++ [x]
def tk (pre : List Tr) : List Tr := pre.foldl tkS []
theorem tk_snoc (pre : List Tr) (x : Tr) : tk (pre ++ [x]) = tkS (tk pre) x := by simp [tk]
theorem tk_mem {pre : List Tr} {y : Tr} (h : y ∈ tk pre) : y ∈ pre := by
  have : ∀ (L acc : List Tr), y ∈ L.foldl tkS acc → y ∈ acc ∨ y ∈ L := by
    intro L
    induction L with
    | nil => exact fun acc h => .inl h
    | cons x L ih =>
      intro acc h
      rcases ih _ h with h1 | h1
      · unfold tkS at h1
        split at h1
        · exact .inl h1
        · rcases List.mem_append.1 h1 with h2 | h2
          · exact .inl h2
          · exact .inr (by simp only [List.mem_singleton] at h2; rw [h2]; simp)
      · exact .inr (by simp [h1])
  rcases this pre [] h with h1 | h1
  · cases h1
  · exact h1
theorem tk_fst (pre : List Tr) : (tk pre).map Prod.fst = pk (pre.map Prod.fst) := by
  have : ∀ (L acc : List Tr), (L.foldl tkS acc).map Prod.fst = (L.map Prod.fst).foldl pkS (acc.map Prod.fst) := by
    intro L
    induction L with
    | nil => exact fun acc => rfl
    | cons x L ih =>
      intro acc
      simp only [List.foldl_cons, List.map_cons]
      rw [ih]
      congr 1
      unfold tkS pkS
      split <;> simp
  exact this pre []
theorem tk_len (pre : List Tr) : (tk pre).length ≤ pre.length := by
  have := pk_len (pre.map Prod.fst)
  rw [← tk_fst] at this
  simpa using this

theorem own_emptyE {W : World} {B g : Nat} {e : TypeId} (h : W.heap[g]? = some (.cells #[] e (0, 0))) (hB : B ≤ g) : W.ownsRow B e 1 (.slice (some ⟨g, 0, none⟩) 0 0) 0 [] :=
  ⟨rfl, .inr ⟨g, 0, #[], rfl, hB, h, Nat.le_refl _, by unfold maxLen; omega, rfl, rfl⟩⟩

set_option maxRecDepth 100000 in
set_option maxHeartbeats 2000000 in
theorem implPack (n : Int) (a : Option Addr) (l : List Int) (cap : Nat) (w : World) (hrow : IntRow w a l) (hl : l.length ≤ maxLen) :
    Calls Try.prog 26 #[.agg #[.int .i64 n, .slice a l.length cap]] w (RetSS w (pkR n l)) := by
  obtain ⟨i0, hi, hz0, hz1, hz2⟩ := info_parts infoSl
  obtain ⟨Wa, hWa⟩ : ∃ Wa, Wa = w.alloc (.cells #[.int .i64 n, .slice a l.length cap] 28) := ⟨_, rfl⟩
  have HWa := Lib.hid hWa
  have hba : Below w.heap.size w Wa := by rw [hWa]; exact (Below.refl _ _).alloc (Nat.le_refl _) _
  have xa : Box Wa w.heap.size 28 (.int .i64 n) (.slice a l.length cap) := by rw [hWa]; exact Box.new _ _ _ _
  have hrowa : IntRow Wa a l := hrow.below hba (Nat.le_refl _)
  have HL := Lib.hid hl
  have HLow : Hid (1 ≤ l.length → ∀ b, blk a = some b → b < w.heap.size) := fun h => hrow.low h
  clear hl hrow hWa
  cases hok : okB n l
  · have HO := Lib.hid hok
    have HE : Hid (pkR n l = []) := by show _ = _; unfold pkR; rw [hok]; rfl
    clear hok
    go_enter Try.func26, Try.ntmps26
    go_wp2_with fail
    rw [← HWa.out]
    refine (implTourOk n a l cap Wa hrowa HL.out).mono ?_
    rintro e w1 ⟨rfl, hb1⟩
    rw [HO.out]
    go_wp2
    go_ret
    refine ⟨⟨none, 0, [], ?_, ?_⟩, hba.trans (hb1.mono hba.size)⟩
    · rw [HE.out]; rfl
    · rw [HE.out]; exact OwnSS.nil _ _
  have HO := Lib.hid hok
  have hk := okB_iff.1 hok
  have HK := Lib.hid hk
  have hl8 : l.length ≤ 8 := by have := hk.2.1; have := hk.2.2.1; omega
  have hlow := HLow.out (by have := hk.1; have := hk.2.2.1; omega)
  have HE : Hid (pkR n l = pk (triL l)) := by show _ = _; unfold pkR; rw [hok]; rfl
  clear hok hk HLow
  refine (callsIn_wide (n := 8)).1 ?_
  refine callsIn_of_wp_marks Try.func26 rfl trivial ?_ rfl
  simp only [Try.ntmps26, List.size_toArray, List.length_cons, List.length_nil, Nat.reduceAdd, Nat.reduceSub, Array.replicate_succ, Array.replicate_zero, List.push_toArray, List.append_toArray, List.nil_append, List.cons_append]
  gi_wp2_with fail
  refine ⟨trivial, ?_⟩
  rw [← HWa.out]
  refine (callsIn_wide.2 (implTourOk n a l cap Wa hrowa HL.out)).mono ?_
  rintro e w1 ⟨rfl, hb1⟩
  rw [HO.out]
  have xa1 := xa.below hb1 xa.lt
  have hrow1 := hrowa.below hb1 (Nat.le_refl _)
  have bw1 := hba.trans (hb1.mono hba.size)
  obtain ⟨W2, hW2⟩ : ∃ W2, W2 = w1.alloc (.cells #[] 22) := ⟨_, rfl⟩
  obtain ⟨W3, hW3⟩ : ∃ W3, W3 = W2.alloc (.cells #[.slice (some ⟨w1.heap.size, 0, none⟩) 0 0] 26) := ⟨_, rfl⟩
  obtain ⟨W4, hW4⟩ : ∃ W4, W4 = W3.alloc (.cells #[.int .i64 n, .slice a l.length cap] 28) := ⟨_, rfl⟩
  have hb2 : Below w1.heap.size w1 W2 := by rw [hW2]; exact (Below.refl _ _).alloc (Nat.le_refl _) _
  have hb3 : Below W2.heap.size W2 W3 := by rw [hW3]; exact (Below.refl _ _).alloc (Nat.le_refl _) _
  have hb4 : Below W3.heap.size W3 W4 := by rw [hW4]; exact (Below.refl _ _).alloc (Nat.le_refl _) _
  have r2 : W2.heap[w1.heap.size]? = some (.cells #[] 22 (0, 0)) := by rw [hW2]; exact World.alloc_heap_new _ _
  have q2 : w1.heap.size < W2.heap.size := (Array.getElem?_eq_some_iff.1 r2).1
  have x3 : Boxed W3 W2.heap.size 26 (.slice (some ⟨w1.heap.size, 0, none⟩) 0 0) := by rw [hW3]; exact Boxed.new _ _ _
  have q3 : W2.heap.size < W3.heap.size := x3.lt
  have xt : Box W4 W3.heap.size 28 (.int .i64 n) (.slice a l.length cap) := by rw [hW4]; exact Box.new _ _ _ _
  have q4 : W3.heap.size < W4.heap.size := xt.lt
  have x4 : Boxed W4 W2.heap.size 26 (.slice (some ⟨w1.heap.size, 0, none⟩) 0 0) := (hb4.block _ q3).trans x3
  have r4 : W4.heap[w1.heap.size]? = some (.cells #[] 22 (0, 0)) := ((hb4.block _ (Nat.lt_trans q2 q3)).trans (hb3.block _ q2)).trans r2
  have hcol : Col W4 w1.heap.size W2.heap.size (some ⟨w1.heap.size, 0, none⟩) 0 [] := ⟨x4, ⟨rfl, own_emptyE r4 (Nat.le_refl _), fun i h => absurd h (Nat.not_lt_zero _), fun i j h => absurd h (Nat.not_lt_zero _)⟩⟩
  have xa3 := (xa1.below hb2 xa1.lt).below hb3 (xa1.below hb2 xa1.lt).lt
  have b23 := hb2.trans (hb3.mono hb2.size)
  have b24 := b23.trans (hb4.mono b23.size)
  have hrow4 := hrow1.below b24 (Nat.le_refl _)
  have sw2 : Hid (W2.heap.size = w1.heap.size + 1) := by show _ = _; rw [hW2]; simp
  have HW3 : Hid (W3 = (w1.alloc (.cells #[] 22)).alloc (.cells #[.slice (some ⟨w1.heap.size, 0, none⟩) 0 0] 26)) := by show _ = _; rw [hW3, hW2]
  have HW4 := Lib.hid hW4
  have XT := Lib.hid xt
  have HR := Lib.hid hrow4
  have HCOL := Lib.hid hcol
  have BW1 := Lib.hid bw1
  have B24 := Lib.hid b24
  have c0 := xa1.c0
  have c1 := xa1.c1
  have e0 := xa3.c0
  have e1 := xa3.c1
  rw [HW3.out] at e0 e1
  have hsz1 := bw1.size
  clear hW2 hW3 hW4 hb2 hb3 hb4 r2 x3 xt x4 r4 hcol xa1 xa3 b23 b24 hrow4 hrow1 hba hb1 hrowa xa bw1
  gi_wp2_with fail
  refine ⟨trivial, ?_⟩
  rw [← HW3.out, ← sw2.out]
  refine (callsIn_wide.2 (triangles_any _ a l.length cap W3)).mono ?_
  rintro e w4 ⟨rfl, hw4⟩
  rw [← HW4.out] at hw4
  have hw5 := hw4.symm
  clear hw4
  subst hw5
  clear c0 c1 e0 e1
  gi_wp2
  refine rangeYH (F := Fence.wide) rfl (by omega) (gf := 51) (lb := #[.pointer (some ⟨W3.heap.size, 0, none⟩)]) rfl trivial (enters_of Try.func51 (by kernel_rfl) rfl)
    (tri_stops W3.heap.size (W4.heap.size + 2) (RC w1.heap.size) n a cap l HK.out W4 XT.out HR.out (RC.other _ _ _ _ (by decide) (by decide)) (fun b o e => .inl (by have := hlow b e; omega)) (RC.fresh _ _))
    (fun h k => h.trans k) (fun W l o o2 h hc => KeepR.put W l o o2 h hc) (fun pre x W l o o2 _ ho hc h => h.put l o o2 ho hc) (Below.refl _ _) (fun _ => rfl)
    (fun pre W => (∃ a1 c1, Col W w1.heap.size W2.heap.size a1 c1 (tk pre)) ∧ Below w1.heap.size w1 W ∧ ∀ y ∈ pre, y.1.length = 3)
    (fun _ _ _ => False)
    (fun s A B row hs hg hr => ⟨by obtain ⟨a1, c1, h⟩ := hs.1; exact ⟨a1, c1, h.turn hg (fun r e => (hr r e).2)⟩, ownFrom_below (β := Unit) (Nat.le_refl _) (by omega) () A B row hs.2.1 hg hr, hs.2.2⟩)
    (fun _ _ _ _ _ hs _ _ => hs)
    ⟨⟨_, _, HCOL.out⟩, B24.out, fun _ h => absurd h (by simp)⟩
    (fun x a2 W => ∃ Bx, Boxed W Bx 22 (.slice (some ⟨x.2, 0, none⟩) 3 3) ∧ a2 = { tmps := #[.agg #[.int .i64 n, .slice a l.length cap], .pointer (some ⟨w.heap.size, 0, none⟩), .slice none 0 0, .pointer (some ⟨W2.heap.size, 0, none⟩), .pointer (some ⟨Bx, 0, none⟩), undef, .agg #[.int .i64 n, .slice a l.length cap], .bool true, .bool false, .slice (some ⟨w1.heap.size, 0, none⟩) 0 0, .agg #[.int .i64 n, .slice a l.length cap], .func (.func 51) #[] #[.pointer (some ⟨W3.heap.size, 0, none⟩)], .slice (some ⟨x.2, 0, none⟩) 3 3, undef, undef, undef, undef, undef, undef, undef, undef, undef, undef], defers := [] })
    (fun x a2 s A B row hs hg hr => by obtain ⟨Bx, h1, h2⟩ := hs; exact ⟨Bx, Boxed.turn h1 hg (fun r e => (hr r e).2), h2⟩) ?assign ?body ?done ?stop
  case assign =>
    rintro lg pre x W K ⟨⟨a1, c1, hcol⟩, hB, h3⟩ hy hK
    unfold encT
    have hb : Below W.heap.size W (W.alloc (.cells #[.slice (some ⟨x.2, 0, none⟩) 3 3] 22)) := (Below.refl _ _).alloc (Nat.le_refl _) _
    have HH := Lib.hid (hK { tmps := #[.agg #[.int .i64 n, .slice a l.length cap], .pointer (some ⟨w.heap.size, 0, none⟩), .slice none 0 0, .pointer (some ⟨W2.heap.size, 0, none⟩), .pointer (some ⟨W.heap.size, 0, none⟩), undef, .agg #[.int .i64 n, .slice a l.length cap], .bool true, .bool false, .slice (some ⟨w1.heap.size, 0, none⟩) 0 0, .agg #[.int .i64 n, .slice a l.length cap], .func (.func 51) #[] #[.pointer (some ⟨W3.heap.size, 0, none⟩)], .slice (some ⟨x.2, 0, none⟩) 3 3, undef, undef, undef, undef, undef, undef, undef, undef, undef, undef], defers := [] } _
      (kf_below hb) (KeepR.below hb) ⟨⟨a1, c1, hcol.turn (grown_of_below hb) (fun r e => by cases e)⟩, hB.trans (hb.mono hB.size), h3⟩ ⟨hy.next, hy.after, hy.low, (hb.block _ (Array.getElem?_eq_some_iff.1 hy.row).1).trans hy.row⟩ ⟨W.heap.size, Boxed.new _ _ _, rfl⟩)
    clear hK hb hy hcol hB h3
    gi_wp2
    exact HH.out
  case body =>
    rintro lg pre x a2 W ⟨⟨a1, c1, hcol⟩, hB, h3⟩ hy ⟨Bx, hbx, rfl⟩
    have hvc := hcol.bx.cell
    have hvx := hbx.cell
    have hx3 := hy.len
    have hpos := hy.pos hl8
    have hlen := tk_len pre
    have hsz := hB.size
    have hlow2 : w1.heap.size ≤ x.2 := by have := hy.low; omega
    have hout : W.ownsRow w1.heap.size 22 1 (.slice a1 (tk pre).length c1) (tk pre).length (svs (gsT (tk pre)) ((tk pre).map Prod.fst)) := by have := hcol.ss.out; rwa [List.length_map] at this
    have hrows : ∀ i, i < ((tk pre).map Prod.fst).length → (((tk pre).map Prod.fst).getD i []).length ≤ 4096 := by
      intro i hi
      have hi2 : i < (tk pre).length := by simpa using hi
      rw [List.getD_eq_getElem?_getD, List.getElem?_map, List.getElem?_eq_getElem hi2]
      have := h3 _ (tk_mem (List.getElem_mem hi2))
      simp only [Option.map_some, Option.getD_some]; omega
    have hcf := containsFunc_any w1.heap.size a1 c1 (gsT (tk pre)) ((tk pre).map Prod.fst) x.2 Bx 3 x.1 W hcol.ss (by rw [List.length_map]; omega) hrows (by rw [hx3]; exact hbx) hy.int (by omega)
    rw [List.length_map] at hcf
    have hcl : shB x.1 ((tk pre).map Prod.fst) = clash ((tk pre).map Prod.fst) x.1 := by
      obtain ⟨rest, hr⟩ := hy.next
      obtain ⟨p, q, r, he, _, _, _, h1, h2, h4⟩ := triL_mem (l := l) (r := x.1) (by rw [hr]; simp)
      rw [he]; exact shB_clash _ p q r (by omega) h4 (by omega)
    rw [hcl] at hcf
    have HCF := Lib.hid hcf
    have HC := Lib.hid hcol
    have HB := Lib.hid hB
    have HY := Lib.hid hy
    have H3 := Lib.hid h3
    have HX3 := Lib.hid hx3
    have HO := Lib.hid hout
    have HAF : Hid (∀ y ∈ tk pre, y.2 < x.2) := fun y hy2 => hy.after y (tk_mem hy2)
    have H3N := Lib.hid (show ∀ y ∈ pre ++ [x], y.1.length = 3 from fun y hy2 => by
      rcases List.mem_append.1 hy2 with h | h
      · exact h3 y h
      · have : y = x := by simpa using h
        rw [this]; exact hx3)
    cases hq : clash ((tk pre).map Prod.fst) x.1
    · have HQ := Lib.hid hq
      have HTK : Hid (tk (pre ++ [x]) = tk pre ++ [x]) := by show _ = _; rw [tk_snoc]; unfold tkS; rw [hq]; rfl
      clear hcol hB hy h3 hx3 hout hrows hcf hcl hq hbx
      gi_wp2_with fail
      refine ⟨trivial, ?_⟩
      refine (CallsIn.inRound lg (callsIn_wide.2 HCF.out)).mono ?_
      rintro e w5 ⟨rfl, rfl⟩
      rw [HQ.out]
      gi_wp2_with (gi_at_builtin; refine wpListIn_append_own _ rfl _ _ 26 rfl w1.heap.size 22 i0 (.slice none 0 0) 1 24 Try.underlying26 hi hz0 hz1 hz2 rfl (by decide) _ _ _ rfl (HO.out.alloc _) ⟨W.heap.size, 0, none⟩ 1 1 [.slice (some ⟨x.2, 0, none⟩) 3 3] rfl rfl (cell_one_new _ _ _) (by intro u hu; simp at hu; subst hu; rfl) (by unfold maxLen; omega) (by omega) (by simp; omega) ?_; intro v' w6 hown' hgrow _; obtain ⟨g', cap', rfl⟩ := ownsRow_succ hown'; replace hgrow := grown_blk (a := a1) (n := (tk pre).length) (c := c1) hgrow; obtain ⟨hcol2, hv1, hk2, hb2, hkr⟩ := HC.out.push (R := RC w1.heap.size) hsz (by omega) HY.out.row HX3.out hlow2 HAF.out (fun g cur t hg ht => RC.not w1.heap.size g cur t hg ht) hown' hgrow; have hc1 := hv1.cell; have hf1 := hv1.frozen)
      exact ⟨hk2.from _, hkr, ⟨_, _, by rw [HTK.out]; exact hcol2⟩, HB.out.trans hb2, H3N.out⟩
    · have HQ := Lib.hid hq
      have HTK : Hid (tk (pre ++ [x]) = tk pre) := by show _ = _; rw [tk_snoc]; unfold tkS; rw [hq]; rfl
      clear hcol hB hy h3 hx3 hout hrows hcf hcl hq hbx
      gi_wp2_with fail
      refine ⟨trivial, ?_⟩
      refine (CallsIn.inRound lg (callsIn_wide.2 HCF.out)).mono ?_
      rintro e w5 ⟨rfl, rfl⟩
      rw [HQ.out]
      gi_wp2
      exact ⟨KeepsFrom.refl _ _, KeepR.refl _ _, ⟨_, _, by rw [HTK.out]; exact HC.out⟩, HB.out, H3N.out⟩
  case done =>
    rintro D ys W hD hS ⟨⟨a1, c1, hcol⟩, hB, _⟩ hK
    have hvc := hcol.bx.cell
    have hfs : (tk ys).map Prod.fst = pk (triL l) := by rw [tk_fst, hS]
    have hlen : (tk ys).length = (pk (triL l)).length := by rw [← hfs]; simp
    rw [hlen] at hvc
    have HC := Lib.hid hcol
    have HB := Lib.hid hB
    have HKK := Lib.hid hK
    have HF := Lib.hid hfs
    clear hcol hB hK hS hfs hlen
    gi_wp2
    refine ⟨by simp, .inl ⟨_, _, rfl, run_takeDeferred HKK.out, ?_⟩⟩
    have hput := HC.out.turn (grownBy_putObj' W D (.deferred none)) (fun r e => by cases e; exact ⟨_, HKK.out, rfl⟩)
    refine ⟨_, results_tmp rfl _ _ _, ⟨a1, c1, gsT (tk ys), by rw [HE.out]; rfl, ?_⟩, BW1.out.trans ((HB.out.trans (belowK_b (w := w1) (Nat.le_refl _) W D _ _ (by omega) HKK.out rfl rfl)).mono hsz1)⟩
    rw [HE.out, ← HF.out]; exact hput.ss.mono hsz1
  case stop =>
    rintro D c pre W _ _ h _
    exact h.elim
end Go.Proofs.Ytgdejippddcekaa
