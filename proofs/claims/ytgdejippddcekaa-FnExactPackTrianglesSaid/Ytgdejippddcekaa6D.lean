/-
  'slices.Contains' over numbers; 'TrianglesAt' of the program. No conditions but the bounds that Go gives a slice.
-/
import Derived.Test.Ytgdejippddcekaa6C
import Derived.Test.YtgdejippddcekaaWd
namespace Go.Proofs.Ytgdejippddcekaa
open Go.ChangeShapes Go.WideShapes Go.ChangeAt Go.RowKit Go.Shelf
attribute [local go_sem] Oper.semAt_some
set_option linter.unusedVariables false

theorem Boxed.turn {A C : World} {row : Option Nat} {b : Nat} {t : TypeId} {v : Value} (h : Boxed A b t v) (hg : A.grownBy C row) (hr : ∀ r, row = some r → ∃ o : Obj, A.heap[r]? = some o ∧ o.isCells = false) : Boxed C b t v :=
  boxed_own (β := Unit) b t (fun _ => v) () A C row h hg hr
def hasI (l : List Int) (x : Int) : Bool := decide (x ∈ l)
def IdxI (l : List Int) (x : Int) (w : World) (e : Ending) (w2 : World) : Prop := (∃ k : Int, e = .returned (.int .i64 k) ∧ decide (0 ≤ k) = hasI l x) ∧ w = w2
theorem IdxI.no {l : List Int} {x : Int} {w : World} (h : ∀ j, j < l.length → l.getD j 0 ≠ x) : IdxI l x w (.returned (.int .i64 (-1))) w := by
  refine ⟨⟨-1, rfl, ?_⟩, rfl⟩
  unfold hasI
  have : x ∉ l := by
    intro hm
    obtain ⟨j, hj, e⟩ := List.mem_iff_getElem.1 hm
    exact h j hj (by rw [List.getD_eq_getElem?_getD, List.getElem?_eq_getElem hj]; exact e)
  simp [this]
theorem IdxI.yes {l : List Int} {x : Int} {w : World} {k : Nat} (hk : k < l.length) (h : l.getD k 0 = x) : IdxI l x w (.returned (.int .i64 (k : Int))) w := by
  refine ⟨⟨k, rfl, ?_⟩, rfl⟩
  unfold hasI
  have : x ∈ l := by
    rw [← h, List.getD_eq_getElem?_getD, List.getElem?_eq_getElem hk]
    exact List.getElem_mem hk
  simp [this]
set_option maxHeartbeats 400000 in
theorem index_any (a : Option Addr) (l : List Int) (cap : Nat) (x : Int) (w : World) (hrow : IntRow w a l) (hl : l.length ≤ maxLen) :
    Calls Try.prog 57 #[.slice a l.length cap, .int .i64 x] w (IdxI l x w) := by
  have HR := Lib.hid hrow
  clear hrow
  unfold maxLen at hl
  go_enter Try.func57, Try.ntmps57
  go_wp2
  go_loop [8] (fun i => ∃ k : Nat, k ≤ l.length ∧ i = .int .i64 k ∧ ∀ j, j < k → l.getD j 0 ≠ x) (fun i => l.length - (intOf i).toNat)
  case atStart => exact ⟨0, Nat.zero_le _, rfl, fun j h => absurd h (by omega)⟩
  case round =>
    obtain ⟨k, hk, rfl, hno⟩ := hrel
    have HN := Lib.hid hno
    clear hno
    by_cases hlt : k < l.length
    · obtain ⟨b, off, rfl, hb, hc⟩ := HR.out.at hlt
      obtain ⟨y, hy⟩ : ∃ y, y = l.getD k 0 := ⟨_, rfl⟩
      rw [← hy] at hc
      have HY := Lib.hid hy
      have hkb : (k : Int) < (l.length : Int) := by omega
      clear hy
      by_cases hxy : x = y
      · have hq : (x == y) = true := by simp [hxy]
        have HE := Lib.hid hxy
        clear hxy
        go_wp2
        go_ret
        exact IdxI.yes hlt (by rw [← HY.out, HE.out])
      · have hq : (x == y) = false := by simp [hxy]
        have HE : Hid (x ≠ y) := hxy
        clear hxy
        go_wp2
        go_round
        case rel =>
          refine ⟨k + 1, by omega, by go_num, fun j hj => ?_⟩
          rcases Nat.lt_or_ge j k with h | h
          · exact HN.out j h
          · obtain rfl : j = k := by omega
            rw [← HY.out]; exact fun e => HE.out e.symm
        case measure => simp [intOf]; omega
    · obtain rfl : k = l.length := by omega
      go_wp2
      go_ret
      exact IdxI.no HN.out
theorem contains_any (a : Option Addr) (l : List Int) (cap : Nat) (x : Int) (w : World) (hrow : IntRow w a l) (hl : l.length ≤ maxLen) :
    Calls Try.prog 46 #[.slice a l.length cap, .int .i64 x] w fun e w' => e = .returned (.bool (hasI l x)) ∧ w = w' := by
  have H := Lib.hid (index_any a l cap x w hrow hl)
  clear hrow hl
  go_enter Try.func46, Try.ntmps46
  go_wp2_with fail
  refine H.out.mono ?_
  rintro e w' ⟨⟨k, rfl, hk⟩, rfl⟩
  have HK := Lib.hid hk
  clear hk
  go_wp2
  go_ret
  exact ⟨by rw [HK.out]; rfl, rfl⟩
theorem hasI_at (k : Int) {r : List Int} (h : r.length = 3) : hasI r k = atT k r := by
  match r, h with
  | [x, y, z], _ =>
    unfold hasI atT
    simp only [List.mem_cons, List.not_mem_nil, or_false, List.getD_cons_zero, List.getD_cons_succ]
    by_cases h1 : k = x
    · simp [h1]
    · by_cases h2 : k = y
      · simp [h2]
      · by_cases h3 : k = z
        · simp [h3]
        · have e1 : (x == k) = false := by simpa using fun e => h1 e.symm
          have e2 : (y == k) = false := by simpa using fun e => h2 e.symm
          have e3 : (z == k) = false := by simpa using fun e => h3 e.symm
          simp [h1, h2, h3, e1, e2, e3]
theorem YT.len {l : List Int} {B : Nat} {pre : List Tr} {x : Tr} {W : World} (h : YT l B pre x W) : x.1.length = 3 := by
  obtain ⟨rest, hr⟩ := h.next
  exact triL_row (l := l) (by rw [hr]; simp)
theorem YT.pos {l : List Int} {B : Nat} {pre : List Tr} {x : Tr} {W : World} (h : YT l B pre x W) (hl : l.length ≤ 8) : pre.length < 512 := by
  obtain ⟨rest, hr⟩ := h.next
  have := triL_len l hl
  rw [hr] at this
  simp at this
  omega
theorem YT.int {l : List Int} {B : Nat} {pre : List Tr} {x : Tr} {W : World} (h : YT l B pre x W) : IntRow W (some ⟨x.2, 0, none⟩) x.1 := by
  have hr := h.row
  refine .inr ⟨x.2, 0, rfl, (Array.getElem?_eq_some_iff.1 hr).1, fun j hj => ?_⟩
  unfold World.cell?
  simp only
  rw [hr]
  simp [List.getElem?_eq_getElem hj, iv]

set_option maxRecDepth 100000 in
set_option maxHeartbeats 2000000 in
theorem implTrianglesAt (n : Int) (a : Option Addr) (l : List Int) (cap : Nat) (k : Int) (w : World) (hrow : IntRow w a l) (hl : l.length ≤ maxLen) :
    Calls Try.prog 28 #[.agg #[.int .i64 n, .slice a l.length cap], .int .i64 k] w fun e w' => e = .returned (.int .i64 (taR n l k)) ∧ Below w.heap.size w w' := by
  obtain ⟨Wa, hWa⟩ : ∃ Wa, Wa = (w.alloc (.cells #[.int .i64 n, .slice a l.length cap] 28)).alloc (.cells #[.int .i64 k] 3) := ⟨_, rfl⟩
  have hba : Below w.heap.size w Wa := by rw [hWa]; exact ((Below.refl _ _).alloc (Nat.le_refl _) _).alloc (by simp) _
  have sa : Wa.heap.size = w.heap.size + 2 := by rw [hWa]; simp
  have xa : Box Wa w.heap.size 28 (.int .i64 n) (.slice a l.length cap) := by
    rw [hWa]; exact (Box.new w 28 (.int .i64 n) (.slice a l.length cap)).below ((Below.refl _ _).alloc (Nat.le_refl _) _) (by simp)
  have xk : Boxed Wa (w.heap.size + 1) 3 (.int .i64 k) := by
    rw [hWa]
    have := Boxed.new (w.alloc (.cells #[.int .i64 n, .slice a l.length cap] 28)) 3 (.int .i64 k)
    rwa [World.size_alloc] at this
  have hrowa : IntRow Wa a l := hrow.below hba (Nat.le_refl _)
  have HWa := Lib.hid hWa
  have HL := Lib.hid hl
  have hsa1 : w.heap.size + 1 < Wa.heap.size := by omega
  have HSA := Lib.hid sa
  have c0 := xa.c0
  have c1 := xa.c1
  have ck := xk.cell
  clear hl hrow hWa sa
  cases hok : okB n l
  · have HO := Lib.hid hok
    have HE : Hid (taR n l k = -1) := by show _ = _; unfold taR; rw [hok]; rfl
    clear hok
    rw [HWa.out] at c0 c1
    go_enter Try.func28, Try.ntmps28
    go_wp2_with fail
    rw [← HWa.out]
    refine (implTourOk n a l cap Wa hrowa HL.out).mono ?_
    rintro e w1 ⟨rfl, hb1⟩
    rw [HO.out]
    go_wp2
    go_ret
    exact ⟨by rw [HE.out]; rfl, hba.trans (hb1.mono hba.size)⟩
  have HO := Lib.hid hok
  have hk := okB_iff.1 hok
  have HK := Lib.hid hk
  cases hp : pl n k
  · have HP := Lib.hid hp
    have HE : Hid (taR n l k = -1) := by show _ = _; unfold taR; rw [hp]; simp
    clear hok hp hk
    rw [HWa.out] at c0 c1
    go_enter Try.func28, Try.ntmps28
    go_wp2_with fail
    rw [← HWa.out]
    refine (implTourOk n a l cap Wa hrowa HL.out).mono ?_
    rintro e w1 ⟨rfl, hb1⟩
    rw [HO.out]
    have xa1 := xa.below hb1 xa.lt
    have ck1 := (hb1.cell (p := ⟨w.heap.size + 1, 0, none⟩) hsa1).trans ck
    clear c0 c1 ck
    have c0 := xa1.c0
    have c1 := xa1.c1
    go_wp2_with fail
    refine (hasPlayer_any n a l.length cap k w1).mono ?_
    rintro e w2 ⟨rfl, hb2⟩
    rw [show (decide (0 ≤ k) && decide (k < n)) = false from HP.out]
    have b1 := hba.trans (hb1.mono hba.size)
    have B2 := Lib.hid (b1.trans (hb2.mono b1.size))
    clear b1 hb1 hb2 c0 c1 ck1
    go_wp2
    go_ret
    exact ⟨by rw [HE.out]; rfl, B2.out⟩
  have HP := Lib.hid hp
  have HE : Hid (taR n l k = ((triL l).countP (atT k) : Nat)) := by show _ = _; unfold taR; rw [hok, hp]; rfl
  have hl8 : l.length ≤ 8 := by have := hk.2.1; have := hk.2.2.1; omega
  clear hok hp hk
  refine (callsIn_wide (n := 8)).1 ?_
  refine callsIn_of_wp_marks Try.func28 rfl trivial ?_ rfl
  simp only [Try.ntmps28, List.size_toArray, List.length_cons, List.length_nil, Nat.reduceAdd, Nat.reduceSub, Array.replicate_succ, Array.replicate_zero, List.push_toArray, List.append_toArray, List.nil_append, List.cons_append]
  rw [HWa.out] at c0 c1
  gi_wp2_with fail
  refine ⟨trivial, ?_⟩
  rw [← HWa.out]
  refine (callsIn_wide.2 (implTourOk n a l cap Wa hrowa HL.out)).mono ?_
  rintro e w1 ⟨rfl, hb1⟩
  rw [HO.out]
  have xa1 := xa.below hb1 xa.lt
  have xk1 : Boxed w1 (w.heap.size + 1) 3 (.int .i64 k) := (hb1.block _ hsa1).trans xk
  have ck1 := xk1.cell
  have hrow1 := hrowa.below hb1 (Nat.le_refl _)
  have bw1 := hba.trans (hb1.mono hba.size)
  clear c0 c1 ck
  have c0 := xa1.c0
  have c1 := xa1.c1
  gi_wp2_with fail
  refine ⟨trivial, ?_⟩
  refine (callsIn_wide.2 (hasPlayer_any n a l.length cap k w1)).mono ?_
  rintro e w2 ⟨rfl, hb2⟩
  rw [show (decide (0 ≤ k) && decide (k < n)) = true from HP.out]
  have xa2 := xa1.below hb2 xa1.lt
  have xk2 : Boxed w2 (w.heap.size + 1) 3 (.int .i64 k) := (hb2.block _ xk1.lt).trans xk1
  have hrow2 := hrow1.below hb2 (Nat.le_refl _)
  have bw2 := bw1.trans (hb2.mono bw1.size)
  obtain ⟨W2, hW2⟩ : ∃ W2, W2 = w2.alloc (.cells #[.int .i64 0] 3) := ⟨_, rfl⟩
  have hbW : Below w2.heap.size w2 W2 := by rw [hW2]; exact (Below.refl _ _).alloc (Nat.le_refl _) _
  have xc : Boxed W2 w2.heap.size 3 (.int .i64 0) := by rw [hW2]; exact Boxed.new _ _ _
  have xa3 := xa2.below hbW xa2.lt
  have xk3 : Boxed W2 (w.heap.size + 1) 3 (.int .i64 k) := (hbW.block _ xk2.lt).trans xk2
  have hrow3 := hrow2.below hbW (Nat.le_refl _)
  have bw3 := bw2.trans (hbW.mono bw2.size)
  obtain ⟨W3, hW3⟩ : ∃ W3, W3 = W2.alloc (.cells #[.int .i64 n, .slice a l.length cap] 28) := ⟨_, rfl⟩
  have hb3 : Below W2.heap.size W2 W3 := by rw [hW3]; exact (Below.refl _ _).alloc (Nat.le_refl _) _
  have xt : Box W3 W2.heap.size 28 (.int .i64 n) (.slice a l.length cap) := by rw [hW3]; exact Box.new _ _ _ _
  have xc4 : Boxed W3 w2.heap.size 3 (.int .i64 0) := (hb3.block _ xc.lt).trans xc
  have xk4 : Boxed W3 (w.heap.size + 1) 3 (.int .i64 k) := (hb3.block _ xk3.lt).trans xk3
  have hrow4 := hrow3.below hb3 (Nat.le_refl _)
  have bw4 := bw3.trans (hb3.mono bw3.size)
  have q1 : w.heap.size + 1 < w2.heap.size := xk2.lt
  have q2 : w2.heap.size < W2.heap.size := xc.lt
  have q3 : W2.heap.size < W3.heap.size := xt.lt
  have hac : blk a ≠ some w2.heap.size := by
    intro e
    rcases hrow2 with h | ⟨b, off, rfl, hbl, _⟩
    · have := HK.out.1; have := HK.out.2.2.1; rw [h] at this; simp at this; omega
    · simp [blk] at e; omega
  clear c0 c1 ck1
  have c0 := xa3.c0
  have c1 := xa3.c1
  rw [hW2] at c0 c1
  have HW2 := Lib.hid hW2
  have HW3 := Lib.hid hW3
  have XT := Lib.hid xt
  have XC := Lib.hid xc4
  have XK := Lib.hid xk4
  have HR := Lib.hid hrow4
  have BW := Lib.hid bw4
  clear hW2 hW3 xt xc4 xk4 hrow4 bw4 bw3 hrow3 xk3 xa3 xc bw2 hrow2 xk2 xa2 bw1 hrow1 xk1 xa1 hbW hb3 hb1 hb2 hba xa xk hrowa
  gi_wp2_with fail
  refine ⟨trivial, ?_⟩
  rw [← HW2.out]
  refine (callsIn_wide.2 (triangles_any _ a l.length cap W2)).mono ?_
  rintro e w4 ⟨rfl, hw4⟩
  rw [← HW3.out] at hw4
  have hw5 := hw4.symm
  clear hw4
  subst hw5
  clear c0 c1
  gi_wp2
  refine rangeY (F := Fence.wide) rfl (by omega) (gf := 51) (lb := #[.pointer (some ⟨W2.heap.size, 0, none⟩)]) rfl trivial (enters_of Try.func51 (by kernel_rfl) rfl)
    (tri_stops W2.heap.size (W3.heap.size + 2) (fun b _ => b ≠ w2.heap.size) n a cap l HK.out W3 XT.out HR.out (by omega) (fun b o e h => hac (by rw [e, h])) ⟨fun b _ h e => by omega, fun b _ _ h e => by omega, fun b _ h e => by omega⟩)
    (fun h k => h.trans k) (fun W l o o2 h hc => KeepR.put W l o o2 h hc) (fun pre x W l o o2 _ ho hc h => h.put l o o2 ho hc) (Below.refl _ _) (fun _ => rfl)
    (fun pre W => (Boxed W w2.heap.size 3 (.int .i64 ((pre.countP fun y => atT k y.1 : Nat) : Int)) ∧ Boxed W (w.heap.size + 1) 3 (.int .i64 k)) ∧ Below w.heap.size w W)
    (fun _ _ _ => False)
    (OwnFrom.and (Own.from (fun s A B row hs hg hr => ⟨Boxed.turn hs.1 hg hr, Boxed.turn hs.2 hg hr⟩) _) (ownFrom_below (Nat.le_refl _) (by have := BW.out.size; omega)))
    (fun _ _ _ _ _ hs _ _ => hs)
    ⟨⟨XC.out, XK.out⟩, BW.out⟩
    (fun x => { tmps := #[.agg #[.int .i64 n, .slice a l.length cap], .int .i64 k, .pointer (some ⟨w.heap.size, 0, none⟩), .pointer (some ⟨w.heap.size + 1, 0, none⟩), .int .i64 0, .pointer (some ⟨w2.heap.size, 0, none⟩), .slice (some ⟨x.2, 0, none⟩) 3 3, .agg #[.int .i64 n, .slice a l.length cap], .bool true, .bool false, .bool false, .agg #[.int .i64 n, .slice a l.length cap], .int .i64 k, .bool true, .bool false, .bool false, .agg #[.int .i64 n, .slice a l.length cap], .func (.func 51) #[] #[.pointer (some ⟨W2.heap.size, 0, none⟩)], .slice (some ⟨x.2, 0, none⟩) 3 3, undef, undef, undef, undef, undef, undef], defers := [] }) ?assign ?body ?done ?stop
  case assign =>
    intro lg x W' K hK
    unfold encT
    gi_wp2
    exact hK
  case body =>
    rintro lg pre x Wr ⟨⟨hc, hk⟩, hB⟩ hy
    have hck := hk.cell
    have hcc := hc.cell
    have hcf := hc.frozen
    have hx3 := hy.len
    have hpos := hy.pos hl8
    have hcont := contains_any (some ⟨x.2, 0, none⟩) x.1 3 k Wr hy.int (by rw [hx3]; decide)
    rw [hx3, hasI_at k hx3] at hcont
    have HCO := Lib.hid hcont
    have hcnt : (pre.countP fun y => atT k y.1) ≤ pre.length := List.countP_le_length
    have hsn : ((pre ++ [x]).countP fun y => atT k y.1) = (pre.countP fun y => atT k y.1) + if atT k x.1 then 1 else 0 := by
      rw [List.countP_append]; simp [List.countP_cons]
    have HSN := Lib.hid hsn
    obtain ⟨v, hv⟩ : ∃ v, v = (pre.countP fun y => atT k y.1) := ⟨_, rfl⟩
    rw [← hv] at hcc hcnt
    have HV := Lib.hid hv
    have HC := Lib.hid hc
    have HKk := Lib.hid hk
    have HB := Lib.hid hB
    clear hcont hsn hv hc hk hB hx3 hy
    gi_wp2_with fail
    refine ⟨trivial, ?_⟩
    refine (CallsIn.inRound lg (callsIn_wide.2 HCO.out)).mono ?_
    rintro e w5 ⟨rfl, hw5⟩
    have hw6 := hw5.symm
    clear hw5
    subst hw6
    cases ha : atT k x.1
    · have HA := Lib.hid ha
      clear ha
      gi_wp2
      refine ⟨KeepsFrom.refl _ _, KeepR.refl _ _, ⟨?_, HKk.out⟩, HB.out⟩
      have := HC.out
      rw [HSN.out, HA.out]
      exact this
    · have HA := Lib.hid ha
      have hv1 : ((v : Int) + 1) = ((pre ++ [x]).countP fun y => atT k y.1 : Nat) := by rw [HSN.out, ha, HV.out]; rfl
      have HV1 := Lib.hid hv1
      clear ha hv1
      gi_wp2
      refine ⟨(KeepsOthers.setCell _ _ _).from _, KeepR.grown (grownBy_setCell' _ _ _) (fun g o e _ hn => by cases e; exact hn rfl), ⟨?_, Boxed.other HKk.out (by omega) _⟩, HB.out.setCell (p := ⟨w2.heap.size, 0, none⟩) (by simp only; omega) _⟩
      rw [← HV1.out]
      exact Boxed.set _ HC.out
  case done =>
    rintro D ys W' hD hS ⟨⟨hc, hk⟩, hB⟩ hK
    have hcc := hc.cell
    have hcnt : (ys.countP fun y => atT k y.1) = (triL l).countP (atT k) := by rw [← hS, List.countP_map]; rfl
    rw [hcnt, ← HE.out] at hcc
    have HB := Lib.hid hB
    have HKK := Lib.hid hK
    clear hc hk hB hK hcnt hS
    gi_wp2
    refine ⟨by simp, .inl ⟨_, _, rfl, run_takeDeferred HKK.out, ?_⟩⟩
    exact ⟨_, results_tmp rfl _ _ _, rfl, HB.out.trans (belowK_b (w := W3) (by have := BW.out.size; omega) W' D _ _ (by omega) HKK.out rfl rfl)⟩
  case stop =>
    rintro D c pre W _ _ h _
    exact h.elim
end Go.Proofs.Ytgdejippddcekaa
