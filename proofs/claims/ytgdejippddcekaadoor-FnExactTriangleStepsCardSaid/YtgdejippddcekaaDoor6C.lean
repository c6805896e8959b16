/-
  'Tour.triangles': the iterator's contract: for every loop body that keeps the iterator's rows, every triangle comes once, in order, each one in a new row. Condition: the tour is valid.
-/
import Derived.Test.YtgdejippddcekaaDoor6M
namespace Go.Proofs.YtgdejippddcekaaDoor
open Go.ChangeShapes Go.WideShapes Go.ChangeAt Go.RowKit Go.Shelf
attribute [local go_sem] Oper.semAt_some
set_option linter.unusedVariables false

theorem room_none {F : Fence} (hd : F.depth = none) (k : Nat) : F.room k := fun d h => by rw [hd] at h; cases h
/-- Where no depth is asked the figures are all one; and a round within a round is walked alike. -/
theorem round_any {m m2 : Nat} {P : Program} {l lr : Nat} {f : FuncId} {tmps : Array Value} {assign body : Code} {w : World} {R : Ending → World → Prop}
    (h : RoundIn Fence.wide m P l f tmps assign body w R) : RoundIn (Fence.wide.inRound lr) m2 P l f tmps assign body w R := ⟨h.1, fun c cs _ => h.2 c cs (room_none rfl _)⟩

/-- A triangle that comes: its players; its row. -/
abbrev Tr := List Int × Nat
def encT (x : Tr) : Array Value := #[.slice (some ⟨x.2, 0, none⟩) 3 3]
/-- What is known of a triangle that comes. -/
structure YT (l : List Int) (B : Nat) (pre : List Tr) (x : Tr) (W : World) : Prop where
  next : ∃ rest, triL l = pre.map Prod.fst ++ x.1 :: rest
  after : ∀ y ∈ pre, y.2 < x.2
  low : B ≤ x.2
  row : W.heap[x.2]? = some (.cells (x.1.map iv).toArray 3 (0, 0))
theorem YT.put {l : List Int} {B : Nat} {pre : List Tr} {x : Tr} {W : World} (h : YT l B pre x W) (k : Nat) (o o2 : Obj) (ho : W.heap[k]? = some o) (hc : o.isCells = false) : YT l B pre x (W.putObj k o2) := by
  refine ⟨h.next, h.after, h.low, ?_⟩
  have : x.2 ≠ k := by intro e; subst e; rw [h.row] at ho; cases ho; cases hc
  exact (World.putObj_heap_other this).trans h.row

/-- What the rounds hold: the triangles that have come, the caller's own, the rows. -/
structure It (l : List Int) (J : List Tr → World → Prop) (R : Nat → Obj → Prop) (B : Nat) (W0 : World) (Ls : List (List Int)) (W : World) : Prop where
  come : ∃ xs : List Tr, xs.map Prod.fst = Ls ∧ (∀ y ∈ xs, y.2 < W.heap.size) ∧ J xs W
  keep : KeepR R W0 W
  oth : KeepsFrom B W0 W
section
variable {l : List Int} {J : List Tr → World → Prop} {R : Nat → Obj → Prop} {B : Nat} {W0 W W2 : World} {Ls : List (List Int)}
theorem KeepR.turn {R : Nat → Obj → Prop} {A C : World} {row : Option Nat} (hg : A.grownBy C row) (hr : ∀ r, row = some r → ∃ o : Obj, A.heap[r]? = some o ∧ o.isCells = false) : KeepR R A C :=
  ⟨hg.size, fun k o hk hc _ => (hg.block k (Array.getElem?_eq_some_iff.1 hk).1 (fun e => by obtain ⟨o2, h2, h3⟩ := hr k e.symm; rw [hk] at h2; cases h2; rw [hc] at h3; cases h3)).trans hk⟩
theorem It.turn (h : It l J R B W0 Ls W) {B0 : Nat} (hJ : OwnFrom B0 J) (hB : B0 ≤ W0.heap.size) {row : Option Nat} (hg : W.grownBy W2 row) (hr : ∀ r, row = some r → W0.heap.size ≤ r ∧ ∃ o : Obj, W.heap[r]? = some o ∧ o.isCells = false) : It l J R B W0 Ls W2 := by
  obtain ⟨xs, h1, h2, h3⟩ := h.come
  refine ⟨⟨xs, h1, fun y hy => Nat.lt_of_lt_of_le (h2 y hy) hg.size, hJ xs W W2 row h3 hg (fun r e => ⟨by have := (hr r e).1; omega, (hr r e).2⟩)⟩, h.keep.trans (KeepR.turn hg (fun r e => (hr r e).2)), ⟨Nat.le_trans h.oth.size hg.size, fun k o hB hk hc => ?_⟩⟩
  have h4 := h.oth.same k o hB hk hc
  have hk1 := (Array.getElem?_eq_some_iff.1 hk).1
  exact (hg.block k (Array.getElem?_eq_some_iff.1 h4).1 (fun e => by have := (hr k e.symm).1; omega)).trans h4
theorem It.below (h : It l J R B W0 Ls W) {B0 : Nat} (hJ : OwnFrom B0 J) (hb : Below W.heap.size W W2) : It l J R B W0 Ls W2 := by
  obtain ⟨xs, h1, h2, h3⟩ := h.come
  exact ⟨⟨xs, h1, fun y hy => Nat.lt_of_lt_of_le (h2 y hy) hb.size, hJ xs W W2 none h3 (grown_of_below hb) (by simp)⟩, h.keep.trans (KeepR.below hb), h.oth.trans (kf_below hb)⟩
end

theorem games_it (n : Int) (a : Option Addr) (len cap : Nat) (w : World) : Calls Tryd.prog 47 #[.agg #[.int .i64 n, .slice a len cap]] w fun e w' => e = .returned (.func (.func 56) #[] #[.pointer (some ⟨w.heap.size, 0, none⟩)]) ∧ w' = w.alloc (.cells #[.int .i64 n, .slice a len cap] 27) := by
  go_enter Tryd.func47, Tryd.ntmps47
  go_wp2
  go_ret
  exact ⟨rfl, rfl⟩
theorem triangles_any (n : Int) (a : Option Addr) (len cap : Nat) (w : World) : Calls Tryd.prog 29 #[.agg #[.int .i64 n, .slice a len cap]] w fun e w' => e = .returned (.func (.func 46) #[] #[.pointer (some ⟨w.heap.size, 0, none⟩)]) ∧ w' = w.alloc (.cells #[.int .i64 n, .slice a len cap] 27) := by
  go_enter Tryd.func29, Tryd.ntmps29
  go_wp2
  go_ret
  exact ⟨rfl, rfl⟩

set_option maxRecDepth 100000 in
set_option maxHeartbeats 2000000 in
theorem tri1 (ly Bt Bz : Nat) (R : Nat → Obj → Prop) (nn : Int) (a : Option Addr) (cap : Nat) (l : List Int) (hok : Ok nn l) (J Jx : List Tr → World → Prop) (W : World) (B0 : Nat) (hB0 : B0 ≤ W.heap.size)
    (hJ : OwnFrom W.heap.size J) (hJx : OwnFrom W.heap.size Jx) (hBz : Bz ≤ W.heap.size)
    (hY : ∀ pre x W1, J pre W1 → YT l B0 pre x W1 → YieldAt Fence.wide 6 Tryd.prog ly (encT x) W1 fun e W' =>
      (e = .returned (.bool true) ∧ J (pre ++ [x]) W' ∧ KeepR R W1 W' ∧ KeepsFrom Bz W1 W') ∨ (e = .returned (.bool false) ∧ Jx (pre ++ [x]) W' ∧ KeepsFrom Bz W1 W'))
    (hbox : Box W Bt 27 (.int .i64 nn) (.slice a l.length cap)) (hrow : IntRow W a l) (hBt : R Bt (.cells #[.int .i64 nn, .slice a l.length cap] 27 (0, 0))) (hag : ∀ b o, blk a = some b → R b o) (hfr : FreshR R B0) (h0 : J [] W) :
    CallsIn Fence.wide 7 Tryd.prog 46 #[.func (.yield ly) #[] #[], .pointer (some ⟨Bt, 0, none⟩)] W fun e W' => (∃ v, e = .returned v) ∧
      ((∃ xs, xs.map Prod.fst = triL l ∧ J xs W') ∨ (∃ pre, (∃ rest, triL l = pre.map Prod.fst ++ rest) ∧ Jx pre W')) := by
  have hl8 : l.length ≤ 8 := by have := hok.2.1; have := hok.2.2.1; omega
  obtain ⟨W1, hW1⟩ : ∃ W1, W1 = W.alloc (.cells #[.func (.yield ly) #[] #[]] 70) := ⟨_, rfl⟩
  obtain ⟨W2, hW2⟩ : ∃ W2, W2 = W1.alloc (.cells #[.int .i64 nn, .slice a l.length cap] 27) := ⟨_, rfl⟩
  have s1 : W1.heap.size = W.heap.size + 1 := by rw [hW1]; simp
  have s2 : W2.heap.size = W.heap.size + 2 := by rw [hW2]; simp [s1]
  have b1 : Below W.heap.size W W1 := by rw [hW1]; exact (Below.refl _ _).alloc (Nat.le_refl _) _
  have b2 : Below W1.heap.size W1 W2 := by rw [hW2]; exact (Below.refl _ _).alloc (Nat.le_refl _) _
  have b12 : Below W.heap.size W W2 := b1.trans (b2.mono (by omega))
  have xy : Boxed W2 W.heap.size 70 (.func (.yield ly) #[] #[]) := by rw [hW2]; exact Boxed.alloc (by rw [hW1]; exact Boxed.new _ _ _) _
  have xg : Box W2 W1.heap.size 27 (.int .i64 nn) (.slice a l.length cap) := by rw [hW2]; exact Box.new _ _ _ _
  have xt1 : Box W1 Bt 27 (.int .i64 nn) (.slice a l.length cap) := hbox.below b1 hbox.lt
  have xt : Box W2 Bt 27 (.int .i64 nn) (.slice a l.length cap) := hbox.below b12 hbox.lt
  have hr2 : IntRow W2 a l := hrow.below b12 (Nat.le_refl _)
  have hj2 : J [] W2 := hJ _ W W2 none h0 (grown_of_below b12) (by simp)
  have c0 := xt1.c0
  have c1 := xt1.c1
  have HW1 := Lib.hid hW1
  have HW2 := Lib.hid hW2
  rw [HW1.out] at c0 c1
  have XY := Lib.hid xy
  have XG := Lib.hid xg
  have XT := Lib.hid xt
  have HR := Lib.hid hr2
  have HOK := Lib.hid hok
  have HJ := Lib.hid hj2
  clear hW1 hW2 xy xg xt xt1 hr2 hok hj2 hbox hrow h0 b1 b2 b12
  refine callsIn_of_wp_marks Tryd.func46 rfl trivial ?_ rfl
  simp only [Tryd.ntmps46, List.size_toArray, List.length_cons, List.length_nil, Nat.reduceAdd, Nat.reduceSub, Array.replicate_succ, Array.replicate_zero, List.push_toArray, List.append_toArray, List.nil_append, List.cons_append]
  gi_wp2_with fail
  refine ⟨trivial, ?_⟩
  rw [← HW1.out]
  refine (callsIn_wide.2 (games_it _ a l.length cap W1)).mono ?_
  rintro e w3 ⟨rfl, hw3⟩
  rw [← HW2.out] at hw3
  have hw4 := hw3.symm
  clear hw3
  subst hw4
  clear c0 c1
  have hsB : Bz ≤ W2.heap.size + 2 := by omega
  have hfr2 : FreshR R W2.heap.size := hfr.mono (by omega)
  have hBg : R W1.heap.size (.cells #[.int .i64 nn, .slice a l.length cap] 27 (0, 0)) := hfr.tour _ _ _ (by omega)
  have hYb : R W.heap.size (.cells #[.func (.yield ly) #[] #[]] 70 (0, 0)) := hfr.fn _ _ hB0
  have hs1 : W.heap.size < W1.heap.size := by omega
  have hs2 : W1.heap.size < W2.heap.size := by omega
  clear s1 s2
  gi_wp2
  refine rangeY (F := Fence.wide) rfl (by omega) (gf := 56) (lb := #[.pointer (some ⟨W1.heap.size, 0, none⟩)]) rfl trivial (enters_of Tryd.func56 (by kernel_rfl) rfl)
    (games_stops 6 (by omega) W1.heap.size (W2.heap.size + 2) R nn a cap l HOK.out W2 XG.out HR.out hBg hag hfr2) (fun h k => h.trans k) (fun W l o o2 h hc => KeepR.put W l o o2 h hc) (fun _ _ _ _ _ _ _ _ _ h => h) (Below.refl _ _) (fun _ => rfl)
    (fun pre W' => It l J R Bz W2 (triN l pre) W')
    (fun c _ W' => c = .ret ∧ ∃ xs, (∃ rest, triL l = xs.map Prod.fst ++ rest) ∧ Jx xs W')
    ?ownI ?ownX ⟨⟨[], rfl, fun _ h => absurd h (by simp), HJ.out⟩, KeepR.refl _ _, KeepsFrom.refl _ _⟩
    (fun x => { tmps := #[.func (.yield ly) #[] #[], .pointer (some ⟨Bt, 0, none⟩), .pointer (some ⟨W.heap.size, 0, none⟩), .int .i64 (x.1.val : Int), .int .i64 (x.2.val : Int), undef, undef, .agg #[.int .i64 nn, .slice a l.length cap], .func (.func 56) #[] #[.pointer (some ⟨W1.heap.size, 0, none⟩)], .int .i64 (x.1.val : Int), .int .i64 (x.2.val : Int), undef, undef, undef, undef, undef, undef, undef, undef, undef, undef, undef, undef, undef, undef, undef, undef, undef, undef, undef, undef, undef, undef, undef, undef, undef, undef, undef, undef, undef, undef, undef, undef], defers := [] }) ?assign ?body ?done ?stop
  case ownI => exact fun s A B row hs hg hr => hs.turn hJ (by omega) hg hr
  case ownX =>
    rintro c s A B row ⟨rfl, xs, h1, h2⟩ hg hr
    exact ⟨rfl, xs, h1, hJx xs A B row h2 hg (fun r e => ⟨by have := (hr r e).1; omega, (hr r e).2⟩)⟩
  case assign =>
    intro lg x W' K hK
    unfold encP
    gi_wp2
    exact hK
  case body =>
    rintro lg pre ⟨⟨a1, ha1⟩, ⟨b1, hb1l⟩⟩ Wr hI ⟨rest, hnext⟩
    obtain ⟨z, hz, hz2, hz8⟩ := HOK.out.nat hb1l
    have hes : elems z = losN l b1 := (elems_losers l.length l b1 z hl8 hz hz2).trans (losers_losN l b1)
    obtain ⟨b, off, rfl, hbb, hcx⟩ := HR.out.at hb1l
    rw [hz] at hcx
    have hcr := cell_keepR hcx hI.keep (p := ⟨b, off + b1, none⟩) (fun o => hag b o rfl)
    have d1 := (XT.out.keepR hI.keep hBt).c1
    have hib : (b1 : Int) < (l.length : Int) := by omega
    have HI := Lib.hid hI
    have HES := Lib.hid hes
    have HN := Lib.hid hnext
    obtain ⟨m, hm⟩ : ∃ m, m = (elems z).length := ⟨_, rfl⟩
    have HM := Lib.hid hm
    have hm8 : m ≤ 8 := by rw [hm]; exact elTo_len z 8
    have hml : m = (losN l b1).length := by rw [hm, hes]
    have HML := Lib.hid hml
    clear hz hcx hI hes hnext hm hml hbb
    gi_wp2_with fail
    refine ⟨trivial, ?_⟩
    refine (CallsIn.inRound lg (callsIn_wide.2 (elementsOf_any z hz8 _))).mono ?_
    rintro e w1 ⟨⟨ge, ce, rfl, hown⟩, hbw⟩
    rw [← HM.out] at hown ⊢
    have HI1 := Lib.hid (HI.out.below hJ hbw)
    have hsw : W2.heap.size ≤ Wr.heap.size := HI.out.keep.size
    have HBW := Lib.hid hbw
    have HOW := Lib.hid hown
    clear hown hbw hcr d1
    gi_wp2
    gi_loopw [18] (fun i wr => ∃ j : Nat, j ≤ m ∧ i = .int .i64 j ∧ It l J R Bz W2 (triN l pre ++ triJ l a1 b1 j) wr ∧ KeepR R w1 wr ∧ KeepsFrom Bz w1 wr) (fun i _ => m - (intOf i).toNat)
    case atStart => exact ⟨0, Nat.zero_le _, rfl, by rw [triJ_zero, List.append_nil]; exact HI1.out, KeepR.refl _ _, KeepsFrom.refl _ _⟩
    case round =>
      obtain ⟨j, hj, rfl, hIj, hkj, hoj⟩ := hrel
      by_cases hlt2 : j < m
      · obtain ⟨c, hc⟩ : ∃ c, (losN l b1)[j]? = some c := ⟨(losN l b1)[j]'(by rw [← HML.out]; exact hlt2), List.getElem?_eq_getElem _⟩
        have hcl : c < l.length := by
          have := List.mem_of_getElem? hc
          unfold losN at this
          exact List.mem_range.1 (List.mem_filter.1 this).1
        have hcr : wr.cell? ⟨ge, j, none⟩ = some (.int .i64 (c : Int)) := by
          rw [(own_keepR HOW.out hkj (fun g cur hg => hfr.int g cur (by omega))).cellAt j (by omega), HES.out, List.getElem?_map, hc]
          rfl
        have d0 := (XT.out.keepR hIj.keep hBt).c0
        have d1 := (XT.out.keepR hIj.keep hBt).c1
        have dy : wr.cell? ⟨W.heap.size, 0, none⟩ = some (.func (.yield ly) #[] #[]) := Boxed.cell (hIj.keep.same _ _ XY.out rfl hYb)
        have hjb : (j : Int) < (m : Int) := by omega
        have hrw := HR.out.keepR hIj.keep hag
        have HIJ := Lib.hid hIj
        have HKJ := Lib.hid hkj
        have HOJ := Lib.hid hoj
        have HC := Lib.hid hc
        have HRW := Lib.hid hrw
        clear hIj hkj hoj hc hrw
        by_cases hab : a1 < min b1 c
        · have hg : decide ((a1 : Int) < min (b1 : Int) (c : Int)) = true := by rw [decide_eq_true_iff]; omega
          have hbe := beats_any nn (some ⟨b, off, none⟩) l cap c a1 wr HRW.out (by unfold maxLen; omega) hcl (by omega)
          have HBE := Lib.hid hbe
          have HAB := Lib.hid hab
          clear hbe hab
          gi_wp2_with fail
          refine ⟨trivial, ?_⟩
          refine (CallsIn.inRound lg (callsIn_wide.2 HBE.out)).mono ?_
          rintro e wr2 ⟨rfl, hb2⟩
          have HI2 := Lib.hid (HIJ.out.below hJ hb2)
          have hy2 := (hb2.cell (p := ⟨W.heap.size, 0, none⟩) (Array.getElem?_eq_some_iff.1 (HIJ.out.keep.same _ _ XY.out rfl hYb)).1).trans dy
          have HK2 := Lib.hid (HKJ.out.trans (KeepR.below hb2))
          have HO2 := Lib.hid (HOJ.out.trans (kf_below hb2))
          clear hb2 hcr d0 d1 dy hg
          by_cases hbt : bt l c a1 = true
          · rw [hbt]
            have hpt : triP l a1 b1 c = true := by unfold triP; rw [hbt]; simp; have := HAB.out; omega
            obtain ⟨W4, hW4⟩ : ∃ W4, W4 = wr2.alloc (.cells #[.int .i64 (a1 : Int), .int .i64 (b1 : Int), .int .i64 (c : Int)] 3) := ⟨_, rfl⟩
            have hb4 : Below wr2.heap.size wr2 W4 := by rw [hW4]; exact (Below.refl _ _).alloc (Nat.le_refl _) _
            obtain ⟨xs, hx1, hx2, hx3⟩ := HI2.out.come
            have hJ4 := hJ xs wr2 W4 none hx3 (grown_of_below hb4) (by simp)
            have hsz2 : W2.heap.size ≤ wr2.heap.size := HI2.out.keep.size
            have hyt : YT l B0 xs (t3 a1 b1 c, wr2.heap.size) W4 := by
              refine ⟨?_, fun y hy => hx2 y hy, by simp only; omega, by rw [hW4]; exact World.alloc_heap_new wr2 _⟩
              obtain ⟨more, hm⟩ := triN_split HOK.out HN.out (j + 1)
              simp only at hm
              rw [triJ_yes l a1 b1 j c HC.out hpt] at hm
              exact ⟨more, by rw [hm, hx1]; simp⟩
            obtain ⟨fn, tmps, assign, body, hyy, hR⟩ := hY xs (t3 a1 b1 c, wr2.heap.size) W4 hJ4 hyt
            have HR4 := Lib.hid (round_any (m2 := 4) (lr := lg) hR)
            have HW4 := Lib.hid hW4
            have HB4 := Lib.hid hb4
            rw [hW4] at hyy
            dsimp only [encT] at hyy
            have HX := Lib.hid hx1
            have HX2 := Lib.hid hx2
            clear hR hW4 hb4 hx1 hx2 hx3 hJ4 hyt hbt
            gi_wp2_with fail
            rw [← HW4.out]
            refine HR4.out.mono ?_
            have hnx : triN l pre ++ triJ l a1 b1 (j + 1) = (xs ++ [(t3 a1 b1 c, wr2.heap.size)]).map Prod.fst := by rw [triJ_yes l a1 b1 j c HC.out hpt, ← List.append_assoc, ← HX.out]; simp
            have HNX := Lib.hid hnx
            clear hnx hyy hy2
            have hs4 : wr2.heap.size < W4.heap.size := by rw [HW4.out]; simp
            rintro e W5 (⟨rfl, hJ5, hk5, ho5⟩ | ⟨rfl, hJx5, ho5⟩)
            · have hI5 : It l J R Bz W2 (triN l pre ++ triJ l a1 b1 (j + 1)) W5 := by
                refine ⟨⟨_, HNX.out.symm, fun y hy => ?_, hJ5⟩, (HI2.out.keep.trans (KeepR.below HB4.out)).trans hk5, (HI2.out.oth.trans (kf_below HB4.out)).trans ho5⟩
                have h5 := hk5.size
                rcases List.mem_append.1 hy with h | h
                · have := HX2.out y h; omega
                · have : y = (t3 a1 b1 c, wr2.heap.size) := by simpa using h
                  subst this; simp only; omega
              have HI5 := Lib.hid hI5
              have HK5 := Lib.hid ((HK2.out.trans (KeepR.below HB4.out)).trans hk5)
              have HO5 := Lib.hid ((HO2.out.trans (kf_below HB4.out)).trans ho5)
              clear hI5 hJ5 hk5 ho5
              gi_wp2
              go_roundw
              case rel => exact ⟨j + 1, by omega, by go_num, HI5.out, HK5.out, HO5.out⟩
              case measure => simp [intOf]; omega
            · have HO5 := Lib.hid ((HO2.out.trans (kf_below HB4.out)).trans ho5)
              have HJX := Lib.hid hJx5
              have hrest : ∃ rest, triL l = (xs ++ [(t3 a1 b1 c, wr2.heap.size)]).map Prod.fst ++ rest := by
                obtain ⟨more, hm⟩ := triN_split HOK.out HN.out (j + 1)
                exact ⟨more, by rw [← HNX.out]; exact hm⟩
              have HRE := Lib.hid hrest
              clear ho5 hJx5 hrest
              gi_wp2
              exact ⟨kf_mono ((kf_below HBW.out).trans HO5.out) (by omega), rfl, _, HRE.out, HJX.out⟩
          · rw [show bt l c a1 = false by simpa using hbt]
            have hpt : triP l a1 b1 c = false := by unfold triP; simp [hbt]
            have HI3 := Lib.hid (show It l J R Bz W2 (triN l pre ++ triJ l a1 b1 (j + 1)) wr2 by rw [triJ_no l a1 b1 j c HC.out hpt]; exact HI2.out)
            clear hbt hpt
            gi_wp2_with fail
            refine ⟨fun _ h => (by cases h), ?_⟩
            gi_wp2
            go_roundw
            case rel => exact ⟨j + 1, by omega, by go_num, HI3.out, HK2.out, HO2.out⟩
            case measure => simp [intOf]; omega
        · have hg : decide ((a1 : Int) < min (b1 : Int) (c : Int)) = false := by rw [decide_eq_false_iff_not]; omega
          have hpt : triP l a1 b1 c = false := by unfold triP; simp; omega
          have HI3 := Lib.hid (show It l J R Bz W2 (triN l pre ++ triJ l a1 b1 (j + 1)) wr by rw [triJ_no l a1 b1 j c HC.out hpt]; exact HIJ.out)
          clear hab hpt
          gi_wp2_with fail
          refine ⟨trivial, ?_⟩
          gi_wp2_with fail
          refine ⟨fun _ h => (by cases h), ?_⟩
          gi_wp2
          go_roundw
          case rel => exact ⟨j + 1, by omega, by go_num, HI3.out, HKJ.out, HOJ.out⟩
          case measure => simp [intOf]; omega
      · obtain rfl : j = m := by omega
        have hall : triJ l a1 b1 j = triG l a1 b1 := by rw [HML.out]; exact triJ_all l a1 b1
        rw [hall] at hIj
        have HIJ := Lib.hid hIj
        have HKJ := Lib.hid ((KeepR.below HBW.out).trans hkj)
        have HOJ := Lib.hid ((kf_below HBW.out).trans hoj)
        clear hall hIj hkj hoj
        gi_wp2
        exact ⟨kf_mono HOJ.out (by omega), HKJ.out, by show It _ _ _ _ _ (triN l (pre ++ [_])) _; rw [triN_snoc]; exact HIJ.out⟩
  case done =>
    rintro D ys W' hD rfl hI hK
    obtain ⟨xs, h1, h2, h3⟩ := hI.come
    have hK1 := hK
    have hD2 : W.heap.size ≤ D := by omega
    have hput := hJ.putObj (.deferred none) h3 hD2 hK rfl
    have HP := Lib.hid hput
    have HX := Lib.hid h1
    have HK := Lib.hid hK
    clear hI h1 h2 h3 hK hK1 hput
    gi_wp2
    refine ⟨by simp, .inl ⟨_, _, rfl, run_takeDeferred HK.out, ?_⟩⟩
    exact ⟨_, results_none rfl _ _ _, ⟨_, rfl⟩, .inl ⟨xs, by rw [HX.out]; exact triN_all HOK.out, HP.out⟩⟩
  case stop =>
    rintro D c pre W' hD _ ⟨rfl, xs, hx, hj⟩ hK
    have hD2 : W.heap.size ≤ D := by omega
    have hput := hJx.putObj (.deferred none) hj hD2 hK rfl
    have HP := Lib.hid hput
    have HX := Lib.hid hx
    have HK := Lib.hid hK
    clear hx hj hK hput
    gi_wp2
    refine ⟨by simp, .inl ⟨_, _, rfl, run_takeDeferred HK.out, ?_⟩⟩
    exact ⟨_, results_none rfl _ _ _, ⟨_, rfl⟩, .inr ⟨xs, HX.out, HP.out⟩⟩

/-- The iterator's contract. -/
theorem tri_stops (Bt Bz : Nat) (R : Nat → Obj → Prop) (nn : Int) (a : Option Addr) (cap : Nat) (l : List Int) (hok : Ok nn l) (w : World)
    (hbox : Box w Bt 27 (.int .i64 nn) (.slice a l.length cap)) (hrow : IntRow w a l) (hBt : R Bt (.cells #[.int .i64 nn, .slice a l.length cap] 27 (0, 0))) (hag : ∀ b o, blk a = some b → R b o) (hfr : FreshR R w.heap.size) :
    SeqY Fence.wide 7 Tryd.prog 46 #[.pointer (some ⟨Bt, 0, none⟩)] encT (YT l w.heap.size) (KeepR R) (fun xs => xs.map Prod.fst = triL l) (fun pre => ∃ rest, triL l = pre.map Prod.fst ++ rest) Bz w :=
  fun ly J Jx W hW hBz hJ hJx hY h0 =>
    tri1 ly Bt Bz R nn a cap l hok J Jx W w.heap.size hW.size hJ hJx hBz hY (hbox.below hW hbox.lt) (hrow.below hW (Nat.le_refl _)) hBt hag hfr h0
end Go.Proofs.YtgdejippddcekaaDoor
