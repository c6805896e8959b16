/-
  'hasAllNames', 'CountSymmetries' of the program. No conditions but the bounds that Go gives a slice.
-/
import Derived.Test.YteiadhfjpohmdaaXp
import Derived.Test.YteiadhfjpohmdaaXq
import Derived.Test.YteiadhfjpohmdaaXi
namespace Go.Proofs.Yteiadhfjpohmdaa
open Go.ChangeShapes Go.WideShapes Go.ChangeAt Go.RowKit Go.Shelf
attribute [local go_sem] Oper.semAt_some
set_option linter.unusedVariables false

theorem padX_injR {x y : List Int} (h : x.length = y.length) : eqX (padX x) (padX y) = eqX x y := by
  unfold eqX padX
  rw [h]
  congr 1
  rw [List.append_cancel_right_eq]
/-- A valid tour of at most six players. -/
noncomputable def hanB (n : Int) (l : List Int) : Bool := okB n l && decide (n ≤ 6)
theorem hanB_iff {n : Int} {l : List Int} : hanB n l = true ↔ Ok n l ∧ n ≤ 6 := by unfold hanB; rw [Bool.and_eq_true, okB_iff, decide_eq_true_eq]

set_option maxHeartbeats 1000000 in
theorem hasAllNames_any (n : Int) (a : Option Addr) (l : List Int) (cap : Nat) (w : World) (hrow : IntRow w a l) (hl : l.length ≤ maxLen) :
    Calls Try.prog 94 #[.agg #[.int .i64 n, .slice a l.length cap]] w fun e w' => e = .returned (.bool (hanB n l)) ∧ Below w.heap.size w w' := by
  obtain ⟨Wa, hWa⟩ : ∃ Wa, Wa = w.alloc (.cells #[.int .i64 n, .slice a l.length cap] 27) := ⟨_, rfl⟩
  have HWa := Lib.hid hWa
  have hba : Below w.heap.size w Wa := by rw [hWa]; exact (Below.refl _ _).alloc (Nat.le_refl _) _
  have xa : Box Wa w.heap.size 27 (.int .i64 n) (.slice a l.length cap) := by rw [hWa]; exact Box.new _ _ _ _
  have hrowa : IntRow Wa a l := hrow.below hba (Nat.le_refl _)
  have HL := Lib.hid hl
  clear hl hrow hWa
  cases hok : okB n l
  · have HO := Lib.hid hok
    have HE : Hid (hanB n l = false) := by show _ = _; unfold hanB; rw [hok]; rfl
    clear hok
    go_enter Try.func94, Try.ntmps94
    go_wp2_with fail
    rw [← HWa.out]
    refine (implTourOk n a l cap Wa hrowa HL.out).mono ?_
    rintro e w1 ⟨rfl, hb1⟩
    rw [HO.out]
    have B1 := Lib.hid (hba.trans (hb1.mono hba.size))
    clear hb1
    go_wp2
    go_ret
    exact ⟨by rw [HE.out]; rfl, B1.out⟩
  have HO := Lib.hid hok
  have HE : Hid (hanB n l = decide (n ≤ 6)) := by show _ = _; unfold hanB; rw [hok]; rfl
  clear hok
  go_enter Try.func94, Try.ntmps94
  go_wp2_with fail
  rw [← HWa.out]
  refine (implTourOk n a l cap Wa hrowa HL.out).mono ?_
  rintro e w1 ⟨rfl, hb1⟩
  rw [HO.out]
  have c0 := (xa.below hb1 xa.lt).c0
  have B1 := Lib.hid (hba.trans (hb1.mono hba.size))
  clear hb1
  go_wp2
  go_ret
  exact ⟨by rw [HE.out]; rfl, B1.out⟩

/-- A table of results, whatever the world. -/
theorem results_at {n : Int} {a : Option Addr} {cap m : Nat} {L : List Int} (hm : L.length = m) (h8 : m ≤ 8) (W : World) (hrow : IntRow W a L) :
    Calls Try.prog 96 #[.agg #[.int .i64 n, .slice a m cap]] W fun e w' => e = .returned (.agg (resV n L)) ∧ Below W.heap.size W w' := by
  subst hm; exact results_any n a cap L W h8 hrow
theorem eql_at {m : Nat} {R l : List Int} (hR : R.length = m) (hl : l.length = m) (h8 : m ≤ 8) (w : World) :
    (Op.equalIn 10000 76 (.agg (resV (m : Int) R)) (.agg (resV (m : Int) l))).run Try.prog w = .ok (eqX R l) w := by
  rw [eql_res _ _ _ _ (by omega) (by omega), padX_injR (hR.trans hl.symm)]; simp
theorem own_intR {w : World} {B m c : Nat} {a : Option Addr} {L : List Int} (hm : L.length = m) (h : w.ownsRow B 3 1 (.slice a m c) m (L.map iv)) : IntRow w a L := by subst hm; exact own_int h
theorem KeepR.setC {W : World} {C : Nat} {v : Value} : KeepR (fun b _ => b ≠ C) W (W.setCell ⟨C, 0, none⟩ v) :=
  ⟨by simp [World.setCell], fun k o hk _ hR => (heap_setCell_other W ⟨C, 0, none⟩ k v (fun e => hR (by rw [e]))).trans hk⟩

/-- How many of some orders give the tour itself. -/
def cntS (l : List Int) (Ls : List (List Nat)) : Nat := Ls.countP fun o => eqX (rnL l o) l
theorem cntS_snoc (l : List Int) (Ls : List (List Nat)) (o : List Nat) : cntS l (Ls ++ [o]) = cntS l Ls + (if eqX (rnL l o) l then 1 else 0) := by
  unfold cntS; rw [List.countP_append]; simp [List.countP_cons]
/-- What both 'CountSymmetries' answer. -/
noncomputable def csR (n : Int) (l : List Int) : Int := if hanB n l then (cntS l (Rn.allO l.length) : Int) else 0

/-- What the rounds hold. -/
structure Cs (w0 : World) (T C m : Nat) (a : Option Addr) (cap : Nat) (l : List Int) (M : Nat) (pre : List Tn) (W : World) : Prop where
  cnt : Boxed W C 3 (.int .i64 ((cntS l (pre.map Prod.fst) : Nat) : Int))
  box : Box W T 27 (.int .i64 (m : Int)) (.slice a m cap)
  bl : Below w0.heap.size w0 W
  big : M ≤ W.heap.size
section
variable {w0 W W2 : World} {T C m : Nat} {a : Option Addr} {cap : Nat} {l : List Int} {M : Nat} {pre : List Tn}
theorem Cs.turn (h : Cs w0 T C m a cap l M pre W) {B : Nat} (hT : T < B) (hC : C < B) (hw : w0.heap.size ≤ B) {row : Option Nat} (hg : W.grownBy W2 row) (hr : ∀ r, row = some r → B ≤ r) : Cs w0 T C m a cap l M pre W2 := by
  have hsz := h.bl.size
  refine ⟨Boxed.kept h.cnt hg (fun e => by have := hr C e.symm; omega), h.box.grown hg (fun e => by have := hr T e; omega), ?_, Nat.le_trans h.big hg.size⟩
  exact h.bl.grown hg hsz (fun k e => by have := hr k e; omega)
theorem Cs.below (h : Cs w0 T C m a cap l M pre W) (hb : Below W.heap.size W W2) : Cs w0 T C m a cap l M pre W2 :=
  ⟨(hb.block _ (Boxed.lt h.cnt)).trans h.cnt, h.box.below hb h.box.lt, h.bl.trans (hb.mono h.bl.size), Nat.le_trans h.big hb.size⟩
end

set_option maxRecDepth 100000 in
set_option maxHeartbeats 2000000 in
theorem implCountSymmetries (n : Int) (a : Option Addr) (l : List Int) (cap : Nat) (w : World) (hrow : IntRow w a l) (hl : l.length ≤ maxLen) :
    Calls Try.prog 31 #[.agg #[.int .i64 n, .slice a l.length cap]] w fun e w' => e = .returned (.int .i64 (csR n l)) ∧ Below w.heap.size w w' := by
  obtain ⟨Wa, hWa⟩ : ∃ Wa, Wa = w.alloc (.cells #[.int .i64 n, .slice a l.length cap] 27) := ⟨_, rfl⟩
  have HWa := Lib.hid hWa
  have hba : Below w.heap.size w Wa := by rw [hWa]; exact (Below.refl _ _).alloc (Nat.le_refl _) _
  have xa : Box Wa w.heap.size 27 (.int .i64 n) (.slice a l.length cap) := by rw [hWa]; exact Box.new _ _ _ _
  have hrowa : IntRow Wa a l := hrow.below hba (Nat.le_refl _)
  have HL := Lib.hid hl
  have HROW := Lib.hid hrow
  clear hl hrow hWa
  cases hok : hanB n l
  · have HO := Lib.hid hok
    have HE : Hid (csR n l = 0) := by show _ = _; unfold csR; rw [hok]; rfl
    clear hok
    go_enter Try.func31, Try.ntmps31
    go_wp2_with fail
    rw [← HWa.out]
    refine (hasAllNames_any n a l cap Wa hrowa HL.out).mono ?_
    rintro e w1 ⟨rfl, hb1⟩
    rw [HO.out]
    have B1 := Lib.hid (hba.trans (hb1.mono hba.size))
    clear hb1
    go_wp2
    go_ret
    exact ⟨by rw [HE.out]; rfl, B1.out⟩
  have HO := Lib.hid hok
  obtain ⟨hk, h6⟩ := hanB_iff.1 hok
  have HE : Hid (csR n l = (cntS l (Rn.allO l.length) : Int)) := by show _ = _; unfold csR; rw [hok]; rfl
  obtain rfl : n = (l.length : Int) := hk.2.2.1.symm
  obtain ⟨m, hm⟩ : ∃ m, m = l.length := ⟨_, rfl⟩
  have HM := Lib.hid hm
  have HNA := Lib.hid (hasAllNames_any (l.length : Int) a l cap Wa hrowa HL.out)
  rw [HO.out] at HNA
  have hlow : ∀ b, blk a = some b → b < w.heap.size := by
    intro b e
    rcases HROW.out with h | ⟨b2, off, rfl, hb2, _⟩
    · have := hk.1; rw [h] at this; simp at this
    · simp [blk] at e; omega
  have HLOW := Lib.hid hlow
  rw [← hm] at hk h6 HE HNA xa HWa ⊢
  have HK := Lib.hid hk
  have hm6 : m ≤ 6 := by omega
  clear hok hk hm hlow HO h6
  refine (callsIn_wide (n := 8)).1 ?_
  refine callsIn_of_wp_marks Try.func31 rfl trivial ?_ rfl
  simp only [Try.ntmps31, List.size_toArray, List.length_cons, List.length_nil, Nat.reduceAdd, Nat.reduceSub, Array.replicate_succ, Array.replicate_zero, List.push_toArray, List.append_toArray, List.nil_append, List.cons_append]
  gi_wp2_with fail
  refine ⟨trivial, ?_⟩
  rw [← HWa.out]
  refine (callsIn_wide.2 HNA.out).mono ?_
  rintro e w1 ⟨rfl, hb1⟩
  obtain ⟨W2, hW2⟩ : ∃ W2, W2 = w1.alloc (.cells #[.int .i64 0] 3) := ⟨_, rfl⟩
  obtain ⟨W3, hW3⟩ : ∃ W3, W3 = W2.alloc (.cells #[.int .i64 (m : Int), .slice a m cap] 27) := ⟨_, rfl⟩
  have b2 : Below w1.heap.size w1 W2 := by rw [hW2]; exact (Below.refl _ _).alloc (Nat.le_refl _) _
  have b3 : Below W2.heap.size W2 W3 := by rw [hW3]; exact (Below.refl _ _).alloc (Nat.le_refl _) _
  have b13 : Below w1.heap.size w1 W3 := b2.trans (b3.mono b2.size)
  have bw1 : Below w.heap.size w w1 := hba.trans (hb1.mono hba.size)
  have bw3 : Below w.heap.size w W3 := bw1.trans (b13.mono bw1.size)
  have x1 := xa.below hb1 xa.lt
  have x2 := x1.below b2 x1.lt
  have xc : Boxed W3 w1.heap.size 3 (.int .i64 0) := by rw [hW3]; exact Boxed.alloc (by rw [hW2]; exact Boxed.new _ _ _) _
  have xt : Box W3 W2.heap.size 27 (.int .i64 (m : Int)) (.slice a m cap) := by rw [hW3]; exact Box.new _ _ _ _
  have x3 := x1.below b13 x1.lt
  have hlt1 : w.heap.size < w1.heap.size := x1.lt
  have hlt2 : w1.heap.size < W2.heap.size := by rw [hW2]; simp
  have hlt3 : W2.heap.size < W3.heap.size := xt.lt
  have HR3 := Lib.hid (HROW.out.below bw3 (Nat.le_refl _))
  have c0 := x2.c0
  have c1 := x2.c1
  have HW2 := Lib.hid hW2
  have HW3 := Lib.hid hW3
  have XC := Lib.hid xc
  have XT := Lib.hid xt
  have X3 := Lib.hid x3
  have BW3 := Lib.hid bw3
  rw [HW2.out] at c0 c1
  clear hW2 hW3 b2 b3 b13 bw1 bw3 x1 x2 xc xt x3 hb1 xa hrowa hba
  gi_wp2_with fail
  refine ⟨trivial, ?_⟩
  rw [← HW2.out]
  refine (callsIn_wide.2 (renamings_any (m : Int) a m cap W2)).mono ?_
  rintro e w4 ⟨rfl, hw4⟩
  rw [← HW3.out] at hw4
  have hw5 := hw4.symm
  clear hw4
  subst hw5
  clear c0 c1
  gi_wp2
  refine rangeMH (F := Fence.wide) rfl (by omega) (gf := 137) (lb := #[.pointer (some ⟨W2.heap.size, 0, none⟩)]) rfl trivial (enters_of Try.func137 (by kernel_rfl) rfl)
    (renam_stops W2.heap.size (W3.heap.size + 2) m (fun M b _ => b ≠ w1.heap.size) a cap l HM.out HK.out hm6 W3 XT.out HR3.out (fun M o => by omega) (fun M b o e => by have := HLOW.out b e; omega) (fun M b o h1 h2 => by omega))
    (fun h k => h.trans k) (fun M W l o o2 h hc => KeepR.put W l o o2 h hc) (fun M pre x W l o o2 _ ho hc h => h.put l o o2 ho hc) (Below.refl _ _) (fun _ => rfl)
    (fun M pre W' => Cs w w.heap.size w1.heap.size m a cap l M pre W')
    (fun M c _ W' => False)
    (fun M s A B row hs hg hr => hs.turn (B := W3.heap.size) (by omega) (by omega) (by omega) hg (fun r e => (hr r e).1))
    (fun M c s A B row hs hg hr => hs)
    (fun M V hb h1 h2 => ⟨(hb.block _ (by omega)).trans XC.out, X3.out.below hb X3.out.lt, BW3.out.trans (hb.mono BW3.out.size), h2⟩)
    (fun x a2 W => ∃ p, Box W p 27 (.int .i64 (m : Int)) (.slice (some ⟨x.2.1, 0, none⟩) m x.2.2) ∧ p ≠ w1.heap.size ∧ a2 = { tmps := #[.agg #[.int .i64 (m : Int), .slice a m cap], .pointer (some ⟨w.heap.size, 0, none⟩), .int .i64 0, .pointer (some ⟨w1.heap.size, 0, none⟩), .pointer (some ⟨p, 0, none⟩), .agg #[.int .i64 (m : Int), .slice a m cap], .bool true, .bool false, .agg #[.int .i64 (m : Int), .slice a m cap], .func (.func 137) #[] #[.pointer (some ⟨W2.heap.size, 0, none⟩)], .agg #[.int .i64 (m : Int), .slice (some ⟨x.2.1, 0, none⟩) m x.2.2], undef, undef, undef, undef, undef, undef, undef, undef], defers := [] })
    (fun x a2 s A B row hs hg hr => by obtain ⟨p, h1, h2, h3⟩ := hs; exact ⟨p, h1.grown hg (fun e => by
      obtain ⟨_, o, ho, hc⟩ := hr p e
      have hh : A.heap[p]? = some (.cells #[_, _] 27 (0, 0)) := h1
      rw [hh] at ho; cases ho; cases hc), h2, h3⟩) ?assign ?body ?done ?stop
  case assign =>
    intro lg M pre x W K hI hy hK
    unfold encTn
    have hb : Below W.heap.size W (W.alloc (.cells #[.int .i64 (m : Int), .slice (some ⟨x.2.1, 0, none⟩) m x.2.2] 27)) := (Below.refl _ _).alloc (Nat.le_refl _) _
    have hC := hI.bl.size
    have hCl := Boxed.lt hI.cnt
    have HH := Lib.hid (hK { tmps := #[.agg #[.int .i64 (m : Int), .slice a m cap], .pointer (some ⟨w.heap.size, 0, none⟩), .int .i64 0, .pointer (some ⟨w1.heap.size, 0, none⟩), .pointer (some ⟨W.heap.size, 0, none⟩), .agg #[.int .i64 (m : Int), .slice a m cap], .bool true, .bool false, .agg #[.int .i64 (m : Int), .slice a m cap], .func (.func 137) #[] #[.pointer (some ⟨W2.heap.size, 0, none⟩)], .agg #[.int .i64 (m : Int), .slice (some ⟨x.2.1, 0, none⟩) m x.2.2], undef, undef, undef, undef, undef, undef, undef, undef], defers := [] } (W.alloc (.cells #[.int .i64 (m : Int), .slice (some ⟨x.2.1, 0, none⟩) m x.2.2] 27))
      (kf_below hb) (KeepR.below hb) (hI.below hb) ⟨hy.next, own_below hy.own hb, hy.after, hy.low⟩ ⟨W.heap.size, Box.new _ _ _ _, by omega, rfl⟩)
    clear hK hb hy hI hC hCl
    gi_wp2
    exact HH.out
  case body =>
    rintro lg M pre ⟨o, g, c⟩ a2 W hI hy ⟨p, hp, hpC, rfl⟩
    have hrl : (rnL l o).length = m := (rnL_len l o).trans HM.out.symm
    have hll : l.length = m := HM.out.symm
    have hr1 : IntRow W (some ⟨g, 0, none⟩) (rnL l o) := own_intR hrl hy.own
    have hr2 : IntRow W a l := HROW.out.below hI.bl (Nat.le_refl _)
    have bd : Below W.heap.size W W.drew := (Below.refl _ W).drew
    obtain ⟨V1, hV1⟩ : ∃ V1, V1 = resV (m : Int) (rnL l o) := ⟨_, rfl⟩
    obtain ⟨V2, hV2⟩ : ∃ V2, V2 = resV (m : Int) l := ⟨_, rfl⟩
    have HA : Hid (Calls Try.prog 96 #[.agg #[.int .i64 (m : Int), .slice (some ⟨g, 0, none⟩) m c]] W.drew fun e w' => e = .returned (.agg V1) ∧ Below W.heap.size W w') := by
      rw [hV1]
      exact (results_at hrl (by omega) W.drew (hr1.below bd (Nat.le_refl _))).mono fun e w' ⟨he, hb⟩ => ⟨he, bd.trans hb⟩
    have HB : Hid (∀ W', Below W.heap.size W W' → Calls Try.prog 96 #[.agg #[.int .i64 (m : Int), .slice a m cap]] W' fun e w' => e = .returned (.agg V2) ∧ Below W.heap.size W w') := by
      intro W' hW'
      rw [hV2]
      exact (results_at hll (by omega) W' (hr2.below hW' (Nat.le_refl _))).mono fun e w' ⟨he, hb⟩ => ⟨he, hW'.trans (hb.mono hW'.size)⟩
    have heq : ∀ W, (Op.equalIn 10000 76 (.agg V1) (.agg V2)).run Try.prog W = .ok (eqX (rnL l o) l) W := fun W => by rw [hV1, hV2]; exact eql_at hrl hll (by omega) W
    have c0 := hp.c0
    have c1 := hp.c1
    have d0 := hI.box.c0
    have d1 := hI.box.c1
    have HI := Lib.hid hI
    have hmx : Try.prog.follows .mixedOrders = true := by kernel_rfl
    have hsn : cntS l ((pre ++ [((o, g, c) : Tn)]).map Prod.fst) = cntS l (pre.map Prod.fst) + (if eqX (rnL l o) l then 1 else 0) := by
      rw [List.map_append]; exact cntS_snoc l _ o
    have hcl : cntS l (pre.map Prod.fst) ≤ 720 := by
      obtain ⟨rest, hr⟩ := hy.next
      have h1 : cntS l (pre.map Prod.fst) ≤ (pre.map Prod.fst).length := List.countP_le_length
      have h2 := congrArg List.length hr
      rw [Rn.allO_len hm6] at h2
      have h3 := Rn.fct_le hm6
      simp only [List.length_append, List.length_cons] at h2
      omega
    have XP := Lib.hid hp
    clear hp hI hy hrl hll hr1 hr2 bd hV1 hV2
    cases hb : eqX (rnL l o) l
    · rw [hb] at heq hsn
      have HSN : Hid (cntS l ((pre ++ [((o, g, c) : Tn)]).map Prod.fst) = cntS l (pre.map Prod.fst)) := hsn
      clear hb hsn hcl
      gi_wp2_with fail
      gi_region_with_o (first
        | (refine ⟨trivial, ?_⟩; with_reducible refine ((CallsIn.inRound lg (callsIn_wide.2 HA.out)).mono ?_); rintro e w5 ⟨rfl, hb5⟩; have B5 := Lib.hid hb5; have e0 := (HI.out.below hb5).box.c0; have e1 := (HI.out.below hb5).box.c1; clear hb5)
        | (refine ⟨trivial, ?_⟩; with_reducible refine ((CallsIn.inRound lg (callsIn_wide.2 (HB.out w5 B5.out))).mono ?_); rintro e w6 ⟨rfl, hb6⟩; have B6 := Lib.hid hb6; clear hb6))
      all_goals
        have HF : Hid (Cs w w.heap.size w1.heap.size m a cap l M (pre ++ [((o, g, c) : Tn)]) w6) := by
          have h := HI.out.below B6.out
          exact ⟨by rw [HSN.out]; exact h.cnt, h.box, h.bl, h.big⟩
        clear c0 c1 d0 d1 e0 e1
        gi_wp2
        exact ⟨kf_below B6.out, KeepR.below B6.out, HF.out⟩
    · rw [hb] at heq hsn
      obtain ⟨q, hq⟩ : ∃ q, q = cntS l (pre.map Prod.fst) := ⟨_, rfl⟩
      have HSN : Hid (cntS l ((pre ++ [((o, g, c) : Tn)]).map Prod.fst) = q + 1) := by show _ = _; rw [hsn, hq]; rfl
      have HQ := Lib.hid hq
      rw [← hq] at hcl
      clear hb hsn hq
      gi_wp2_with fail
      gi_region_with_o (first
        | (refine ⟨trivial, ?_⟩; with_reducible refine ((CallsIn.inRound lg (callsIn_wide.2 HA.out)).mono ?_); rintro e w5 ⟨rfl, hb5⟩; have B5 := Lib.hid hb5; have e0 := (HI.out.below hb5).box.c0; have e1 := (HI.out.below hb5).box.c1; clear hb5)
        | (refine ⟨trivial, ?_⟩; with_reducible refine ((CallsIn.inRound lg (callsIn_wide.2 (HB.out w5 B5.out))).mono ?_); rintro e w6 ⟨rfl, hb6⟩; have B6 := Lib.hid hb6; clear hb6))
      all_goals
        have h6 := HI.out.below B6.out
        have hcq : w6.cell? ⟨w1.heap.size, 0, none⟩ = some (.int .i64 (q : Int)) := by rw [HQ.out]; exact h6.cnt.cell
        have hcf := Boxed.frozen h6.cnt
        have H6 := Lib.hid h6
        clear c0 c1 d0 d1 e0 e1 h6
        gi_wp2
        have hbx : Boxed (w6.setCell ⟨w1.heap.size, 0, none⟩ (.int .i64 ((q : Int) + 1))) w1.heap.size 3 (.int .i64 ((q : Int) + 1)) := Boxed.set _ H6.out.cnt
        have hsz := H6.out.bl.size
        refine ⟨(kf_below B6.out).trans (KeepsFrom.of_grownBy (row := some w1.heap.size) ⟨rfl, rfl, rfl, by simp [World.setCell], fun k hk hn => heap_setCell_other w6 ⟨w1.heap.size, 0, none⟩ k _ (fun e => hn (by rw [e]))⟩ (fun j e => by cases e; omega)), (KeepR.below B6.out).trans KeepR.setC, ?_, ?_, ?_, ?_⟩
        · rw [HSN.out]; exact hbx
        · exact H6.out.box.other _ _ (by show w.heap.size ≠ w1.heap.size; omega)
        · exact H6.out.bl.setCell (p := ⟨w1.heap.size, 0, none⟩) (by show w.heap.size ≤ w1.heap.size; omega) _
        · have := H6.out.big; simpa [World.setCell] using this
  case done =>
    rintro D M ys W' hD hS hI hK
    have hc := hI.cnt.cell
    rw [hS] at hc
    have HI := Lib.hid hI
    have HK := Lib.hid hK
    obtain ⟨z, hz⟩ : ∃ z : Int, z = (cntS l (Rn.allO m) : Int) := ⟨_, rfl⟩
    have hc2 : W'.cell? ⟨w1.heap.size, 0, none⟩ = some (.int .i64 z) := by rw [hz]; exact hc
    have HZ := Lib.hid hz
    clear hI hK hS hc hz
    gi_wp2
    refine ⟨by simp, .inl ⟨_, _, rfl, run_takeDeferred HK.out, ?_⟩⟩
    refine ⟨_, results_tmp rfl _ _ _, by rw [HE.out, ← HZ.out]; rfl, ?_⟩
    exact HI.out.bl.trans (belowK_b (w := w) (Nat.le_refl _) W' D _ _ (by omega) HK.out rfl rfl)
  case stop =>
    rintro D M c pre W' _ _ h _
    exact h.elim
end Go.Proofs.Yteiadhfjpohmdaa
