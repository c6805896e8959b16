/-
  'AreLike' of the program. No conditions but the bounds that Go gives a slice.
-/
import Derived.Test.YteiadhfjpohmdaaXr
namespace Go.Proofs.Yteiadhfjpohmdaa
open Go.ChangeShapes Go.WideShapes Go.ChangeAt Go.RowKit Go.Shelf
attribute [local go_sem] Oper.semAt_some
set_option linter.unusedVariables false

theorem Boxed.resB {w : World} {g : Nat} {v : Value} {fn : Func} {p : Tmp} (hf : fn.results = #[.cell p 4]) (tmps : Array Value) (hp : tmps.getD p undef = .pointer (some ⟨g, 0, none⟩)) (h : Boxed w g 4 v) :
    (results fn tmps).run Try.prog w = .ok v w := by
  have hc := h.cell
  have hp2 : tmps[p]?.getD undef = .pointer (some ⟨g, 0, none⟩) := by simpa using hp
  simp [results, hf, hp2, asAddr, hc, go_sem]
/-- When the tables of two tours are equal, whatever their sizes. -/
theorem eql_two {m mu : Nat} {R lu : List Int} (hR : R.length = m) (hu : lu.length = mu) (h8 : m ≤ 8) (h8u : mu ≤ 8) (w : World) :
    (Op.equalIn 10000 76 (.agg (resV (m : Int) R)) (.agg (resV (mu : Int) lu))).run Try.prog w = .ok (eqX R lu) w := by
  rw [eql_res _ _ _ _ (by omega) (by omega)]
  by_cases e : m = mu
  · subst e; rw [padX_injR (hR.trans hu.symm)]; simp
  · have h1 : ((m : Int) == (mu : Int)) = false := by rw [beq_eq_false_iff_ne]; omega
    have h2 : eqX R lu = false := by
      unfold eqX
      rw [decide_eq_false_iff_not]
      intro h
      exact e (by rw [← hR, ← hu, h])
    rw [h1, h2]; rfl
/-- What both 'AreLike' answer. -/
noncomputable def alR (n : Int) (l : List Int) (nu : Int) (lu : List Int) : Bool := hanB n l && (hanB nu lu && (Rn.allO l.length).any fun o => eqX (rnL l o) lu)

/-- What the rounds hold. -/
structure Ar (w0 : World) (U C mu : Nat) (au : Option Addr) (cu : Nat) (l lu : List Int) (M : Nat) (pre : List Tn) (W : World) : Prop where
  rb : Boxed W C 4 (.bool false)
  ub : Box W U 27 (.int .i64 (mu : Int)) (.slice au mu cu)
  bl : Below w0.heap.size w0 W
  big : M ≤ W.heap.size
  no : ∀ o ∈ pre.map Prod.fst, eqX (rnL l o) lu = false
section
variable {w0 W W2 : World} {U C mu : Nat} {au : Option Addr} {cu : Nat} {l lu : List Int} {M : Nat} {pre : List Tn}
theorem Ar.turn (h : Ar w0 U C mu au cu l lu M pre W) {B : Nat} (hU : U < B) (hC : C < B) (hw : w0.heap.size ≤ B) {row : Option Nat} (hg : W.grownBy W2 row) (hr : ∀ r, row = some r → B ≤ r) : Ar w0 U C mu au cu l lu M pre W2 := by
  have hsz := h.bl.size
  exact ⟨Boxed.kept h.rb hg (fun e => by have := hr C e.symm; omega), h.ub.grown hg (fun e => by have := hr U e; omega), h.bl.grown hg hsz (fun k e => by have := hr k e; omega), Nat.le_trans h.big hg.size, h.no⟩
theorem Ar.below (h : Ar w0 U C mu au cu l lu M pre W) (hb : Below W.heap.size W W2) : Ar w0 U C mu au cu l lu M pre W2 :=
  ⟨(hb.block _ (Boxed.lt h.rb)).trans h.rb, h.ub.below hb h.ub.lt, h.bl.trans (hb.mono h.bl.size), Nat.le_trans h.big hb.size, h.no⟩
end

set_option maxRecDepth 100000 in
set_option maxHeartbeats 2000000 in
theorem implAreLike (n : Int) (a : Option Addr) (l : List Int) (cap : Nat) (nu : Int) (au : Option Addr) (lu : List Int) (cu : Nat) (w : World) (hrow : IntRow w a l) (hrowu : IntRow w au lu) (hl : l.length ≤ maxLen) (hlu : lu.length ≤ maxLen) :
    Calls Try.prog 35 #[.agg #[.int .i64 n, .slice a l.length cap], .agg #[.int .i64 nu, .slice au lu.length cu]] w fun e w' => e = .returned (.bool (alR n l nu lu)) ∧ Below w.heap.size w w' := by
  obtain ⟨Wb, hWb⟩ : ∃ Wb, Wb = w.alloc (.cells #[.int .i64 n, .slice a l.length cap] 27) := ⟨_, rfl⟩
  obtain ⟨Wc, hWc⟩ : ∃ Wc, Wc = Wb.alloc (.cells #[.int .i64 nu, .slice au lu.length cu] 27) := ⟨_, rfl⟩
  obtain ⟨Wa, hWa⟩ : ∃ Wa, Wa = Wc.alloc (.cells #[.bool false] 4) := ⟨_, rfl⟩
  have sb : Wb.heap.size = w.heap.size + 1 := by rw [hWb]; simp
  have sc : Wc.heap.size = w.heap.size + 1 + 1 := by rw [hWc]; simp [sb]
  have bb : Below w.heap.size w Wb := by rw [hWb]; exact (Below.refl _ _).alloc (Nat.le_refl _) _
  have bc : Below Wb.heap.size Wb Wc := by rw [hWc]; exact (Below.refl _ _).alloc (Nat.le_refl _) _
  have ba : Below Wc.heap.size Wc Wa := by rw [hWa]; exact (Below.refl _ _).alloc (Nat.le_refl _) _
  have xt0 : Box Wb w.heap.size 27 (.int .i64 n) (.slice a l.length cap) := by rw [hWb]; exact Box.new _ _ _ _
  have xu0 : Box Wc (w.heap.size + 1) 27 (.int .i64 nu) (.slice au lu.length cu) := by rw [hWc, ← sb]; exact Box.new _ _ _ _
  have xt := (xt0.below bc xt0.lt).below ba (xt0.below bc xt0.lt).lt
  have xu := xu0.below ba xu0.lt
  have xr : Boxed Wa (w.heap.size + 1 + 1) 4 (.bool false) := by rw [hWa, ← sc]; exact Boxed.new _ _ _
  have bw : Below w.heap.size w Wa := bb.trans ((bc.mono bb.size).trans (ba.mono (Nat.le_trans bb.size bc.size)))
  have HWa : Hid (Wa = ((w.alloc (.cells #[.int .i64 n, .slice a l.length cap] 27)).alloc (.cells #[.int .i64 nu, .slice au lu.length cu] 27)).alloc (.cells #[.bool false] 4)) := by show _ = _; rw [hWa, hWc, hWb]
  have HROW := Lib.hid hrow
  have HROWU := Lib.hid hrowu
  have HL := Lib.hid hl
  have HLU := Lib.hid hlu
  have HNT := Lib.hid (hasAllNames_any n a l cap Wa (hrow.below bw (Nat.le_refl _)) hl)
  have HNU : Hid (∀ W, Below w.heap.size w W → Calls Try.prog 94 #[.agg #[.int .i64 nu, .slice au lu.length cu]] W fun e w' => e = .returned (.bool (hanB nu lu)) ∧ Below W.heap.size W w') := fun W hb => hasAllNames_any nu au lu cu W (HROWU.out.below hb (Nat.le_refl _)) HLU.out
  have XT := Lib.hid xt
  have XU := Lib.hid xu
  have XR := Lib.hid xr
  have BW := Lib.hid bw
  clear hWa hWb hWc sb sc bb bc ba xt0 xu0 xt xu xr bw hrow hrowu hl hlu
  cases hok : hanB n l
  · rw [hok] at HNT
    have HE : Hid (alR n l nu lu = false) := by show _ = _; unfold alR; rw [hok]; rfl
    clear hok
    go_enter Try.func35, Try.ntmps35
    go_wp2_with fail
    rw [← HWa.out]
    refine HNT.out.mono ?_
    rintro e w1 ⟨rfl, hb1⟩
    have x1 : Boxed w1 (w.heap.size + 1 + 1) 4 (.bool false) := (hb1.block _ XR.out.lt).trans XR.out
    have c1 := x1.cell
    have f1 := x1.frozen
    have X1 := Lib.hid x1
    have B1 := Lib.hid (BW.out.trans (hb1.mono BW.out.size))
    clear x1 hb1
    go_wp2
    refine bodyPost_ret (v := .bool false) (Boxed.resB rfl _ rfl (Boxed.set (.bool false) X1.out)) rfl ?_
    exact ⟨by rw [HE.out], B1.out.setCell (p := ⟨w.heap.size + 1 + 1, 0, none⟩) (by show w.heap.size ≤ w.heap.size + 1 + 1; omega) _⟩
  cases hoku : hanB nu lu
  · rw [hok] at HNT
    rw [hoku] at HNU
    have HE : Hid (alR n l nu lu = false) := by show _ = _; unfold alR; rw [hoku]; simp
    clear hok hoku
    go_enter Try.func35, Try.ntmps35
    go_wp2_with fail
    rw [← HWa.out]
    refine HNT.out.mono ?_
    rintro e w1 ⟨rfl, hb1⟩
    have B1 := Lib.hid (BW.out.trans (hb1.mono BW.out.size))
    have c0 := (XU.out.below hb1 XU.out.lt).c0
    have c1 := (XU.out.below hb1 XU.out.lt).c1
    go_wp2_with fail
    refine (HNU.out w1 B1.out).mono ?_
    rintro e w2 ⟨rfl, hb2⟩
    have x1 : Boxed w2 (w.heap.size + 1 + 1) 4 (.bool false) := (hb2.block _ (by have := XR.out.lt; have := hb1.size; omega)).trans ((hb1.block _ XR.out.lt).trans XR.out)
    have d1 := x1.cell
    have f1 := x1.frozen
    have X1 := Lib.hid x1
    have B2 := Lib.hid (B1.out.trans (hb2.mono B1.out.size))
    clear x1 hb1 hb2 c0 c1
    go_wp2
    refine bodyPost_ret (v := .bool false) (Boxed.resB rfl _ rfl (Boxed.set (.bool false) X1.out)) rfl ?_
    exact ⟨by rw [HE.out], B2.out.setCell (p := ⟨w.heap.size + 1 + 1, 0, none⟩) (by show w.heap.size ≤ w.heap.size + 1 + 1; omega) _⟩
  have HO := Lib.hid hok
  obtain ⟨hk, h6⟩ := hanB_iff.1 hok
  obtain ⟨hku, h6u⟩ := hanB_iff.1 hoku
  have HE : Hid (alR n l nu lu = (Rn.allO l.length).any fun o => eqX (rnL l o) lu) := by show _ = _; unfold alR; rw [hok, hoku]; rfl
  rw [hok] at HNT
  rw [hoku] at HNU
  obtain rfl : n = (l.length : Int) := hk.2.2.1.symm
  obtain rfl : nu = (lu.length : Int) := hku.2.2.1.symm
  obtain ⟨m, hm⟩ : ∃ m, m = l.length := ⟨_, rfl⟩
  obtain ⟨mu, hmu⟩ : ∃ mu, mu = lu.length := ⟨_, rfl⟩
  have HM := Lib.hid hm
  have HMU := Lib.hid hmu
  have hlow : ∀ b, blk a = some b → b < w.heap.size := by
    intro b e
    rcases HROW.out with h | ⟨b2, off, rfl, hb2, _⟩
    · have := hk.1; rw [h] at this; simp at this
    · simp [blk] at e; omega
  have HLOW := Lib.hid hlow
  rw [← hm] at hk h6 HE HNT XT HWa ⊢
  rw [← hmu] at hku h6u HE HNU XU HWa ⊢
  have HK := Lib.hid hk
  have hm6 : m ≤ 6 := by omega
  have hmu6 : mu ≤ 6 := by omega
  obtain ⟨nu, hnu⟩ : ∃ nu : Int, nu = (mu : Int) := ⟨_, rfl⟩
  rw [← hnu] at HNU XU HWa HE ⊢
  have HNUQ := Lib.hid hnu
  clear hok hoku hk hku hm hmu hlow HO h6 h6u hnu
  refine (callsIn_wide (n := 8)).1 ?_
  refine callsIn_of_wp_marks Try.func35 rfl trivial ?_ rfl
  simp only [Try.ntmps35, List.size_toArray, List.length_cons, List.length_nil, Nat.reduceAdd, Nat.reduceSub, Array.replicate_succ, Array.replicate_zero, List.push_toArray, List.append_toArray, List.nil_append, List.cons_append]
  gi_wp2_with fail
  refine ⟨trivial, ?_⟩
  rw [← HWa.out]
  refine (callsIn_wide.2 HNT.out).mono ?_
  rintro e w1 ⟨rfl, hb1⟩
  have B1 := Lib.hid (BW.out.trans (hb1.mono BW.out.size))
  have c0 := (XU.out.below hb1 XU.out.lt).c0
  have c1 := (XU.out.below hb1 XU.out.lt).c1
  gi_wp2_with fail
  refine ⟨trivial, ?_⟩
  refine (callsIn_wide.2 (HNU.out w1 B1.out)).mono ?_
  rintro e W2 ⟨rfl, hb2⟩
  obtain ⟨W3, hW3⟩ : ∃ W3, W3 = W2.alloc (.cells #[.int .i64 (m : Int), .slice a m cap] 27) := ⟨_, rfl⟩
  have b3 : Below W2.heap.size W2 W3 := by rw [hW3]; exact (Below.refl _ _).alloc (Nat.le_refl _) _
  have b12 : Below Wa.heap.size Wa W2 := hb1.trans (hb2.mono hb1.size)
  have b13 : Below Wa.heap.size Wa W3 := b12.trans (b3.mono b12.size)
  have bw3 : Below w.heap.size w W3 := BW.out.trans (b13.mono BW.out.size)
  have d0 := (XT.out.below b12 XT.out.lt).c0
  have d1 := (XT.out.below b12 XT.out.lt).c1
  have xt : Box W3 W2.heap.size 27 (.int .i64 (m : Int)) (.slice a m cap) := by rw [hW3]; exact Box.new _ _ _ _
  have xr3 : Boxed W3 (w.heap.size + 1 + 1) 4 (.bool false) := (b13.block _ XR.out.lt).trans XR.out
  have hlt2 : w.heap.size + 1 + 1 < W2.heap.size := Nat.lt_of_lt_of_le XR.out.lt b12.size
  have hlt3 : W2.heap.size < W3.heap.size := xt.lt
  have HR3 := Lib.hid (HROW.out.below bw3 (Nat.le_refl _))
  have HW3 := Lib.hid hW3
  have XT3 := Lib.hid xt
  have XU3 := Lib.hid (XU.out.below b13 XU.out.lt)
  have XR3 := Lib.hid xr3
  have BW3 := Lib.hid bw3
  clear hW3 b3 b12 b13 bw3 xt xr3 hb1 hb2 c0 c1
  gi_wp2_with fail
  refine ⟨trivial, ?_⟩
  refine (callsIn_wide.2 (renamings_any (m : Int) a m cap W2)).mono ?_
  rintro e w4 ⟨rfl, hw4⟩
  rw [← HW3.out] at hw4
  have hw5 := hw4.symm
  clear hw4
  subst hw5
  clear d0 d1
  gi_wp2
  refine rangeMH (F := Fence.wide) rfl (by omega) (gf := 137) (lb := #[.pointer (some ⟨W2.heap.size, 0, none⟩)]) rfl trivial (enters_of Try.func137 (by kernel_rfl) rfl)
    (renam_stops W2.heap.size (W3.heap.size + 2) m (fun _ _ _ => True) a cap l HM.out HK.out hm6 W3 XT3.out HR3.out (fun M o => trivial) (fun M b o e => trivial) (fun M b o h1 h2 => trivial))
    (fun h k => h.trans k) (fun M W l o o2 h hc => KeepR.put W l o o2 h hc) (fun M pre x W l o o2 _ ho hc h => h.put l o o2 ho hc) (Below.refl _ _) (fun _ => rfl)
    (fun M pre W' => Ar w (w.heap.size + 1) (w.heap.size + 1 + 1) mu au cu l lu M pre W')
    (fun M c _ W' => c = .ret ∧ Boxed W' (w.heap.size + 1 + 1) 4 (.bool true) ∧ Below w.heap.size w W' ∧ ∃ o ∈ Rn.allO m, eqX (rnL l o) lu = true)
    (fun M s A B row hs hg hr => hs.turn (B := W3.heap.size) (by omega) (by omega) (by omega) hg (fun r e => (hr r e).1))
    (fun M c s A B row hs hg hr => ⟨hs.1, Boxed.kept hs.2.1 hg (fun e => by have := (hr _ e.symm).1; omega), hs.2.2.1.grown hg hs.2.2.1.size (fun k e => by have := (hr k e).1; omega), hs.2.2.2⟩)
    (fun M V hb h1 h2 => ⟨(hb.block _ (by omega)).trans XR3.out, by have := XU3.out; rw [HNUQ.out] at this; exact this.below hb this.lt, BW3.out.trans (hb.mono BW3.out.size), h2, fun o h => absurd h (by simp)⟩)
    (fun x a2 W => ∃ p, Box W p 27 (.int .i64 (m : Int)) (.slice (some ⟨x.2.1, 0, none⟩) m x.2.2) ∧ a2 = { tmps := #[.agg #[.int .i64 (m : Int), .slice a m cap], .agg #[.int .i64 nu, .slice au mu cu], .pointer (some ⟨w.heap.size, 0, none⟩), .pointer (some ⟨w.heap.size + 1, 0, none⟩), .pointer (some ⟨w.heap.size + 1 + 1, 0, none⟩), .pointer (some ⟨p, 0, none⟩), .agg #[.int .i64 (m : Int), .slice a m cap], .bool true, .bool false, .bool false, .agg #[.int .i64 nu, .slice au mu cu], .bool true, .bool false, .bool false, .agg #[.int .i64 (m : Int), .slice a m cap], .func (.func 137) #[] #[.pointer (some ⟨W2.heap.size, 0, none⟩)], .agg #[.int .i64 (m : Int), .slice (some ⟨x.2.1, 0, none⟩) m x.2.2], undef, undef, undef, undef, undef], defers := [] })
    (fun x a2 s A B row hs hg hr => by obtain ⟨p, h1, h3⟩ := hs; exact ⟨p, h1.grown hg (fun e => by
      obtain ⟨_, o, ho, hc⟩ := hr p e
      have hh : A.heap[p]? = some (.cells #[_, _] 27 (0, 0)) := h1
      rw [hh] at ho; cases ho; cases hc), h3⟩) ?assign ?body ?done ?stop
  case assign =>
    intro lg M pre x W K hI hy hK
    unfold encTn
    have hb : Below W.heap.size W (W.alloc (.cells #[.int .i64 (m : Int), .slice (some ⟨x.2.1, 0, none⟩) m x.2.2] 27)) := (Below.refl _ _).alloc (Nat.le_refl _) _
    have HH := Lib.hid (hK { tmps := #[.agg #[.int .i64 (m : Int), .slice a m cap], .agg #[.int .i64 nu, .slice au mu cu], .pointer (some ⟨w.heap.size, 0, none⟩), .pointer (some ⟨w.heap.size + 1, 0, none⟩), .pointer (some ⟨w.heap.size + 1 + 1, 0, none⟩), .pointer (some ⟨W.heap.size, 0, none⟩), .agg #[.int .i64 (m : Int), .slice a m cap], .bool true, .bool false, .bool false, .agg #[.int .i64 nu, .slice au mu cu], .bool true, .bool false, .bool false, .agg #[.int .i64 (m : Int), .slice a m cap], .func (.func 137) #[] #[.pointer (some ⟨W2.heap.size, 0, none⟩)], .agg #[.int .i64 (m : Int), .slice (some ⟨x.2.1, 0, none⟩) m x.2.2], undef, undef, undef, undef, undef], defers := [] } (W.alloc (.cells #[.int .i64 (m : Int), .slice (some ⟨x.2.1, 0, none⟩) m x.2.2] 27))
      (kf_below hb) (KeepR.below hb) (hI.below hb) ⟨hy.next, own_below hy.own hb, hy.after, hy.low⟩ ⟨W.heap.size, Box.new _ _ _ _, rfl⟩)
    clear hK hb hy hI
    gi_wp2
    exact HH.out
  case body =>
    rintro lg M pre ⟨o, g, c⟩ a2 W hI hy ⟨p, hp, rfl⟩
    have hrl : (rnL l o).length = m := (rnL_len l o).trans HM.out.symm
    have hll : lu.length = mu := HMU.out.symm
    have hr1 : IntRow W (some ⟨g, 0, none⟩) (rnL l o) := own_intR hrl hy.own
    have hr2 : IntRow W au lu := HROWU.out.below hI.bl (Nat.le_refl _)
    have bd : Below W.heap.size W W.drew := (Below.refl _ W).drew
    obtain ⟨V1, hV1⟩ : ∃ V1, V1 = resV (m : Int) (rnL l o) := ⟨_, rfl⟩
    obtain ⟨V2, hV2⟩ : ∃ V2, V2 = resV (mu : Int) lu := ⟨_, rfl⟩
    have HA : Hid (Calls Try.prog 96 #[.agg #[.int .i64 (m : Int), .slice (some ⟨g, 0, none⟩) m c]] W.drew fun e w' => e = .returned (.agg V1) ∧ Below W.heap.size W w') := by
      rw [hV1]
      exact (results_at hrl (by omega) W.drew (hr1.below bd (Nat.le_refl _))).mono fun e w' ⟨he, hb⟩ => ⟨he, bd.trans hb⟩
    have HB : Hid (∀ W', Below W.heap.size W W' → Calls Try.prog 96 #[.agg #[.int .i64 (mu : Int), .slice au mu cu]] W' fun e w' => e = .returned (.agg V2) ∧ Below W.heap.size W w') := by
      intro W' hW'
      rw [hV2]
      exact (results_at hll (by omega) W' (hr2.below hW' (Nat.le_refl _))).mono fun e w' ⟨he, hb⟩ => ⟨he, hW'.trans (hb.mono hW'.size)⟩
    have heq : ∀ W, (Op.equalIn 10000 76 (.agg V1) (.agg V2)).run Try.prog W = .ok (eqX (rnL l o) lu) W := fun W => by rw [hV1, hV2]; exact eql_two hrl hll (by omega) (by omega) W
    have c0 := hp.c0
    have c1 := hp.c1
    have d0 := hI.ub.c0
    have d1 := hI.ub.c1
    have HI := Lib.hid hI
    have hmx : Try.prog.follows .mixedOrders = true := by kernel_rfl
    have hmem : o ∈ Rn.allO m := by obtain ⟨rest, hr⟩ := hy.next; rw [hr]; simp
    have HMEM := Lib.hid hmem
    have XP := Lib.hid hp
    clear hp hI hy hrl hll hr1 hr2 bd hV1 hV2 hmem
    cases hb : eqX (rnL l o) lu
    · rw [hb] at heq
      have HEQ := Lib.hid hb
      clear hb
      gi_wp2_with fail
      gi_region_with_o (first
        | (refine ⟨trivial, ?_⟩; with_reducible refine ((CallsIn.inRound lg (callsIn_wide.2 HA.out)).mono ?_); rintro e w5 ⟨rfl, hb5⟩; have B5 := Lib.hid hb5; have e0 := (HI.out.below hb5).ub.c0; have e1 := (HI.out.below hb5).ub.c1; clear hb5)
        | (refine ⟨trivial, ?_⟩; with_reducible refine ((CallsIn.inRound lg (callsIn_wide.2 (HB.out w5 B5.out))).mono ?_); rintro e w6 ⟨rfl, hb6⟩; have B6 := Lib.hid hb6; clear hb6))
      all_goals
        have HF : Hid (Ar w (w.heap.size + 1) (w.heap.size + 1 + 1) mu au cu l lu M (pre ++ [((o, g, c) : Tn)]) w6) := by
          have h := HI.out.below B6.out
          refine ⟨h.rb, h.ub, h.bl, h.big, fun z hz => ?_⟩
          rw [List.map_append, List.mem_append] at hz
          rcases hz with hz | hz
          · exact h.no z hz
          · have : z = o := by simpa using hz
            rw [this]; exact HEQ.out
        clear c0 c1 d0 d1 e0 e1
        gi_wp2
        exact ⟨kf_below B6.out, KeepR.below B6.out, HF.out⟩
    · rw [hb] at heq
      have HEQ := Lib.hid hb
      clear hb
      gi_wp2_with fail
      gi_region_with_o (first
        | (refine ⟨trivial, ?_⟩; with_reducible refine ((CallsIn.inRound lg (callsIn_wide.2 HA.out)).mono ?_); rintro e w5 ⟨rfl, hb5⟩; have B5 := Lib.hid hb5; have e0 := (HI.out.below hb5).ub.c0; have e1 := (HI.out.below hb5).ub.c1; clear hb5)
        | (refine ⟨trivial, ?_⟩; with_reducible refine ((CallsIn.inRound lg (callsIn_wide.2 (HB.out w5 B5.out))).mono ?_); rintro e w6 ⟨rfl, hb6⟩; have B6 := Lib.hid hb6; clear hb6))
      all_goals
        have h6 := HI.out.below B6.out
        have hcq := h6.rb.cell
        have hcf := Boxed.frozen h6.rb
        have H6 := Lib.hid h6
        clear c0 c1 d0 d1 e0 e1 h6
        gi_wp2
        have hsz := H6.out.bl.size
        exact ⟨(kf_below B6.out).trans (KeepsFrom.of_grownBy (row := some (w.heap.size + 1 + 1)) ⟨rfl, rfl, rfl, by simp [World.setCell], fun k hk hn => heap_setCell_other w6 ⟨w.heap.size + 1 + 1, 0, none⟩ k _ (fun e => hn (by rw [e]))⟩ (fun j e => by cases e; omega)), rfl, Boxed.set _ H6.out.rb, H6.out.bl.setCell (p := ⟨w.heap.size + 1 + 1, 0, none⟩) (by show w.heap.size ≤ w.heap.size + 1 + 1; omega) _, o, HMEM.out, HEQ.out⟩
  case done =>
    rintro D M ys W' hD hS hI hK
    have hno : alR (m : Int) l nu lu = false := by
      rw [HE.out, List.any_eq_false]
      intro o ho
      rw [← hS] at ho
      rw [hI.no o ho]; simp
    have HNO := Lib.hid hno
    have HI := Lib.hid hI
    have HK := Lib.hid hK
    have hc := hI.rb.cell
    have hf := Boxed.frozen hI.rb
    clear hI hK hS hno
    gi_wp2
    have hbx := Boxed.set (.bool false) HI.out.rb
    have hK2 : (W'.setCell ⟨w.heap.size + 1 + 1, 0, none⟩ (.bool false)).heap[D]? = some (.deferred (some [])) := (heap_setCell_other W' ⟨w.heap.size + 1 + 1, 0, none⟩ D _ (by show D ≠ w.heap.size + 1 + 1; omega)).trans HK.out
    refine ⟨by simp, .inl ⟨_, _, rfl, run_takeDeferred hK2, ?_⟩⟩
    refine ⟨_, Boxed.resB rfl _ rfl (Boxed.kept hbx (grownBy_putObj' _ D (.deferred none)) (fun e => by have := Option.some.inj e; omega)), by rw [HNO.out], ?_⟩
    have b1 : Below w.heap.size w (W'.setCell ⟨w.heap.size + 1 + 1, 0, none⟩ (.bool false)) := HI.out.bl.setCell (p := ⟨w.heap.size + 1 + 1, 0, none⟩) (by show w.heap.size ≤ w.heap.size + 1 + 1; omega) _
    exact b1.grown (grownBy_putObj' _ D (.deferred none)) b1.size (fun k e => by cases e; omega)
  case stop =>
    rintro D M c pre W' hD _ ⟨rfl, hbx, hbl, hex⟩ hK
    have hyes : alR (m : Int) l nu lu = true := by
      rw [HE.out, List.any_eq_true]
      exact hex
    have HYES := Lib.hid hyes
    have HBX := Lib.hid hbx
    have HBL := Lib.hid hbl
    have HK := Lib.hid hK
    clear hbx hbl hex hK hyes
    gi_wp2
    refine ⟨by simp, .inl ⟨_, _, rfl, run_takeDeferred HK.out, ?_⟩⟩
    refine ⟨_, Boxed.resB rfl _ rfl (Boxed.kept HBX.out (grownBy_putObj' _ D (.deferred none)) (fun e => by have := Option.some.inj e; omega)), by rw [HYES.out], ?_⟩
    exact HBL.out.grown (grownBy_putObj' _ D (.deferred none)) HBL.out.size (fun k e => by cases e; omega)
end Go.Proofs.Yteiadhfjpohmdaa
