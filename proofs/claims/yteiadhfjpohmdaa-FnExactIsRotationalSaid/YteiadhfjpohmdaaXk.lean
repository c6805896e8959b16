/-
  'IsSymmetry' and 'IsRotational' of the program and of the model. No conditions but the bounds that Go gives a slice.
-/
import Derived.Test.YteiadhfjpohmdaaXj
import Derived.Test.YteiadhfjpohmdaaZb
namespace Go.Proofs.Yteiadhfjpohmdaa
open Go.ChangeShapes Go.WideShapes Go.ChangeAt Go.RowKit
set_option linter.unusedVariables false

/-- What both 'IsSymmetry' answer. -/
noncomputable def symR (n : Int) (l ns : List Int) : Bool := renB n l ns && eqX (renR n l ns) l
theorem renR_len {n : Int} {l ns : List Int} (h : renB n l ns = true) : (renR n l ns).length = l.length := by
  unfold renR; rw [h]; simp [renF_len]
theorem padX_inj {x y : List Int} (h : x.length = y.length) : eqX (padX x) (padX y) = eqX x y := by
  unfold eqX padX
  rw [h]
  congr 1
  rw [List.append_cancel_right_eq]

set_option maxRecDepth 100000 in
set_option maxHeartbeats 2000000 in
theorem implIsSymmetry (n : Int) (a : Option Addr) (l : List Int) (cap : Nat) (an : Option Addr) (ns : List Int) (cn : Nat) (w : World) (hrow : IntRow w a l) (hl : l.length ≤ maxLen) (hrn : IntRow w an ns) (hn : ns.length ≤ maxLen) :
    Calls Try.prog 33 #[.agg #[.int .i64 n, .slice a l.length cap], .slice an ns.length cn] w fun e w' => e = .returned (.bool (symR n l ns)) ∧ Below w.heap.size w w' := by
  obtain ⟨Wa, hWa⟩ : ∃ Wa, Wa = w.alloc (.cells #[.int .i64 n, .slice a l.length cap] 27) := ⟨_, rfl⟩
  have HWa := Lib.hid hWa
  have hba : Below w.heap.size w Wa := by rw [hWa]; exact (Below.refl _ _).alloc (Nat.le_refl _) _
  have xa : Box Wa w.heap.size 27 (.int .i64 n) (.slice a l.length cap) := by rw [hWa]; exact Box.new _ _ _ _
  have hrowa : IntRow Wa a l := hrow.below hba (Nat.le_refl _)
  have hrna : IntRow Wa an ns := hrn.below hba (Nat.le_refl _)
  have HREN := Lib.hid (implRename n a l cap an ns cn Wa hrowa hl hrna hn)
  have HL := Lib.hid hl
  clear hl hn hrow hrn hWa hrna
  cases hr : renB n l ns
  · have HR := Lib.hid hr
    have HE : Hid (symR n l ns = false) := by show _ = _; unfold symR; rw [hr]; rfl
    clear hr
    go_enter Try.func33, Try.ntmps33
    go_wp2_with fail
    rw [← HWa.out]
    refine HREN.out.mono ?_
    rintro e w1 ⟨⟨a0, c0, rfl, ho⟩, hb1⟩
    rw [HR.out]
    have B1 := Lib.hid (hba.trans (hb1.mono hba.size))
    have B2 := Lib.hid (B1.out.alloc B1.out.size (.cells #[.int .i64 (renN n l ns), .slice a0 (renR n l ns).length c0] 27))
    clear ho hb1 xa hrowa hba
    go_wp2
    go_region
    all_goals
      go_wp2
      go_ret
      exact ⟨by rw [HE.out]; rfl, B2.out.drew⟩
  have HR := Lib.hid hr
  have hok : Ok n l := by unfold renB at hr; rw [Bool.and_eq_true] at hr; exact okB_iff.1 hr.1
  have hl8 : l.length ≤ 8 := by have := hok.2.1; have := hok.2.2.1; omega
  have hlen := renR_len hr
  have HE : Hid ((renN n l ns == n && eqX (padX (renR n l ns)) (padX l)) = symR n l ns) := by
    show _ = _
    unfold symR
    rw [padX_inj hlen, hr, show renN n l ns = n by unfold renN; rw [hr]; rfl]
    simp
  have HLEN : Hid ((renR n l ns).length ≤ 8) := (show _ ≤ 8 by rw [hlen]; exact hl8)
  clear hr hok hlen
  go_enter Try.func33, Try.ntmps33
  go_wp2_with fail
  rw [← HWa.out]
  refine HREN.out.mono ?_
  rintro e w1 ⟨⟨a0, c0, rfl, ho⟩, hb1⟩
  rw [HR.out]
  obtain ⟨R, hR⟩ : ∃ R, R = renR n l ns := ⟨_, rfl⟩
  obtain ⟨N, hN⟩ : ∃ N, N = renN n l ns := ⟨_, rfl⟩
  rw [← hR, ← hN] at HE
  rw [← hR] at HLEN ho
  rw [← hR, ← hN]
  obtain ⟨W2, hW2⟩ : ∃ W2, W2 = w1.alloc (.cells #[.int .i64 N, .slice a0 R.length c0] 27) := ⟨_, rfl⟩
  have hb2 : Below w1.heap.size w1 W2 := by rw [hW2]; exact (Below.refl _ _).alloc (Nat.le_refl _) _
  have x2 : Box W2 w1.heap.size 27 (.int .i64 N) (.slice a0 R.length c0) := by rw [hW2]; exact Box.new _ _ _ _
  have xt : Box W2 w.heap.size 27 (.int .i64 n) (.slice a l.length cap) := (xa.below hb1 xa.lt).below hb2 (xa.below hb1 xa.lt).lt
  have hr2 : IntRow W2 a0 R := (own_int ho).below hb2 (Nat.le_refl _)
  have hrt : IntRow W2 a l := (hrowa.below hb1 (Nat.le_refl _)).below hb2 (Nat.le_refl _)
  have B1 := hba.trans (hb1.mono hba.size)
  have B2 := Lib.hid (B1.trans (hb2.mono B1.size))
  obtain ⟨V1, hV1⟩ : ∃ V1, V1 = resV N R := ⟨_, rfl⟩
  obtain ⟨V2, hV2⟩ : ∃ V2, V2 = resV n l := ⟨_, rfl⟩
  have cA : ∀ d os, Calls Try.prog 96 #[.agg #[.int .i64 N, .slice a0 R.length c0]] (Go.Sort.grow (redrawn W2 d) os) fun e w'' => e = .returned (.agg V1) ∧ ∃ p : Regrown, w'' = Go.Sort.grow (redrawn W2 p.d) p.os :=
    fun d os => Calls.regrown_of (by rw [hV1]; exact results_any N a0 c0 R _ HLEN.out (hr2.below (below_regrown W2 d os) (Nat.le_refl _)))
  have cB : ∀ d os, Calls Try.prog 96 #[.agg #[.int .i64 n, .slice a l.length cap]] (Go.Sort.grow (redrawn W2 d) os) fun e w'' => e = .returned (.agg V2) ∧ ∃ p : Regrown, w'' = Go.Sort.grow (redrawn W2 p.d) p.os :=
    fun d os => Calls.regrown_of (by rw [hV2]; exact results_any n a cap l _ hl8 (hrt.below (below_regrown W2 d os) (Nat.le_refl _)))
  have heq : ∀ W, (Op.equalIn 10000 76 (.agg V1) (.agg V2)).run Try.prog W = .ok (symR n l ns) W := fun W => by rw [hV1, hV2, eql_res _ _ _ _ HLEN.out hl8, HE.out]
  have q10 := fun d os => cell_regrown x2.c0 d os
  have q11 := fun d os => cell_regrown x2.c1 d os
  have q20 := fun d os => cell_regrown xt.c0 d os
  have q21 := fun d os => cell_regrown xt.c1 d os
  obtain ⟨y, hy⟩ : ∃ y, y = symR n l ns := ⟨_, rfl⟩
  rw [← hy] at heq
  have HY := Lib.hid hy
  have HW2 := Lib.hid hW2
  clear hW2 hb2 x2 xt hr2 hrt B1 hV1 hV2 ho hb1 xa hrowa hba hR hN hy HE
  go_wp2
  rw [← HW2.out]
  refine wp_region_quiet_below (by kernel_rfl) (by kernel_rfl) ?_
  repeat (go_big_quiet_step (first | with_reducible exact cA _ _ | with_reducible exact cB _ _))
  refine wpQuiet_nil ?_
  intro wq hw'
  have hbq : Below W2.heap.size W2 wq := by obtain ⟨⟨dq, osq⟩, hw''⟩ := hw'; rw [hw'']; exact below_regrown W2 dq osq
  have HBQ := Lib.hid (B2.out.trans (hbq.mono B2.out.size))
  clear hw' cA cB q10 q11 q20 q21 hbq heq
  go_wp2
  go_ret
  exact ⟨by rw [← HY.out]; rfl, HBQ.out⟩

set_option maxRecDepth 100000 in
set_option maxHeartbeats 2000000 in
theorem specIsSymmetry (n : Int) (a : Option Addr) (l : List Int) (cap : Nat) (an : Option Addr) (ns : List Int) (cn : Nat) (w : World) (hrow : IntRow w a l) (hl : l.length ≤ maxLen) (hrn : IntRow w an ns) (hn : ns.length ≤ maxLen) :
    Calls Try.prog 32 #[.agg #[.int .i64 n, .slice a l.length cap], .slice an ns.length cn] w fun e w' => e = .returned (.bool (symR n l ns)) ∧ Below w.heap.size w w' := by
  obtain ⟨Wa, hWa⟩ : ∃ Wa, Wa = w.alloc (.cells #[.int .i64 n, .slice a l.length cap] 27) := ⟨_, rfl⟩
  have HWa := Lib.hid hWa
  have hba : Below w.heap.size w Wa := by rw [hWa]; exact (Below.refl _ _).alloc (Nat.le_refl _) _
  have xa : Box Wa w.heap.size 27 (.int .i64 n) (.slice a l.length cap) := by rw [hWa]; exact Box.new _ _ _ _
  have hrowa : IntRow Wa a l := hrow.below hba (Nat.le_refl _)
  have hrna : IntRow Wa an ns := hrn.below hba (Nat.le_refl _)
  have HREN := Lib.hid (specRename n a l cap an ns cn Wa hrowa hl hrna hn)
  have HL := Lib.hid hl
  clear hl hn hrow hrn hWa hrna
  cases hr : renB n l ns
  · have HR := Lib.hid hr
    have HE : Hid (symR n l ns = false) := by show _ = _; unfold symR; rw [hr]; rfl
    clear hr
    go_enter Try.func32, Try.ntmps32
    go_wp2_with fail
    rw [← HWa.out]
    refine HREN.out.mono ?_
    rintro e w1 ⟨⟨a0, c0, rfl, ho⟩, hb1⟩
    rw [HR.out]
    have B1 := Lib.hid (hba.trans (hb1.mono hba.size))
    have B2 := Lib.hid (B1.out.alloc B1.out.size (.cells #[.int .i64 (renN n l ns), .slice a0 (renR n l ns).length c0] 27))
    clear ho hb1 xa hrowa hba
    go_wp2
    go_ret
    exact ⟨by rw [HE.out]; rfl, B2.out⟩
  have HR := Lib.hid hr
  have hok : Ok n l := by unfold renB at hr; rw [Bool.and_eq_true] at hr; exact okB_iff.1 hr.1
  have hl8 : l.length ≤ 8 := by have := hok.2.1; have := hok.2.2.1; omega
  have hlen := renR_len hr
  have HE : Hid (eqX (renR n l ns) l = symR n l ns) := by
    show _ = _
    unfold symR
    rw [hr]; rfl
  have HLEN : Hid ((renR n l ns).length ≤ 8) := (show _ ≤ 8 by rw [hlen]; exact hl8)
  clear hr hok hlen
  go_enter Try.func32, Try.ntmps32
  go_wp2_with fail
  rw [← HWa.out]
  refine HREN.out.mono ?_
  rintro e w1 ⟨⟨a0, c0, rfl, ho⟩, hb1⟩
  rw [HR.out]
  obtain ⟨R, hR⟩ : ∃ R, R = renR n l ns := ⟨_, rfl⟩
  obtain ⟨N, hN⟩ : ∃ N, N = renN n l ns := ⟨_, rfl⟩
  rw [← hR] at HE
  rw [← hR] at HLEN ho
  rw [← hR, ← hN]
  obtain ⟨W2, hW2⟩ : ∃ W2, W2 = w1.alloc (.cells #[.int .i64 N, .slice a0 R.length c0] 27) := ⟨_, rfl⟩
  have hb2 : Below w1.heap.size w1 W2 := by rw [hW2]; exact (Below.refl _ _).alloc (Nat.le_refl _) _
  have x2 : Box W2 w1.heap.size 27 (.int .i64 N) (.slice a0 R.length c0) := by rw [hW2]; exact Box.new _ _ _ _
  have xt : Box W2 w.heap.size 27 (.int .i64 n) (.slice a l.length cap) := (xa.below hb1 xa.lt).below hb2 (xa.below hb1 xa.lt).lt
  have hr2 : IntRow W2 a0 R := (own_int ho).below hb2 (Nat.le_refl _)
  have hrt : IntRow W2 a l := (hrowa.below hb1 (Nat.le_refl _)).below hb2 (Nat.le_refl _)
  have B1 := hba.trans (hb1.mono hba.size)
  have B2 := Lib.hid (B1.trans (hb2.mono B1.size))
  have HC := Lib.hid (l04Same_any a0 a R l c0 cap W2 hr2 hrt (by unfold maxLen; have := HLEN.out; omega) HL.out)
  have q10 := x2.c0
  have q11 := x2.c1
  have q20 := xt.c0
  have q21 := xt.c1
  have HW2 := Lib.hid hW2
  rw [HW2.out] at q10 q11 q20 q21
  clear hW2 hb2 x2 xt hr2 hrt B1 ho hb1 xa hrowa hba hR hN
  go_wp2_with fail
  rw [← HW2.out]
  refine HC.out.mono ?_
  rintro e w' ⟨rfl, rfl⟩
  rw [HE.out]
  clear q10 q11 q20 q21
  go_wp2
  go_ret
  exact ⟨rfl, B2.out⟩
end Go.Proofs.Yteiadhfjpohmdaa
