/-
  'DoesCover' of the program and of the model. No conditions but the bounds that Go gives a slice.
-/
import Derived.Test.YtgjogbihadiojaaU2
namespace Go.Proofs.Ytgjogbihadiojaa
open Go.ChangeShapes Go.WideShapes Go.ChangeAt Go.RowKit
set_option linter.unusedVariables false

/-- What both 'DoesCover' answer. -/
noncomputable def covR (n : Int) (l : List Int) (p q : Int) : Bool := dbB n l p q && allOf (l.getD q.toNat 0) (l.getD p.toNat 0)

set_option maxHeartbeats 2000000 in
theorem implDoesCover (n : Int) (a : Option Addr) (l : List Int) (cap : Nat) (p q : Int) (w : World) (hrow : IntRow w a l) (hl : l.length ≤ maxLen) :
    Calls Try.prog 32 #[.agg #[.int .i64 n, .slice a l.length cap], .int .i64 p, .int .i64 q] w fun e w' => e = .returned (.bool (covR n l p q)) ∧ Below w.heap.size w w' := by
  obtain ⟨Wa, hWa⟩ : ∃ Wa, Wa = w.alloc (.cells #[.int .i64 n, .slice a l.length cap] 25) := ⟨_, rfl⟩
  have HWa := Lib.hid hWa
  have hba : Below w.heap.size w Wa := by rw [hWa]; exact (Below.refl _ _).alloc (Nat.le_refl _) _
  have xa : Box Wa w.heap.size 25 (.int .i64 n) (.slice a l.length cap) := by rw [hWa]; exact Box.new _ _ _ _
  have hrowa : IntRow Wa a l := hrow.below hba (Nat.le_refl _)
  have hrq : ∀ d os, IntRow (Go.Sort.grow (redrawn Wa d) os) a l := fun d os => hrowa.below (below_regrown Wa d os) (Nat.le_refl _)
  have hq0 := fun d os => cell_regrown xa.c0 d os
  have hq1 := fun d os => cell_regrown xa.c1 d os
  cases hdb : dbB n l p q
  · have HE : Hid (covR n l p q = false) := by show _ = _; unfold covR; rw [hdb]; rfl
    have cD : ∀ d os, Calls Try.prog 36 #[.agg #[.int .i64 n, .slice a l.length cap], .int .i64 p, .int .i64 q] (Go.Sort.grow (redrawn Wa d) os) fun e w'' => e = .returned (.bool false) ∧ ∃ p : Regrown, w'' = Go.Sort.grow (redrawn Wa p.d) p.os :=
      fun d os => Calls.regrown_of ((implDoesBeat n a l cap p q _ (hrq d os) hl).mono fun e w' ⟨he, hw⟩ => ⟨by rw [he, hdb], hw⟩)
    clear hWa hrow hl hrowa xa hrq hdb
    go_enter Try.func32, Try.ntmps32
    go_wp2
    rw [← HWa.out]
    refine wp_region_quiet_below (by kernel_rfl) (by kernel_rfl) ?_
    repeat (go_big_quiet_step (exact cD _ _))
    refine wpQuiet_nil ?_
    intro wq hw'
    have hbq : Below Wa.heap.size Wa wq := by obtain ⟨⟨dq, osq⟩, hw''⟩ := hw'; rw [hw'']; exact below_regrown Wa dq osq
    clear hw' cD hq0 hq1
    go_wp2
    go_ret
    exact ⟨by rw [HE.out]; rfl, hba.trans (hbq.mono hba.size)⟩
  · have hdb2 := hdb
    unfold dbB at hdb2
    simp only [Bool.and_eq_true] at hdb2
    obtain ⟨⟨⟨h1, h2⟩, h3⟩, _⟩ := hdb2
    have hk := okB_iff.1 h1
    have hp := pl_iff.1 h2
    have hq := pl_iff.1 h3
    have hnl := hk.2.2.1
    obtain ⟨i, rfl⟩ : ∃ i : Nat, p = i := ⟨p.toNat, by omega⟩
    obtain ⟨j, rfl⟩ : ∃ j : Nat, q = j := ⟨q.toNat, by omega⟩
    have hil : i < l.length := by omega
    have hjl : j < l.length := by omega
    have HE : Hid (covR n l i j = allOf (l.getD j 0) (l.getD i 0)) := by show _ = _; unfold covR; rw [hdb]; rfl
    obtain ⟨b, off, rfl, hbb, hcy⟩ := hrowa.at hjl
    obtain ⟨y, hy⟩ : ∃ y, y = l.getD j 0 := ⟨_, rfl⟩
    rw [← hy] at hcy HE
    obtain ⟨B, hB⟩ : ∃ B, B = allOf y (l.getD i 0) := ⟨_, rfl⟩
    rw [← hB] at HE
    have hqy := fun d os => cell_regrown hcy d os
    have cD : ∀ d os, Calls Try.prog 36 #[.agg #[.int .i64 n, .slice (some ⟨b, off, none⟩) l.length cap], .int .i64 (i : Int), .int .i64 (j : Int)] (Go.Sort.grow (redrawn Wa d) os) fun e w'' => e = .returned (.bool true) ∧ ∃ p : Regrown, w'' = Go.Sort.grow (redrawn Wa p.d) p.os :=
      fun d os => Calls.regrown_of ((implDoesBeat n _ l cap i j _ (hrq d os) hl).mono fun e w' ⟨he, hw⟩ => ⟨by rw [he, hdb], hw⟩)
    have cB : ∀ d os, Calls Try.prog 78 #[.agg #[.int .i64 n, .slice (some ⟨b, off, none⟩) l.length cap], .int .i64 (i : Int), .int .i64 y] (Go.Sort.grow (redrawn Wa d) os) fun e w'' => e = .returned (.bool B) ∧ ∃ p : Regrown, w'' = Go.Sort.grow (redrawn Wa p.d) p.os :=
      fun d os => Calls.regrown_of ((beatsAllOf_any n _ l cap i y _ (hrq d os) hl hil).mono fun e w' ⟨he, hw⟩ => ⟨by rw [he, hB], hw⟩)
    have hjb : (j : Int) < (l.length : Int) := by omega
    unfold maxLen at hl
    clear hWa hrow hrowa xa hrq hdb h1 h2 h3 hk hp hq hnl hil hcy hy hB
    go_enter Try.func32, Try.ntmps32
    go_wp2
    rw [← HWa.out]
    refine wp_region_quiet_below (by kernel_rfl) (by kernel_rfl) ?_
    repeat (go_big_quiet_step (first | exact cD _ _ | exact cB _ _))
    refine wpQuiet_nil ?_
    intro wq hw'
    have hbq : Below Wa.heap.size Wa wq := by obtain ⟨⟨dq, osq⟩, hw''⟩ := hw'; rw [hw'']; exact below_regrown Wa dq osq
    clear hw' cD cB hq0 hq1 hqy
    go_wp2
    go_ret
    exact ⟨by rw [HE.out]; rfl, hba.trans (hbq.mono hba.size)⟩

set_option maxHeartbeats 4000000 in
theorem specDoesCover (n : Int) (a : Option Addr) (l : List Int) (cap : Nat) (p q : Int) (w : World) (hrow : IntRow w a l) (hl : l.length ≤ maxLen) :
    Calls Try.prog 46 #[.agg #[.int .i64 n, .slice a l.length cap], .int .i64 p, .int .i64 q] w fun e w' => e = .returned (.bool (covR n l p q)) ∧ Below w.heap.size w w' := by
  obtain ⟨Wa, hWa⟩ : ∃ Wa, Wa = w.alloc (.cells #[.int .i64 n, .slice a l.length cap] 25) := ⟨_, rfl⟩
  have HWa := Lib.hid hWa
  have hba : Below w.heap.size w Wa := by rw [hWa]; exact (Below.refl _ _).alloc (Nat.le_refl _) _
  have xa : Box Wa w.heap.size 25 (.int .i64 n) (.slice a l.length cap) := by rw [hWa]; exact Box.new _ _ _ _
  have hrowa : IntRow Wa a l := hrow.below hba (Nat.le_refl _)
  have hrq : ∀ d os, IntRow (Go.Sort.grow (redrawn Wa d) os) a l := fun d os => hrowa.below (below_regrown Wa d os) (Nat.le_refl _)
  have hq0 := fun d os => cell_regrown xa.c0 d os
  have hq1 := fun d os => cell_regrown xa.c1 d os
  cases hok : (okB n l && pl n p)
  · have HE : Hid (covR n l p q = false) := by show _ = _; unfold covR dbB; rw [hok]; rfl
    have cD : ∀ d os, Calls Try.prog 89 #[.agg #[.int .i64 n, .slice a l.length cap], .int .i64 p] (Go.Sort.grow (redrawn Wa d) os) fun e w'' => e = .returned (.bool false) ∧ ∃ p : Regrown, w'' = Go.Sort.grow (redrawn Wa p.d) p.os :=
      fun d os => Calls.regrown_of ((specPlayer n a l cap p _ (hrq d os) hl).mono fun e w' ⟨he, hw⟩ => ⟨by rw [he, hok], hw⟩)
    clear hWa hrow hl hrowa xa hrq hok
    go_enter Try.func46, Try.ntmps46
    go_wp2
    rw [← HWa.out]
    refine wp_region_quiet_below (by kernel_rfl) (by kernel_rfl) ?_
    repeat (go_big_quiet_step (exact cD _ _))
    refine wpQuiet_nil ?_
    intro wq hw'
    have hbq : Below Wa.heap.size Wa wq := by obtain ⟨⟨dq, osq⟩, hw''⟩ := hw'; rw [hw'']; exact below_regrown Wa dq osq
    clear hw' cD hq0 hq1
    go_wp2
    go_ret
    exact ⟨by rw [HE.out]; rfl, hba.trans (hbq.mono hba.size)⟩
  have hk := okB_iff.1 (Bool.and_eq_true_iff.1 hok).1
  have hp := pl_iff.1 (Bool.and_eq_true_iff.1 hok).2
  have hnl := hk.2.2.1
  have hn1 := hk.1
  have hn8 := hk.2.1
  obtain ⟨i, rfl⟩ : ∃ i : Nat, p = i := ⟨p.toNat, by omega⟩
  have hil : i < l.length := by omega
  have cD : ∀ d os, Calls Try.prog 89 #[.agg #[.int .i64 n, .slice a l.length cap], .int .i64 (i : Int)] (Go.Sort.grow (redrawn Wa d) os) fun e w'' => e = .returned (.bool true) ∧ ∃ p : Regrown, w'' = Go.Sort.grow (redrawn Wa p.d) p.os :=
    fun d os => Calls.regrown_of ((specPlayer n a l cap i _ (hrq d os) hl).mono fun e w' ⟨he, hw⟩ => ⟨by rw [he, hok], hw⟩)
  cases hq : pl n q
  · have HE : Hid (covR n l i q = false) := by show _ = _; unfold covR dbB; rw [hq]; simp
    have cI : ∀ d os, Calls Try.prog 95 #[.int .i64 q, .int .i64 0, .int .i64 (n - 1)] (Go.Sort.grow (redrawn Wa d) os) fun e w'' => e = .returned (.bool false) ∧ ∃ p : Regrown, w'' = Go.Sort.grow (redrawn Wa p.d) p.os :=
      fun d os => Calls.regrown_of ((l01In_any q 0 (n - 1) _).mono fun e w' ⟨he, hw⟩ => ⟨by rw [he, pl_le, hq], hw ▸ Below.refl _ _⟩)
    clear hWa hrow hl hrowa xa hrq hok hq hk hp hnl hil
    go_enter Try.func46, Try.ntmps46
    go_wp2
    rw [← HWa.out]
    refine wp_region_quiet_below (by kernel_rfl) (by kernel_rfl) ?_
    repeat (go_big_quiet_step (first | exact cD _ _ | exact cI _ _))
    refine wpQuiet_nil ?_
    intro wq hw'
    have hbq : Below Wa.heap.size Wa wq := by obtain ⟨⟨dq, osq⟩, hw''⟩ := hw'; rw [hw'']; exact below_regrown Wa dq osq
    clear hw' cD cI hq0 hq1
    go_wp2
    go_ret
    exact ⟨by rw [HE.out]; rfl, hba.trans (hbq.mono hba.size)⟩
  have hq2 := pl_iff.1 hq
  obtain ⟨j, rfl⟩ : ∃ j : Nat, q = j := ⟨q.toNat, by omega⟩
  have hjl : j < l.length := by omega
  have cI : ∀ d os, Calls Try.prog 95 #[.int .i64 (j : Int), .int .i64 0, .int .i64 (n - 1)] (Go.Sort.grow (redrawn Wa d) os) fun e w'' => e = .returned (.bool true) ∧ ∃ p : Regrown, w'' = Go.Sort.grow (redrawn Wa p.d) p.os :=
    fun d os => Calls.regrown_of ((l01In_any j 0 (n - 1) _).mono fun e w' ⟨he, hw⟩ => ⟨by rw [he, pl_le, hq], hw ▸ Below.refl _ _⟩)
  obtain ⟨B0, hB0⟩ : ∃ B0, B0 = bt l i j := ⟨_, rfl⟩
  have cT : ∀ d os, Calls Try.prog 96 #[.agg #[.int .i64 n, .slice a l.length cap], .int .i64 (i : Int), .int .i64 (j : Int)] (Go.Sort.grow (redrawn Wa d) os) fun e w'' => e = .returned (.bool B0) ∧ ∃ p : Regrown, w'' = Go.Sort.grow (redrawn Wa p.d) p.os :=
    fun d os => Calls.regrown_of ((l02Beats_any n a l cap i j _ (hrq d os) hl hil (by omega)).mono fun e w' ⟨he, hw⟩ => ⟨by rw [he, hB0], hw⟩)
  cases B0
  · have HE : Hid (covR n l i j = false) := by
      show _ = _
      unfold covR dbB
      rw [show bt l (i : Int).toNat (j : Int).toNat = false from hB0.symm]; simp
    clear hWa hrow hl hrowa xa hrq hok hq hk hp hnl hil hjl hq2 hB0
    go_enter Try.func46, Try.ntmps46
    go_wp2
    rw [← HWa.out]
    refine wp_region_quiet_below (by kernel_rfl) (by kernel_rfl) ?_
    repeat (go_big_quiet_step (first | exact cD _ _ | exact cI _ _ | exact cT _ _))
    refine wpQuiet_nil ?_
    intro wq hw'
    have hbq : Below Wa.heap.size Wa wq := by obtain ⟨⟨dq, osq⟩, hw''⟩ := hw'; rw [hw'']; exact below_regrown Wa dq osq
    clear hw' cD cI cT hq0 hq1
    go_wp2
    go_ret
    exact ⟨by rw [HE.out]; rfl, hba.trans (hbq.mono hba.size)⟩
  · obtain ⟨b, off, rfl, hbb, hcy⟩ := hrowa.at hjl
    have hcx : Wa.cell? ⟨b, off + i, none⟩ = some (.int .i64 (l.getD i 0)) := by
      obtain ⟨b', off', he, _, hc⟩ := hrowa.at hil
      obtain ⟨rfl, rfl⟩ : b = b' ∧ off = off' := by simpa using he
      exact hc
    have HE : Hid (covR n l i j = allOf (l.getD j 0) (l.getD i 0)) := by
      show _ = _
      unfold covR dbB
      rw [show bt l (i : Int).toNat (j : Int).toNat = true from hB0.symm, hok, hq]; rfl
    obtain ⟨y, hy⟩ : ∃ y, y = l.getD j 0 := ⟨_, rfl⟩
    obtain ⟨x, hx⟩ : ∃ x, x = l.getD i 0 := ⟨_, rfl⟩
    rw [← hy] at hcy HE
    rw [← hx] at hcx HE
    have hqy := fun d os => cell_regrown hcy d os
    have hqx := fun d os => cell_regrown hcx d os
    have hjb : (j : Int) < (l.length : Int) := by omega
    have hib : (i : Int) < (l.length : Int) := by omega
    unfold maxLen at hl
    clear hWa hrow hrowa xa hrq hok hq hk hp hnl hil hjl hq2 hB0 hy hx hcx hcy
    go_enter Try.func46, Try.ntmps46
    go_wp2
    rw [← HWa.out]
    refine wp_region_quiet_below (by kernel_rfl) (by kernel_rfl) ?_
    repeat (go_big_quiet_step (first | exact cD _ _ | exact cI _ _ | exact cT _ _))
    refine wpQuiet_nil ?_
    intro wq hw'
    have hbq : Below Wa.heap.size Wa wq := by obtain ⟨⟨dq, osq⟩, hw''⟩ := hw'; rw [hw'']; exact below_regrown Wa dq osq
    clear hw' cD cI cT hq0 hq1 hqx hqy
    go_wp2
    go_ret
    exact ⟨by rw [HE.out]; rfl, hba.trans (hbq.mono hba.size)⟩
end Go.Proofs.Ytgjogbihadiojaa
