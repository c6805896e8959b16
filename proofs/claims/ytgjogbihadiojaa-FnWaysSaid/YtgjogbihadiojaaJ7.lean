/-
  'IsCycle' of the program. No conditions but the bounds that Go gives a slice.
-/
import Derived.Test.YtgjogbihadiojaaJ6
namespace Go.Proofs.Ytgjogbihadiojaa
open Go.ChangeShapes Go.WideShapes Go.ChangeAt Go.RowKit
set_option linter.unusedVariables false

/-- Whether a list is a cycle of a valid tour. -/
noncomputable def isC (n : Int) (l L : List Int) : Bool := isW n l L && (decide (3 ≤ L.length) && (ww l (L.getD (L.length - 1) 0).toNat).testBit (L.getD 0 0).toNat)
theorem isW_iff {n : Int} {l L : List Int} : isW n l L = true ↔ Ok n l ∧ Good l L := by simp [isW]
theorem isC_none {n : Int} {l L : List Int} (h : isW n l L = false) : isC n l L = false := by unfold isC; rw [h]; rfl
theorem isC_few {n : Int} {l L : List Int} (h : L.length < 3) : isC n l L = false := by
  unfold isC
  rw [show decide (3 ≤ L.length) = false by rw [decide_eq_false_iff_not]; omega, Bool.false_and, Bool.and_false]
theorem isC_at {n : Int} {l L : List Int} (h : isW n l L = true) (h3 : 3 ≤ L.length) : isC n l L = (ww l (L.getD (L.length - 1) 0).toNat).testBit (L.getD 0 0).toNat := by
  unfold isC
  rw [h, show decide (3 ≤ L.length) = true by rw [decide_eq_true_iff]; exact h3]; rfl
theorem or_wrap {s y : Nat} (hs : s < 256) (hy : y < 8) (hb : s.testBit y = false) : IntKind.i64.wrap ((s : Int) + wrap64 (2 ^ y)) = ((s ||| 2 ^ y : Nat) : Int) := by
  obtain ⟨e, h⟩ := Hw.add_bit hs hy hb
  rw [wrapPow y (by omega), ← Int.natCast_add, e]
  exact wrap_small _ (by omega)
theorem Good.at {l L : List Int} (h : Good l L) {k : Nat} (hk : k < L.length) : ∃ u : Nat, L.getD k 0 = u ∧ u < l.length := by
  have := h.1 (L.getD k 0) (by rw [List.getD_eq_getElem?_getD, List.getElem?_eq_getElem hk]; exact List.getElem_mem _)
  exact ⟨(L.getD k 0).toNat, by omega, by omega⟩

set_option maxRecDepth 100000 in
set_option maxHeartbeats 2000000 in
theorem implIsCycle (n : Int) (a : Option Addr) (l : List Int) (cap : Nat) (an : Option Addr) (L : List Int) (cn : Nat) (w : World) (hrow : IntRow w a l) (hl : l.length ≤ maxLen) (hrn : IntRow w an L) (hn : L.length ≤ maxLen) :
    Calls Try.prog 67 #[.agg #[.int .i64 n, .slice a l.length cap], .slice an L.length cn] w fun e w' => e = .returned (.bool (isC n l L)) ∧ Below w.heap.size w w' := by
  obtain ⟨Wa, hWa⟩ : ∃ Wa, Wa = w.alloc (.cells #[.int .i64 n, .slice a l.length cap] 25) := ⟨_, rfl⟩
  have HWa := Lib.hid hWa
  have hba : Below w.heap.size w Wa := by rw [hWa]; exact (Below.refl _ _).alloc (Nat.le_refl _) _
  have xa : Box Wa w.heap.size 25 (.int .i64 n) (.slice a l.length cap) := by rw [hWa]; exact Box.new _ _ _ _
  have hrowa : IntRow Wa a l := hrow.below hba (Nat.le_refl _)
  have hrna : IntRow Wa an L := hrn.below hba (Nat.le_refl _)
  have c0 := xa.c0
  have c1 := xa.c1
  have hq0 := fun d os => cell_regrown c0 d os
  have hq1 := fun d os => cell_regrown c1 d os
  have hrq : ∀ d os, IntRow (Go.Sort.grow (redrawn Wa d) os) a l := fun d os => hrowa.below (below_regrown Wa d os) (Nat.le_refl _)
  have hrqn : ∀ d os, IntRow (Go.Sort.grow (redrawn Wa d) os) an L := fun d os => hrna.below (below_regrown Wa d os) (Nat.le_refl _)
  have HL := Lib.hid hl
  have HN := Lib.hid hn
  unfold maxLen at hn
  clear hl hrow hrn hWa c0 c1
  have cW : ∀ (b : Bool), isW n l L = b → ∀ d os, Calls Try.prog 23 #[.agg #[.int .i64 n, .slice a l.length cap], .slice an L.length cn] (Go.Sort.grow (redrawn Wa d) os) fun e w'' => e = .returned (.bool b) ∧ ∃ p : Regrown, w'' = Go.Sort.grow (redrawn Wa p.d) p.os :=
    fun b hb2 d os => Calls.regrown_of ((implIsWay n a l cap an L cn _ (hrq d os) HL.out (hrqn d os) HN.out).mono fun e w' ⟨he, hw⟩ => ⟨by rw [he, hb2], hw⟩)
  by_cases h3 : (3 : Int) ≤ (L.length : Int)
  · have h3n : 3 ≤ L.length := by omega
    cases hw : isW n l L
    · have HE : Hid (isC n l L = false) := isC_none hw
      have cW0 := cW false hw
      clear cW hw hrq hrqn hrowa hrna xa
      go_enter Try.func67, Try.ntmps67
      go_wp2
      rw [← HWa.out]
      refine wp_region_quiet_below (by kernel_rfl) (by kernel_rfl) ?_
      repeat (go_big_quiet_step (exact cW0 _ _))
      refine wpQuiet_nil ?_
      intro wq hw'
      have hbq : Below Wa.heap.size Wa wq := by obtain ⟨⟨dq, osq⟩, hw''⟩ := hw'; rw [hw'']; exact below_regrown Wa dq osq
      have HBQ := Lib.hid (hba.trans (hbq.mono hba.size))
      clear hw' cW0 hq0 hq1 hbq hba
      go_wp2
      go_ret
      exact ⟨by rw [HE.out]; rfl, HBQ.out⟩
    · have cW0 := cW true hw
      have HC := Lib.hid (isC_at hw h3n)
      obtain ⟨hok, hgd⟩ := isW_iff.1 hw
      obtain ⟨u, hu, hul⟩ := hgd.at (show L.length - 1 < L.length by omega)
      obtain ⟨v, hv, hvl⟩ := hgd.at (show 0 < L.length by omega)
      have h8 : l.length ≤ 8 := by have := hok.2.1; have := hok.2.2.1; omega
      have hv64 : v < 64 := by omega
      obtain ⟨bq, off, rfl, hbb, hcu⟩ := hrna.at (show L.length - 1 < L.length by omega)
      obtain ⟨b2, off2, hae, hbb2, hcv⟩ := hrna.at (show 0 < L.length by omega)
      obtain ⟨rfl, rfl⟩ : bq = b2 ∧ off = off2 := by simpa using hae
      rw [hu] at hcu
      rw [hv, Nat.add_zero] at hcv
      have hqu := fun d os => cell_regrown hcu d os
      have hqv := fun d os => cell_regrown hcv d os
      have HE : Hid (isC n l L = (ww l u).testBit v) := by show _ = _; rw [HC.out, hu, hv]; rfl
      have cB : ∀ d os, Calls Try.prog 57 #[.agg #[.int .i64 n, .slice a l.length cap], .int .i64 (u : Int), .int .i64 (v : Int)] (Go.Sort.grow (redrawn Wa d) os) fun e w'' => e = .returned (.bool ((ww l u).testBit v)) ∧ ∃ p : Regrown, w'' = Go.Sort.grow (redrawn Wa p.d) p.os :=
        fun d os => Calls.regrown_of ((beats_any _ _ l cap u v _ (hrq d os) HL.out hul hv64).mono fun e w' ⟨he, hw⟩ => ⟨by rw [he, wwBit hok hul], hw⟩)
      have hk1 : (1 : Int) ≤ (L.length : Int) := by omega
      have hk3 : ((L.length : Int) - 1).toNat = L.length - 1 := by omega
      have hk0 : (0 : Int) < (L.length : Int) := by omega
      clear cW hw hrq hrqn hrowa hrna xa hok hgd hu hv hcu hcv
      go_enter Try.func67, Try.ntmps67
      go_wp2
      rw [← HWa.out]
      refine wp_region_quiet_below (by kernel_rfl) (by kernel_rfl) ?_
      repeat (go_big_quiet_step (first | exact cW0 _ _ | exact cB _ _))
      refine wpQuiet_nil ?_
      intro wq hw'
      have hbq : Below Wa.heap.size Wa wq := by obtain ⟨⟨dq, osq⟩, hw''⟩ := hw'; rw [hw'']; exact below_regrown Wa dq osq
      have HBQ := Lib.hid (hba.trans (hbq.mono hba.size))
      clear hw' cW0 cB hq0 hq1 hqu hqv hbq hba
      go_wp2
      go_ret
      exact ⟨by rw [HE.out]; rfl, HBQ.out⟩
  · have HE : Hid (isC n l L = false) := isC_few (by omega)
    have hd : decide ((3 : Int) ≤ (L.length : Int)) = false := by rw [decide_eq_false_iff_not]; exact h3
    clear hrq hrqn hrowa hrna xa
    go_enter Try.func67, Try.ntmps67
    go_wp2
    rw [← HWa.out]
    refine wp_region_quiet_below (by kernel_rfl) (by kernel_rfl) ?_
    repeat (go_big_quiet_step (exact cW _ rfl _ _))
    refine wpQuiet_nil ?_
    intro wq hw'
    have hbq : Below Wa.heap.size Wa wq := by obtain ⟨⟨dq, osq⟩, hw''⟩ := hw'; rw [hw'']; exact below_regrown Wa dq osq
    have HBQ := Lib.hid (hba.trans (hbq.mono hba.size))
    clear hw' cW hq0 hq1 hbq hba
    go_wp2
    go_ret
    exact ⟨by rw [HE.out]; rfl, HBQ.out⟩
end Go.Proofs.Ytgjogbihadiojaa
