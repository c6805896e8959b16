/-
  Sets that dominate and kings, in the program: 'withBeaten', 'allPlayers', 'isDominating', 'isKing', 'beatsAllOf'. Condition: the tour is valid.
-/
import Derived.Test.YtgjogbihadiojaaU1
import Derived.Test.Ytgjogbihadiojaa8D
import Derived.Test.YtgjogbihadiojaaN
namespace Go.Proofs.Ytgjogbihadiojaa
open Go.ChangeShapes Go.WideShapes Go.ChangeAt Go.RowKit
set_option linter.unusedVariables false

theorem bit_wwU {n : Int} {l : List Int} (h : Ok n l) {c b : Nat} (hc : c < l.length) : bt l c b = (ww l c).testBit b := by
  unfold bt
  rw [(h.ww hc).1, bi_nat]
theorem okVa {n : Int} {l : List Int} (h : Ok n l) : Kk.Va (ww l) l.length := by
  have h8 : l.length ≤ 8 := by have := h.2.1; have := h.2.2.1; omega
  refine ⟨h8, h.wlt, fun a ha => ?_, fun a b ha hb hne => ?_⟩
  · rw [← bit_wwU h ha]; exact (h.2.2.2 a ha).2.1
  · rw [← bit_wwU h ha, ← bit_wwU h hb]
    rcases Nat.lt_or_gt_of_ne hne with h' | h'
    · have := (h.2.2.2 b hb).2.2 a h'
      show bi _ _ = !bi _ _
      revert this
      cases bi (l.getD b 0) a <;> cases bi (l.getD a 0) b <;> simp
    · have := (h.2.2.2 a ha).2.2 b h'
      show bi _ _ = !bi _ _
      revert this
      cases bi (l.getD a 0) b <;> cases bi (l.getD b 0) a <;> simp
theorem pow256 {k x : Nat} (h : k ≤ 8) (hx : x < 2 ^ k) : x < 256 := Nat.lt_of_lt_of_le hx (pow_le k h)

set_option maxRecDepth 100000 in
set_option maxHeartbeats 1000000 in
theorem withBeaten_any (n : Int) (a : Option Addr) (l : List Int) (cap x : Nat) (w : World) (hrow : IntRow w a l) (hok : Ok n l) (hx : x < 2 ^ l.length) :
    Calls Try.prog 118 #[.agg #[.int .i64 n, .slice a l.length cap], .int .i64 x] w fun e w' => e = .returned (.int .i64 (Kk.wb (ww l) x : Nat)) ∧ Below w.heap.size w w' := by
  obtain ⟨Wa, hWa⟩ : ∃ Wa, Wa = w.alloc (.cells #[.int .i64 n, .slice a l.length cap] 25) := ⟨_, rfl⟩
  have HWa := Lib.hid hWa
  have hba : Below w.heap.size w Wa := by rw [hWa]; exact (Below.refl _ _).alloc (Nat.le_refl _) _
  have xa : Box Wa w.heap.size 25 (.int .i64 n) (.slice a l.length cap) := by rw [hWa]; exact Box.new _ _ _ _
  have hrowa : IntRow Wa a l := hrow.below hba (Nat.le_refl _)
  have h8 : l.length ≤ 8 := (okVa hok).le
  have hx8 : x < 256 := pow256 h8 hx
  have HK := Lib.hid hok
  have HX : Hid (x < 2 ^ l.length) := hx
  obtain ⟨m, hm⟩ : ∃ m, m = (elems x).length := ⟨_, rfl⟩
  have HM := Lib.hid hm
  have hm8 : m ≤ 8 := by rw [hm]; exact elTo_len x 8
  have c0 := xa.c0
  have c1 := xa.c1
  have XA := Lib.hid xa
  have HRA := Lib.hid hrowa
  have hel := elementsOf_any x hx8 Wa
  rw [← hm] at hel
  have HEL := Lib.hid hel
  clear hWa hrow hok hx hm hel hrowa xa
  go_enter Try.func118, Try.ntmps118
  go_wp2_with fail
  rw [← HWa.out]
  refine HEL.out.mono ?_
  rintro e w1 ⟨⟨g, c, rfl, ho⟩, hb1⟩
  have HO := Lib.hid ho
  have hgl : Hid (g < w1.heap.size) := (ho.lt g rfl).2
  have B1 := Lib.hid (hba.trans (hb1.mono hba.size))
  have XA1 := Lib.hid (XA.out.below hb1 XA.out.lt)
  have HR1 := Lib.hid (HRA.out.below hb1 (Nat.le_refl _))
  clear ho hb1 c0 c1 hba
  go_wp2
  go_loopw [5, 12] (fun all i wr => ∃ k s : Nat, k ≤ m ∧ i = .int .i64 (k : Int) ∧ all = .int .i64 (s : Int) ∧ s < 256 ∧ Hid (s = Kk.orW (ww l) x ((elems x).take k)) ∧ wr = w1) (fun _ i _ => m - (intOf i).toNat)
  case atStart => exact ⟨0, x, Nat.zero_le _, rfl, rfl, hx8, rfl, by trivial⟩
  case round =>
    obtain ⟨k, s, hk, rfl, rfl, hs8, hs, rfl⟩ := hrel
    by_cases hlt : k < m
    · obtain ⟨b, hb⟩ : ∃ b, b = (elems x).getD k 0 := ⟨_, rfl⟩
      have hkl : k < (elems x).length := by rw [← HM.out]; exact hlt
      have hbm : b ∈ elems x := by rw [hb, List.getD_eq_getElem?_getD, List.getElem?_eq_getElem hkl]; exact List.getElem_mem hkl
      have hbl : b < l.length := Rc.bit_lt HX.out (Kk.mem_el.1 hbm).2
      have hcx := HO.out.cellAt k (by omega)
      rw [List.getElem?_map, show (elems x)[k]? = some b by rw [hb, List.getD_eq_getElem?_getD, List.getElem?_eq_getElem hkl]; rfl] at hcx
      have hcx' : wr.cell? ⟨g, k, none⟩ = some (.int .i64 (b : Int)) := hcx
      obtain ⟨b1, off, rfl, hbb, hcy⟩ := HR1.out.at hbl
      obtain ⟨hy, hy2, hy8⟩ := HK.out.ww hbl
      rw [hy] at hcy
      obtain ⟨y, hyy⟩ : ∃ y, y = ww l b := ⟨_, rfl⟩
      rw [← hyy] at hcy hy8
      have hor : bits .or .i64 (s : Int) (y : Int) = ((s ||| y : Nat) : Int) := i64_or _ _ (by omega) (by omega)
      have hs2 : Hid (s ||| y = Kk.orW (ww l) x ((elems x).take (k + 1))) := by
        show _ = _
        rw [Kk.orW_take _ _ _ _ hkl, ← hb, ← hs.out, ← hyy]
      have hsy : s ||| y < 256 := Nat.or_lt_two_pow (n := 8) hs8 hy8
      have c1 := XA1.out.c1
      have hib : (b : Int) < (l.length : Int) := by omega
      have hkb : (k : Int) < (m : Int) := by omega
      obtain ⟨z, hz⟩ : ∃ z, z = s ||| y := ⟨_, rfl⟩
      rw [← hz] at hor hs2 hsy
      clear hcx hb hkl hbm hy hy2 hyy hs hz
      go_wp2
      go_roundw
      case rel => exact ⟨k + 1, z, by omega, by go_num, by go_num, hsy, hs2, by trivial⟩
      case measure => simp [intOf]; omega
    · obtain rfl : k = m := by omega
      have hE : Hid (s = Kk.wb (ww l) x) := by
        show _ = _
        rw [hs.out, HM.out, List.take_length]; rfl
      go_wp2
      go_ret
      exact ⟨by rw [← hE.out]; rfl, B1.out⟩

theorem allPlayers_any (a : Option Addr) (len cap m : Nat) (w : World) (hm : m ≤ 8) : Calls Try.prog 72 #[.agg #[.int .i64 m, .slice a len cap]] w fun e w' => e = .returned (.int .i64 ((2 ^ m - 1 : Nat) : Int)) ∧ Below w.heap.size w w' := by
  obtain ⟨P, hP⟩ : ∃ P, P = 2 ^ m := ⟨_, rfl⟩
  have hw := wrapPow m hm
  have h8 := pow_le m hm
  have h1 : 1 ≤ P := by rw [hP]; exact Nat.one_le_two_pow
  rw [← hP] at hw h8 ⊢
  have HE : Hid (((P - 1 : Nat) : Int) = (P : Int) - 1) := by show _ = _; omega
  rw [HE.out]
  clear hP
  go_enter Try.func72, Try.ntmps72
  go_wp2
  go_ret
  exact ⟨rfl, (Below.refl _ _).alloc (Nat.le_refl _) _⟩

set_option maxHeartbeats 1000000 in
theorem isDominating_any (n : Int) (a : Option Addr) (l : List Int) (cap x : Nat) (w : World) (hrow : IntRow w a l) (hok : Ok n l) (hx : x < 2 ^ l.length) :
    Calls Try.prog 79 #[.agg #[.int .i64 n, .slice a l.length cap], .int .i64 x] w fun e w' => e = .returned (.bool (Kk.domN (ww l) l.length x)) ∧ Below w.heap.size w w' := by
  obtain rfl : n = (l.length : Int) := hok.2.2.1.symm
  have h8 : l.length ≤ 8 := (okVa hok).le
  obtain ⟨Wa, hWa⟩ : ∃ Wa, Wa = w.alloc (.cells #[.int .i64 (l.length : Int), .slice a l.length cap] 25) := ⟨_, rfl⟩
  have HWa := Lib.hid hWa
  have hba : Below w.heap.size w Wa := by rw [hWa]; exact (Below.refl _ _).alloc (Nat.le_refl _) _
  have xa : Box Wa w.heap.size 25 (.int .i64 (l.length : Int)) (.slice a l.length cap) := by rw [hWa]; exact Box.new _ _ _ _
  have hrowa : IntRow Wa a l := hrow.below hba (Nat.le_refl _)
  obtain ⟨y, hy⟩ : ∃ y, y = Kk.wb (ww l) x := ⟨_, rfl⟩
  obtain ⟨z, hz⟩ : ∃ z, z = 2 ^ l.length - 1 := ⟨_, rfl⟩
  have HE : Hid (((y : Int) == (z : Int)) = Kk.domN (ww l) l.length x) := by
    show _ = _
    unfold Kk.domN
    rw [← hy, ← hz, Bool.eq_iff_iff, beq_iff_eq, beq_iff_eq]
    omega
  have cS : ∀ d os, Calls Try.prog 118 #[.agg #[.int .i64 (l.length : Int), .slice a l.length cap], .int .i64 x] (Go.Sort.grow (redrawn Wa d) os) fun e w'' => e = .returned (.int .i64 (y : Int)) ∧ ∃ p : Regrown, w'' = Go.Sort.grow (redrawn Wa p.d) p.os :=
    fun d os => Calls.regrown_of ((withBeaten_any _ a l cap x _ (hrowa.below (below_regrown Wa d os) (Nat.le_refl _)) hok hx).mono fun e w' ⟨he, hw⟩ => ⟨by rw [he, hy], hw⟩)
  have cA : ∀ d os, Calls Try.prog 72 #[.agg #[.int .i64 (l.length : Int), .slice a l.length cap]] (Go.Sort.grow (redrawn Wa d) os) fun e w'' => e = .returned (.int .i64 (z : Int)) ∧ ∃ p : Regrown, w'' = Go.Sort.grow (redrawn Wa p.d) p.os :=
    fun d os => Calls.regrown_of ((allPlayers_any a l.length cap l.length _ h8).mono fun e w' ⟨he, hw⟩ => ⟨by rw [he, hz], hw⟩)
  have hq0 := fun d os => cell_regrown xa.c0 d os
  have hq1 := fun d os => cell_regrown xa.c1 d os
  clear hWa hrow hok hx hy hz hrowa xa
  go_enter Try.func79, Try.ntmps79
  go_wp2
  rw [← HWa.out]
  refine wp_region_quiet_below (by kernel_rfl) (by kernel_rfl) ?_
  repeat (go_big_quiet_step (first | exact cS _ _ | exact cA _ _))
  refine wpQuiet_nil ?_
  intro wq hw'
  have hbq : Below Wa.heap.size Wa wq := by obtain ⟨⟨dq, osq⟩, hw''⟩ := hw'; rw [hw'']; exact below_regrown Wa dq osq
  clear hw' cS cA hq0 hq1
  go_wp2
  go_ret
  exact ⟨by rw [← HE.out]; rfl, hba.trans (hbq.mono hba.size)⟩

set_option maxHeartbeats 1000000 in
theorem isKing_any (n : Int) (a : Option Addr) (l : List Int) (cap k : Nat) (w : World) (hrow : IntRow w a l) (hok : Ok n l) (hk : k < l.length) :
    Calls Try.prog 69 #[.agg #[.int .i64 n, .slice a l.length cap], .int .i64 k] w fun e w' => e = .returned (.bool (Kk.kingN (ww l) l.length k)) ∧ Below w.heap.size w w' := by
  have hv := (okVa hok)
  have h8 : l.length ≤ 8 := hv.le
  obtain ⟨Wa, hWa⟩ : ∃ Wa, Wa = w.alloc (.cells #[.int .i64 n, .slice a l.length cap] 25) := ⟨_, rfl⟩
  have HWa := Lib.hid hWa
  have hba : Below w.heap.size w Wa := by rw [hWa]; exact (Below.refl _ _).alloc (Nat.le_refl _) _
  have xa : Box Wa w.heap.size 25 (.int .i64 n) (.slice a l.length cap) := by rw [hWa]; exact Box.new _ _ _ _
  have hrowa : IntRow Wa a l := hrow.below hba (Nat.le_refl _)
  obtain ⟨p, hp⟩ : ∃ p, p = 2 ^ k := ⟨_, rfl⟩
  have hpl : p < 2 ^ l.length := by rw [hp]; exact Nat.pow_lt_pow_right (by decide) hk
  have hw64 : wrap64 (2 ^ k) = (p : Int) := by rw [hp]; exact wrapPow k (by omega)
  obtain ⟨y, hy⟩ : ∃ y, y = 2 ^ k ||| ww l k := ⟨_, rfl⟩
  have hwy : Kk.wb (ww l) p = y := by rw [hp, hy]; exact Kk.wb_one (ww l) k (by omega)
  have hyl : y < 2 ^ l.length := by rw [hy, ← hp]; exact Nat.or_lt_two_pow hpl (hok.wlt k hk)
  obtain ⟨B, hB⟩ : ∃ B, B = Kk.kingN (ww l) l.length k := ⟨_, rfl⟩
  have hdB : Kk.domN (ww l) l.length y = B := by rw [hy, hB]; exact Kk.king_wb _ _ _ (by omega)
  have cS : ∀ d os, Calls Try.prog 118 #[.agg #[.int .i64 n, .slice a l.length cap], .int .i64 p] (Go.Sort.grow (redrawn Wa d) os) fun e w'' => e = .returned (.int .i64 (y : Int)) ∧ ∃ p : Regrown, w'' = Go.Sort.grow (redrawn Wa p.d) p.os :=
    fun d os => Calls.regrown_of ((withBeaten_any _ a l cap p _ (hrowa.below (below_regrown Wa d os) (Nat.le_refl _)) hok hpl).mono fun e w' ⟨he, hw⟩ => ⟨by rw [he, hwy], hw⟩)
  have cA : ∀ d os, Calls Try.prog 79 #[.agg #[.int .i64 n, .slice a l.length cap], .int .i64 y] (Go.Sort.grow (redrawn Wa d) os) fun e w'' => e = .returned (.bool B) ∧ ∃ p : Regrown, w'' = Go.Sort.grow (redrawn Wa p.d) p.os :=
    fun d os => Calls.regrown_of ((isDominating_any _ a l cap y _ (hrowa.below (below_regrown Wa d os) (Nat.le_refl _)) hok hyl).mono fun e w' ⟨he, hw⟩ => ⟨by rw [he, hdB], hw⟩)
  have hq0 := fun d os => cell_regrown xa.c0 d os
  have hq1 := fun d os => cell_regrown xa.c1 d os
  have hk64 : k < 64 := by omega
  rw [← hB]
  clear hWa hrow hok hp hpl hy hwy hyl hB hdB hrowa xa hv
  go_enter Try.func69, Try.ntmps69
  go_wp2
  rw [← HWa.out]
  refine wp_region_quiet_below (by kernel_rfl) (by kernel_rfl) ?_
  repeat (go_big_quiet_step (first | exact cS _ _ | exact cA _ _))
  refine wpQuiet_nil ?_
  intro wq hw'
  have hbq : Below Wa.heap.size Wa wq := by obtain ⟨⟨dq, osq⟩, hw''⟩ := hw'; rw [hw'']; exact below_regrown Wa dq osq
  clear hw' cS cA hq0 hq1
  go_wp2
  go_ret
  exact ⟨rfl, hba.trans (hbq.mono hba.size)⟩

/-- Whether the set has nobody whom a player does not beat. -/
def allOf (x y : Int) : Bool := bits .andNot .i64 x y == 0
theorem beatsAllOf_any (n : Int) (a : Option Addr) (l : List Int) (cap k : Nat) (x : Int) (w : World) (hrow : IntRow w a l) (hl : l.length ≤ maxLen) (hk : k < l.length) :
    Calls Try.prog 78 #[.agg #[.int .i64 n, .slice a l.length cap], .int .i64 k, .int .i64 x] w fun e w' => e = .returned (.bool (allOf x (l.getD k 0))) ∧ Below w.heap.size w w' := by
  obtain ⟨b, off, rfl, hb, hc⟩ := hrow.at hk
  obtain ⟨y, hy⟩ : ∃ y, y = l.getD k 0 := ⟨_, rfl⟩
  rw [← hy] at hc ⊢
  clear hy hrow
  unfold maxLen at hl
  have hib : (k : Int) < (l.length : Int) := by omega
  go_enter Try.func78, Try.ntmps78
  go_wp2
  go_ret
  exact ⟨rfl, (Below.refl _ _).alloc (Nat.le_refl _) _⟩
end Go.Proofs.Ytgjogbihadiojaa
