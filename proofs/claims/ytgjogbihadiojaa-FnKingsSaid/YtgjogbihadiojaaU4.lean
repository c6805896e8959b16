/-
  'IsKing', 'KingsOf', 'IsDominating', 'LeastDominating' of the model. No conditions but the bounds that Go gives a slice.
-/
import Derived.Test.YtgjogbihadiojaaU3
import Derived.Test.YtgjogbihadiojaaJ0
namespace Go.Proofs.Ytgjogbihadiojaa
open Go.ChangeShapes Go.WideShapes Go.ChangeAt Go.RowKit
set_option linter.unusedVariables false

theorem or256 (a b : Nat) (ha : a < 256) (hb : b < 256) : bits .or .i64 (a : Int) (b : Int) = ((a ||| b : Nat) : Int) := i64_or _ _ (by omega) (by omega)
theorem allSpec (a : Option Addr) (len cap m : Nat) (w : World) (hm : m ≤ 8) : Calls Try.prog 97 #[.agg #[.int .i64 m, .slice a len cap]] w fun e w' => e = .returned (.int .i64 ((2 ^ m - 1 : Nat) : Int)) ∧ Below w.heap.size w w' := by
  refine (l02All_any a len cap m w hm).mono ?_
  rintro e w' ⟨rfl, hb⟩
  have h1 : 1 ≤ 2 ^ m := Nat.one_le_two_pow
  exact ⟨by rw [show ((2 ^ m - 1 : Nat) : Int) = ((2 ^ m : Nat) : Int) - 1 by omega], hb⟩

set_option maxRecDepth 100000 in
set_option maxHeartbeats 1000000 in
theorem l07King_any (n : Int) (a : Option Addr) (l : List Int) (cap v : Nat) (w : World) (hrow : IntRow w a l) (hok : Ok n l) (hv : v < l.length) :
    Calls Try.prog 90 #[.agg #[.int .i64 n, .slice a l.length cap], .int .i64 v] w fun e w' => e = .returned (.bool (Kk.kingN (ww l) l.length v)) ∧ Below w.heap.size w w' := by
  obtain rfl : n = (l.length : Int) := hok.2.2.1.symm
  obtain ⟨Wa, hWa⟩ : ∃ Wa, Wa = w.alloc (.cells #[.int .i64 (l.length : Int), .slice a l.length cap] 25) := ⟨_, rfl⟩
  have HWa := Lib.hid hWa
  have hba : Below w.heap.size w Wa := by rw [hWa]; exact (Below.refl _ _).alloc (Nat.le_refl _) _
  have xa : Box Wa w.heap.size 25 (.int .i64 (l.length : Int)) (.slice a l.length cap) := by rw [hWa]; exact Box.new _ _ _ _
  have hrowa : IntRow Wa a l := hrow.below hba (Nat.le_refl _)
  have h8 : l.length ≤ 8 := (okVa hok).le
  obtain ⟨x, hx⟩ : ∃ x, x = ww l v := ⟨_, rfl⟩
  obtain ⟨hxe, hxl, hx8⟩ := hok.ww hv
  rw [← hx] at hxe hxl hx8
  have HX : Hid (x = ww l v) := hx
  have HXL : Hid (x < 2 ^ l.length) := hxl
  have HK := Lib.hid hok
  obtain ⟨m, hm⟩ : ∃ m, m = (elems x).length := ⟨_, rfl⟩
  have HM := Lib.hid hm
  have hm8 : m ≤ 8 := by rw [hm]; exact elTo_len x 8
  obtain ⟨p, hp⟩ : ∃ p, p = 2 ^ v := ⟨_, rfl⟩
  have HP := Lib.hid hp
  have hp8 : p < 256 := by rw [hp]; exact Nat.lt_of_lt_of_le (Nat.pow_lt_pow_right (by decide) hv) (pow_le l.length h8)
  have hw64 : wrap64 (2 ^ v) = (p : Int) := by rw [hp]; exact wrapPow v (by omega)
  have hor0 : bits .or .i64 (x : Int) (p : Int) = ((x ||| p : Nat) : Int) := or256 _ _ hx8 hp8
  have hxp : x ||| p < 256 := Nat.or_lt_two_pow (n := 8) hx8 hp8
  obtain ⟨s0, hs0⟩ : ∃ s0, s0 = x ||| p := ⟨_, rfl⟩
  rw [← hs0] at hor0 hxp
  have HS0 := Lib.hid hs0
  obtain ⟨b1, off, rfl, hbb, hcy⟩ := hrowa.at hv
  rw [hxe] at hcy
  have c0 := xa.c0
  have c1 := xa.c1
  have XA := Lib.hid xa
  have HRA := Lib.hid hrowa
  have hiv : (v : Int) < (l.length : Int) := by omega
  have hv64 : v < 64 := by omega
  have hel : ∀ W, Calls Try.prog 123 #[.int .i64 x] W fun e w' => (∃ g c, e = .returned (.slice (some ⟨g, 0, none⟩) m c) ∧ w'.ownsRow W.heap.size 3 1 (.slice (some ⟨g, 0, none⟩) m c) m ((elems x).map nv)) ∧ Below W.heap.size W w' := by
    intro W; rw [hm]; exact l02List_any x hx8 W
  have HEL := Lib.hid hel
  have HAL : Hid (∀ W, Calls Try.prog 97 #[.agg #[.int .i64 (l.length : Int), .slice (some ⟨b1, off, none⟩) l.length cap]] W fun e w' => e = .returned (.int .i64 ((2 ^ l.length - 1 : Nat) : Int)) ∧ Below W.heap.size W w') := fun W => allSpec _ l.length cap l.length W h8
  clear hWa hrow hok hx hm hel hrowa xa hp hs0 hxl hxe
  go_enter Try.func90, Try.ntmps90
  go_wp2
  rw [← HWa.out]
  go_quiet (fail)
  go_wp2_with fail
  refine (HEL.out _).mono ?_
  rintro e w1 ⟨⟨g, c, rfl, ho⟩, hb1'⟩
  have hb1 : Below Wa.heap.size Wa w1 := (below_drewN (Below.refl _ Wa) _).trans hb1'
  have HO := Lib.hid ho
  have hgl : Hid (g < w1.heap.size) := (ho.lt g rfl).2
  have B1 := Lib.hid (hba.trans (hb1.mono hba.size))
  have XA1 := Lib.hid (XA.out.below hb1 XA.out.lt)
  have HR1 := Lib.hid (HRA.out.below hb1 (Nat.le_refl _))
  clear ho hb1 hb1' c0 c1 hba hcy
  go_wp2
  go_loopw [5, 23] (fun all i wr => ∃ k s : Nat, k ≤ m ∧ i = .int .i64 (k : Int) ∧ all = .int .i64 (s : Int) ∧ s < 256 ∧ Hid (s = Kk.orW (ww l) s0 ((elems x).take k)) ∧ wr = w1) (fun _ i _ => m - (intOf i).toNat)
  case atStart => exact ⟨0, s0, Nat.zero_le _, rfl, rfl, hxp, rfl, by trivial⟩
  case round =>
    obtain ⟨k, s, hk, rfl, rfl, hs8, hs, rfl⟩ := hrel
    by_cases hlt : k < m
    · obtain ⟨b, hb⟩ : ∃ b, b = (elems x).getD k 0 := ⟨_, rfl⟩
      have hkl : k < (elems x).length := by rw [← HM.out]; exact hlt
      have hbm : b ∈ elems x := by rw [hb, List.getD_eq_getElem?_getD, List.getElem?_eq_getElem hkl]; exact List.getElem_mem hkl
      have hbl : b < l.length := Rc.bit_lt HXL.out (Kk.mem_el.1 hbm).2
      have hcx := HO.out.cellAt k (by omega)
      rw [List.getElem?_map, show (elems x)[k]? = some b by rw [hb, List.getD_eq_getElem?_getD, List.getElem?_eq_getElem hkl]; rfl] at hcx
      have hcx' : wr.cell? ⟨g, k, none⟩ = some (.int .i64 (b : Int)) := hcx
      obtain ⟨b1, off, hbo, hbb, hcy⟩ := HR1.out.at hbl
      obtain ⟨hy, hy2, hy8⟩ := HK.out.ww hbl
      rw [hy] at hcy
      obtain ⟨rfl, rfl⟩ : _ = b1 ∧ _ = off := by simpa using hbo
      obtain ⟨y, hyy⟩ : ∃ y, y = ww l b := ⟨_, rfl⟩
      rw [← hyy] at hcy hy8
      have hor : bits .or .i64 (s : Int) (y : Int) = ((s ||| y : Nat) : Int) := or256 _ _ hs8 hy8
      have hs2 : Hid (s ||| y = Kk.orW (ww l) s0 ((elems x).take (k + 1))) := by
        show _ = _
        rw [Kk.orW_take _ _ _ _ hkl, ← hb, ← hs.out, ← hyy]
      have hsy : s ||| y < 256 := Nat.or_lt_two_pow (n := 8) hs8 hy8
      have c1 := XA1.out.c1
      have hib : (b : Int) < (l.length : Int) := by omega
      have hkb : (k : Int) < (m : Int) := by omega
      obtain ⟨z, hz⟩ : ∃ z, z = s ||| y := ⟨_, rfl⟩
      rw [← hz] at hor hs2 hsy
      clear hcx hb hkl hbm hy hy2 hyy hs hz hbo
      go_wp2
      go_roundw
      case rel => exact ⟨k + 1, z, by omega, by go_num, by go_num, hsy, hs2, by trivial⟩
      case measure => simp [intOf]; omega
    · obtain rfl : k = m := by omega
      obtain ⟨P, hP⟩ : ∃ P, P = 2 ^ l.length - 1 := ⟨_, rfl⟩
      have hE : Hid (((s : Int) == (P : Int)) = Kk.kingN (ww l) l.length v) := by
        show _ = _
        unfold Kk.kingN
        rw [← HX.out, ← HP.out, ← HS0.out, ← hP, show Kk.orW (ww l) s0 (elems x) = s by rw [hs.out, HM.out, List.take_length], Bool.eq_iff_iff, beq_iff_eq, beq_iff_eq]
        omega
      have c0 := XA1.out.c0
      have c1 := XA1.out.c1
      rw [← hP] at HAL
      clear hP
      go_wp2_with fail
      refine (HAL.out _).mono ?_
      rintro e w3 ⟨rfl, hb3⟩
      go_wp2
      go_ret
      exact ⟨by rw [← hE.out]; rfl, B1.out.trans (hb3.mono B1.out.size)⟩

set_option maxRecDepth 100000 in
set_option maxHeartbeats 1000000 in
theorem l07Dominates_any (n : Int) (a : Option Addr) (l : List Int) (cap x : Nat) (w : World) (hrow : IntRow w a l) (hok : Ok n l) (hx : x < 2 ^ l.length) :
    Calls Try.prog 98 #[.agg #[.int .i64 n, .slice a l.length cap], .int .i64 x] w fun e w' => e = .returned (.bool (Kk.domN (ww l) l.length x)) ∧ Below w.heap.size w w' := by
  obtain rfl : n = (l.length : Int) := hok.2.2.1.symm
  obtain ⟨Wa, hWa⟩ : ∃ Wa, Wa = w.alloc (.cells #[.int .i64 (l.length : Int), .slice a l.length cap] 25) := ⟨_, rfl⟩
  have HWa := Lib.hid hWa
  have hba : Below w.heap.size w Wa := by rw [hWa]; exact (Below.refl _ _).alloc (Nat.le_refl _) _
  have xa : Box Wa w.heap.size 25 (.int .i64 (l.length : Int)) (.slice a l.length cap) := by rw [hWa]; exact Box.new _ _ _ _
  have hrowa : IntRow Wa a l := hrow.below hba (Nat.le_refl _)
  have h8 : l.length ≤ 8 := (okVa hok).le
  have hx8 : x < 256 := pow256 h8 hx
  have HK := Lib.hid hok
  have HX : Hid (x < 2 ^ l.length) := hx
  obtain ⟨m, hm⟩ : ∃ m, m = (elems x).length := ⟨_, rfl⟩
  have HM := Lib.hid hm
  have hm8 : m ≤ 8 := by rw [hm]; exact elTo_len x 8
  have c0 := xa.c0
  have c1 := xa.c1
  have XA := Lib.hid xa
  have HRA := Lib.hid hrowa
  have hel := l02List_any x hx8 Wa
  rw [← hm] at hel
  have HEL := Lib.hid hel
  have HAL : Hid (∀ W, Calls Try.prog 97 #[.agg #[.int .i64 (l.length : Int), .slice a l.length cap]] W fun e w' => e = .returned (.int .i64 ((2 ^ l.length - 1 : Nat) : Int)) ∧ Below W.heap.size W w') := fun W => allSpec _ l.length cap l.length W h8
  clear hWa hrow hok hx hm hel hrowa xa
  go_enter Try.func98, Try.ntmps98
  go_wp2_with fail
  rw [← HWa.out]
  refine HEL.out.mono ?_
  rintro e w1 ⟨⟨g, c, rfl, ho⟩, hb1⟩
  have HO := Lib.hid ho
  have hgl : Hid (g < w1.heap.size) := (ho.lt g rfl).2
  have B1 := Lib.hid (hba.trans (hb1.mono hba.size))
  have XA1 := Lib.hid (XA.out.below hb1 XA.out.lt)
  have HR1 := Lib.hid (HRA.out.below hb1 (Nat.le_refl _))
  clear ho hb1 c0 c1 hba
  go_wp2
  go_loopw [5, 12] (fun all i wr => ∃ k s : Nat, k ≤ m ∧ i = .int .i64 (k : Int) ∧ all = .int .i64 (s : Int) ∧ s < 256 ∧ Hid (s = Kk.orW (ww l) x ((elems x).take k)) ∧ wr = w1) (fun _ i _ => m - (intOf i).toNat)
  case atStart => exact ⟨0, x, Nat.zero_le _, rfl, rfl, hx8, rfl, by trivial⟩
  case round =>
    obtain ⟨k, s, hk, rfl, rfl, hs8, hs, rfl⟩ := hrel
    by_cases hlt : k < m
    · obtain ⟨b, hb⟩ : ∃ b, b = (elems x).getD k 0 := ⟨_, rfl⟩
      have hkl : k < (elems x).length := by rw [← HM.out]; exact hlt
      have hbm : b ∈ elems x := by rw [hb, List.getD_eq_getElem?_getD, List.getElem?_eq_getElem hkl]; exact List.getElem_mem hkl
      have hbl : b < l.length := Rc.bit_lt HX.out (Kk.mem_el.1 hbm).2
      have hcx := HO.out.cellAt k (by omega)
      rw [List.getElem?_map, show (elems x)[k]? = some b by rw [hb, List.getD_eq_getElem?_getD, List.getElem?_eq_getElem hkl]; rfl] at hcx
      have hcx' : wr.cell? ⟨g, k, none⟩ = some (.int .i64 (b : Int)) := hcx
      obtain ⟨b1, off, rfl, hbb, hcy⟩ := HR1.out.at hbl
      obtain ⟨hy, hy2, hy8⟩ := HK.out.ww hbl
      rw [hy] at hcy
      obtain ⟨y, hyy⟩ : ∃ y, y = ww l b := ⟨_, rfl⟩
      rw [← hyy] at hcy hy8
      have hor : bits .or .i64 (s : Int) (y : Int) = ((s ||| y : Nat) : Int) := i64_or _ _ (by omega) (by omega)
      have hs2 : Hid (s ||| y = Kk.orW (ww l) x ((elems x).take (k + 1))) := by
        show _ = _
        rw [Kk.orW_take _ _ _ _ hkl, ← hb, ← hs.out, ← hyy]
      have hsy : s ||| y < 256 := Nat.or_lt_two_pow (n := 8) hs8 hy8
      have c1 := XA1.out.c1
      have hib : (b : Int) < (l.length : Int) := by omega
      have hkb : (k : Int) < (m : Int) := by omega
      obtain ⟨z, hz⟩ : ∃ z, z = s ||| y := ⟨_, rfl⟩
      rw [← hz] at hor hs2 hsy
      clear hcx hb hkl hbm hy hy2 hyy hs hz
      go_wp2
      go_roundw
      case rel => exact ⟨k + 1, z, by omega, by go_num, by go_num, hsy, hs2, by trivial⟩
      case measure => simp [intOf]; omega
    · obtain rfl : k = m := by omega
      obtain ⟨P, hP⟩ : ∃ P, P = 2 ^ l.length - 1 := ⟨_, rfl⟩
      have hE : Hid (((s : Int) == (P : Int)) = Kk.domN (ww l) l.length x) := by
        show _ = _
        unfold Kk.domN
        rw [← hP, show Kk.wb (ww l) x = s by rw [hs.out, HM.out, List.take_length]; rfl, Bool.eq_iff_iff, beq_iff_eq, beq_iff_eq]
        omega
      have c0 := XA1.out.c0
      have c1 := XA1.out.c1
      rw [← hP] at HAL
      clear hP
      go_wp2_with fail
      refine (HAL.out _).mono ?_
      rintro e w3 ⟨rfl, hb3⟩
      go_wp2
      go_ret
      exact ⟨by rw [← hE.out]; rfl, B1.out.trans (hb3.mono B1.out.size)⟩


set_option maxHeartbeats 1000000 in
theorem specIsKing (n : Int) (a : Option Addr) (l : List Int) (cap : Nat) (k : Int) (w : World) (hrow : IntRow w a l) (hl : l.length ≤ maxLen) :
    Calls Try.prog 42 #[.agg #[.int .i64 n, .slice a l.length cap], .int .i64 k] w fun e w' => e = .returned (.bool (kingR n l k)) ∧ Below w.heap.size w w' := by
  obtain ⟨Wa, hWa⟩ : ∃ Wa, Wa = w.alloc (.cells #[.int .i64 n, .slice a l.length cap] 25) := ⟨_, rfl⟩
  have HWa := Lib.hid hWa
  have hba : Below w.heap.size w Wa := by rw [hWa]; exact (Below.refl _ _).alloc (Nat.le_refl _) _
  have xa : Box Wa w.heap.size 25 (.int .i64 n) (.slice a l.length cap) := by rw [hWa]; exact Box.new _ _ _ _
  have hrowa : IntRow Wa a l := hrow.below hba (Nat.le_refl _)
  have HL := Lib.hid hl
  clear hl hrow hWa
  cases hok : (okB n l && pl n k)
  · have HO := Lib.hid hok
    have HE : Hid (kingR n l k = false) := by show _ = _; unfold kingR; rw [hok]; rfl
    clear hok
    go_enter Try.func42, Try.ntmps42
    go_wp2_with fail
    rw [← HWa.out]
    refine (specPlayer n a l cap k Wa hrowa HL.out).mono ?_
    rintro e w1 ⟨rfl, hb1⟩
    rw [HO.out]
    go_wp2
    go_ret
    exact ⟨by rw [HE.out]; rfl, hba.trans (hb1.mono hba.size)⟩
  have HO := Lib.hid hok
  have HK := Lib.hid (okB_iff.1 (Bool.and_eq_true_iff.1 hok).1)
  have hp := pl_iff.1 (Bool.and_eq_true_iff.1 hok).2
  obtain ⟨i, rfl⟩ : ∃ i : Nat, k = i := ⟨k.toNat, by omega⟩
  have hil : i < l.length := by have := HK.out.2.2.1; omega
  have HE : Hid (kingR n l i = Kk.kingN (ww l) l.length i) := by show _ = _; unfold kingR; rw [hok]; simp
  clear hok hp
  go_enter Try.func42, Try.ntmps42
  go_wp2_with fail
  rw [← HWa.out]
  refine (specPlayer n a l cap i Wa hrowa HL.out).mono ?_
  rintro e w1 ⟨rfl, hb1⟩
  rw [HO.out]
  have c0 := (xa.below hb1 xa.lt).c0
  have c1 := (xa.below hb1 xa.lt).c1
  have b1 := hba.trans (hb1.mono hba.size)
  go_wp2_with fail
  refine (l07King_any n a l cap i w1 (hrowa.below hb1 (Nat.le_refl _)) HK.out hil).mono ?_
  rintro e w3 ⟨rfl, hb3⟩
  go_wp2
  go_ret
  exact ⟨by rw [HE.out]; rfl, b1.trans (hb3.mono b1.size)⟩

set_option maxHeartbeats 1000000 in
theorem l07Kings_any (n : Int) (a : Option Addr) (l : List Int) (cap : Nat) (w : World) (hrow : IntRow w a l) (hok : Ok n l) :
    Calls Try.prog 94 #[.agg #[.int .i64 n, .slice a l.length cap]] w fun e w' => e = .returned (.int .i64 ((Kk.kings (ww l) l.length : Nat) : Int)) ∧ Below w.heap.size w w' := by
  obtain rfl : n = (l.length : Int) := hok.2.2.1.symm
  obtain ⟨w1, hWa⟩ : ∃ Wa, Wa = w.alloc (.cells #[.int .i64 (l.length : Int), .slice a l.length cap] 25) := ⟨_, rfl⟩
  have HWa := Lib.hid hWa
  have hba : Below w.heap.size w w1 := by rw [hWa]; exact (Below.refl _ _).alloc (Nat.le_refl _) _
  have xa : Box w1 w.heap.size 25 (.int .i64 (l.length : Int)) (.slice a l.length cap) := by rw [hWa]; exact Box.new _ _ _ _
  have hrowa : IntRow w1 a l := hrow.below hba (Nat.le_refl _)
  have h8 : l.length ≤ 8 := (okVa hok).le
  have HK := Lib.hid hok
  have c0 := xa.c0
  have c1 := xa.c1
  have XA1 := Lib.hid xa
  have HR1 := Lib.hid hrowa
  have HE : Hid (Kk.kings (ww l) l.length = Rc.nb (Kk.kingN (ww l) l.length) l.length) := rfl
  clear hWa hrow hok hrowa xa
  go_enter Try.func94, Try.ntmps94
  go_wp2
  rw [← HWa.out]
  clear c0 c1
  go_loopw [3, 8] (fun s i wr => ∃ k q : Nat, k ≤ l.length ∧ i = .int .i64 (k : Int) ∧ s = .int .i64 (q : Int) ∧ q < 256 ∧ Hid (q = Rc.nb (Kk.kingN (ww l) l.length) k) ∧ Below w1.heap.size w1 wr) (fun _ i _ => l.length - (intOf i).toNat)
  case atStart => exact ⟨0, 0, Nat.zero_le _, rfl, rfl, by omega, rfl, Below.refl _ _⟩
  case round =>
    obtain ⟨k, q, hk, rfl, rfl, hq8, hq, hb⟩ := hrel
    by_cases hlt : k < l.length
    · have xr := XA1.out.below hb XA1.out.lt
      have c0 := xr.c0
      have c1 := xr.c1
      have HRr := Lib.hid (HR1.out.below hb (Nat.le_refl _))
      have hnb : Rc.nb (Kk.kingN (ww l) l.length) (k + 1) = Rc.nb (Kk.kingN (ww l) l.length) k + if Kk.kingN (ww l) l.length k then 2 ^ k else 0 := rfl
      have hn8 : Rc.nb (Kk.kingN (ww l) l.length) (k + 1) < 256 := kings_lt _ _ _ (by omega) h8
      have hkl : (k : Int) < (l.length : Int) := by omega
      have hw64 : wrap64 (2 ^ k) = ((2 ^ k : Nat) : Int) := wrapPow k (by omega)
      obtain ⟨p, hp⟩ : ∃ p, p = 2 ^ k := ⟨_, rfl⟩
      rw [← hp] at hw64 hnb
      cases hkg : Kk.kingN (ww l) l.length k
      · have hn : Hid (q = Rc.nb (Kk.kingN (ww l) l.length) (k + 1)) := by
          show _ = _
          rw [hnb, hkg, hq.out]; rfl
        have HKG := Lib.hid hkg
        clear hnb hp hkg xr hq hn8
        go_wp2_with fail
        refine (l07King_any _ a l cap k _ HRr.out HK.out hlt).mono ?_
        rintro e w3 ⟨rfl, hb3⟩
        rw [HKG.out]
        have hb4 := hb.trans (hb3.mono hb.size)
        go_wp2
        go_roundw
        case rel => exact ⟨k + 1, q, by omega, by go_num, rfl, hq8, hn, hb4⟩
        case measure => simp [intOf]; omega
      · have hn : Hid (q + p = Rc.nb (Kk.kingN (ww l) l.length) (k + 1)) := by
          show _ = _
          rw [hnb, hkg, hq.out]; rfl
        have hqp : q + p < 256 := by rw [hn.out]; exact hn8
        have HKG := Lib.hid hkg
        clear hnb hp hkg xr hq hn8
        go_wp2_with fail
        refine (l07King_any _ a l cap k _ HRr.out HK.out hlt).mono ?_
        rintro e w3 ⟨rfl, hb3⟩
        rw [HKG.out]
        have hb4 := hb.trans (hb3.mono hb.size)
        go_wp2
        go_roundw
        case rel => exact ⟨k + 1, q + p, by omega, by go_num, by go_num, hqp, hn, hb4⟩
        case measure => simp [intOf]; omega
    · obtain rfl : k = l.length := by omega
      go_wp2
      go_ret
      exact ⟨by rw [HE.out, ← hq.out]; rfl, hba.trans (hb.mono hba.size)⟩

set_option maxHeartbeats 1000000 in
theorem specKingsOf (n : Int) (a : Option Addr) (l : List Int) (cap : Nat) (w : World) (hrow : IntRow w a l) (hl : l.length ≤ maxLen) :
    Calls Try.prog 45 #[.agg #[.int .i64 n, .slice a l.length cap]] w fun e w' => e = .returned (.int .i64 (kingsR n l)) ∧ Below w.heap.size w w' := by
  obtain ⟨Wa, hWa⟩ : ∃ Wa, Wa = w.alloc (.cells #[.int .i64 n, .slice a l.length cap] 25) := ⟨_, rfl⟩
  have HWa := Lib.hid hWa
  have hba : Below w.heap.size w Wa := by rw [hWa]; exact (Below.refl _ _).alloc (Nat.le_refl _) _
  have xa : Box Wa w.heap.size 25 (.int .i64 n) (.slice a l.length cap) := by rw [hWa]; exact Box.new _ _ _ _
  have hrowa : IntRow Wa a l := hrow.below hba (Nat.le_refl _)
  have HL := Lib.hid hl
  clear hl hrow hWa
  cases hok : okB n l
  · have HO := Lib.hid hok
    have HE : Hid (kingsR n l = 0) := by show _ = _; unfold kingsR; rw [hok]; rfl
    clear hok
    go_enter Try.func45, Try.ntmps45
    go_wp2_with fail
    rw [← HWa.out]
    refine (specTourOk n a l cap Wa hrowa HL.out).mono ?_
    rintro e w1 ⟨rfl, hb1⟩
    rw [HO.out]
    go_wp2
    go_ret
    exact ⟨by rw [HE.out]; rfl, hba.trans (hb1.mono hba.size)⟩
  have HO := Lib.hid hok
  have HK := Lib.hid (okB_iff.1 hok)
  have HE : Hid (kingsR n l = ((Kk.kings (ww l) l.length : Nat) : Int)) := by show _ = _; unfold kingsR; rw [hok]; rfl
  clear hok
  go_enter Try.func45, Try.ntmps45
  go_wp2_with fail
  rw [← HWa.out]
  refine (specTourOk n a l cap Wa hrowa HL.out).mono ?_
  rintro e w1 ⟨rfl, hb1⟩
  rw [HO.out]
  have c0 := (xa.below hb1 xa.lt).c0
  have c1 := (xa.below hb1 xa.lt).c1
  have b1 := hba.trans (hb1.mono hba.size)
  go_wp2_with fail
  refine (l07Kings_any n a l cap w1 (hrowa.below hb1 (Nat.le_refl _)) HK.out).mono ?_
  rintro e w3 ⟨rfl, hb3⟩
  go_wp2
  go_ret
  exact ⟨by rw [HE.out]; rfl, b1.trans (hb3.mono b1.size)⟩

theorem in1 (x : Int) (P m : Nat) (hP : P = 2 ^ m - 1) : (decide (1 ≤ x) && decide (x ≤ (P : Int))) = (inSet x m && !(x == 0)) := by
  have h1 : 1 ≤ 2 ^ m := Nat.one_le_two_pow
  unfold inSet
  generalize 2 ^ m = q at hP h1 ⊢
  rw [Bool.eq_iff_iff]
  simp only [Bool.and_eq_true, decide_eq_true_eq, Bool.not_eq_true', beq_eq_false_iff_ne, ne_eq]
  omega

set_option maxHeartbeats 1000000 in
theorem specIsDominating (n : Int) (a : Option Addr) (l : List Int) (cap : Nat) (x : Int) (w : World) (hrow : IntRow w a l) (hl : l.length ≤ maxLen) :
    Calls Try.prog 47 #[.agg #[.int .i64 n, .slice a l.length cap], .int .i64 x] w fun e w' => e = .returned (.bool (domR n l x)) ∧ Below w.heap.size w w' := by
  obtain ⟨Wa, hWa⟩ : ∃ Wa, Wa = w.alloc (.cells #[.int .i64 n, .slice a l.length cap] 25) := ⟨_, rfl⟩
  have HWa := Lib.hid hWa
  have hba : Below w.heap.size w Wa := by rw [hWa]; exact (Below.refl _ _).alloc (Nat.le_refl _) _
  have xa : Box Wa w.heap.size 25 (.int .i64 n) (.slice a l.length cap) := by rw [hWa]; exact Box.new _ _ _ _
  have hrowa : IntRow Wa a l := hrow.below hba (Nat.le_refl _)
  have HL := Lib.hid hl
  clear hl hrow hWa
  cases hok : okB n l
  · have HO := Lib.hid hok
    have HE : Hid (domR n l x = false) := by show _ = _; unfold domR; rw [hok]; rfl
    clear hok
    go_enter Try.func47, Try.ntmps47
    go_wp2_with fail
    rw [← HWa.out]
    refine (specTourOk n a l cap Wa hrowa HL.out).mono ?_
    rintro e w1 ⟨rfl, hb1⟩
    rw [HO.out]
    go_wp2
    go_ret
    exact ⟨by rw [HE.out]; rfl, hba.trans (hb1.mono hba.size)⟩
  have HO := Lib.hid hok
  have hk := okB_iff.1 hok
  have HK := Lib.hid hk
  obtain rfl : n = (l.length : Int) := hk.2.2.1.symm
  have hl8 : l.length ≤ 8 := by have := hk.2.1; omega
  have hl1 : 1 ≤ l.length := by have := hk.1; omega
  obtain ⟨P, hP⟩ : ∃ P, P = 2 ^ l.length - 1 := ⟨_, rfl⟩
  have HAL : Hid (∀ W, Calls Try.prog 97 #[.agg #[.int .i64 (l.length : Int), .slice a l.length cap]] W fun e w' => e = .returned (.int .i64 ((P : Nat) : Int)) ∧ Below W.heap.size W w') := fun W => by rw [hP]; exact allSpec _ l.length cap l.length W hl8
  have HIN : Hid ((decide (1 ≤ x) && decide (x ≤ (P : Int))) = (inSet x l.length && !(x == 0))) := in1 x P _ hP
  cases hp : (inSet x l.length && !(x == 0))
  · have HP := Lib.hid hp
    have HE : Hid (domR l.length l x = false) := by
      show _ = _
      unfold domR
      rcases Bool.and_eq_false_iff.1 hp with h | h
      · rw [h]; simp
      · have : x = 0 := by simpa using h
        rw [this, show (0 : Int).toNat = 0 from rfl, Kk.dom_zero _ _ hl1, Bool.and_false]
    clear hok hp hk hP
    go_enter Try.func47, Try.ntmps47
    go_wp2_with fail
    rw [← HWa.out]
    refine (specTourOk _ a l cap Wa hrowa HL.out).mono ?_
    rintro e w1 ⟨rfl, hb1⟩
    rw [HO.out]
    have c0 := (xa.below hb1 xa.lt).c0
    have c1 := (xa.below hb1 xa.lt).c1
    have b1 := hba.trans (hb1.mono hba.size)
    go_wp2_with fail
    refine (HAL.out w1).mono ?_
    rintro e w2 ⟨rfl, hb2⟩
    go_wp2_with fail
    refine (l01In_any x 1 P _).mono ?_
    rintro e w' ⟨rfl, rfl⟩
    rw [HIN.out, HP.out]
    go_wp2
    go_ret
    exact ⟨by rw [HE.out]; rfl, b1.trans (hb2.mono b1.size)⟩
  have HP := Lib.hid hp
  have hp1 := (Bool.and_eq_true_iff.1 hp).1
  have hp2 : 0 ≤ x ∧ x < ((2 ^ l.length : Nat) : Int) := by simpa [inSet] using hp1
  obtain ⟨i, rfl⟩ : ∃ i : Nat, x = i := ⟨x.toNat, by omega⟩
  have hil : i < 2 ^ l.length := by omega
  have HE : Hid (domR l.length l i = Kk.domN (ww l) l.length i) := by show _ = _; unfold domR; rw [hok, hp1]; simp
  clear hok hp hp2 hk hP hp1
  go_enter Try.func47, Try.ntmps47
  go_wp2_with fail
  rw [← HWa.out]
  refine (specTourOk _ a l cap Wa hrowa HL.out).mono ?_
  rintro e w1 ⟨rfl, hb1⟩
  rw [HO.out]
  have xa1 := xa.below hb1 xa.lt
  have hrow1 := hrowa.below hb1 (Nat.le_refl _)
  have c0 := xa1.c0
  have c1 := xa1.c1
  have b1 := hba.trans (hb1.mono hba.size)
  go_wp2_with fail
  refine (HAL.out w1).mono ?_
  rintro e w2 ⟨rfl, hb2⟩
  have xa2 := xa1.below hb2 xa1.lt
  have hrow2 := hrow1.below hb2 (Nat.le_refl _)
  clear c0 c1
  have c0 := xa2.c0
  have c1 := xa2.c1
  have b2 := b1.trans (hb2.mono b1.size)
  go_wp2_with fail
  refine (l01In_any _ 1 P _).mono ?_
  rintro e w' ⟨rfl, rfl⟩
  rw [HIN.out, HP.out]
  go_wp2_with fail
  refine (l07Dominates_any _ a l cap i _ hrow2 HK.out hil).mono ?_
  rintro e w3 ⟨rfl, hb3⟩
  go_wp2
  go_ret
  exact ⟨by rw [HE.out]; rfl, b2.trans (hb3.mono b2.size)⟩

set_option maxHeartbeats 4000000 in
theorem specLeast (n : Int) (a : Option Addr) (l : List Int) (cap : Nat) (w : World) (hrow : IntRow w a l) (hl : l.length ≤ maxLen) :
    Calls Try.prog 48 #[.agg #[.int .i64 n, .slice a l.length cap]] w fun e w' => e = .returned (.int .i64 (leastR n l)) ∧ Below w.heap.size w w' := by
  obtain ⟨Wa, hWa⟩ : ∃ Wa, Wa = w.alloc (.cells #[.int .i64 n, .slice a l.length cap] 25) := ⟨_, rfl⟩
  have HWa := Lib.hid hWa
  have hba : Below w.heap.size w Wa := by rw [hWa]; exact (Below.refl _ _).alloc (Nat.le_refl _) _
  have xa : Box Wa w.heap.size 25 (.int .i64 n) (.slice a l.length cap) := by rw [hWa]; exact Box.new _ _ _ _
  have hrowa : IntRow Wa a l := hrow.below hba (Nat.le_refl _)
  have HL := Lib.hid hl
  clear hl hrow hWa
  cases hok : okB n l
  · have HO := Lib.hid hok
    have HE : Hid (leastR n l = 0) := by show _ = _; unfold leastR; rw [hok]; rfl
    clear hok
    go_enter Try.func48, Try.ntmps48
    go_wp2_with fail
    rw [← HWa.out]
    refine (specTourOk n a l cap Wa hrowa HL.out).mono ?_
    rintro e w1 ⟨rfl, hb1⟩
    rw [HO.out]
    go_wp2
    go_ret
    exact ⟨by rw [HE.out]; rfl, hba.trans (hb1.mono hba.size)⟩
  have HO := Lib.hid hok
  have hk := okB_iff.1 hok
  have HK := Lib.hid hk
  obtain rfl : n = (l.length : Int) := hk.2.2.1.symm
  have hl8 : l.length ≤ 8 := by have := hk.2.1; omega
  have hl1 : 1 ≤ l.length := by have := hk.1; omega
  obtain ⟨M, hM⟩ : ∃ M, M = 2 ^ l.length - 1 := ⟨_, rfl⟩
  have hP := pow_le l.length hl8
  have hM8 : M < 256 := by omega
  have hM1 : 1 ≤ M := by
    have : 2 ^ 1 ≤ 2 ^ l.length := Nat.pow_le_pow_right (by decide) hl1
    omega
  have HM := Lib.hid hM
  have HE : Hid (leastR l.length l = ((Kk.leastTo (ww l) l.length M : Nat) : Int)) := by show _ = _; unfold leastR; rw [hok, hM]; rfl
  have hAll : Hid (∀ W, Calls Try.prog 97 #[.agg #[.int .i64 (l.length : Int), .slice a l.length cap]] W fun e w' => e = .returned (.int .i64 (M : Int)) ∧ Below W.heap.size W w') := by
    intro W; rw [hM]; exact allSpec a l.length cap l.length W hl8
  have HS1 : Hid (M = Kk.leastTo (ww l) l.length 1) := by
    show _ = _
    rw [hM]
    simp only [Kk.leastTo]
    rw [Kk.dom_zero _ _ hl1]; rfl
  clear hok hk hM hP
  go_enter Try.func48, Try.ntmps48
  go_wp2_with fail
  rw [← HWa.out]
  refine (specTourOk _ a l cap Wa hrowa HL.out).mono ?_
  rintro e w1 ⟨rfl, hb1⟩
  rw [HO.out]
  have xa1 := xa.below hb1 xa.lt
  have hrow1 := hrowa.below hb1 (Nat.le_refl _)
  have c0 := xa1.c0
  have c1 := xa1.c1
  have b1 := hba.trans (hb1.mono hba.size)
  go_wp2_with fail
  refine (hAll.out w1).mono ?_
  rintro e w3 ⟨rfl, hb3⟩
  have XA3 := Lib.hid (xa1.below hb3 xa1.lt)
  have HR3 := Lib.hid (hrow1.below hb3 (Nat.le_refl _))
  have B3 := Lib.hid (b1.trans (hb3.mono b1.size))
  clear c0 c1 b1 hb1 hb3 hba xa xa1 hrowa hrow1
  go_wp2
  go_loopw [3, 4] (fun s i wr => ∃ k q : Nat, 1 ≤ k ∧ k ≤ M ∧ i = .int .i64 (k : Int) ∧ s = .int .i64 (q : Int) ∧ q < 256 ∧ Hid (q = Kk.leastTo (ww l) l.length k) ∧ Below w3.heap.size w3 wr) (fun _ i _ => M - (intOf i).toNat)
  case atStart => exact ⟨1, M, Nat.le_refl _, hM1, rfl, rfl, hM8, HS1.out, Below.refl _ _⟩
  case round =>
    obtain ⟨k, q, hk1, hk, rfl, rfl, hq8, hq, hb⟩ := hrel
    have xr := XA3.out.below hb XA3.out.lt
    have c0 := xr.c0
    have c1 := xr.c1
    have hRr := HR3.out.below hb (Nat.le_refl _)
    by_cases hlt : k < M
    · have hkl : (k : Int) < (M : Int) := by omega
      have hk8 : k < 256 := by omega
      have hkp : k < 2 ^ l.length := by have := HM.out; omega
      have HSM : Hid (¬ (pc k = pc q ∧ k < q)) := by
        intro h
        refine Kk.least_same (ww l) l.length k hl8 (by have := HM.out; omega) ?_
        rw [← hq.out]; exact h
      have HS : Hid (Kk.leastTo (ww l) l.length (k + 1) = if Kk.domN (ww l) l.length k && decide (pc k < pc q) then k else q) := by
        show _ = _
        rw [hq.out]; rfl
      go_wp2_with fail
      refine (hAll.out _).mono ?_
      rintro e w4 ⟨rfl, hb4⟩
      have xr4 := xr.below hb4 xr.lt
      have HRr := Lib.hid (hRr.below hb4 (Nat.le_refl _))
      have hb44 := hb.trans (hb4.mono hb.size)
      clear c0 c1 hRr
      have c0 := xr4.c0
      have c1 := xr4.c1
      cases hkg : Kk.domN (ww l) l.length k
      · have hn : Hid (q = Kk.leastTo (ww l) l.length (k + 1)) := by
          show _ = _
          rw [HS.out, hkg]; rfl
        have HKG := Lib.hid hkg
        clear hkg xr xr4 hq HS hb4
        go_wp2_with fail
        refine (l07Dominates_any _ a l cap k _ HRr.out HK.out hkp).mono ?_
        rintro e w5 ⟨rfl, hb5⟩
        rw [HKG.out]
        have hb6 := hb44.trans (hb5.mono hb44.size)
        go_wp2
        go_roundw
        case rel => exact ⟨k + 1, q, by omega, by omega, by go_num, rfl, hq8, hn, hb6⟩
        case measure => simp [intOf]; omega
      · have HKG := Lib.hid hkg
        have hpk := pc_le k
        have hpq := pc_le q
        by_cases hpp : pc k < pc q
        · have hn : Hid (k = Kk.leastTo (ww l) l.length (k + 1)) := by
            show _ = _
            rw [HS.out, hkg]; simp [hpp]
          clear hkg xr xr4 hq HS hb4
          go_wp2_with fail
          refine (l07Dominates_any _ a l cap k _ HRr.out HK.out hkp).mono ?_
          rintro e w5 ⟨rfl, hb5⟩
          rw [HKG.out]
          have hb6 := hb44.trans (hb5.mono hb44.size)
          go_wp2_with fail
          refine (l02Bits_any k hk8 _).mono ?_
          rintro e w' ⟨rfl, rfl⟩
          go_wp2_with fail
          refine (l02Bits_any q hq8 _).mono ?_
          rintro e w' ⟨rfl, rfl⟩
          have hpi : (pc k : Int) < (pc q : Int) := by omega
          go_wp2
          go_roundw
          case rel => exact ⟨k + 1, k, by omega, by omega, by go_num, rfl, hk8, hn, hb6⟩
          case measure => simp [intOf]; omega
        · have hn : Hid (q = Kk.leastTo (ww l) l.length (k + 1)) := by
            show _ = _
            rw [HS.out, hkg]; simp [hpp]
          have hpi : ¬ (pc k : Int) < (pc q : Int) := by omega
          by_cases heq : pc k = pc q
          · have hkq : ¬ (k : Int) < (q : Int) := by have := HSM.out; omega
            have hbe : ((pc k : Int) == (pc q : Int)) = true := by simp [heq]
            clear hkg xr xr4 hq HS hb4 heq hpp
            go_wp2_with fail
            refine (l07Dominates_any _ a l cap k _ HRr.out HK.out hkp).mono ?_
            rintro e w5 ⟨rfl, hb5⟩
            rw [HKG.out]
            have hb6 := hb44.trans (hb5.mono hb44.size)
            go_wp2_with fail
            refine (l02Bits_any k hk8 _).mono ?_
            rintro e w' ⟨rfl, rfl⟩
            go_wp2_with fail
            refine (l02Bits_any q hq8 _).mono ?_
            rintro e w' ⟨rfl, rfl⟩
            go_wp2_with fail
            refine (l02Bits_any k hk8 _).mono ?_
            rintro e w' ⟨rfl, rfl⟩
            go_wp2_with fail
            refine (l02Bits_any q hq8 _).mono ?_
            rintro e w' ⟨rfl, rfl⟩
            go_wp2
            go_roundw
            case rel => exact ⟨k + 1, q, by omega, by omega, by go_num, rfl, hq8, hn, hb6⟩
            case measure => simp [intOf]; omega
          · have hbe : ((pc k : Int) == (pc q : Int)) = false := by simp; omega
            clear hkg xr xr4 hq HS hb4 heq hpp
            go_wp2_with fail
            refine (l07Dominates_any _ a l cap k _ HRr.out HK.out hkp).mono ?_
            rintro e w5 ⟨rfl, hb5⟩
            rw [HKG.out]
            have hb6 := hb44.trans (hb5.mono hb44.size)
            go_wp2_with fail
            refine (l02Bits_any k hk8 _).mono ?_
            rintro e w' ⟨rfl, rfl⟩
            go_wp2_with fail
            refine (l02Bits_any q hq8 _).mono ?_
            rintro e w' ⟨rfl, rfl⟩
            go_wp2_with fail
            refine (l02Bits_any k hk8 _).mono ?_
            rintro e w' ⟨rfl, rfl⟩
            go_wp2_with fail
            refine (l02Bits_any q hq8 _).mono ?_
            rintro e w' ⟨rfl, rfl⟩
            go_wp2
            go_roundw
            case rel => exact ⟨k + 1, q, by omega, by omega, by go_num, rfl, hq8, hn, hb6⟩
            case measure => simp [intOf]; omega
    · obtain rfl : k = M := by omega
      clear xr hRr
      go_wp2_with fail
      refine (hAll.out _).mono ?_
      rintro e w4 ⟨rfl, hb4⟩
      have hb44 := hb.trans (hb4.mono hb.size)
      go_wp2
      go_ret
      exact ⟨by rw [HE.out, ← hq.out]; rfl, B3.out.trans (hb44.mono B3.out.size)⟩
end Go.Proofs.Ytgjogbihadiojaa
