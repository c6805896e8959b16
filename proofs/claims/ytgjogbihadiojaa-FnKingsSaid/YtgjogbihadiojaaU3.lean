/-
  'IsKing', 'KingsOf', 'IsDominating', 'LeastDominating' of the program. No conditions but the bounds that Go gives a slice.
-/
import Derived.Test.YtgjogbihadiojaaU2
namespace Go.Proofs.Ytgjogbihadiojaa
open Go.ChangeShapes Go.WideShapes Go.ChangeAt Go.RowKit
set_option linter.unusedVariables false

/-- What both 'IsKing' answer. -/
noncomputable def kingR (n : Int) (l : List Int) (k : Int) : Bool := okB n l && pl n k && Kk.kingN (ww l) l.length k.toNat
/-- What both 'KingsOf' answer. -/
noncomputable def kingsR (n : Int) (l : List Int) : Int := if okB n l then ((Kk.kings (ww l) l.length : Nat) : Int) else 0
/-- What both 'IsDominating' answer. -/
noncomputable def domR (n : Int) (l : List Int) (x : Int) : Bool := okB n l && inSet x l.length && Kk.domN (ww l) l.length x.toNat
/-- What both 'LeastDominating' answer. -/
noncomputable def leastR (n : Int) (l : List Int) : Int := if okB n l then ((Kk.leastTo (ww l) l.length (2 ^ l.length - 1) : Nat) : Int) else 0

set_option maxHeartbeats 1000000 in
theorem implIsKing (n : Int) (a : Option Addr) (l : List Int) (cap : Nat) (k : Int) (w : World) (hrow : IntRow w a l) (hl : l.length ≤ maxLen) :
    Calls Try.prog 35 #[.agg #[.int .i64 n, .slice a l.length cap], .int .i64 k] w fun e w' => e = .returned (.bool (kingR n l k)) ∧ Below w.heap.size w w' := by
  obtain ⟨Wa, hWa⟩ : ∃ Wa, Wa = w.alloc (.cells #[.int .i64 n, .slice a l.length cap] 25) := ⟨_, rfl⟩
  have HWa := Lib.hid hWa
  have hba : Below w.heap.size w Wa := by rw [hWa]; exact (Below.refl _ _).alloc (Nat.le_refl _) _
  have xa : Box Wa w.heap.size 25 (.int .i64 n) (.slice a l.length cap) := by rw [hWa]; exact Box.new _ _ _ _
  have hrowa : IntRow Wa a l := hrow.below hba (Nat.le_refl _)
  have HL := Lib.hid hl
  clear hl hrow hWa
  cases hok : okB n l
  · have HO := Lib.hid hok
    have HE : Hid (kingR n l k = false) := by show _ = _; unfold kingR; rw [hok]; rfl
    clear hok
    go_enter Try.func35, Try.ntmps35
    go_wp2_with fail
    rw [← HWa.out]
    refine (implTourOk n a l cap Wa hrowa HL.out).mono ?_
    rintro e w1 ⟨rfl, hb1⟩
    rw [HO.out]
    go_wp2
    go_ret
    exact ⟨by rw [HE.out]; rfl, hba.trans (hb1.mono hba.size)⟩
  have HO := Lib.hid hok
  have HK := Lib.hid (okB_iff.1 hok)
  cases hp : pl n k
  · have HP := Lib.hid hp
    have HE : Hid (kingR n l k = false) := by show _ = _; unfold kingR; rw [hp]; simp
    clear hok hp
    go_enter Try.func35, Try.ntmps35
    go_wp2_with fail
    rw [← HWa.out]
    refine (implTourOk n a l cap Wa hrowa HL.out).mono ?_
    rintro e w1 ⟨rfl, hb1⟩
    rw [HO.out]
    have c0 := (xa.below hb1 xa.lt).c0
    have c1 := (xa.below hb1 xa.lt).c1
    go_wp2_with fail
    refine (hasPlayer_pl n a _ cap k w1).mono ?_
    rintro e w2 ⟨rfl, hb2⟩
    rw [HP.out]
    go_wp2
    go_ret
    have b1 := hba.trans (hb1.mono hba.size)
    exact ⟨by rw [HE.out]; rfl, b1.trans (hb2.mono b1.size)⟩
  have HP := Lib.hid hp
  have hp2 := pl_iff.1 hp
  obtain ⟨i, rfl⟩ : ∃ i : Nat, k = i := ⟨k.toNat, by omega⟩
  have hil : i < l.length := by have := HK.out.2.2.1; omega
  have HE : Hid (kingR n l i = Kk.kingN (ww l) l.length i) := by show _ = _; unfold kingR; rw [hok, hp]; simp
  clear hok hp hp2
  go_enter Try.func35, Try.ntmps35
  go_wp2_with fail
  rw [← HWa.out]
  refine (implTourOk n a l cap Wa hrowa HL.out).mono ?_
  rintro e w1 ⟨rfl, hb1⟩
  rw [HO.out]
  have xa1 := xa.below hb1 xa.lt
  have hrow1 := hrowa.below hb1 (Nat.le_refl _)
  have c0 := xa1.c0
  have c1 := xa1.c1
  go_wp2_with fail
  refine (hasPlayer_pl n a _ cap i w1).mono ?_
  rintro e w2 ⟨rfl, hb2⟩
  rw [HP.out]
  have xa2 := xa1.below hb2 xa1.lt
  have hrow2 := hrow1.below hb2 (Nat.le_refl _)
  clear c0 c1
  have c0 := xa2.c0
  have c1 := xa2.c1
  have b1 := hba.trans (hb1.mono hba.size)
  have b2 := b1.trans (hb2.mono b1.size)
  go_wp2_with fail
  refine (isKing_any n a l cap i w2 hrow2 HK.out hil).mono ?_
  rintro e w3 ⟨rfl, hb3⟩
  go_wp2
  go_ret
  exact ⟨by rw [HE.out]; rfl, b2.trans (hb3.mono b2.size)⟩

theorem kings_lt (f : Nat → Nat) (m k : Nat) (hk : k ≤ m) (hm : m ≤ 8) : Rc.nb (Kk.kingN f m) k < 256 := Nat.lt_of_lt_of_le (Rc.nb_lt _ _) (pow_le k (by omega))

set_option maxHeartbeats 1000000 in
theorem implKingsOf (n : Int) (a : Option Addr) (l : List Int) (cap : Nat) (w : World) (hrow : IntRow w a l) (hl : l.length ≤ maxLen) :
    Calls Try.prog 27 #[.agg #[.int .i64 n, .slice a l.length cap]] w fun e w' => e = .returned (.int .i64 (kingsR n l)) ∧ Below w.heap.size w w' := by
  obtain ⟨Wa, hWa⟩ : ∃ Wa, Wa = w.alloc (.cells #[.int .i64 n, .slice a l.length cap] 25) := ⟨_, rfl⟩
  have HWa := Lib.hid hWa
  have hba : Below w.heap.size w Wa := by rw [hWa]; exact (Below.refl _ _).alloc (Nat.le_refl _) _
  have xa : Box Wa w.heap.size 25 (.int .i64 n) (.slice a l.length cap) := by rw [hWa]; exact Box.new _ _ _ _
  have hrowa : IntRow Wa a l := hrow.below hba (Nat.le_refl _)
  have HL := Lib.hid hl
  clear hl hrow hWa
  cases hok : okB n l
  · have HO := Lib.hid hok
    have HE : Hid (kingsR n l = 0) := by show _ = _; unfold kingsR; rw [hok]; rfl
    clear hok
    go_enter Try.func27, Try.ntmps27
    go_wp2_with fail
    rw [← HWa.out]
    refine (implTourOk n a l cap Wa hrowa HL.out).mono ?_
    rintro e w1 ⟨rfl, hb1⟩
    rw [HO.out]
    go_wp2
    go_ret
    exact ⟨by rw [HE.out]; rfl, hba.trans (hb1.mono hba.size)⟩
  have HO := Lib.hid hok
  have hk := okB_iff.1 hok
  have HK := Lib.hid hk
  have HE : Hid (kingsR n l = ((Rc.nb (Kk.kingN (ww l) l.length) l.length : Nat) : Int)) := by show _ = _; unfold kingsR; rw [hok]; rfl
  obtain rfl : n = (l.length : Int) := hk.2.2.1.symm
  have hl8 : l.length ≤ 8 := by have := hk.2.1; omega
  clear hok hk
  go_enter Try.func27, Try.ntmps27
  go_wp2_with fail
  rw [← HWa.out]
  refine (implTourOk _ a l cap Wa hrowa HL.out).mono ?_
  rintro e w1 ⟨rfl, hb1⟩
  rw [HO.out]
  have xa1 := xa.below hb1 xa.lt
  have hrow1 := hrowa.below hb1 (Nat.le_refl _)
  have c0 := xa1.c0
  have c1 := xa1.c1
  have B1 := Lib.hid (hba.trans (hb1.mono hba.size))
  have XA1 := Lib.hid xa1
  have HR1 := Lib.hid hrow1
  clear hb1 hba xa xa1 hrowa hrow1
  go_wp2
  clear c0 c1
  go_loopw [3, 10] (fun s i wr => ∃ k q : Nat, k ≤ l.length ∧ i = .int .i64 (k : Int) ∧ s = .int .i64 (q : Int) ∧ q < 256 ∧ Hid (q = Rc.nb (Kk.kingN (ww l) l.length) k) ∧ Below w1.heap.size w1 wr) (fun _ i _ => l.length - (intOf i).toNat)
  case atStart => exact ⟨0, 0, Nat.zero_le _, rfl, rfl, by omega, rfl, Below.refl _ _⟩
  case round =>
    obtain ⟨k, q, hk, rfl, rfl, hq8, hq, hb⟩ := hrel
    by_cases hlt : k < l.length
    · have xr := XA1.out.below hb XA1.out.lt
      have c0 := xr.c0
      have c1 := xr.c1
      have HRr := Lib.hid (HR1.out.below hb (Nat.le_refl _))
      have hnb := Kk.nb_or (Kk.kingN (ww l) l.length) k
      have hkl : (k : Int) < (l.length : Int) := by omega
      have hw64 : wrap64 (2 ^ k) = ((2 ^ k : Nat) : Int) := wrapPow k (by omega)
      have hp8 : 2 ^ k < 256 := Nat.lt_of_lt_of_le (Nat.pow_lt_pow_right (by decide) hlt) (pow_le l.length hl8)
      obtain ⟨p, hp⟩ : ∃ p, p = 2 ^ k := ⟨_, rfl⟩
      rw [← hp] at hw64 hp8 hnb
      have hor : bits .or .i64 (q : Int) (p : Int) = ((q ||| p : Nat) : Int) := i64_or _ _ (by omega) (by omega)
      have hqp : q ||| p < 256 := Nat.or_lt_two_pow (n := 8) hq8 hp8
      obtain ⟨z, hz⟩ : ∃ z, z = q ||| p := ⟨_, rfl⟩
      rw [← hz] at hor hqp
      cases hkg : Kk.kingN (ww l) l.length k
      · have hn : Hid (q = Rc.nb (Kk.kingN (ww l) l.length) (k + 1)) := by
          show _ = _
          rw [hnb, hkg, hq.out]; rfl
        have HKG := Lib.hid hkg
        clear hnb hp hkg xr hz hq
        go_wp2_with fail
        refine (isKing_any _ a l cap k _ HRr.out HK.out hlt).mono ?_
        rintro e w3 ⟨rfl, hb3⟩
        rw [HKG.out]
        have hb4 := hb.trans (hb3.mono hb.size)
        go_wp2
        go_roundw
        case rel => exact ⟨k + 1, q, by omega, by go_num, rfl, hq8, hn, hb4⟩
        case measure => simp [intOf]; omega
      · have hn : Hid (z = Rc.nb (Kk.kingN (ww l) l.length) (k + 1)) := by
          show _ = _
          rw [hnb, hkg, hz, hq.out]; rfl
        have HKG := Lib.hid hkg
        clear hnb hp hkg xr hz hq
        go_wp2_with fail
        refine (isKing_any _ a l cap k _ HRr.out HK.out hlt).mono ?_
        rintro e w3 ⟨rfl, hb3⟩
        rw [HKG.out]
        have hb4 := hb.trans (hb3.mono hb.size)
        go_wp2
        go_roundw
        case rel => exact ⟨k + 1, z, by omega, by go_num, rfl, hqp, hn, hb4⟩
        case measure => simp [intOf]; omega
    · obtain rfl : k = l.length := by omega
      go_wp2
      go_ret
      exact ⟨by rw [HE.out, ← hq.out]; rfl, B1.out.trans (hb.mono B1.out.size)⟩

set_option maxHeartbeats 1000000 in
theorem implIsDominating (n : Int) (a : Option Addr) (l : List Int) (cap : Nat) (x : Int) (w : World) (hrow : IntRow w a l) (hl : l.length ≤ maxLen) :
    Calls Try.prog 38 #[.agg #[.int .i64 n, .slice a l.length cap], .int .i64 x] w fun e w' => e = .returned (.bool (domR n l x)) ∧ Below w.heap.size w w' := by
  obtain ⟨Wa, hWa⟩ : ∃ Wa, Wa = w.alloc (.cells #[.int .i64 n, .slice a l.length cap] 25) := ⟨_, rfl⟩
  have HWa := Lib.hid hWa
  have hba : Below w.heap.size w Wa := by rw [hWa]; exact (Below.refl _ _).alloc (Nat.le_refl _) _
  have xa : Box Wa w.heap.size 25 (.int .i64 n) (.slice a l.length cap) := by rw [hWa]; exact Box.new _ _ _ _
  have hrowa : IntRow Wa a l := hrow.below hba (Nat.le_refl _)
  have HL := Lib.hid hl
  clear hl hrow hWa
  cases hok : okB n l
  · have HO := Lib.hid hok
    have HE : Hid (domR n l x = false) := by show _ = _; unfold domR; rw [hok]; rfl
    clear hok
    go_enter Try.func38, Try.ntmps38
    go_wp2_with fail
    rw [← HWa.out]
    refine (implTourOk n a l cap Wa hrowa HL.out).mono ?_
    rintro e w1 ⟨rfl, hb1⟩
    rw [HO.out]
    go_wp2
    go_ret
    exact ⟨by rw [HE.out]; rfl, hba.trans (hb1.mono hba.size)⟩
  have HO := Lib.hid hok
  have hk := okB_iff.1 hok
  have HK := Lib.hid hk
  obtain rfl : n = (l.length : Int) := hk.2.2.1.symm
  have hl8 : l.length ≤ 8 := by have := hk.2.1; omega
  cases hp : inSet x l.length
  · have HP := Lib.hid hp
    have HE : Hid (domR l.length l x = false) := by show _ = _; unfold domR; rw [hp]; simp
    clear hok hp hk
    go_enter Try.func38, Try.ntmps38
    go_wp2_with fail
    rw [← HWa.out]
    refine (implTourOk _ a l cap Wa hrowa HL.out).mono ?_
    rintro e w1 ⟨rfl, hb1⟩
    rw [HO.out]
    have c0 := (xa.below hb1 xa.lt).c0
    have c1 := (xa.below hb1 xa.lt).c1
    go_wp2_with fail
    refine (isSetOf_any x l.length _ hl8).mono ?_
    rintro e w' ⟨rfl, rfl⟩
    rw [HP.out]
    go_wp2
    go_ret
    exact ⟨by rw [HE.out]; rfl, hba.trans (hb1.mono hba.size)⟩
  have HP := Lib.hid hp
  have hp2 : 0 ≤ x ∧ x < ((2 ^ l.length : Nat) : Int) := by simpa [inSet] using hp
  obtain ⟨i, rfl⟩ : ∃ i : Nat, x = i := ⟨x.toNat, by omega⟩
  have hil : i < 2 ^ l.length := by omega
  have HE : Hid (domR l.length l i = Kk.domN (ww l) l.length i) := by show _ = _; unfold domR; rw [hok, hp]; simp
  clear hok hp hp2 hk
  go_enter Try.func38, Try.ntmps38
  go_wp2_with fail
  rw [← HWa.out]
  refine (implTourOk _ a l cap Wa hrowa HL.out).mono ?_
  rintro e w1 ⟨rfl, hb1⟩
  rw [HO.out]
  have xa1 := xa.below hb1 xa.lt
  have hrow1 := hrowa.below hb1 (Nat.le_refl _)
  have c0 := xa1.c0
  have c1 := xa1.c1
  go_wp2_with fail
  refine (isSetOf_any _ l.length _ hl8).mono ?_
  rintro e w' ⟨rfl, rfl⟩
  rw [HP.out]
  have b1 := hba.trans (hb1.mono hba.size)
  go_wp2_with fail
  refine (isDominating_any _ a l cap i _ hrow1 HK.out hil).mono ?_
  rintro e w3 ⟨rfl, hb3⟩
  go_wp2
  go_ret
  exact ⟨by rw [HE.out]; rfl, b1.trans (hb3.mono b1.size)⟩

set_option maxHeartbeats 2000000 in
theorem implLeast (n : Int) (a : Option Addr) (l : List Int) (cap : Nat) (w : World) (hrow : IntRow w a l) (hl : l.length ≤ maxLen) :
    Calls Try.prog 37 #[.agg #[.int .i64 n, .slice a l.length cap]] w fun e w' => e = .returned (.int .i64 (leastR n l)) ∧ Below w.heap.size w w' := by
  obtain ⟨Wa, hWa⟩ : ∃ Wa, Wa = w.alloc (.cells #[.int .i64 n, .slice a l.length cap] 25) := ⟨_, rfl⟩
  have HWa := Lib.hid hWa
  have hba : Below w.heap.size w Wa := by rw [hWa]; exact (Below.refl _ _).alloc (Nat.le_refl _) _
  have xa : Box Wa w.heap.size 25 (.int .i64 n) (.slice a l.length cap) := by rw [hWa]; exact Box.new _ _ _ _
  have hrowa : IntRow Wa a l := hrow.below hba (Nat.le_refl _)
  have HL := Lib.hid hl
  clear hl hrow hWa
  cases hok : okB n l
  · have HO := Lib.hid hok
    have HE : Hid (leastR n l = 0) := by show _ = _; unfold leastR; rw [hok]; rfl
    clear hok
    go_enter Try.func37, Try.ntmps37
    go_wp2_with fail
    rw [← HWa.out]
    refine (implTourOk n a l cap Wa hrowa HL.out).mono ?_
    rintro e w1 ⟨rfl, hb1⟩
    rw [HO.out]
    go_wp2
    go_ret
    exact ⟨by rw [HE.out]; rfl, hba.trans (hb1.mono hba.size)⟩
  have HO := Lib.hid hok
  have hk := okB_iff.1 hok
  have HK := Lib.hid hk
  obtain rfl : n = (l.length : Int) := hk.2.2.1.symm
  have hl8 : l.length ≤ 8 := by have := hk.2.1; omega
  obtain ⟨M, hM⟩ : ∃ M, M = 2 ^ l.length - 1 := ⟨_, rfl⟩
  have hP := pow_le l.length hl8
  have hM8 : M < 256 := by omega
  have HM := Lib.hid hM
  have HE : Hid (leastR l.length l = ((Kk.leastTo (ww l) l.length M : Nat) : Int)) := by show _ = _; unfold leastR; rw [hok, hM]; rfl
  have hAll : Hid (∀ W, Calls Try.prog 72 #[.agg #[.int .i64 (l.length : Int), .slice a l.length cap]] W fun e w' => e = .returned (.int .i64 (M : Int)) ∧ Below W.heap.size W w') := by
    intro W; rw [hM]; exact allPlayers_any a l.length cap l.length W hl8
  clear hok hk hM hP
  go_enter Try.func37, Try.ntmps37
  go_wp2_with fail
  rw [← HWa.out]
  refine (implTourOk _ a l cap Wa hrowa HL.out).mono ?_
  rintro e w1 ⟨rfl, hb1⟩
  rw [HO.out]
  have xa1 := xa.below hb1 xa.lt
  have hrow1 := hrowa.below hb1 (Nat.le_refl _)
  have c0 := xa1.c0
  have c1 := xa1.c1
  have b1 := hba.trans (hb1.mono hba.size)
  go_wp2_with fail
  refine (hAll.out w1).mono ?_
  rintro e w2 ⟨rfl, hb2⟩
  have xa2 := xa1.below hb2 xa1.lt
  have hrow2 := hrow1.below hb2 (Nat.le_refl _)
  have b2 := b1.trans (hb2.mono b1.size)
  clear c0 c1
  have c0 := xa2.c0
  have c1 := xa2.c1
  go_wp2_with fail
  refine (hAll.out w2).mono ?_
  rintro e w3 ⟨rfl, hb3⟩
  have XA3 := Lib.hid (xa2.below hb3 xa2.lt)
  have HR3 := Lib.hid (hrow2.below hb3 (Nat.le_refl _))
  have B3 := Lib.hid (b2.trans (hb3.mono b2.size))
  clear c0 c1 b1 b2 hb1 hb2 hb3 hba xa xa1 xa2 hrowa hrow1 hrow2
  go_wp2
  go_loopw [3, 12] (fun s i wr => ∃ k q : Nat, k ≤ M ∧ i = .int .i64 (k : Int) ∧ s = .int .i64 (q : Int) ∧ q < 256 ∧ Hid (q = Kk.leastTo (ww l) l.length k) ∧ Below w3.heap.size w3 wr) (fun _ i _ => M - (intOf i).toNat)
  case atStart => exact ⟨0, M, Nat.zero_le _, rfl, rfl, hM8, HM.out, Below.refl _ _⟩
  case round =>
    obtain ⟨k, q, hk, rfl, rfl, hq8, hq, hb⟩ := hrel
    by_cases hlt : k < M
    · have xr := XA3.out.below hb XA3.out.lt
      have c0 := xr.c0
      have c1 := xr.c1
      have HRr := Lib.hid (HR3.out.below hb (Nat.le_refl _))
      have hkl : (k : Int) < (M : Int) := by omega
      have hk8 : k < 256 := by omega
      have hkp : k < 2 ^ l.length := by have := HM.out; omega
      have HS : Hid (Kk.leastTo (ww l) l.length (k + 1) = if Kk.domN (ww l) l.length k && decide (pc k < pc q) then k else q) := by
        show _ = _
        rw [hq.out]; rfl
      cases hkg : Kk.domN (ww l) l.length k
      · have hn : Hid (q = Kk.leastTo (ww l) l.length (k + 1)) := by
          show _ = _
          rw [HS.out, hkg]; rfl
        have HKG := Lib.hid hkg
        clear hkg xr hq HS
        go_wp2_with fail
        refine (isDominating_any _ a l cap k _ HRr.out HK.out hkp).mono ?_
        rintro e w4 ⟨rfl, hb4⟩
        rw [HKG.out]
        have hb5 := hb.trans (hb4.mono hb.size)
        go_wp2
        go_roundw
        case rel => exact ⟨k + 1, q, by omega, by go_num, rfl, hq8, hn, hb5⟩
        case measure => simp [intOf]; omega
      · have HKG := Lib.hid hkg
        have hpk := pc_le k
        have hpq := pc_le q
        by_cases hpp : pc k < pc q
        · have hn : Hid (k = Kk.leastTo (ww l) l.length (k + 1)) := by
            show _ = _
            rw [HS.out, hkg]; simp [hpp]
          clear hkg xr hq HS
          go_wp2_with fail
          refine (isDominating_any _ a l cap k _ HRr.out HK.out hkp).mono ?_
          rintro e w4 ⟨rfl, hb4⟩
          rw [HKG.out]
          have hb5 := hb.trans (hb4.mono hb.size)
          go_wp2_with fail
          refine (countElements_any k hk8 _).mono ?_
          rintro e w' ⟨rfl, rfl⟩
          go_wp2_with fail
          refine (countElements_any q hq8 _).mono ?_
          rintro e w' ⟨rfl, rfl⟩
          have hpi : (pc k : Int) < (pc q : Int) := by omega
          go_wp2
          go_roundw
          case rel => exact ⟨k + 1, k, by omega, by go_num, rfl, hk8, hn, hb5⟩
          case measure => simp [intOf]; omega
        · have hn : Hid (q = Kk.leastTo (ww l) l.length (k + 1)) := by
            show _ = _
            rw [HS.out, hkg]; simp [hpp]
          clear hkg xr hq HS
          go_wp2_with fail
          refine (isDominating_any _ a l cap k _ HRr.out HK.out hkp).mono ?_
          rintro e w4 ⟨rfl, hb4⟩
          rw [HKG.out]
          have hb5 := hb.trans (hb4.mono hb.size)
          go_wp2_with fail
          refine (countElements_any k hk8 _).mono ?_
          rintro e w' ⟨rfl, rfl⟩
          go_wp2_with fail
          refine (countElements_any q hq8 _).mono ?_
          rintro e w' ⟨rfl, rfl⟩
          have hpi : ¬ (pc k : Int) < (pc q : Int) := by omega
          go_wp2
          go_roundw
          case rel => exact ⟨k + 1, q, by omega, by go_num, rfl, hq8, hn, hb5⟩
          case measure => simp [intOf]; omega
    · obtain rfl : k = M := by omega
      go_wp2
      go_ret
      exact ⟨by rw [HE.out, ← hq.out]; rfl, B3.out.trans (hb.mono B3.out.size)⟩
end Go.Proofs.Ytgjogbihadiojaa
