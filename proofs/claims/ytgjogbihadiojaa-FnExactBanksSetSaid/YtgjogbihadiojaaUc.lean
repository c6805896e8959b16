/-
  'BanksSet' of the model. No conditions but the bounds that Go gives a slice.
-/
import Derived.Test.YtgjogbihadiojaaUb
import Derived.Test.YtgjogbihadiojaaS
import Derived.Test.YtgjogbihadiojaaWc
namespace Go.Proofs.Ytgjogbihadiojaa
open Go.ChangeShapes Go.WideShapes Go.ChangeAt Go.RowKit
set_option linter.unusedVariables false

theorem allSpecB (a : Option Addr) (len cap m : Nat) (w : World) (hm : m ≤ 8) : Calls Try.prog 97 #[.agg #[.int .i64 m, .slice a len cap]] w fun e w' => e = .returned (.int .i64 ((2 ^ m - 1 : Nat) : Int)) ∧ Below w.heap.size w w' := by
  refine (l02All_any a len cap m w hm).mono ?_
  rintro e w' ⟨rfl, hb⟩
  have h1 : 1 ≤ 2 ^ m := Nat.one_le_two_pow
  exact ⟨by rw [show ((2 ^ m - 1 : Nat) : Int) = ((2 ^ m : Nat) : Int) - 1 by omega], hb⟩
theorem partM (n : Int) (a : Option Addr) (l : List Int) (cap x : Nat) (w : World) (hrow : IntRow w a l) (hok : Ok n l) (h1 : 1 ≤ x) (hx : x < 2 ^ l.length) :
    Calls Try.prog 100 #[.agg #[.int .i64 n, .slice a l.length cap], .int .i64 (x : Int)] w fun e w' => (∃ a0 c0, e = .returned (.tuple #[.agg #[.int .i64 (((elems x).length : Nat) : Int), .slice a0 (prt l x).length c0], .bool true]) ∧ IntRow w' a0 (prt l x)) ∧ Below w.heap.size w w' := by
  have hl : l.length ≤ maxLen := by have := (okVa hok).le; unfold maxLen; omega
  obtain ⟨e1, e2, e3⟩ := pt_yes hok h1 hx
  refine (specPart n a l cap (x : Int) w hrow hl).mono ?_
  rintro e w' ⟨⟨a0, c0, rfl, ho⟩, hb⟩
  rw [e1, e2, e3]
  rw [e2] at ho
  exact ⟨⟨a0, c0, rfl, own_int ho⟩, hb⟩
theorem triM {n : Int} {l : List Int} (hok : Ok n l) {x : Nat} (h1 : 1 ≤ x) (hx : x < 2 ^ l.length) (a : Option Addr) (cap : Nat) (w : World) (hrow : IntRow w a (prt l x)) :
    Calls Try.prog 101 #[.agg #[.int .i64 (((elems x).length : Nat) : Int), .slice a (prt l x).length cap]] w fun e w' => (∃ (a1 : Option Addr) (c1 t : Nat), e = .returned (.slice a1 t c1) ∧ t ≤ 512 ∧ (t = 0 ↔ triL (prt l x) = [])) ∧ Below w.heap.size w w' := by
  have hp := partP_ok hok h1 hx
  refine (l04All_any _ a (prt l x) cap w hrow hp).mono ?_
  rintro e w' ⟨⟨a0, c0, gs, rfl, _⟩, hb⟩
  refine ⟨⟨a0, c0, _, rfl, triL_len _ ?_, by rw [List.length_eq_zero_iff]⟩, hb⟩
  rw [prt_len]; exact elTo_len x 8
theorem cn_no {p : Nat → Bool} {k : Nat} (h : p k = false) : Kk.cn p (k + 1) = Kk.cn p k := by simp [Kk.cn, h]
theorem cn_yes {p : Nat → Bool} {k : Nat} (h : p k = true) : Kk.cn p (k + 1) = Kk.cn p k + 1 := by simp [Kk.cn, h]
/-- What the model's inner loop knows. -/
def pr7 (l : List Int) (x j : Nat) : Bool := an x (ww l j) == 0

set_option maxRecDepth 100000 in
set_option maxHeartbeats 4000000 in
theorem specBanks (n : Int) (a : Option Addr) (l : List Int) (cap : Nat) (w : World) (hrow : IntRow w a l) (hl : l.length ≤ maxLen) :
    Calls Try.prog 49 #[.agg #[.int .i64 n, .slice a l.length cap]] w fun e w' => e = .returned (.int .i64 (banksR n l)) ∧ Below w.heap.size w w' := by
  obtain ⟨Wa, hWa⟩ : ∃ Wa, Wa = w.alloc (.cells #[.int .i64 n, .slice a l.length cap] 25) := ⟨_, rfl⟩
  have HWa := Lib.hid hWa
  have hba : Below w.heap.size w Wa := by rw [hWa]; exact (Below.refl _ _).alloc (Nat.le_refl _) _
  have xa : Box Wa w.heap.size 25 (.int .i64 n) (.slice a l.length cap) := by rw [hWa]; exact Box.new _ _ _ _
  have hrowa : IntRow Wa a l := hrow.below hba (Nat.le_refl _)
  have HL := Lib.hid hl
  clear hl hrow hWa
  cases hok : okB n l
  · have HO := Lib.hid hok
    have HE : Hid (banksR n l = 0) := by show _ = _; unfold banksR; rw [hok]; rfl
    clear hok
    go_enter Try.func49, Try.ntmps49
    go_wp2_with fail
    rw [← HWa.out]
    refine (specTourOk n a l cap Wa hrowa HL.out).mono ?_
    rintro e w1 ⟨rfl, hb1⟩
    rw [HO.out]
    go_wp2
    go_ret
    exact ⟨by rw [HE.out]; rfl, hba.trans (hb1.mono hba.size)⟩
  have HO := Lib.hid hok
  have hk := okB_iff.1 hok
  have HK := Lib.hid hk
  obtain rfl : n = (l.length : Int) := hk.2.2.1.symm
  have hl8 : l.length ≤ 8 := by have := hk.2.1; omega
  have hl1 : 1 ≤ l.length := by have := hk.1; omega
  obtain ⟨M, hM⟩ : ∃ M, M = 2 ^ l.length - 1 := ⟨_, rfl⟩
  have hP := pow_le l.length hl8
  have h1P : 1 ≤ 2 ^ l.length := Nat.one_le_two_pow
  have hM8 : M < 256 := by omega
  have hMP : M + 1 = 2 ^ l.length := by omega
  have HMP := Lib.hid hMP
  have HE : Hid (banksR l.length l = ((banksTo l (M + 1) : Nat) : Int)) := by show _ = _; unfold banksR; rw [hok, hMP]; rfl
  have hAll : Hid (∀ W, Calls Try.prog 97 #[.agg #[.int .i64 (l.length : Int), .slice a l.length cap]] W fun e w' => e = .returned (.int .i64 (M : Int)) ∧ Below W.heap.size W w') := by
    intro W; rw [hM]; exact allSpecB a l.length cap l.length W hl8
  have HB1 := Lib.hid (banks_one l)
  clear hok hk hM hP hMP h1P
  go_enter Try.func49, Try.ntmps49
  go_wp2_with fail
  rw [← HWa.out]
  refine (specTourOk _ a l cap Wa hrowa HL.out).mono ?_
  rintro e w3 ⟨rfl, hb1⟩
  rw [HO.out]
  have XA3 := Lib.hid (xa.below hb1 xa.lt)
  have HR3 := Lib.hid (hrowa.below hb1 (Nat.le_refl _))
  have B3 := Lib.hid (hba.trans (hb1.mono hba.size))
  clear hb1 hba xa hrowa
  go_wp2
  go_loopw [3, 4] (fun s i wr => ∃ k q : Nat, 1 ≤ k ∧ k ≤ M + 1 ∧ i = .int .i64 (k : Int) ∧ s = .int .i64 (q : Int) ∧ q < 256 ∧ Hid (q = banksTo l k) ∧ Below w3.heap.size w3 wr) (fun _ i _ => M + 1 - (intOf i).toNat)
  case atStart => exact ⟨1, 0, Nat.le_refl _, by omega, rfl, rfl, by omega, HB1.out.symm, Below.refl _ _⟩
  case round =>
    obtain ⟨k, q, hk1, hk, rfl, rfl, hq8, hq, hb⟩ := hrel
    have xr := XA3.out.below hb XA3.out.lt
    have hRr := HR3.out.below hb (Nat.le_refl _)
    have c0 := xr.c0
    have c1 := xr.c1
    by_cases hlt : k ≤ M
    · have hkl : (k : Int) ≤ (M : Int) := by omega
      have hkp : k < 2 ^ l.length := by have := HMP.out; omega
      have hk8 : k < 256 := by omega
      go_wp2_with fail
      refine (hAll.out _).mono ?_
      rintro e w4 ⟨rfl, hb4⟩
      have xr4 := xr.below hb4 xr.lt
      have hr4 := hRr.below hb4 (Nat.le_refl _)
      have b4 := hb.trans (hb4.mono hb.size)
      clear c0 c1
      have c0 := xr4.c0
      have c1 := xr4.c1
      clear xr hRr hb4 hb
      go_wp2_with fail
      refine (partM _ a l cap k _ hr4 HK.out hk1 hkp).mono ?_
      rintro e w5 ⟨⟨a5, cp5, rfl, hp5⟩, hb5⟩
      have xr5 := xr4.below hb5 xr4.lt
      have hr5 := hr4.below hb5 (Nat.le_refl _)
      have b5 := b4.trans (hb5.mono b4.size)
      clear c0 c1
      have c0 := xr5.c0
      have c1 := xr5.c1
      obtain ⟨W6, hW6⟩ : ∃ W6, W6 = w5.alloc (.cells #[.int .i64 (((elems k).length : Nat) : Int), .slice a5 (prt l k).length cp5] 25) := ⟨_, rfl⟩
      have HW6 := Lib.hid hW6
      have hb6 : Below w5.heap.size w5 W6 := by rw [hW6]; exact (Below.refl _ _).alloc (Nat.le_refl _) _
      have xp6 : Box W6 w5.heap.size 25 (.int .i64 (((elems k).length : Nat) : Int)) (.slice a5 (prt l k).length cp5) := by rw [hW6]; exact Box.new _ _ _ _
      have xr6 := xr5.below hb6 xr5.lt
      have hr6 := hr5.below hb6 (Nat.le_refl _)
      have hp6 := hp5.below hb6 (Nat.le_refl _)
      have b6 := b5.trans (hb6.mono b5.size)
      obtain ⟨ne, hne⟩ : ∃ ne, ne = (((elems k).length : Nat) : Int) := ⟨_, rfl⟩
      rw [← hne] at HW6 xp6 ⊢
      have d0 := xp6.c0
      have d1 := xp6.c1
      have hord := triM HK.out hk1 hkp a5 cp5 W6 hp6
      rw [← hne] at hord
      have HORD := Lib.hid hord
      clear c0 c1
      have c0 := xr6.c0
      have c1 := xr6.c1
      clear hW6 hord xr4 hr4 hb5 xr5 hr5 hp5 hb6 hp6 b4 b5 hne
      go_wp2_with fail
      rw [← HW6.out]
      refine HORD.out.mono ?_
      rintro e w7 ⟨⟨a7, cp7, t, rfl, ht512, htz⟩, hb7⟩
      have xr7 := xr6.below hb7 xr6.lt
      have hrr7 := hr6.below hb7 (Nat.le_refl _)
      have b7 := b6.trans (hb7.mono b6.size)
      clear c0 c1 d0 d1
      have c0 := xr7.c0
      have c1 := xr7.c1
      clear xr6 hr6 xp6 hb7 b6
      by_cases ht : t = 0
      · have HT : Hid (triL (prt l k) = []) := htz.1 ht
        subst ht
        have XR7 := Lib.hid xr7
        have HRR7 := Lib.hid hrr7
        clear htz xr7 hrr7
        go_wp2
        go_loopw [7, 8, 33] (fun fu fi i wr => ∃ (j : Nat) (F : Bool) (f : Nat), j ≤ l.length ∧ fu = .bool F ∧ i = .int .i64 (j : Int) ∧ fi = .int .i64 (f : Int) ∧ Hid (F = decide (Kk.cn (pr7 l k) j = 0)) ∧ f < 256 ∧ Hid (f = firstTo (ww l) k j) ∧ Below w7.heap.size w7 wr) (fun _ _ i _ => l.length - (intOf i).toNat)
        case atStart => exact ⟨0, true, 0, Nat.zero_le _, rfl, rfl, rfl, rfl, by omega, rfl, Below.refl _ _⟩
        case round =>
          obtain ⟨j, F, f, hj, rfl, rfl, rfl, hF, hf8, hfirst, hb9⟩ := hrel
          by_cases hjl : j < l.length
          · have hRr := HRR7.out.below hb9 (Nat.le_refl _)
            obtain ⟨b, off, rfl, hbo, hcx⟩ := hRr.at hjl
            obtain ⟨hy, _, hy8⟩ := HK.out.ww hjl
            rw [hy] at hcx
            obtain ⟨u, hu⟩ : ∃ u, u = an k (ww l j) := ⟨_, rfl⟩
            have HU := Lib.hid hu
            obtain ⟨y, hyy⟩ : ∃ y, y = ww l j := ⟨_, rfl⟩
            have han : bits .andNot .i64 (k : Int) (y : Int) = (u : Int) := by rw [hu, hyy]; exact andNot256 k _ hk8 hy8
            rw [← hyy] at hcx
            obtain ⟨p, hp⟩ : ∃ p, p = 2 ^ j := ⟨_, rfl⟩
            have HP := Lib.hid hp
            have hw64 : wrap64 (2 ^ j) = (p : Int) := by rw [hp]; exact wrapPow j (by omega)
            have hp8 : p < 256 := by rw [hp]; exact Nat.lt_of_lt_of_le (Nat.pow_lt_pow_right (by decide) hjl) (pow_le l.length hl8)
            have hjb : (j : Int) < (l.length : Int) := by omega
            have hj64 : j < 64 := by omega
            have HKP := Lib.hid hkp
            clear hRr hy hu hyy hp hy8 hkp hbo c0 c1
            cases hb1 : pr7 l k j
            · have hu1 : ((u : Int) == 0) = false := by rw [HU.out]; simpa [pr7] using hb1
              have hG : Hid (F = decide (Kk.cn (pr7 l k) (j + 1) = 0)) := by show _ = _; rw [cn_no hb1, hF.out]
              cases hb2 : k.testBit j
              · have hu2 : (bits .and .i64 ((k : Int) / 2 ^ j) 1 == 1) = false := (bi_nat k j).trans hb2
                have hf : Hid (f = firstTo (ww l) k (j + 1)) := by show _ = _; simp only [firstTo]; rw [hb2, hfirst.out]; rfl
                clear hb1 hb2 hF hfirst
                go_wp2
                go_roundw
                case rel => exact ⟨j + 1, F, f, by omega, rfl, by go_num, rfl, hG, hf8, hf, hb9⟩
                case measure => simp [intOf]; omega
              · have hu2 : (bits .and .i64 ((k : Int) / 2 ^ j) 1 == 1) = true := (bi_nat k j).trans hb2
                by_cases hb3 : u = p
                · have hu3 : ((u : Int) == (p : Int)) = true := by simp [hb3]
                  have hf : Hid (p = firstTo (ww l) k (j + 1)) := by
                    show _ = _
                    simp only [firstTo]
                    rw [hb2, ← HU.out, hb3, HP.out]; simp
                  clear hb1 hb2 hF hfirst hb3
                  go_wp2
                  go_roundw
                  case rel => exact ⟨j + 1, F, p, by omega, rfl, by go_num, by rw [hw64], hG, hp8, hf, hb9⟩
                  case measure => simp [intOf]; omega
                · have hu3 : ((u : Int) == (p : Int)) = false := by simp; omega
                  have hf : Hid (f = firstTo (ww l) k (j + 1)) := by
                    show _ = _
                    simp only [firstTo]
                    rw [hb2, ← HU.out, ← HP.out, hfirst.out]; simp [hb3]
                  clear hb1 hb2 hF hfirst hb3
                  go_wp2
                  go_roundw
                  case rel => exact ⟨j + 1, F, f, by omega, rfl, by go_num, rfl, hG, hf8, hf, hb9⟩
                  case measure => simp [intOf]; omega
            · have hu1 : ((u : Int) == 0) = true := by rw [HU.out]; simpa [pr7] using hb1
              have hG : Hid (false = decide (Kk.cn (pr7 l k) (j + 1) = 0)) := by show _ = _; rw [cn_yes hb1]; simp
              cases hb2 : k.testBit j
              · have hu2 : (bits .and .i64 ((k : Int) / 2 ^ j) 1 == 1) = false := (bi_nat k j).trans hb2
                have hf : Hid (f = firstTo (ww l) k (j + 1)) := by show _ = _; simp only [firstTo]; rw [hb2, hfirst.out]; rfl
                clear hb1 hb2 hF hfirst
                go_wp2
                go_roundw
                case rel => exact ⟨j + 1, false, f, by omega, rfl, by go_num, rfl, hG, hf8, hf, hb9⟩
                case measure => simp [intOf]; omega
              · have hu2 : (bits .and .i64 ((k : Int) / 2 ^ j) 1 == 1) = true := (bi_nat k j).trans hb2
                by_cases hb3 : u = p
                · have hu3 : ((u : Int) == (p : Int)) = true := by simp [hb3]
                  have hf : Hid (p = firstTo (ww l) k (j + 1)) := by
                    show _ = _
                    simp only [firstTo]
                    rw [hb2, ← HU.out, hb3, HP.out]; simp
                  clear hb1 hb2 hF hfirst hb3
                  go_wp2
                  go_roundw
                  case rel => exact ⟨j + 1, false, p, by omega, rfl, by go_num, by rw [hw64], hG, hp8, hf, hb9⟩
                  case measure => simp [intOf]; omega
                · have hu3 : ((u : Int) == (p : Int)) = false := by simp; omega
                  have hf : Hid (f = firstTo (ww l) k (j + 1)) := by
                    show _ = _
                    simp only [firstTo]
                    rw [hb2, ← HU.out, ← HP.out, hfirst.out]; simp [hb3]
                  clear hb1 hb2 hF hfirst hb3
                  go_wp2
                  go_roundw
                  case rel => exact ⟨j + 1, false, f, by omega, rfl, by go_num, rfl, hG, hf8, hf, hb9⟩
                  case measure => simp [intOf]; omega
          · obtain rfl : j = l.length := by omega
            have hFB : Hid (F = !bbo (ww l) l.length k) := by
              show _ = _
              rw [hF.out]
              show _ = !decide (0 < Kk.cn (pr7 l k) l.length)
              rw [Bool.eq_iff_iff]; simp
            have b9 := b7.trans (hb9.mono b7.size)
            cases F
            · have hbb : bbo (ww l) l.length k = true := by have := hFB.out; revert this; cases bbo (ww l) l.length k <;> simp
              have hn : Hid (q = banksTo l (k + 1)) := by show _ = _; rw [banks_no (ck_bbo hbb), hq.out]
              clear hbb hq hF c0 c1
              go_wp2
              go_roundw
              case rel => exact ⟨k + 1, q, by omega, by omega, by go_num, rfl, hq8, hn, b9⟩
              case measure => simp [intOf]; omega
            · have hbb : bbo (ww l) l.length k = false := by have := hFB.out; revert this; cases bbo (ww l) l.length k <;> simp
              have hn0 := banks_yes (ck_yes hk1 HT.out hbb)
              rw [← hfirst.out, ← hq.out] at hn0
              have hor : bits .or .i64 (q : Int) (f : Int) = ((q ||| f : Nat) : Int) := i64_or _ _ (by clear hkp; omega) (by clear hkp; omega)
              have hqp : q ||| f < 256 := Nat.or_lt_two_pow (n := 8) hq8 hf8
              obtain ⟨z, hz⟩ : ∃ z, z = q ||| f := ⟨_, rfl⟩
              rw [← hz] at hor hqp hn0
              have hn : Hid (z = banksTo l (k + 1)) := hn0.symm
              clear hbb hq hF c0 c1 hn0 hz hfirst
              go_wp2
              go_roundw
              case rel => exact ⟨k + 1, z, by omega, by omega, by go_num, by go_num, hqp, hn, b9⟩
              case measure => simp [intOf]; omega
      · have hn : Hid (q = banksTo l (k + 1)) := by show _ = _; rw [banks_no (ck_tri (fun e => ht (htz.2 e))), hq.out]
        have htp : (0 : Int) < (t : Int) := by omega
        clear hq htz ht
        go_wp2
        go_roundw
        case rel => exact ⟨k + 1, q, by omega, by omega, by go_num, rfl, hq8, hn, b7⟩
        case measure => simp [intOf]; omega
    · obtain rfl : k = M + 1 := by omega
      clear xr hRr
      go_wp2_with fail
      refine (hAll.out _).mono ?_
      rintro e w4 ⟨rfl, hb4⟩
      have hb44 := hb.trans (hb4.mono hb.size)
      go_wp2
      go_ret
      exact ⟨by rw [HE.out, ← hq.out]; rfl, B3.out.trans (hb44.mono B3.out.size)⟩
end Go.Proofs.Ytgjogbihadiojaa
