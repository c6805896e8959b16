/-
  'BanksSet' of the program: its walk. No conditions but the bounds that Go gives a slice.
-/
import Derived.Test.YtgjogbihadiojaaUa
import Derived.Test.YtgjogbihadiojaaU3
namespace Go.Proofs.Ytgjogbihadiojaa
open Go.ChangeShapes Go.WideShapes Go.ChangeAt Go.RowKit
set_option linter.unusedVariables false

theorem pow256i {l : List Int} (h8 : l.length ≤ 8) {x : Nat} (hx : x < 2 ^ l.length) : x < 256 := pow256 h8 hx
theorem pt_yes {n : Int} {l : List Int} (hok : Ok n l) {x : Nat} (h1 : 1 ≤ x) (hx : x < 2 ^ l.length) : ptB n l (x : Int) = true ∧ ptR n l (x : Int) = prt l x ∧ ptN n l (x : Int) = (((elems x).length : Nat) : Int) := by
  have h : ptB n l (x : Int) = true := by
    unfold ptB
    rw [okB_iff.2 hok, Bool.true_and]
    have : ((x : Int) == 0) = false := by rw [beq_eq_false_iff_ne]; omega
    rw [this]
    unfold inSet
    simp only [Bool.not_false, Bool.true_and, Bool.and_eq_true, decide_eq_true_eq]
    omega
  refine ⟨h, ?_, ?_⟩
  · unfold ptR; rw [h]; rfl
  · unfold ptN; rw [h]; rfl
theorem partI (n : Int) (a : Option Addr) (l : List Int) (cap x : Nat) (w : World) (hrow : IntRow w a l) (hok : Ok n l) (h1 : 1 ≤ x) (hx : x < 2 ^ l.length) :
    Calls Try.prog 73 #[.agg #[.int .i64 n, .slice a l.length cap], .int .i64 (x : Int)] w fun e w' => (∃ a0 c0, e = .returned (.tuple #[.agg #[.int .i64 (((elems x).length : Nat) : Int), .slice a0 (prt l x).length c0], .bool true]) ∧ IntRow w' a0 (prt l x)) ∧ Below w.heap.size w w' := by
  have hl : l.length ≤ maxLen := by have := (okVa hok).le; unfold maxLen; omega
  obtain ⟨e1, e2, e3⟩ := pt_yes hok h1 hx
  refine (implPart n a l cap (x : Int) w hrow hl).mono ?_
  rintro e w' ⟨⟨a0, c0, rfl, ho⟩, hb⟩
  rw [e1, e2, e3]
  rw [e2] at ho
  exact ⟨⟨a0, c0, rfl, own_int ho⟩, hb⟩
theorem ordI {n : Int} {l : List Int} (hok : Ok n l) {x : Nat} (h1 : 1 ≤ x) (hx : x < 2 ^ l.length) (a : Option Addr) (cap : Nat) (w : World) (hrow : IntRow w a (prt l x)) :
    Calls Try.prog 74 #[.agg #[.int .i64 (((elems x).length : Nat) : Int), .slice a (prt l x).length cap]] w fun e w' => (∃ (a1 : Option Addr) (c1 : Nat) (L : List Int), e = .returned (.tuple #[.slice a1 L.length c1, .bool (decide (triL (prt l x) = []))]) ∧ IntRow w' a1 L ∧ L.length ≤ 8 ∧ (triL (prt l x) = [] → ∃ i : Nat, 0 < L.length ∧ L.getD 0 0 = (i : Int) ∧ i < (elems x).length ∧ (elems x).getD i 0 < l.length ∧ firstTo (ww l) x l.length = 2 ^ (elems x).getD i 0)) ∧ Below w.heap.size w w' := by
  have hp := partP_ok hok h1 hx
  have hpl : (prt l x).length ≤ maxLen := by rw [prt_len]; have := elTo_len x 8; unfold maxLen; show (elTo x 8).length ≤ _; omega
  have ht : tranB (((elems x).length : Nat) : Int) (prt l x) = decide (triL (prt l x) = []) := by
    unfold tranB
    rw [show okB (((elems x).length : Nat) : Int) (prt l x) = true from okB_iff.2 hp, Bool.true_and]
  refine (implOrder _ a (prt l x) cap w hrow hpl).mono ?_
  rintro e w' ⟨⟨a1, c1, rfl, ho⟩, hb⟩
  refine ⟨⟨a1, c1, _, by rw [ht], own_int ho, ordR_le _ _, ?_⟩, hb⟩
  intro h0
  obtain ⟨i, hi, h2, h3, h4⟩ := first_same hok h1 hx h0
  have hR : ordR (((elems x).length : Nat) : Int) (prt l x) = (ordTo (scoresL (prt l x)) (scoresL (prt l x)).length).map Int.ofNat := by
    unfold ordR
    rw [ht]; simp [h0]
  have hlen : (ordTo (scoresL (prt l x)) (scoresL (prt l x)).length).length = (elems x).length := by rw [ordTo_len, scoresL_len, prt_len]
  refine ⟨i, ?_, ?_, hi, h3, h4⟩
  · rw [hR, List.length_map, hlen]; omega
  · rw [hR, getD_map]
    exact congrArg Int.ofNat h2

set_option maxRecDepth 100000 in
set_option maxHeartbeats 4000000 in
theorem implBanks (n : Int) (a : Option Addr) (l : List Int) (cap : Nat) (w : World) (hrow : IntRow w a l) (hl : l.length ≤ maxLen) :
    Calls Try.prog 29 #[.agg #[.int .i64 n, .slice a l.length cap]] w fun e w' => e = .returned (.int .i64 (banksR n l)) ∧ Below w.heap.size w w' := by
  obtain ⟨Wa, hWa⟩ : ∃ Wa, Wa = w.alloc (.cells #[.int .i64 n, .slice a l.length cap] 25) := ⟨_, rfl⟩
  have HWa := Lib.hid hWa
  have hba : Below w.heap.size w Wa := by rw [hWa]; exact (Below.refl _ _).alloc (Nat.le_refl _) _
  have xa : Box Wa w.heap.size 25 (.int .i64 n) (.slice a l.length cap) := by rw [hWa]; exact Box.new _ _ _ _
  have hrowa : IntRow Wa a l := hrow.below hba (Nat.le_refl _)
  have HL := Lib.hid hl
  clear hl hrow hWa
  cases hok : okB n l
  · have HO := Lib.hid hok
    have HE : Hid (banksR n l = 0) := by show _ = _; unfold banksR; rw [hok]; rfl
    clear hok
    go_enter Try.func29, Try.ntmps29
    go_wp2_with fail
    rw [← HWa.out]
    refine (implTourOk n a l cap Wa hrowa HL.out).mono ?_
    rintro e w1 ⟨rfl, hb1⟩
    rw [HO.out]
    go_wp2
    go_ret
    exact ⟨by rw [HE.out]; rfl, hba.trans (hb1.mono hba.size)⟩
  have HO := Lib.hid hok
  have hk := okB_iff.1 hok
  have HK := Lib.hid hk
  obtain rfl : n = (l.length : Int) := hk.2.2.1.symm
  have hl8 : l.length ≤ 8 := by have := hk.2.1; omega
  have hl1 : 1 ≤ l.length := by have := hk.1; omega
  obtain ⟨M, hM⟩ : ∃ M, M = 2 ^ l.length - 1 := ⟨_, rfl⟩
  have hP := pow_le l.length hl8
  have h1P : 1 ≤ 2 ^ l.length := Nat.one_le_two_pow
  have hM8 : M < 256 := by omega
  have hMP : M + 1 = 2 ^ l.length := by omega
  have HMP := Lib.hid hMP
  have HE : Hid (banksR l.length l = ((banksTo l (M + 1) : Nat) : Int)) := by show _ = _; unfold banksR; rw [hok, hMP]; rfl
  have hAll : Hid (∀ W, Calls Try.prog 72 #[.agg #[.int .i64 (l.length : Int), .slice a l.length cap]] W fun e w' => e = .returned (.int .i64 (M : Int)) ∧ Below W.heap.size W w') := by
    intro W; rw [hM]; exact allPlayers_any a l.length cap l.length W hl8
  have HB1 := Lib.hid (banks_one l)
  clear hok hk hM hP hMP h1P
  go_enter Try.func29, Try.ntmps29
  go_wp2_with fail
  rw [← HWa.out]
  refine (implTourOk _ a l cap Wa hrowa HL.out).mono ?_
  rintro e w3 ⟨rfl, hb1⟩
  rw [HO.out]
  have XA3 := Lib.hid (xa.below hb1 xa.lt)
  have HR3 := Lib.hid (hrowa.below hb1 (Nat.le_refl _))
  have B3 := Lib.hid (hba.trans (hb1.mono hba.size))
  clear hb1 hba xa hrowa
  go_wp2
  go_loopw [3, 4] (fun s i wr => ∃ k q : Nat, 1 ≤ k ∧ k ≤ M + 1 ∧ i = .int .i64 (k : Int) ∧ s = .int .i64 (q : Int) ∧ q < 256 ∧ Hid (q = banksTo l k) ∧ Below w3.heap.size w3 wr) (fun _ i _ => M + 1 - (intOf i).toNat)
  case atStart => exact ⟨1, 0, Nat.le_refl _, by omega, rfl, rfl, by omega, HB1.out.symm, Below.refl _ _⟩
  case round =>
    obtain ⟨k, q, hk1, hk, rfl, rfl, hq8, hq, hb⟩ := hrel
    have xr := XA3.out.below hb XA3.out.lt
    have hRr := HR3.out.below hb (Nat.le_refl _)
    have c0 := xr.c0
    have c1 := xr.c1
    by_cases hlt : k ≤ M
    · have hkl : (k : Int) ≤ (M : Int) := by omega
      have hkp : k < 2 ^ l.length := by have := HMP.out; omega
      have hk8 : k < 256 := by omega
      go_wp2_with fail
      refine (hAll.out _).mono ?_
      rintro e w4 ⟨rfl, hb4⟩
      have xr4 := xr.below hb4 xr.lt
      have hr4 := hRr.below hb4 (Nat.le_refl _)
      have b4 := hb.trans (hb4.mono hb.size)
      clear c0 c1
      have c0 := xr4.c0
      have c1 := xr4.c1
      clear xr hRr hb4 hb
      go_wp2_with fail
      refine (partI _ a l cap k _ hr4 HK.out hk1 hkp).mono ?_
      rintro e w5 ⟨⟨a5, cp5, rfl, hp5⟩, hb5⟩
      have xr5 := xr4.below hb5 xr4.lt
      have hr5 := hr4.below hb5 (Nat.le_refl _)
      have b5 := b4.trans (hb5.mono b4.size)
      clear c0 c1
      have c0 := xr5.c0
      have c1 := xr5.c1
      obtain ⟨W6, hW6⟩ : ∃ W6, W6 = w5.alloc (.cells #[.int .i64 (((elems k).length : Nat) : Int), .slice a5 (prt l k).length cp5] 25) := ⟨_, rfl⟩
      have HW6 := Lib.hid hW6
      have hb6 : Below w5.heap.size w5 W6 := by rw [hW6]; exact (Below.refl _ _).alloc (Nat.le_refl _) _
      have xp6 : Box W6 w5.heap.size 25 (.int .i64 (((elems k).length : Nat) : Int)) (.slice a5 (prt l k).length cp5) := by rw [hW6]; exact Box.new _ _ _ _
      have xr6 := xr5.below hb6 xr5.lt
      have hr6 := hr5.below hb6 (Nat.le_refl _)
      have hp6 := hp5.below hb6 (Nat.le_refl _)
      have b6 := b5.trans (hb6.mono b5.size)
      obtain ⟨ne, hne⟩ : ∃ ne, ne = (((elems k).length : Nat) : Int) := ⟨_, rfl⟩
      rw [← hne] at HW6 xp6 ⊢
      have d0 := xp6.c0
      have d1 := xp6.c1
      have hord := ordI HK.out hk1 hkp a5 cp5 W6 hp6
      rw [← hne] at hord
      have HORD := Lib.hid hord
      clear c0 c1
      have c0 := xr6.c0
      have c1 := xr6.c1
      have HEL : Hid (∀ W, Calls Try.prog 76 #[.int .i64 (k : Int)] W fun e w' => (∃ g c, e = .returned (.slice (some ⟨g, 0, none⟩) (elems k).length c) ∧ IntRow w' (some ⟨g, 0, none⟩) ((elems k).map Int.ofNat)) ∧ Below W.heap.size W w') := by
        intro W
        refine (elementsOf_any k hk8 W).mono ?_
        rintro e w' ⟨⟨g, c, rfl, ho⟩, hbb⟩
        rw [nv_iv, show (elems k).length = ((elems k).map Int.ofNat).length by rw [List.length_map]] at ho
        exact ⟨⟨g, c, rfl, IntRow.of_own ho⟩, hbb⟩
      clear hW6 hord xr4 hr4 hb5 xr5 hr5 hp5 hb6 hp6 b4 b5 hne
      go_wp2_with fail
      rw [← HW6.out]
      refine HORD.out.mono ?_
      rintro e w7 ⟨⟨a7, cp7, L, rfl, hr7, hL8, hfirst⟩, hb7⟩
      have xr7 := xr6.below hb7 xr6.lt
      have hrr7 := hr6.below hb7 (Nat.le_refl _)
      have b7 := b6.trans (hb7.mono b6.size)
      clear c0 c1 d0 d1
      have c0 := xr7.c0
      have c1 := xr7.c1
      clear xr6 hr6 xp6 hb7 b6
      by_cases ht : triL (prt l k) = []
      · have htb : decide (triL (prt l k) = []) = true := by simp [ht]
        obtain ⟨i, hLp, hL0, hie, hal, hfi⟩ := hfirst ht
        have HTB := Lib.hid htb
        have HT := Lib.hid ht
        rw [htb]
        clear htb ht hfirst
        cases hbb : bbo (ww l) l.length k
        · have HBB := Lib.hid hbb
          have hcy := ck_yes hk1 HT.out hbb
          have hn0 := banks_yes hcy
          obtain ⟨a0, ha0⟩ : ∃ a0, a0 = (elems k).getD i 0 := ⟨_, rfl⟩
          rw [← ha0] at hal hfi
          rw [hfi, ← hq.out] at hn0
          obtain ⟨p, hp⟩ : ∃ p, p = 2 ^ a0 := ⟨_, rfl⟩
          have hw64 : wrap64 (2 ^ a0) = (p : Int) := by rw [hp]; exact wrapPow a0 (by omega)
          have hp8 : p < 256 := by rw [hp]; exact Nat.lt_of_lt_of_le (Nat.pow_lt_pow_right (by decide) hal) (pow_le l.length hl8)
          rw [← hp] at hn0
          have hor : bits .or .i64 (q : Int) (p : Int) = ((q ||| p : Nat) : Int) := i64_or _ _ (by clear hw64 hp hkp; omega) (by clear hw64 hp hkp; omega)
          have hqp : q ||| p < 256 := Nat.or_lt_two_pow (n := 8) hq8 hp8
          obtain ⟨z, hz⟩ : ∃ z, z = q ||| p := ⟨_, rfl⟩
          rw [← hz] at hor hqp hn0
          have hn : Hid (z = banksTo l (k + 1)) := hn0.symm
          have HIE : Hid (i < ((elems k).map Int.ofNat).length ∧ ((elems k).map Int.ofNat).getD i 0 = (a0 : Int)) := ⟨by rw [List.length_map]; exact hie, by rw [getD_map, ha0]⟩
          have ha64 : a0 < 64 := by omega
          have hiee : (i : Int) < (((elems k).length : Nat) : Int) := by omega
          obtain ⟨ne, hne⟩ : ∃ ne, ne = (elems k).length := ⟨_, rfl⟩
          have hne8 : ne ≤ 8 := by rw [hne]; exact elTo_len k 8
          rw [← hne] at HEL hiee
          obtain ⟨b, off, rfl, hbo, hcL⟩ := hr7.at hLp
          rw [hL0, Nat.add_zero] at hcL
          have hLpi : (0 : Int) < (L.length : Int) := by omega
          have HP := Lib.hid hp
          have HKP := Lib.hid hkp
          have hw642 : IntKind.i64.wrap (2 ^ a0) = (p : Int) := by rw [hp]; exact wrapPow2 a0 (by omega)
          clear hbb hcy hn0 hfi hz hq hie ha0 hne hL0 hLp hr7 hp hkp
          go_wp2_with fail
          refine (isBeatenByOne_any _ a l cap k w7 hrr7 HK.out hk8).mono ?_
          rintro e w8 ⟨rfl, hb8⟩
          rw [HBB.out]
          have hcL8 := (hb8.cell (p := ⟨b, off, none⟩) hbo).trans hcL
          have hbo8 : b < w8.heap.size := Nat.lt_of_lt_of_le hbo hb8.size
          have b8 := b7.trans (hb8.mono b7.size)
          clear c0 c1 hcL hbo hrr7 xr7 hb8 b7
          go_wp2
          go_region_with (first
            | (go_at_call 76; refine (HEL.out w8.drew).mono ?_; rintro e w9 ⟨⟨g, cg, rfl, hg9⟩, hbq⟩; have hb9 : Below w8.heap.size w8 w9 := (Below.refl _ w8).drew.trans hbq; have d0 := (hb9.cell (p := ⟨b, off, none⟩) hbo8).trans hcL8; obtain ⟨b', off', he, _, e0⟩ := hg9.at HIE.out.1; rw [HIE.out.2] at e0; obtain ⟨rfl, rfl⟩ : g = b' ∧ 0 = off' := (by simpa using he); rw [Nat.zero_add] at e0; clear hbq he))
          all_goals
            have hb10 := b8.trans (hb9.mono b8.size)
            go_wp2
            go_roundw
            case rel => exact ⟨k + 1, z, by omega, by omega, by go_num, rfl, hqp, hn, hb10⟩
            case measure => simp [intOf]; omega
        · have HBB := Lib.hid hbb
          have hn : Hid (q = banksTo l (k + 1)) := by show _ = _; rw [banks_no (ck_bbo hbb), hq.out]
          clear hbb hq
          go_wp2_with fail
          refine (isBeatenByOne_any _ a l cap k w7 hrr7 HK.out hk8).mono ?_
          rintro e w8 ⟨rfl, hb8⟩
          rw [HBB.out]
          have b8 := b7.trans (hb8.mono b7.size)
          go_wp2
          go_roundw
          case rel => exact ⟨k + 1, q, by omega, by omega, by go_num, rfl, hq8, hn, b8⟩
          case measure => simp [intOf]; omega
      · have htb : decide (triL (prt l k) = []) = false := by simp [ht]
        have hn : Hid (q = banksTo l (k + 1)) := by show _ = _; rw [banks_no (ck_tri ht), hq.out]
        rw [htb]
        clear htb ht hq hfirst
        go_wp2
        go_roundw
        case rel => exact ⟨k + 1, q, by omega, by omega, by go_num, rfl, hq8, hn, b7⟩
        case measure => simp [intOf]; omega
    · obtain rfl : k = M + 1 := by omega
      clear xr hRr
      go_wp2_with fail
      refine (hAll.out _).mono ?_
      rintro e w4 ⟨rfl, hb4⟩
      have hb44 := hb.trans (hb4.mono hb.size)
      go_wp2
      go_ret
      exact ⟨by rw [HE.out, ← hq.out]; rfl, B3.out.trans (hb44.mono B3.out.size)⟩
end Go.Proofs.Ytgjogbihadiojaa
