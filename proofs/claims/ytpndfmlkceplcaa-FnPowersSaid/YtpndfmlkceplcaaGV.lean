/-
  'FnPowers': powers of scores count lists, and defeats weigh as much as wins in all: true for every list of bytes from which the law draws its inputs. No conditions.
-/
import Derived.Test.YtpndfmlkceplcaaGU
import Derived.Test.YtpndfmlkceplcaaGW
import Derived.BigQuiet
import Derived.Deep.RegionHeld3
namespace Go.Proofs.Ytpndfmlkceplcaa
open Go.ChangeShapes Go.WideShapes Go.ChangeAt Go.RowKit
set_option linter.unusedVariables false

set_option maxRecDepth 100000 in
set_option maxHeartbeats 16000000 in
theorem walkFnPowers (a : Option Addr) (len cap : Nat) (w : World) (hl : len ≤ maxLen) (hrow : Row w.heap.size w a len) :
    Calls Try.prog 8 #[.slice a len cap] w fun e w' => e = .returned (.bool true) ∧ Below w.heap.size w w' := by
  by_cases hbig : (1048576 : Int) < (len : Int)
  · unfold maxLen at hl
    clear hrow
    go_enter Try.func8, Try.ntmps8
    go_wp2
    go_ret
    exact ⟨rfl, Below.refl _ _⟩
  · have hl20 : len ≤ 1048576 := by omega
    have HROW := Lib.hid hrow
    unfold maxLen at hl
    clear hrow
    go_enter Try.func8, Try.ntmps8
    go_wp2_with fail
    refine (makeTour_any w.heap.size 0 7 w a len cap (by omega) (by omega) (by omega) hl20 (Nat.le_refl _) HROW.out).mono ?_
    rintro e w1 ⟨l, gt, ct, hok, h7, rfl, ho, hb1⟩
    obtain ⟨m, hm⟩ : ∃ m, m = l.length := ⟨_, rfl⟩
    have hrd := own_int ho
    rw [← hm] at h7 ⊢
    have hm1 : 1 ≤ m := by have := hok.le.1; omega
    have hm8 : m ≤ 8 := by omega
    have HOK : Hid (Ok (m : Int) l) := by rw [hm]; exact hok
    have HML : Hid (l.length = m) := hm.symm
    obtain ⟨W1, hW1⟩ : ∃ W1, W1 = w1.alloc (.cells #[.int .i64 m, .slice (some ⟨gt, 0, none⟩) m ct] 27) := ⟨_, rfl⟩
    obtain ⟨pt, hpt⟩ : ∃ pt, pt = w1.heap.size := ⟨_, rfl⟩
    obtain ⟨at', hat⟩ : ∃ at', at' = some (⟨gt, 0, none⟩ : Addr) := ⟨_, rfl⟩
    rw [← hat] at hrd hW1
    have hbn : Below w1.heap.size w1 W1 := by rw [hW1]; exact Below.one _ _
    have hbW : Below w.heap.size w W1 := hb1.trans (hbn.mono hb1.size)
    have xW : Box W1 pt 27 (.int .i64 (m : Int)) (.slice at' m ct) := by rw [hW1, hpt]; exact Box.new _ _ _ _
    have BW := Lib.hid hbW
    have XW := Lib.hid xW
    have RW := Lib.hid (hrd.below hbn (Nat.le_refl _))
    have ROW1 := Lib.hid (HROW.out.below hbW)
    have HW1 := Lib.hid hW1
    have HPT := Lib.hid hpt
    have HAT := Lib.hid hat
    clear hok hm ho hrd hb1 hbn hbW hW1 hpt hat xW
    go_wp2_with fail
    rw [← HPT.out, ← HAT.out, ← HW1.out]
    refine (makeNum_any W1.heap.size W1 a len cap 20 (by omega) hl20 (Nat.le_refl _) (ROW1.out.mono BW.out.size)).mono ?_
    rintro e w2 ⟨x, hx, rfl, hb2⟩
    obtain ⟨k, hk⟩ : ∃ k, k = x % 9 := ⟨_, rfl⟩
    have hk8 : k ≤ 8 := by omega
    have hkm : Int.tmod (x : Int) 9 = (k : Int) := by rw [Int.tmod_eq_emod_of_nonneg (by omega), hk]; omega
    have hkm2 : (x : Int) % 9 = (k : Int) := by rw [hk]; omega

    have X2 := Lib.hid (XW.out.below hb2 XW.out.lt)
    have R2 := Lib.hid (RW.out.below hb2 (Nat.le_refl _))
    have B2 := Lib.hid (BW.out.trans (hb2.mono BW.out.size))
    have DK := Lib.hid (p_pow at' ct k w2 HOK.out HML.out hm1 hm8 (by omega) R2.out)
    have e1 : ((k + 1 : Nat) : Int) = (k : Int) + 1 := by omega
    have DK1 : Hid (∀ W, IntRow W at' l → Calls Try.prog 31 #[.agg #[.int .i64 (m : Int), .slice at' m ct], .int .i64 ((k : Int) + 1)] W (RetM m (pwL l (k + 1)) W)) := fun W hr => by
      have := p_pow at' ct (k + 1) W HOK.out HML.out hm1 hm8 (by omega) hr
      rw [e1] at this
      exact this
    have c0 := X2.out.c0
    have c1 := X2.out.c1
    have hwk : IntKind.i64.wrap ((k : Int) + 1) = (k : Int) + 1 := by rw [IntKind.wrap_i64]; omega
    clear hb2 hk hx XW RW BW ROW1 HW1 HPT HAT e1
    go_wp2_with fail
    refine DK.out.mono ?_
    rintro e w3 ⟨gp, cp, rfl, ho3, hb3⟩
    have X3 := Lib.hid (X2.out.below hb3 X2.out.lt)
    have R3 := Lib.hid (R2.out.below hb3 (Nat.le_refl _))
    have B3 := Lib.hid (B2.out.trans (hb3.mono B2.out.size))
    have P3 := Lib.hid (own_intP (by rw [pwL_len, HML.out]) ho3)
    have D3 := Lib.hid (DK1.out w3 R3.out)
    clear c0 c1 hb3 ho3 X2 R2 B2 DK
    have c0 := X3.out.c0
    have c1 := X3.out.c1
    go_wp2_with fail
    refine D3.out.mono ?_
    rintro e w4 ⟨gq, cq, rfl, ho4, hb4⟩
    have X4 := Lib.hid (X3.out.below hb4 X3.out.lt)
    have R4 := Lib.hid (R3.out.below hb4 (Nat.le_refl _))
    have B4 := Lib.hid (B3.out.trans (hb4.mono B3.out.size))
    have P4 := Lib.hid (P3.out.below hb4 (Nat.le_refl _))
    have Q4 := Lib.hid (own_intP (by rw [pwL_len, HML.out]) ho4)
    have D4 := Lib.hid (p_scores at' ct w4 HOK.out HML.out hm1 hm8 R4.out)
    clear c0 c1 hb4 ho4 X3 R3 B3 P3 D3
    have c0 := X4.out.c0
    have c1 := X4.out.c1
    go_wp2_with fail
    refine D4.out.mono ?_
    rintro e w5 ⟨gs, cs, rfl, ho5, hb5⟩
    have A5 : Hid (F1 w w5 m l pt at' ct k gp gq gs) := ⟨B4.out.trans (hb5.mono B4.out.size), X4.out.below hb5 X4.out.lt, R4.out.below hb5 (Nat.le_refl _), P4.out.below hb5 (Nat.le_refl _), Q4.out.below hb5 (Nat.le_refl _), own_intP (by rw [pwL_len, HML.out]) ho5⟩
    clear c0 c1 hb5 ho5 X4 R4 B4 P4 Q4 D4 DK1 hwk hkm hkm2
    have KEEP : Hid (∀ V, Below w5.heap.size w5 V → (V.cell? ⟨pt, 0, none⟩ = some (.int .i64 (m : Int)) ∧ V.cell? ⟨pt, 1, none⟩ = some (.slice at' m ct))) := fun V hb => by
      have t := (A5.out.kept hb).bx
      exact ⟨t.c0, t.c1⟩
    have BD : Hid (Below w5.heap.size w5 w5.drew) := (Below.refl _ _).drew
    have P1l : Hid ((pwL l 1).length = m) := by show _ = _; rw [pwL_len, HML.out]
    have P2l : Hid ((pwL l 2).length = m) := by show _ = _; rw [pwL_len, HML.out]
    have DLl : Hid ((defL l).length = m) := by show _ = _; unfold defL; rw [List.length_map, List.length_range, HML.out]
    have DP1 : Hid (∀ W, Below w5.heap.size w5 W → Calls Try.prog 31 #[.agg #[.int .i64 (m : Int), .slice at' m ct], .int .i64 1] W (RetM m (pwL l 1) W)) := fun W hb => p_pow at' ct 1 W HOK.out HML.out hm1 hm8 (by omega) (A5.out.kept hb).rd
    have DP2 : Hid (∀ W, Below w5.heap.size w5 W → Calls Try.prog 31 #[.agg #[.int .i64 (m : Int), .slice at' m ct], .int .i64 2] W (RetM m (pwL l 2) W)) := fun W hb => p_pow at' ct 2 W HOK.out HML.out hm1 hm8 (by omega) (A5.out.kept hb).rd
    have DS2 : Hid (∀ W, Below w5.heap.size w5 W → Calls Try.prog 34 #[.agg #[.int .i64 (m : Int), .slice at' m ct]] W (RetM m (pwL l 2) W)) := fun W hb => p_second at' ct W HOK.out HML.out hm1 hm8 (A5.out.kept hb).rd
    have DDF : Hid (∀ W, Below w5.heap.size w5 W → Calls Try.prog 36 #[.agg #[.int .i64 (m : Int), .slice at' m ct]] W (RetM m (defL l) W)) := fun W hb => p_defeat at' ct W HOK.out HML.out hm1 hm8 (A5.out.kept hb).rd
    have hdz : Pw.si (fun i => (defL l).getD i 0) m = 0 := by
      have := def_sum (m := m) (l := l) HOK.out
      rw [HML.out] at this
      exact this
    have HDZ := Lib.hid hdz
    have HDB : Hid (∀ i, -1125899906842624 ≤ (defL l).getD i 0 ∧ (defL l).getD i 0 ≤ 1125899906842624) := fun i => by
      rcases Nat.lt_or_ge i l.length with hi | hi
      · rw [def_at l hi]
        have h1 := HML.out
        have := defTo_bdP HOK.out i l.length (Nat.le_refl _)
        omega
      · rw [List.getD_eq_getElem?_getD, List.getElem?_eq_none (by have := DLl.out; have := HML.out; omega)]; simp
    clear hdz
    have hmM : Hid (m ≤ maxLen) := by show m ≤ maxLen; unfold maxLen; omega
    go_wp2
    skip
    rename_i K1 hK1 K2 hK2
    have REST : ∀ (u42 u43 u44 u45 u46 u47 u48 u49 u50 u51 u52 u53 u54 u55 u56 u57 u58 u59 u60 u61 u62 u63 u64 u65 u66 u67 u68 u69 u70 u71 u72 u73 u74 u75 u76 u77 u78 : Value) (W5 : World), Below w5.heap.size w5 W5 → K2 { tmps := #[.slice a len cap, undef, .bool false, .pointer (some ⟨pt, 0, none⟩), .int .i64 (m : Int), .int .i64 (k : Int), .slice (some ⟨gp, 0, none⟩) m cp, .slice (some ⟨gq, 0, none⟩) m cq, .slice (some ⟨gs, 0, none⟩) m cs, undef, undef, undef, undef, undef, undef, undef, undef, undef, undef, undef, undef, undef, undef, .slice a len cap, .int .i64 (len : Int), .bool false, .slice a len cap, .agg #[.int .i64 (m : Int), .slice at' m ct], .pointer (some ⟨pt, 0, none⟩), .int .i64 (m : Int), .slice a len cap, .int .i64 (x : Int), .int .i64 (k : Int), .agg #[.int .i64 (m : Int), .slice at' m ct], .int .i64 (k : Int), .slice (some ⟨gp, 0, none⟩) m cp, .agg #[.int .i64 (m : Int), .slice at' m ct], .int .i64 (k : Int), .int .i64 ((k : Int) + 1), .slice (some ⟨gq, 0, none⟩) m cq, .agg #[.int .i64 (m : Int), .slice at' m ct], .slice (some ⟨gs, 0, none⟩) m cs, u42, u43, u44, u45, u46, u47, u48, u49, u50, u51, u52, u53, u54, u55, u56, u57, u58, u59, u60, u61, u62, u63, u64, u65, u66, u67, u68, u69, u70, u71, u72, u73, u74, u75, u76, u77, u78, .bool false, undef, undef, undef, undef, undef, undef, undef, undef, undef, undef, undef, undef, undef, undef, undef, undef, undef, undef, undef, undef, undef, undef, undef, undef, undef, undef, undef, undef, undef, undef, undef, undef, undef, undef, undef, undef, undef, undef, undef, undef, undef, undef, undef, undef, undef, undef, undef, undef, undef, undef, undef, undef, undef, undef, undef, undef, undef, undef, undef, undef, undef, undef, undef, undef, undef, undef, undef, undef, undef, undef, undef, undef, undef, undef, undef, undef, undef, undef, undef, undef, undef, undef, undef, undef, undef, undef, undef, undef, undef, undef, undef, undef, undef, undef, undef, undef, undef, undef, undef, undef, undef, undef, undef, undef, undef, undef, undef, undef, undef, undef, undef, undef, undef, undef, undef, undef, undef, undef, undef, undef, undef, undef, undef, undef, undef, undef, undef, undef, undef, undef, undef, undef, undef, undef, undef, undef, undef, undef, undef, undef, undef, undef, undef, undef, undef, undef, undef, undef, undef, undef, undef, undef, undef, undef, undef, undef, undef, undef, undef, undef, undef, undef, undef, undef, undef, undef, undef, undef, undef, undef, undef, undef, undef, undef, undef, undef, undef, undef, undef, undef, undef, undef, undef, undef, undef, undef, undef, undef, undef, undef, undef, undef, undef, undef, undef, undef, undef, undef, undef, undef, undef, undef, undef, undef, undef, undef, undef, undef, undef, undef, undef, undef, undef, undef, undef, undef, undef, undef], defers := [] } W5 := by
      as_aux_lemma =>
      clear KEEP BD P1l P2l DLl DP1 DP2 DS2 DDF HDZ HDB
      intro u42 u43 u44 u45 u46 u47 u48 u49 u50 u51 u52 u53 u54 u55 u56 u57 u58 u59 u60 u61 u62 u63 u64 u65 u66 u67 u68 u69 u70 u71 u72 u73 u74 u75 u76 u77 u78 W5 hb5
      have A6 : Hid (F1 w W5 m l pt at' ct k gp gq gs) := A5.out.kept hb5
      refine hK2 _ _ ?_
      clear hK2 A5 hb5
      go_wp2
      have HA : Hid (∀ W, Below W5.heap.size W5 W → F1 w W m l pt at' ct k gp gq gs) := fun W hb => A6.out.kept hb
      have HP : Hid (∀ W, Below W5.heap.size W5 W → ∀ j, j < m → W.cell? ⟨gp, j, none⟩ = some (.int .i64 (((powTo l k).getD j 0 : Nat) : Int))) := fun W hb j hj => by
        rw [int_cell (HA.out W hb).rp (by rw [pwL_len, HML.out]; exact hj), pw_at]
      have HQ : Hid (∀ W, Below W5.heap.size W5 W → ∀ j, j < m → W.cell? ⟨gq, j, none⟩ = some (.int .i64 (((powTo l (k + 1)).getD j 0 : Nat) : Int))) := fun W hb j hj => by
        rw [int_cell (HA.out W hb).rq (by rw [pwL_len, HML.out]; exact hj), pw_at]
      have HS : Hid (∀ W, Below W5.heap.size W5 W → ∀ j, j < m → W.cell? ⟨gs, j, none⟩ = some (.int .i64 (((scoresL l).getD j 0 : Nat) : Int))) := fun W hb j hj => by
        rw [int_cell (HA.out W hb).rs (by rw [pwL_len, HML.out]; exact hj), pw_at, ones HOK.out (by rw [HML.out]; exact hj)]
      have HBT : Hid (∀ W i j, Below W5.heap.size W5 W → i < m → j < m → Calls Try.prog 37 #[.agg #[.int .i64 (m : Int), .slice at' m ct], .int .i64 (i : Int), .int .i64 (j : Int)] W fun e W' => e = .returned (.bool (bt l i j)) ∧ Below W.heap.size W W') := fun W i j hb hi hj => p_beat at' ct i j W HOK.out HML.out hm8 (HA.out W hb).rd hi hj
      go_loopw [9, 10] (fun tt ai wr => ∃ i T : Nat, i ≤ m ∧ ai = .int .i64 (i : Int) ∧ tt = .int .i64 (T : Int) ∧ Hid (T = Pw.sg (totF l k) i) ∧ Hid (Below W5.heap.size W5 wr)) (fun _ ai _ => m - (intOf ai).toNat)
      case atStart => exact ⟨0, 0, Nat.zero_le _, rfl, rfl, rfl, Below.refl _ _⟩
      case round =>
        obtain ⟨i, T, hi, rfl, rfl, HT, B1⟩ := hrel
        by_cases hlt : i < m
        · as_aux_lemma =>
            have hii : (i : Int) < (m : Int) := by omega
            obtain ⟨wo, hwo⟩ : ∃ wo, wo = wr := ⟨_, rfl⟩
            subst hwo
            go_wp2
            go_loopw [11, 12] (fun xx bi wr2 => ∃ j X : Nat, j ≤ m ∧ bi = .int .i64 (j : Int) ∧ xx = .int .i64 (X : Int) ∧ Hid (X = sI (bt l i) (fun b => (powTo l k).getD b 0) j) ∧ Hid (Below W5.heap.size W5 wr2)) (fun _ bi _ => m - (intOf bi).toNat)
            case atStart => exact ⟨0, 0, Nat.zero_le _, rfl, rfl, rfl, B1⟩
            case round =>
              clear B1
              obtain ⟨j, X, hj, rfl, rfl, HX, B1⟩ := hrel
              by_cases hltj : j < m
              · have hji : (j : Int) < (m : Int) := by omega
                have hxle := sI_le (bt l i) (fun b => (powTo l k).getD b 0) (2 ^ 45) (fun z => pw_le45 l (by omega) z) j
                rw [← HX.out] at hxle
                have hX2 : X ≤ 8 * 2 ^ 45 := Nat.le_trans hxle (Nat.mul_le_mul (by omega) (Nat.le_refl _))
                have HN : Hid (sI (bt l i) (fun b => (powTo l k).getD b 0) (j + 1) = X + if bt l i j = true then (powTo l k).getD j 0 else 0) := by show _ = _; rw [HX.out]; rfl
                have c0 := (HA.out wr B1.out).bx.c0
                have c1 := (HA.out wr B1.out).bx.c1
                have HC := Lib.hid (HBT.out wr i j B1.out hlt hltj)
                obtain ⟨q, hq⟩ : ∃ q, q = bt l i j := ⟨_, rfl⟩
                rw [← hq] at HC HN
                have hpl := pw_le45 l (show k ≤ 12 by omega) j
                have HPj := Lib.hid (fun W hb => HP.out W hb j hltj)
                obtain ⟨P, hP⟩ : ∃ P, P = (powTo l k).getD j 0 := ⟨_, rfl⟩
                rw [← hP] at HN hpl HPj
                clear hq hP hxle
                cases q
                · go_wp2_with fail
                  refine HC.out.mono ?_
                  rintro e w6 ⟨rfl, hb6⟩
                  have B6 : Hid (Below W5.heap.size W5 w6) := B1.out.trans (hb6.mono B1.out.size)
                  have HX2 : Hid (X = sI (bt l i) (fun b => (powTo l k).getD b 0) (j + 1)) := by show _ = _; rw [HN.out]; simp
                  clear hb6 c0 c1 HN HC
                  go_wp2
                  go_roundw
                  case rel => exact ⟨j + 1, X, by omega, by go_num, rfl, HX2, B6⟩
                  case measure => simp [intOf]; omega
                · go_wp2_with fail
                  refine HC.out.mono ?_
                  rintro e w6 ⟨rfl, hb6⟩
                  have B6 : Hid (Below W5.heap.size W5 w6) := B1.out.trans (hb6.mono B1.out.size)
                  have HX2 : Hid (X + P = sI (bt l i) (fun b => (powTo l k).getD b 0) (j + 1)) := by show _ = _; rw [HN.out]; simp
                  have f6 := HPj.out w6 B6.out
                  have hwr : IntKind.i64.wrap ((X : Int) + (P : Int)) = ((X + P : Nat) : Int) := by rw [IntKind.wrap_i64]; omega
                  clear hb6 c0 c1 HN HC
                  go_wp2
                  go_roundw
                  case rel => exact ⟨j + 1, X + P, by omega, by go_num, by first | rfl | go_num, HX2, B6⟩
                  case measure => simp [intOf]; omega
              · obtain rfl : j = m := by omega
                rw [row_sum HOK.out HML.out k hlt] at HX
                have f1 := HQ.out wr B1.out i hlt
                rw [← HX.out] at f1
                have f2 := HP.out wr B1.out i hlt
                have f3 := HS.out wr B1.out i hlt
                have hpl := pw_le45 l (show k ≤ 12 by omega) i
                have hsl := score_lt HOK.out (show i < l.length by rw [HML.out]; exact hlt)
                rw [HML.out] at hsl
                have htl := sg_le (totF l k) (2 ^ 45 * 8) (fun z => totF_le (by rw [HML.out]; exact hm8) (by omega) z) i
                rw [← HT.out] at htl
                have htl2 : T ≤ 8 * (2 ^ 45 * 8) := Nat.le_trans htl (Nat.mul_le_mul (by omega) (Nat.le_refl _))
                have HN : Hid (Pw.sg (totF l k) (i + 1) = T + (powTo l k).getD i 0 * (j - 1 - (scoresL l).getD i 0)) := by show Pw.sg (totF l k) i + totF l k i = _; rw [← HT.out]; unfold totF; rw [HML.out]
                obtain ⟨P, hP⟩ : ∃ P, P = (powTo l k).getD i 0 := ⟨_, rfl⟩
                obtain ⟨s, hs⟩ : ∃ s, s = (scoresL l).getD i 0 := ⟨_, rfl⟩
                rw [← hP] at HN hpl f2
                rw [← hs] at HN hsl f3
                obtain ⟨d, hd⟩ : ∃ d, d = j - 1 - s := ⟨_, rfl⟩
                rw [← hd] at HN
                have hd8 : d ≤ 8 := by omega
                have hpd : P * d ≤ 2 ^ 45 * 8 := Nat.mul_le_mul hpl hd8
                have w1' : IntKind.i64.wrap ((j : Int) - 1) = (j : Int) - 1 := by rw [IntKind.wrap_i64]; omega
                have w2' : IntKind.i64.wrap ((j : Int) - 1 - (s : Int)) = (d : Int) := by rw [IntKind.wrap_i64]; omega
                have hmul : ((P * d : Nat) : Int) = (P : Int) * (d : Int) := Int.natCast_mul P d
                obtain ⟨pd, hpde⟩ : ∃ pd, pd = P * d := ⟨_, rfl⟩
                rw [← hpde] at HN hpd hmul
                have w3' : IntKind.i64.wrap ((P : Int) * (d : Int)) = (pd : Int) := by rw [← hmul, IntKind.wrap_i64]; omega
                have w4' : IntKind.i64.wrap ((T : Int) + (pd : Int)) = ((T + pd : Nat) : Int) := by rw [IntKind.wrap_i64]; omega
                have HB6 : Hid (∀ nq, Below W5.heap.size W5 (wr.drewN nq)) := fun nq => below_drewN B1.out nq
                have HT2 : Hid (T + pd = Pw.sg (totF l k) (i + 1)) := HN.out.symm
                clear hP hs hd htl htl2 hpl hsl hd8 hpde hmul HN HT HX
                go_wp2_with fail
                go_quiet (fail)
                go_wp2
                go_roundw
                case rel => exact ⟨i + 1, T + pd, by omega, by go_num, by first | rfl | go_num, HT2, HB6.out _⟩
                case measure => simp [intOf]; omega
        · obtain rfl : i = m := by omega
          clear hlt hi
          have hsum := q_sum HOK.out HML.out k
          rw [← HT.out] at hsum
          have H35 := Lib.hid hsum
          have hPl : (pwL l k).length = i := by rw [pwL_len, HML.out]
          have hQl : (pwL l (k + 1)).length = i := by rw [pwL_len, HML.out]
          have HPL := Lib.hid hPl
          have HQL := Lib.hid hQl
          have D1 := Lib.hid (p_order (pwL l k) (some ⟨gp, 0, none⟩) cp wr hPl hm1 (by omega) (HA.out wr B1.out).rp)
          have A7 := Lib.hid (HA.out wr B1.out)
          clear hsum hPl hQl HP HQ HS HBT HT
          go_wp2_with fail
          refine D1.out.mono ?_
          rintro e w7 ⟨go, co, rfl, ho7, hb7⟩
          have O7 := Lib.hid (own_intP (by rw [niG_len, ordL_len, HPL.out]) ho7)
          have A8 := Lib.hid (A7.out.kept hb7)
          have D2 := Lib.hid (p_rank (pwL l k) (some ⟨gp, 0, none⟩) cp w7 HPL.out hm1 (by omega) A8.out.rp)
          clear ho7 hb7 D1 A7
          go_wp2_with fail
          refine D2.out.mono ?_
          rintro e w8 ⟨gr, cr, rfl, ho8, hb8⟩
          have O8 := Lib.hid (O7.out.below hb8 (Nat.le_refl _))
          have R8 := Lib.hid (own_intP (by unfold rankL; rw [List.length_map, List.length_range, HPL.out]) ho8)
          have A9 := Lib.hid (A8.out.kept hb8)
          have D3 := Lib.hid (p_levels (pwL l k) (some ⟨gp, 0, none⟩) cp w8 HPL.out (by omega) A9.out.rp)
          clear ho8 hb8 D2 A8 O7
          obtain ⟨nl, hnl⟩ : ∃ nl, nl = (levR (pwL l k)).length := ⟨_, rfl⟩
          rw [← hnl] at D3
          have HNL := Lib.hid hnl
          clear hnl
          go_wp2_with fail
          refine D3.out.mono ?_
          rintro e w9 ⟨⟨al, cl, gl, rfl, hss⟩, hb9⟩
          have Z9 : Hid (F2 w w9 i l pt at' ct k gp gq gs go gr w8.heap.size al cl gl) := ⟨A9.out.kept hb9, O8.out.below hb9 (Nat.le_refl _), R8.out.below hb9 (Nat.le_refl _), hss⟩
          clear hss hb9 D3 A9 O8 R8 A6 HA B1
          have DSQ := lawSumI_any (some ⟨gq, 0, none⟩) i cq (pwL l (k + 1)) w9 (by omega) HQL.out (fun z => pw_bd l (by omega) z) Z9.out.one.rq
          rw [H35.out] at DSQ
          have ESQ := Lib.hid DSQ
          have DPO := Lib.hid (p_pord at' ct k w9 HOK.out HML.out hm1 hm8 (by omega) Z9.out.one.rd)
          have c0 := Z9.out.one.bx.c0
          have c1 := Z9.out.one.bx.c1
          have HOL : Hid ((niG (ordL (pwL l k))).length = i) := by show _ = _; rw [niG_len, ordL_len, HPL.out]
          have HMX : Hid (i ≤ maxLen) := by show i ≤ maxLen; unfold maxLen; omega
          clear DSQ
          go_wp2_with fail
          refine ESQ.out.mono ?_
          rintro e w10 ⟨rfl, rfl⟩
          clear ESQ
          go_wp2_with fail
          refine DPO.out.mono ?_
          rintro e w11 ⟨gx, cx, rfl, ho11, hb11⟩
          have Z11 := Lib.hid (Z9.out.kept hb11)
          have DSM := Lib.hid (lawSame_any (some ⟨gx, 0, none⟩) (some ⟨go, 0, none⟩) i cx co (niG (ordL (pwL l k))) w11 HMX.out HOL.out (own_intP HOL.out ho11) Z11.out.ro)
          clear ho11 hb11 DPO Z9 c0 c1
          go_wp2_with fail
          refine DSM.out.mono ?_
          rintro e w12 ⟨rfl, rfl⟩
          have DAG := p_agree (pwL l k) (pwL l k) (some ⟨gp, 0, none⟩) (some ⟨gp, 0, none⟩) cp cp w11 HPL.out HPL.out (by omega) Z11.out.one.rp Z11.out.one.rp
          rw [Pw.agree_self (pwL l k) (by rw [HPL.out]; omega)] at DAG
          have EAG := Lib.hid DAG
          clear DSM DAG
          go_wp2_with fail
          refine EAG.out.mono ?_
          rintro e w13 ⟨rfl, hb13⟩
          have Z13 := Lib.hid (Z11.out.kept hb13)
          clear hb13 EAG Z11
          have HZ : Hid (∀ W, Below w13.heap.size w13 W → F2 w W i l pt at' ct k gp gq gs go gr w8.heap.size al cl gl) := fun W hb => Z13.out.kept hb
          have HCO : Hid (∀ W, Below w13.heap.size w13 W → ∀ j, j < i → W.cell? ⟨go, j, none⟩ = some (.int .i64 (((ordL (pwL l k)).getD j 0 : Nat) : Int))) := fun W hb j hj => by
            rw [int_cell (HZ.out W hb).ro (by rw [HOL.out]; exact hj), ord_at (by rw [HPL.out]; exact hj)]
          have HCP : Hid (∀ W, Below w13.heap.size w13 W → ∀ j, j < i → W.cell? ⟨gp, j, none⟩ = some (.int .i64 ((pwL l k).getD j 0))) := fun W hb j hj => int_cell (HZ.out W hb).one.rp (by rw [HPL.out]; exact hj)
          have HCR : Hid (∀ W, Below w13.heap.size w13 W → ∀ j, j < i → W.cell? ⟨gr, j, none⟩ = some (.int .i64 ((rankL (pwL l k)).getD j 0))) := fun W hb j hj => int_cell (HZ.out W hb).rr (by unfold rankL; rw [List.length_map, List.length_range, HPL.out]; exact hj)
          go_wp2
          go_loopw [16] (fun ii wr => ∃ z : Nat, 1 ≤ z ∧ z ≤ i ∧ ii = .int .i64 (z : Int) ∧ Hid (Below w13.heap.size w13 wr)) (fun ii _ => i - (intOf ii).toNat)
          case atStart => exact ⟨1, by omega, by omega, rfl, Below.refl _ _⟩
          case round =>
            obtain ⟨z, hz1, hz, rfl, B1⟩ := hrel
            by_cases hltz : z < i
            · have hzi : (z : Int) < (i : Int) := by omega
              obtain ⟨x, y, hx, hy, hxl, hyl, f1, f2, f3⟩ := Pw.round_facts (p := pwL l k) (i := z) (by omega) (by rw [HPL.out]; exact hltz)
              rw [HPL.out] at hxl hyl
              have d1 := HCO.out wr B1.out z hltz
              rw [hx] at d1
              obtain ⟨z0, hz0⟩ : ∃ z0, z0 = z - 1 := ⟨_, rfl⟩
              have d2 := HCO.out wr B1.out z0 (by omega)
              rw [hz0, hy, ← hz0] at d2
              have d3 := HCP.out wr B1.out x hxl
              have d4 := HCP.out wr B1.out y hyl
              have d5 := HCR.out wr B1.out x hxl
              have d6 := HCR.out wr B1.out y hyl
              obtain ⟨px, hpx⟩ : ∃ v, v = (pwL l k).getD x 0 := ⟨_, rfl⟩
              obtain ⟨py, hpy⟩ : ∃ v, v = (pwL l k).getD y 0 := ⟨_, rfl⟩
              obtain ⟨rx, hrx⟩ : ∃ v, v = (rankL (pwL l k)).getD x 0 := ⟨_, rfl⟩
              obtain ⟨ry, hry⟩ : ∃ v, v = (rankL (pwL l k)).getD y 0 := ⟨_, rfl⟩
              rw [← hpx] at d3 f1 f2
              rw [← hpy] at d4 f1 f2
              rw [← hrx] at d5 f3
              rw [← hry] at d6 f3
              have hwz : IntKind.i64.wrap ((z : Int) - 1) = (z0 : Int) := by rw [IntKind.wrap_i64]; omega
              have hz0i : (z0 : Int) < (i : Int) := by omega
              have hxi : (x : Int) < (i : Int) := by omega
              have hyi : (y : Int) < (i : Int) := by omega
              have m2 : decide (i ≤ x) = false := decide_eq_false (by omega)
              have m4 : decide (i ≤ y) = false := decide_eq_false (by omega)
              have b1 : decide ((x : Int) < 0) = false := decide_eq_false (by omega)
              have b2 : decide ((i : Int) ≤ (x : Int)) = false := decide_eq_false (by omega)
              have b3 : decide ((y : Int) < 0) = false := decide_eq_false (by omega)
              have b4 : decide ((i : Int) ≤ (y : Int)) = false := decide_eq_false (by omega)
              have b5 : decide (py < px) = false := decide_eq_false f1
              have b6 : decide (rx < ry) = false := decide_eq_false f3
              have B1Z := B1
              clear hx hy hpx hpy hrx hry hz0 f1 f3 B1
              by_cases heq : px = py
              · as_aux_lemma =>
                  have b7 : (px == py) = true := by simpa using heq
                  have b8 : decide ((x : Int) < (y : Int)) = false := decide_eq_false (f2 heq)
                  have m8 : decide (x < y) = false := decide_eq_false (by have := f2 heq; omega)
                  clear heq f2
                  go_wp2_with fail
                  rename_i n1 n2 n3 n4 n5 n6 n7 n8
                  try clear n1
                  try clear n2
                  try clear n3
                  try clear n4
                  have cZ : ∀ d os, Calls Try.prog 37 #[.agg #[.int .i64 (i : Int), .slice at' i ct], .int .i64 (0 : Int), .int .i64 (0 : Int)] (Go.Sort.grow (redrawn wr d) os) fun e w'' => e = .returned (.bool (bt l 0 0)) ∧ ∃ p : Regrown, w'' = Go.Sort.grow (redrawn wr p.d) p.os :=
                    fun d os => Calls.regrown_of ((p_beat at' ct 0 0 _ HOK.out HML.out hm8 ((HZ.out wr B1Z.out).one.rd.below (below_regrown wr d os) (Nat.le_refl _)) (by omega) (by omega)).mono fun e w' h => h)
                  have q1 := fun d os => cell_regrown d1 d os
                  have q2 := fun d os => cell_regrown d2 d os
                  have q3 := fun d os => cell_regrown d3 d os
                  have q4 := fun d os => cell_regrown d4 d os
                  have q5 := fun d os => cell_regrown d5 d os
                  have q6 := fun d os => cell_regrown d6 d os
                  have HBW : Hid (∀ wq : World, (∃ p : Regrown, wq = Go.Sort.grow (redrawn wr p.d) p.os) → Below w13.heap.size w13 wq) := fun wq hw' => by
                    obtain ⟨⟨dq, osq⟩, hw''⟩ := hw'
                    rw [hw'']
                    exact B1Z.out.trans ((below_regrown wr dq osq).mono B1Z.out.size)
                  clear d1 d2 d3 d4 d5 d6 B1Z
                  clear HOK HML hmM HPL HQL HNL HOL HMX HZ HCO HCP HCR Z13 HROW hl hl20 hbig
                  refine wp_region_quiet_below (by kernel_rfl) pwL32 ?_
                  simp only [List.append_eq, List.cons_append, List.nil_append]
                  repeat (go_big_quiet_step (with_reducible exact cZ _ _))
                  refine wpQuiet_nil ?_
                  intro wq hw'
                  have B2 := Lib.hid (HBW.out wq hw')
                  clear hw' cZ q1 q2 q3 q4 q5 q6
                  go_wp2
                  go_roundw
                  case rel => exact ⟨z + 1, by omega, by omega, by go_num, B2⟩
                  case measure => simp [intOf]; omega
              · as_aux_lemma =>
                  have b7 : (px == py) = false := by simpa using heq
                  clear heq f2
                  go_wp2_with fail
                  rename_i n1 n2 n3 n4 n5 n6 n7 n8
                  try clear n1
                  try clear n2
                  try clear n3
                  try clear n4
                  have cZ : ∀ d os, Calls Try.prog 37 #[.agg #[.int .i64 (i : Int), .slice at' i ct], .int .i64 (0 : Int), .int .i64 (0 : Int)] (Go.Sort.grow (redrawn wr d) os) fun e w'' => e = .returned (.bool (bt l 0 0)) ∧ ∃ p : Regrown, w'' = Go.Sort.grow (redrawn wr p.d) p.os :=
                    fun d os => Calls.regrown_of ((p_beat at' ct 0 0 _ HOK.out HML.out hm8 ((HZ.out wr B1Z.out).one.rd.below (below_regrown wr d os) (Nat.le_refl _)) (by omega) (by omega)).mono fun e w' h => h)
                  have q1 := fun d os => cell_regrown d1 d os
                  have q2 := fun d os => cell_regrown d2 d os
                  have q3 := fun d os => cell_regrown d3 d os
                  have q4 := fun d os => cell_regrown d4 d os
                  have q5 := fun d os => cell_regrown d5 d os
                  have q6 := fun d os => cell_regrown d6 d os
                  have HBW : Hid (∀ wq : World, (∃ p : Regrown, wq = Go.Sort.grow (redrawn wr p.d) p.os) → Below w13.heap.size w13 wq) := fun wq hw' => by
                    obtain ⟨⟨dq, osq⟩, hw''⟩ := hw'
                    rw [hw'']
                    exact B1Z.out.trans ((below_regrown wr dq osq).mono B1Z.out.size)
                  clear d1 d2 d3 d4 d5 d6 B1Z
                  clear HOK HML hmM HPL HQL HNL HOL HMX HZ HCO HCP HCR Z13 HROW hl hl20 hbig
                  refine wp_region_quiet_below (by kernel_rfl) pwL32 ?_
                  simp only [List.append_eq, List.cons_append, List.nil_append]
                  repeat (go_big_quiet_step (with_reducible exact cZ _ _))
                  refine wpQuiet_nil ?_
                  intro wq hw'
                  have B2 := Lib.hid (HBW.out wq hw')
                  clear hw' cZ q1 q2 q3 q4 q5 q6
                  go_wp2
                  go_roundw
                  case rel => exact ⟨z + 1, by omega, by omega, by go_num, B2⟩
                  case measure => simp [intOf]; omega
            · obtain rfl : z = i := by omega
              have Z14 := Lib.hid (HZ.out wr B1.out)
              clear HZ HCO HCR Z13 hltz
              obtain ⟨w14, hw14⟩ : ∃ w14, w14 = wr := ⟨_, rfl⟩
              rw [← hw14] at Z14 ⊢
              clear hw14 B1
              obtain ⟨Q, hQ⟩ : ∃ Q, Q = w14.heap.size := ⟨_, rfl⟩
              obtain ⟨Ls, hLs⟩ : ∃ Ls, Ls = levR (pwL l k) := ⟨_, rfl⟩
              have O2 : Hid ((w14.alloc (.cells #[] 3)).ownsRow Q 3 1 (.slice (some ⟨Q, 0, none⟩) 0 0) 0 (((Ls.take 0).flatten).map iv)) := own_empty w14 Q Q (by omega) hQ.symm
              have B2 : Hid (Below Q w14 (w14.alloc (.cells #[] 3))) := by rw [hQ]; exact Below.one w14 _
              have HZ5 : Hid (∀ W, Below Q w14 W → F2 w W z l pt at' ct k gp gq gs go gr w8.heap.size al cl gl) := fun W hb => Z14.out.kept (by rw [hQ] at hb; exact hb)
              have HQ4 : Hid (w14.heap.size = Q) := hQ.symm
              have HLS := Lib.hid hLs
              have HNLs : Hid (nl = Ls.length) := by rw [hLs]; exact HNL.out
              have hfl : Ls.flatten = niG (ordL (pwL l k)) := by rw [hLs]; exact lev_flat (by rw [HPL.out]; omega)
              have HFL := Lib.hid hfl
              have HTL : Hid (∀ q, (Ls.take q).flatten.length ≤ z) := fun q => by
                have e := congrArg List.length (show (Ls.take q).flatten ++ (Ls.drop q).flatten = Ls.flatten by rw [← List.flatten_append, List.take_append_drop])
                rw [List.length_append, hfl, HOL.out] at e
                omega
              clear hLs hfl HNL
              go_wp2
              rw [HQ4.out]
              clear hQ
              go_loopw [17, 260] (fun fl ii wr2 => ∃ (y g c n : Nat), y ≤ nl ∧ ii = .int .i64 (y : Int) ∧ fl = .slice (some ⟨g, 0, none⟩) n c ∧ Hid (n = (Ls.take y).flatten.length) ∧ Hid (wr2.ownsRow Q 3 1 (.slice (some ⟨g, 0, none⟩) n c) n (((Ls.take y).flatten).map iv)) ∧ Hid (Below Q w14 wr2)) (fun _ ii _ => nl - (intOf ii).toNat)
              case atStart => exact ⟨0, Q, 0, 0, Nat.zero_le _, rfl, rfl, rfl, O2, B2⟩
              case round =>
                clear O2 B2
                obtain ⟨y, g, c, n, hy, rfl, rfl, HN, O1, B1⟩ := hrel
                have hQs : Q ≤ wr.heap.size := by have := B1.out.size; have := HQ4.out; omega
                by_cases hlty : y < nl
                · have hyi : (y : Int) < (nl : Int) := by omega
                  have hyL : y < (levR (pwL l k)).length := by rw [← HLS.out, ← HNLs.out]; exact hlty
                  obtain ⟨gA, rfl, _⟩ := (HZ5.out wr B1.out).lv.base (by omega)
                  have hnlm : nl ≤ 9223372036854775807 := by
                    have h1 := own_cap (HZ5.out wr B1.out).lv.out
                    rw [← HLS.out, ← HNLs.out] at h1
                    unfold maxLen at h1
                    omega
                  have hcA := (HZ5.out wr B1.out).lv.cell y hyL
                  have hrA := (HZ5.out wr B1.out).lv.row y hyL
                  rw [← HLS.out] at hcA hrA
                  have HF : Hid ((Ls.take (y + 1)).flatten = (Ls.take y).flatten ++ Ls.getD y []) := Pw.flat_take (by rw [HLS.out]; exact hyL)
                  obtain ⟨sr, hsr⟩ : ∃ sr, sr = Ls.getD y [] := ⟨_, rfl⟩
                  obtain ⟨pr, hpr⟩ : ∃ pr, pr = gl.getD y (0, 0) := ⟨_, rfl⟩
                  rw [← hsr] at hcA hrA HF
                  rw [← hpr] at hcA hrA
                  obtain ⟨g1, c1⟩ := pr
                  have HN2 : Hid (n + sr.length = (Ls.take (y + 1)).flatten.length) := by show _ = _; rw [HF.out, List.length_append, HN.out]
                  have h64 : n + sr.length ≤ 1000 := by have := HTL.out (y + 1); have := HN2.out; omega
                  obtain ⟨ns, hns⟩ : ∃ ns, ns = sr.length := ⟨_, rfl⟩
                  have HNS := Lib.hid hns
                  rw [← hns] at hcA HN2 h64
                  have hmx : ns ≤ 1000 := by omega
                  have HCC : Hid (∀ j, j < ns → wr.cell? ((⟨g1, 0, none⟩ : Addr).add j) = some (iv (sr.getD j 0))) := fun j hj => by
                    have := int_cell hrA (show j < sr.length by omega)
                    rw [Addr.add_lit]
                    simpa [iv] using this
                  clear hsr hpr hns hrA hyL
                  go_wp2_with (at_builtin; refine list_append_int _ rfl _ _ rfl Q g n c ((Ls.take y).flatten) rfl O1.out ⟨g1, 0, none⟩ ns c1 sr rfl HNS.out.symm HCC.out h64 hQs (n + ns) rfl ?_)
                  intro g7 c7 w7' hown7 hg7 hb7
                  have OO7 : Hid (w7'.ownsRow Q 3 1 (.slice (some ⟨g7, 0, none⟩) (n + ns) c7) (n + ns) (((Ls.take (y + 1)).flatten).map iv)) := by
                    show World.ownsRow _ _ _ _ _ _ _
                    rw [HF.out]
                    first | exact hown7 | simpa using hown7
                  have BB7 := Lib.hid (B1.out.trans hb7)
                  clear hown7 hg7 hb7 hcA HCC O1 B1
                  go_wp2
                  go_roundw
                  case rel => exact ⟨y + 1, g7, c7, n + ns, by omega, by go_num, rfl, HN2, OO7, BB7⟩
                  case measure => simp [intOf]; omega
                · obtain rfl : y = nl := by omega
                  have hn : n = z := by rw [HN.out, HNLs.out, List.take_length, HFL.out, HOL.out]
                  have RF : Hid (IntRow wr (some ⟨g, 0, none⟩) (niG (ordL (pwL l k)))) := by
                    have h := O1.out
                    rw [HNLs.out, List.take_length, HFL.out, hn] at h
                    exact own_intP HOL.out h
                  subst hn
                  have Z15 := Lib.hid (HZ5.out wr B1.out)
                  clear O1 B1 HN HTL HZ5 Z14 HQ4 hQs
                  obtain ⟨w15, hw15⟩ : ∃ w15, w15 = wr := ⟨_, rfl⟩
                  rw [← hw15] at Z15 RF ⊢
                  clear hw15
                  obtain ⟨Q2, hQ2⟩ : ∃ Q2, Q2 = w15.heap.size := ⟨_, rfl⟩
                  obtain ⟨p, hp⟩ : ∃ p, p = pwL l k := ⟨_, rfl⟩
                  have O2 : Hid ((w15.alloc (.cells #[] 3)).ownsRow Q2 3 1 (.slice (some ⟨Q2, 0, none⟩) 0 0) 0 ((((p.take 0).map fun v => -v)).map iv)) := own_empty w15 Q2 Q2 (by omega) hQ2.symm
                  have B2 : Hid (Below Q2 w15 (w15.alloc (.cells #[] 3))) := by rw [hQ2]; exact Below.one w15 _
                  have HZ6 : Hid (∀ W, Below Q2 w15 W → F2 w W n l pt at' ct k gp gq gs go gr w8.heap.size al cl gl) := fun W hb => Z15.out.kept (by rw [hQ2] at hb; exact hb)
                  have HRF : Hid (∀ W, Below Q2 w15 W → IntRow W (some ⟨g, 0, none⟩) (niG (ordL (pwL l k)))) := fun W hb => RF.out.below (by rw [hQ2] at hb; exact hb) (Nat.le_refl _)
                  have HQ5 : Hid (w15.heap.size = Q2) := hQ2.symm
                  have HPE := Lib.hid hp
                  have HPn : Hid (p.length = n) := by rw [hp]; exact HPL.out
                  have HPB : Hid (∀ j, -1125899906842624 ≤ p.getD j 0 ∧ p.getD j 0 ≤ 1125899906842624) := fun j => by rw [hp]; exact pw_bd l (by omega) j
                  have HPC : Hid (∀ W, Below Q2 w15 W → ∀ j, j < n → W.cell? ⟨gp, j, none⟩ = some (.int .i64 (p.getD j 0))) := fun W hb j hj => by
                    rw [hp]; exact int_cell (HZ6.out W hb).one.rp (by rw [HPL.out]; exact hj)
                  clear hp RF Z15
                  go_wp2
                  rw [HQ5.out]
                  clear hQ2
                  go_loopw [20, 271] (fun dn ii wr2 => ∃ (q g2 c2 : Nat), q ≤ n ∧ ii = .int .i64 (q : Int) ∧ dn = .slice (some ⟨g2, 0, none⟩) q c2 ∧ Hid (wr2.ownsRow Q2 3 1 (.slice (some ⟨g2, 0, none⟩) q c2) q ((((p.take q).map fun v => -v)).map iv)) ∧ Hid (Below Q2 w15 wr2)) (fun _ ii _ => n - (intOf ii).toNat)
                  case atStart => exact ⟨0, Q2, 0, Nat.zero_le _, rfl, rfl, O2, B2⟩
                  case round =>
                    clear O2 B2
                    obtain ⟨q, g2, c2, hq, rfl, rfl, O1, B1⟩ := hrel
                    have hQs : Q2 ≤ wr.heap.size := by have := B1.out.size; have := HQ5.out; omega
                    by_cases hltq : q < n
                    · have hqi : (q : Int) < (n : Int) := by omega
                      have hcp := HPC.out wr B1.out q hltq
                      have hpb := HPB.out q
                      have HF : Hid ((p.take (q + 1)).map (fun v => -v) = (p.take q).map (fun v => -v) ++ [-(p.getD q 0)]) := Pw.neg_take (by rw [HPn.out]; exact hltq)
                      obtain ⟨v, hv⟩ : ∃ v, v = p.getD q 0 := ⟨_, rfl⟩
                      rw [← hv] at hcp hpb HF
                      have hneg : IntKind.i64.wrap (-v) = -v := by rw [IntKind.wrap_i64]; omega
                      have O4 := Lib.hid (own_one (-v) O1.out)
                      have B4 := Lib.hid (B1.out.alloc hQs (.cells #[.int .i64 (-v)] 3))
                      have HC4 := Lib.hid (one_cell wr (-v))
                      have hQ4 : Q2 ≤ (wr.alloc (.cells #[.int .i64 (-v)] 3)).heap.size := by simp; omega
                      clear hv O1 B1
                      go_wp2_with (at_builtin; refine list_append_int _ rfl _ _ rfl Q2 g2 q c2 ((p.take q).map fun v => -v) rfl O4.out ⟨wr.heap.size, 0, none⟩ 1 1 [-v] rfl rfl HC4.out (by omega) hQ4 (q + 1) rfl ?_)
                      intro g7 c7 w7' hown7 hg7 hb7
                      have OO7 : Hid (w7'.ownsRow Q2 3 1 (.slice (some ⟨g7, 0, none⟩) (q + 1) c7) (q + 1) ((((p.take (q + 1)).map fun v => -v)).map iv)) := by
                        show World.ownsRow _ _ _ _ _ _ _
                        rw [HF.out]
                        first | exact hown7 | simpa using hown7
                      have BB7 := Lib.hid (B4.out.trans hb7)
                      clear hown7 hg7 hb7 O4 HC4 B4 hQ4 hcp hpb hneg
                      go_wp2
                      go_roundw
                      case rel => exact ⟨q + 1, g7, c7, by omega, by go_num, rfl, OO7, BB7⟩
                      case measure => simp [intOf]; omega
                    · obtain rfl : q = n := by omega
                      have RD : Hid (IntRow wr (some ⟨g2, 0, none⟩) (p.map fun v => -v)) := by
                        have h := O1.out
                        rw [List.take_of_length_le (by rw [HPn.out]; exact Nat.le_refl _)] at h
                        exact own_intP (by rw [List.length_map, HPn.out]) h
                      have Z16 := Lib.hid (HZ6.out wr B1.out)
                      have DSM := Lib.hid (lawSame_any (some ⟨g, 0, none⟩) (some ⟨go, 0, none⟩) q c co (niG (ordL (pwL l k))) wr HMX.out HOL.out (HRF.out wr B1.out) Z16.out.ro)
                      have hla := Pw.last_line (p := p) (by rw [HPn.out]; omega) (by rw [HPn.out]; omega)
                      obtain ⟨bq, hbq⟩ : ∃ bq, bq = decide ((levR p).length = 1) := ⟨_, rfl⟩
                      rw [← hbq] at hla
                      have hln : ((y : Int) == 1) = bq := by
                        have e : y = (levR p).length := by rw [HNLs.out, HLS.out, HPE.out]
                        rw [hbq, ← e, Bool.eq_iff_iff, beq_iff_eq, decide_eq_true_eq]; omega
                      have rp16 : IntRow wr (some ⟨gp, 0, none⟩) p := by rw [HPE.out]; exact Z16.out.one.rp
                      have DA1 := p_agree (m := q) p (p.map fun v => -v) (some ⟨gp, 0, none⟩) (some ⟨g2, 0, none⟩) cp c2 wr HPn.out (by rw [List.length_map, HPn.out]) (by omega) rp16 RD.out
                      rw [hla] at DA1
                      have EA1 := Lib.hid DA1
                      have DA2 : Hid (∀ W, Below wr.heap.size wr W → Calls Try.prog 42 #[.slice (some ⟨g2, 0, none⟩) q c2, .slice (some ⟨gr, 0, none⟩) q cr] W fun e W' => e = .returned (.bool true) ∧ Below W.heap.size W W') := fun W hb => by
                        have := p_agree (m := q) (p.map fun v => -v) (rankL p) (some ⟨g2, 0, none⟩) (some ⟨gr, 0, none⟩) c2 cr W (by rw [List.length_map, HPn.out]) (by unfold rankL; rw [List.length_map, List.length_range, HPn.out]) (by omega) (RD.out.below hb (Nat.le_refl _)) (by rw [HPE.out]; exact (Z16.out.kept hb).rr)
                        rw [Pw.agree_rank p (by rw [HPn.out]; omega)] at this
                        exact this
                      have HBB := Lib.hid hbq
                      clear hbq hla rp16 DA1 O1 B1 HRF HZ6 RD
                      cases bq
                      all_goals
                        go_wp2_with fail
                        refine DSM.out.mono ?_
                        rintro e w16 ⟨rfl, rfl⟩
                        go_wp2_with fail
                        refine EA1.out.mono ?_
                        rintro e w17 ⟨rfl, hb17⟩
                        have EA2 := Lib.hid (DA2.out w17 hb17)
                        have BW := Lib.hid (Z16.out.one.hb.trans (hb17.mono Z16.out.one.hb.size))
                        clear hb17
                        go_wp2_with fail
                        refine EA2.out.mono ?_
                        rintro e w18 ⟨rfl, hb18⟩
                        go_wp2
                        go_ret
                        exact ⟨rfl, BW.out.trans (hb18.mono BW.out.size)⟩
    clear hK1 hK2
    as_aux_lemma =>
    go_region_held3 (fun V => V.cell? ⟨pt, 0, none⟩ = some (.int .i64 (m : Int)) ∧ V.cell? ⟨pt, 1, none⟩ = some (.slice at' m ct))
      (first | (exact KEEP.out _ B75.out) | (exact KEEP.out _ B69.out) | (exact KEEP.out _ B64.out) | (exact KEEP.out _ B63.out) | (exact KEEP.out _ B61.out) | (exact KEEP.out _ B54.out) | (exact KEEP.out _ BD.out))
      (first
        | (go_at_call 31
           with_reducible refine (DP1.out _ BD.out).mono ?_
           rintro e w54 ⟨g54, c54, rfl, ho54, hb54⟩
           have B54 := Lib.hid (BD.out.trans hb54)
           have I54 := Lib.hid (own_intP P1l.out ho54)
           clear ho54 hb54)
        | (go_at_call 33
           with_reducible refine (lawSame_any _ _ m _ _ (pwL l 1) _ hmM.out P1l.out I54.out (A5.out.kept B54.out).rs).mono ?_
           rintro e w56 ⟨rfl, rfl⟩)
        | (go_at_call 31
           with_reducible refine (DP2.out _ B63.out).mono ?_
           rintro e w61 ⟨g61, c61, rfl, ho61, hb61⟩
           have B61 := Lib.hid (B63.out.trans (hb61.mono B63.out.size))
           have B64 := B61
           have I61 := Lib.hid (own_intP P2l.out ho61)
           have J63 := Lib.hid (I63.out.below hb61 (Nat.le_refl _))
           have J61 := I61
           clear ho61 hb61)
        | (go_at_call 31
           with_reducible refine (DP2.out _ B54.out).mono ?_
           rintro e w61 ⟨g61, c61, rfl, ho61, hb61⟩
           have B61 := Lib.hid (B54.out.trans (hb61.mono B54.out.size))
           have I61 := Lib.hid (own_intP P2l.out ho61)
           clear ho61 hb61)
        | (go_at_call 34
           with_reducible refine (DS2.out _ B61.out).mono ?_
           rintro e w63 ⟨g63, c63, rfl, ho63, hb63⟩
           have B63 := Lib.hid (B61.out.trans (hb63.mono B61.out.size))
           have B64 := B63
           have I63 := Lib.hid (own_intP P2l.out ho63)
           have J61 := Lib.hid (I61.out.below hb63 (Nat.le_refl _))
           have J63 := I63
           clear ho63 hb63)
        | (go_at_call 34
           with_reducible refine (DS2.out _ B54.out).mono ?_
           rintro e w63 ⟨g63, c63, rfl, ho63, hb63⟩
           have B63 := Lib.hid (B54.out.trans (hb63.mono B54.out.size))
           have I63 := Lib.hid (own_intP P2l.out ho63)
           clear ho63 hb63)
        | (go_at_call 33
           with_reducible refine (lawSame_any _ _ m _ _ (pwL l 2) _ hmM.out P2l.out J61.out J63.out).mono ?_
           rintro e w64 ⟨rfl, rfl⟩)
        | (go_at_call 36
           with_reducible refine (DDF.out _ B69.out).mono ?_
           rintro e w75 ⟨g75, c75, rfl, ho75, hb75⟩
           have B75 := Lib.hid (B69.out.trans (hb75.mono B69.out.size))
           clear ho75 hb75)
        | (go_at_call 36
           with_reducible refine (DDF.out _ B64.out).mono ?_
           rintro e w69 ⟨g69, c69, rfl, ho69, hb69⟩
           have B69 := Lib.hid (B64.out.trans (hb69.mono B64.out.size))
           have I69 := Lib.hid (own_intP DLl.out ho69)
           have D70 := lawSumI_any (some ⟨g69, 0, none⟩) m c69 (defL l) w69 (by omega) DLl.out HDB.out I69.out
           rw [HDZ.out] at D70
           have E70 := Lib.hid D70
           clear ho69 hb69 D70)
        | (go_at_call 35
           with_reducible refine E70.out.mono ?_
           rintro e w70 ⟨rfl, rfl⟩))
    all_goals exact REST _ _ _ _ _ _ _ _ _ _ _ _ _ _ _ _ _ _ _ _ _ _ _ _ _ _ _ _ _ _ _ _ _ _ _ _ _ _ B75.out
end Go.Proofs.Ytpndfmlkceplcaa
