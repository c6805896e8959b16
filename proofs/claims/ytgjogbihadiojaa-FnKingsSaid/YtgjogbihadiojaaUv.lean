/-
  'FnKings': kings are those whom nobody covers, and there is one or three of them at least: true for every list of bytes from which the law draws its inputs. No conditions.
-/
import Derived.Test.YtgjogbihadiojaaUt
import Derived.BigQuiet
namespace Go.Proofs.Ytgjogbihadiojaa
open Go.ChangeShapes Go.WideShapes Go.ChangeAt Go.RowKit
set_option linter.unusedVariables false

/-- What the law holds all along. -/
structure Kx (w W : World) (cd : Option Addr) (len m : Nat) (l : List Int) (pt : Nat) (at' : Option Addr) (ct : Nat) : Prop where
  hb : Below w.heap.size w W
  ro : Row w.heap.size W cd len
  bx : Box W pt 25 (.int .i64 (m : Int)) (.slice at' m ct)
  rd : IntRow W at' l
theorem Kx.kept {w W W' : World} {cd : Option Addr} {len m : Nat} {l : List Int} {pt : Nat} {at' : Option Addr} {ct : Nat} (h : Kx w W cd len m l pt at' ct) (hb : Below W.heap.size W W') : Kx w W' cd len m l pt at' ct :=
  ⟨h.hb.trans (hb.mono h.hb.size), h.ro.below (hb.mono h.hb.size), h.bx.below hb h.bx.lt, h.rd.below hb (Nat.le_refl _)⟩
theorem modK (x Z : Nat) (hZ : 1 ≤ Z) : ∃ r : Nat, (x : Int) % (Z : Int) = (r : Int) ∧ r < Z := ⟨x % Z, (Int.natCast_emod x Z).symm, Nat.mod_lt _ hZ⟩

theorem subK (D pw D2 : Nat) (Di : Int) (h1 : Di = (D : Int)) (h2 : D < 256) (h3 : pw ≤ D) (h4 : D2 = D - pw) : IntKind.i64.wrap (Di - (pw : Int)) = (D2 : Int) := by rw [IntWalk.i64_in _ (by omega)]; omega

set_option maxRecDepth 100000 in
set_option maxHeartbeats 8000000 in
theorem walkFnKings (a : Option Addr) (len cap : Nat) (w : World) (hl : len ≤ maxLen) (hrow : Row w.heap.size w a len) :
    Calls Try.prog 4 #[.slice a len cap] w fun e w' => e = .returned (.bool true) ∧ Below w.heap.size w w' := by
  by_cases hbig : (1048576 : Int) < (len : Int)
  · unfold maxLen at hl
    clear hrow
    go_enter Try.func4, Try.ntmps4
    go_wp2
    go_ret
    exact ⟨rfl, Below.refl _ _⟩
  · have hl20 : len ≤ 1048576 := by omega
    have HROW := Lib.hid hrow
    unfold maxLen at hl
    clear hrow
    go_enter Try.func4, Try.ntmps4
    go_wp2_with fail
    refine (makeTour_any w.heap.size 0 7 w a len cap (by omega) (by omega) (by omega) hl20 (Nat.le_refl _) HROW.out).mono ?_
    rintro e w1 ⟨l, gt, ct, hok, h7, rfl, ho, hb1⟩
    obtain ⟨m, hm⟩ : ∃ m, m = l.length := ⟨_, rfl⟩
    have V : Hid (Vt m l) := ⟨hok, hm.symm⟩
    have hrd := own_int ho
    rw [← hm] at h7 ⊢
    have hm1 : 1 ≤ m := V.out.le.1
    obtain ⟨W1, hW1⟩ : ∃ W1, W1 = w1.alloc (.cells #[.int .i64 m, .slice (some ⟨gt, 0, none⟩) m ct] 25) := ⟨_, rfl⟩
    obtain ⟨pt, hpt⟩ : ∃ pt, pt = w1.heap.size := ⟨_, rfl⟩
    obtain ⟨at', hat⟩ : ∃ at', at' = some (⟨gt, 0, none⟩ : Addr) := ⟨_, rfl⟩
    rw [← hat] at hrd hW1
    have X1 : Hid (Kx w W1 a len m l pt at' ct) := by
      have hbn : Below w1.heap.size w1 W1 := by rw [hW1]; exact Below.one _ _
      have hb2 : Below w.heap.size w W1 := hb1.trans (hbn.mono hb1.size)
      refine ⟨hb2, HROW.out.below hb2, ?_, hrd.below hbn (Nat.le_refl _)⟩
      rw [hW1, hpt]; exact Box.new _ _ _ _
    have HW1 := Lib.hid hW1
    have HPT := Lib.hid hpt
    have HAT := Lib.hid hat
    -- numbers
    have hva := V.out.va
    have hm8 : m ≤ 8 := hva.le
    obtain ⟨K, hK⟩ : ∃ K, K = Kk.kings (ww l) m := ⟨_, rfl⟩
    have hKl : K < 2 ^ m := by rw [hK]; exact Kk.kings_lt2 _ _
    have hK8 : K < 256 := pow256 hm8 hKl
    have hKp : 0 < K := by rw [hK]; exact Kk.kings_pos hva hm1
    have hK2 : pc K ≠ 2 := by rw [hK]; exact Kk.not_two hva
    obtain ⟨Bk, hB⟩ : ∃ Bk, Bk = banksTo l (2 ^ m) := ⟨_, rfl⟩
    have hBs : ∀ j, Bk.testBit j = true → K.testBit j = true := by
      rw [hB, hK]; have := banks_kings V.out.okm; rwa [V.out.2] at this
    have hBp : 0 < Bk := by rw [hB]; have := banks_pos V.out.okm; rwa [V.out.2] at this
    have hBl : Bk < 2 ^ m := Nat.lt_of_le_of_lt (Rc.Sub.le hBs) hKl
    have hB8 : Bk < 256 := pow256 hm8 hBl
    have hBK : bits .andNot .i64 (Bk : Int) (K : Int) = 0 := by
      rw [andNot256 Bk K hB8 hK8, (an_zero hB8 hK8).2 hBs]; rfl
    obtain ⟨Ki, hKi⟩ : ∃ Ki : Int, Ki = (K : Int) := ⟨_, rfl⟩
    obtain ⟨Bi, hBi⟩ : ∃ Bi : Int, Bi = (Bk : Int) := ⟨_, rfl⟩
    obtain ⟨pK, hpK⟩ : ∃ pK : Int, pK = ((pc K : Nat) : Int) := ⟨_, rfl⟩
    obtain ⟨pB, hpB⟩ : ∃ pB : Int, pB = ((pc Bk : Nat) : Int) := ⟨_, rfl⟩
    have hK0 : ¬ Ki ≤ 0 := by omega
    have hB0 : ¬ Bi ≤ 0 := by omega
    have hdK : decide (Ki ≤ 0) = false := decide_eq_false hK0
    have hdB : decide (Bi ≤ 0) = false := decide_eq_false hB0
    have hAN : bits .andNot .i64 Bi Ki = 0 := by rw [hBi, hKi]; exact hBK
    have hpK2 : (pK == 2) = false := by rw [beq_eq_false_iff_ne]; omega
    have CK : Hid (∀ W, Calls Try.prog 30 #[.int .i64 Ki] W fun e W' => e = .returned (.int .i64 pK) ∧ W = W') := fun W => by rw [hKi, hpK]; exact lawBits_any K hK8 W
    have CB : Hid (∀ W, Calls Try.prog 30 #[.int .i64 Bi] W fun e W' => e = .returned (.int .i64 pB) ∧ W = W') := fun W => by rw [hBi, hpB]; exact lawBits_any Bk hB8 W
    have CKI : Hid (∀ W, IntRow W at' l → Calls Try.prog 27 #[.agg #[.int .i64 (m : Int), .slice at' m ct]] W fun e W' => e = .returned (.int .i64 Ki) ∧ Below W.heap.size W W') := fun W hr => by rw [hKi, hK]; exact k_kings at' ct W V.out hr
    have CBA : Hid (∀ W, IntRow W at' l → Calls Try.prog 29 #[.agg #[.int .i64 (m : Int), .slice at' m ct]] W fun e W' => e = .returned (.int .i64 Bi) ∧ Below W.heap.size W W') := fun W hr => by rw [hBi, hB]; exact k_banks at' ct W V.out hr
    have CKD : Hid (∀ W, IntRow W at' l → Calls Try.prog 38 #[.agg #[.int .i64 (m : Int), .slice at' m ct], .int .i64 Ki] W fun e W' => e = .returned (.bool true) ∧ Below W.heap.size W W') := fun W hr => by
      rw [hKi]
      have := k_dom at' ct K W V.out hr hKl
      rw [show Kk.domN (ww l) m K = true by rw [hK]; exact Kk.kings_dom hva] at this
      exact this
    obtain ⟨D, hD⟩ : ∃ D, D = Kk.least (ww l) m := ⟨_, rfl⟩
    have hDl : D < 2 ^ m := by rw [hD]; exact Kk.least_lt hva
    have hD8 : D < 256 := pow256 hm8 hDl
    obtain ⟨Di, hDi⟩ : ∃ Di : Int, Di = (D : Int) := ⟨_, rfl⟩
    obtain ⟨pD, hpD⟩ : ∃ pD : Int, pD = ((pc D : Nat) : Int) := ⟨_, rfl⟩
    have CDB : Hid (∀ W, Calls Try.prog 30 #[.int .i64 Di] W fun e W' => e = .returned (.int .i64 pD) ∧ W = W') := fun W => by rw [hDi, hpD]; exact lawBits_any D hD8 W
    have CLD : Hid (∀ W, IntRow W at' l → Calls Try.prog 37 #[.agg #[.int .i64 (m : Int), .slice at' m ct]] W fun e W' => e = .returned (.int .i64 Di) ∧ Below W.heap.size W W') := fun W hr => by rw [hDi, hD]; exact k_least at' ct W V.out hr
    have CDD : Hid (∀ W, IntRow W at' l → Calls Try.prog 38 #[.agg #[.int .i64 (m : Int), .slice at' m ct], .int .i64 Di] W fun e W' => e = .returned (.bool true) ∧ Below W.heap.size W W') := fun W hr => by
      rw [hDi]
      have := k_dom at' ct D W V.out hr hDl
      rw [show Kk.domN (ww l) m D = true by rw [hD]; exact Kk.least_dom hva] at this
      exact this
    have HKb : Hid (∀ i, i < m → (bits .and .i64 (Ki / 2 ^ i) 1 == 1) = Kk.kingN (ww l) m i) := fun i hi => by
      rw [hKi]
      show bi (K : Int) i = _
      rw [bi_nat, hK, Kk.kings_bit]; simp [hi]
    have HDb : Hid (∀ i, (bits .and .i64 (Di / 2 ^ i) 1 == 1) = D.testBit i) := fun i => by
      rw [hDi]
      exact bi_nat D i
    have HDT : Hid (∀ i, i < m → D.testBit i = true → 2 ^ i ≤ D ∧ Kk.domN (ww l) m (D - 2 ^ i) = false ∧ D - 2 ^ i < 2 ^ m) := fun i hi hb => by
      refine ⟨?_, by rw [hD] at hb ⊢; exact Kk.least_tight hva hi hb, Nat.lt_of_le_of_lt (Nat.sub_le _ _) hDl⟩
      exact Nat.ge_two_pow_of_testBit hb
    have HDI : Hid (Di = (D : Int)) := hDi
    have HD8 : Hid (D < 256) := hD8
    have hone := Kk.one_iff hva hm1
    have hldn := Kk.least_one hva hm1
    rw [← hK] at hone
    rw [← hD] at hldn
    have hsvb := @sov_banks l (m : Int) V.out.okm
    rw [V.out.2, ← hB, ← hK] at hsvb
    have hsome := @sovR_some l (m : Int) V.out.okm
    have hnone := @sovR_none l (m : Int) V.out.okm
    rw [V.out.2] at hsome hnone
    obtain ⟨Si, hSi⟩ : ∃ Si : Int, Si = sovR (m : Int) l := ⟨_, rfl⟩
    have CSV : Hid (∀ W, IntRow W at' l → Calls Try.prog 28 #[.agg #[.int .i64 (m : Int), .slice at' m ct]] W fun e W' => e = .returned (.int .i64 Si) ∧ Below W.heap.size W W') := fun W hr => by rw [hSi]; exact k_sov at' ct W V.out hr
    have HAS : Hid (∀ i, i < m → (((i : Nat) : Int) == Si) = decide (Kk.step (ww l) m i = i)) := fun i hi => by
      by_cases hsv : ∃ s, Kk.Sov (ww l) m s
      · obtain ⟨s, hs⟩ := hsv
        rw [hSi, hsome hs, Bool.eq_iff_iff, beq_iff_eq, decide_eq_true_iff, Kk.step_self hva hi, Kk.no_beater_sov hva hi]
        exact ⟨fun e => (show i = s by omega) ▸ hs, fun e => by rw [Kk.sov_one hva e hs]⟩
      · rw [hSi, hnone hsv, Bool.eq_iff_iff, beq_iff_eq, decide_eq_true_iff, Kk.step_self hva hi, Kk.no_beater_sov hva hi]
        exact ⟨fun e => absurd e (by omega), fun e => absurd ⟨i, e⟩ hsv⟩
    have HT : Hid (((pK == 1) = true ∧ (pD == 1) = true ∧ (Ki == Bi) = true ∧ (pB == 1) = true ∧ 0 ≤ Si) ∨ ((pK == 1) = false ∧ (pD == 1) = false ∧ ¬ 0 ≤ Si ∧ (((Ki == Bi) = true ∧ (pB == 1) = false) ∨ (Ki == Bi) = false))) := by
      show _ ∨ _
      by_cases hsv : ∃ s, Kk.Sov (ww l) m s
      · obtain ⟨s, hs⟩ := hsv
        have heq : Bk = K := hsvb hs
        refine .inl ⟨?_, ?_, ?_, ?_, ?_⟩
        · rw [beq_iff_eq, hpK, hone.2 ⟨s, hs⟩]; rfl
        · rw [beq_iff_eq, hpD, hldn.2 ⟨s, hs⟩]; rfl
        · rw [beq_iff_eq, hKi, hBi, heq]
        · rw [beq_iff_eq, hpB, heq, hone.2 ⟨s, hs⟩]; rfl
        · rw [hSi, hsome hs]; exact Int.natCast_nonneg s
      · refine .inr ⟨?_, ?_, ?_, ?_⟩
        · rw [beq_eq_false_iff_ne, hpK]; intro e; exact hsv (hone.1 (by omega))
        · rw [beq_eq_false_iff_ne, hpD]; intro e; exact hsv (hldn.1 (by omega))
        · rw [hSi, hnone hsv]; omega
        · by_cases heq : Bk = K
          · refine .inl ⟨by rw [beq_iff_eq, hKi, hBi, heq], ?_⟩
            rw [beq_eq_false_iff_ne, hpB, heq]; intro e; exact hsv (hone.1 (by omega))
          · exact .inr (by rw [beq_eq_false_iff_ne]; omega)
    have HTT : Hid (((pD == 1) = true ∧ 0 ≤ Si) ∨ ((pD == 1) = false ∧ ¬ 0 ≤ Si)) := HT.out.elim (fun h => .inl ⟨h.2.1, h.2.2.2.2⟩) (fun h => .inr ⟨h.2.1, h.2.2.1⟩)
    clear hok hm ho hrd hb1 hW1 hpt hat hva hK hKl hK8 hKp hK2 hB hBs hBp hBl hB8 hBK hKi hBi hpK hpB hD hDl hD8 hDi hpD hone hldn hsvb hsome hnone hSi
    go_wp2_with fail
    rw [← HPT.out, ← HAT.out, ← HW1.out]
    refine (CKI.out W1 X1.out.rd).mono ?_
    rintro e w2 ⟨rfl, hb2⟩
    have X2 := Lib.hid (X1.out.kept hb2)
    clear hb2 X1 HW1
    have c0 := X2.out.bx.c0
    have c1 := X2.out.bx.c1
    go_wp2_with fail
    refine (CSV.out w2 X2.out.rd).mono ?_
    rintro e w3 ⟨rfl, hb3⟩
    have X3 := Lib.hid (X2.out.kept hb3)
    clear hb3 X2 c0 c1
    have c0 := X3.out.bx.c0
    have c1 := X3.out.bx.c1
    go_wp2_with fail
    refine (CBA.out w3 X3.out.rd).mono ?_
    rintro e w4 ⟨rfl, hb4⟩
    have X4 := Lib.hid (X3.out.kept hb4)
    clear hb4 X3 c0 c1
    go_wp2_with fail
    rename_i K2 hK2 K1 hK1
    have REST : ∀ u32 u33 u34 u35 u36 u37 u38 u39 u40 u41 u42 u43 u44 u45 u46 u47 u48 u49 u50 u51 u52 u53 u54 u55 u56 u57 u58 u59 u60 u61 u62 u63 u64 u65 u66 u67 u68 : Value, K2 { tmps := #[.slice a len cap, undef, .bool false, .pointer (some ⟨pt, 0, none⟩), .int .i64 (m : Int), .int .i64 Ki, .int .i64 Si, .int .i64 Bi, .int .i64 0, undef, undef, undef, undef, undef, undef, undef, undef, undef, undef, .slice a len cap, .int .i64 (len : Int), .bool false, .slice a len cap, .agg #[.int .i64 (m : Int), .slice at' m ct], .pointer (some ⟨pt, 0, none⟩), .int .i64 (m : Int), .agg #[.int .i64 (m : Int), .slice at' m ct], .int .i64 Ki, .agg #[.int .i64 (m : Int), .slice at' m ct], .int .i64 Si, .agg #[.int .i64 (m : Int), .slice at' m ct], .int .i64 Bi, u32, u33, u34, u35, u36, u37, u38, u39, u40, u41, u42, u43, u44, u45, u46, u47, u48, u49, u50, u51, u52, u53, u54, u55, u56, u57, u58, u59, u60, u61, u62, u63, u64, u65, u66, u67, u68, .bool false, undef, undef, undef, undef, undef, undef, undef, undef, undef, undef, undef, undef, undef, undef, undef, undef, undef, undef, undef, undef, undef, undef, undef, undef, undef, undef, undef, undef, undef, undef, undef, undef, undef, undef, undef, undef, undef, undef, undef, undef, undef, undef, undef, undef, undef, undef, undef, undef, undef, undef, undef, undef, undef, undef, undef, undef, undef, undef, undef, undef, undef, undef, undef, undef, undef, undef, undef, undef, undef, undef, undef, undef, undef, undef, undef, undef, undef, undef, undef, undef, undef, undef, undef, undef, undef, undef, undef, undef, undef, undef, undef, undef, undef, undef, undef, undef, undef, undef, undef, undef, undef, undef, undef, undef, undef, undef, undef, undef, undef, undef, undef, undef, undef, undef, undef, undef, undef, undef, undef, undef, undef, undef, undef, undef, undef, undef, undef, undef, undef, undef, undef, undef, undef, undef, undef, undef, undef, undef, undef, undef, undef, undef, undef, undef, undef, undef, undef, undef, undef, undef, undef, undef, undef, undef, undef, undef, undef, undef, undef, undef, undef, undef, undef], defers := [] } w4 := by
      intro u32 u33 u34 u35 u36 u37 u38 u39 u40 u41 u42 u43 u44 u45 u46 u47 u48 u49 u50 u51 u52 u53 u54 u55 u56 u57 u58 u59 u60 u61 u62 u63 u64 u65 u66 u67 u68
      refine hK2 _ _ ?_
      clear hK2 hK1 HT
      go_wp2
      go_loopw [8, 9] (fun bs ai wr => ∃ k b : Nat, k ≤ m ∧ bs = .int .i64 (b : Int) ∧ ai = .int .i64 (k : Int) ∧ b < m ∧ Hid (∀ j, j < k → pc (ww l j) ≤ pc (ww l b)) ∧ Hid (Kx w wr a len m l pt at' ct)) (fun _ i _ => m - (intOf i).toNat)
      case atStart => exact ⟨0, 0, Nat.zero_le _, rfl, rfl, by omega, fun j h => absurd h (Nat.not_lt_zero _), X4.out⟩
      case round =>
        clear X4
        obtain ⟨k, b, hk, rfl, rfl, hbm, hmax, Xr⟩ := hrel
        by_cases hlt : k < m
        · have hkb : (k : Int) < (m : Int) := by omega
          have hrq := fun d os => Xr.out.rd.below (below_regrown wr d os) (Nat.le_refl _)
          obtain ⟨x, hx⟩ : ∃ x : Int, x = ((pc (ww l k) : Nat) : Int) := ⟨_, rfl⟩
          obtain ⟨y, hy⟩ : ∃ y : Int, y = ((pc (ww l b) : Nat) : Int) := ⟨_, rfl⟩
          have cA : ∀ d os, Calls Try.prog 31 #[.agg #[.int .i64 (m : Int), .slice at' m ct], .int .i64 (k : Int)] (Go.Sort.grow (redrawn wr d) os) fun e w'' => e = .returned (.int .i64 x) ∧ ∃ p : Regrown, w'' = Go.Sort.grow (redrawn wr p.d) p.os :=
            fun d os => Calls.regrown_of ((k_score at' ct k _ V.out (hrq d os) hlt).mono fun e w' ⟨he, hw⟩ => ⟨by rw [he, hx], hw⟩)
          have cB : ∀ d os, Calls Try.prog 31 #[.agg #[.int .i64 (m : Int), .slice at' m ct], .int .i64 (b : Int)] (Go.Sort.grow (redrawn wr d) os) fun e w'' => e = .returned (.int .i64 y) ∧ ∃ p : Regrown, w'' = Go.Sort.grow (redrawn wr p.d) p.os :=
            fun d os => Calls.regrown_of ((k_score at' ct b _ V.out (hrq d os) hbm).mono fun e w' ⟨he, hw⟩ => ⟨by rw [he, hy], hw⟩)
          have r0 := fun d os => cell_regrown Xr.out.bx.c0 d os
          have r1 := fun d os => cell_regrown Xr.out.bx.c1 d os
          -- what the round shows
          obtain ⟨b2, hb2m, hb2x, hb2v⟩ : ∃ b2 : Nat, b2 < m ∧ Hid (∀ j, j < k + 1 → pc (ww l j) ≤ pc (ww l b2)) ∧ b2 = if y < x then k else b := by
            refine ⟨if y < x then k else b, ?_, ?_, rfl⟩
            · split <;> assumption
            · intro j hj
              have h9 := hmax.out
              split
              · rcases Nat.lt_or_ge j k with g | g
                · have := h9 j g; omega
                · obtain rfl : j = k := by omega
                  exact Nat.le_refl _
              · rcases Nat.lt_or_ge j k with g | g
                · exact h9 j g
                · obtain rfl : j = k := by omega
                  omega
          have HYX : Hid (y < x → b2 = k) := fun h => by rw [hb2v, if_pos h]
          have HYN : Hid (¬ y < x → b2 = b) := fun h => by rw [hb2v, if_neg h]
          clear hx hy hmax hb2v hrq
          by_cases hyx : y < x
          · have hd : decide (y < x) = true := by simpa using hyx
            have hb2e : b2 = k := HYX.out hyx
            rw [hb2e] at hb2m hb2x
            clear HYX HYN hb2e
            go_wp2
            refine wp_region_quiet_below (by kernel_rfl) (by kernel_rfl) ?_
            repeat (go_big_quiet_step (first | (with_reducible exact cA _ _) | (with_reducible exact cB _ _)))
            refine wpQuiet_nil ?_
            intro wq hw'
            have hbq : Below wr.heap.size wr wq := by obtain ⟨⟨dq, osq⟩, hw''⟩ := hw'; rw [hw'']; exact below_regrown wr dq osq
            have Xq := Lib.hid (Xr.out.kept hbq)
            clear hw' cA cB r0 r1 hbq Xr hd hyx
            go_wp2
            go_loopw [10, 11] (fun cv ci wz => ∃ (c : Nat) (C : Bool), c ≤ m ∧ cv = .bool C ∧ ci = .int .i64 (c : Int) ∧ Hid (C = cvTo l k c) ∧ Hid (Kx w wz a len m l pt at' ct)) (fun _ i _ => m - (intOf i).toNat)
            case atStart => exact ⟨0, false, Nat.zero_le _, rfl, rfl, rfl, Xq.out⟩
            case round =>
              clear Xq
              obtain ⟨c, C, hc, rfl, rfl, hC, Xz⟩ := hrel
              have c0 := Xz.out.bx.c0
              have c1 := Xz.out.bx.c1
              by_cases hlc : c < m
              · have hcb : (c : Int) < (m : Int) := by omega
                cases C
                · have hn : Hid (cvB l c k = cvTo l k (c + 1)) := by show _ = _; simp only [cvTo]; rw [← hC.out]; rfl
                  go_wp2_with fail
                  refine (k_cov at' ct c k _ V.out Xz.out.rd hlc hlt).mono ?_
                  rintro e w5 ⟨rfl, hb5⟩
                  have Xn := Lib.hid (Xz.out.kept hb5)
                  clear c0 c1 hb5 Xz hC
                  go_wp2
                  go_roundw
                  case rel => exact ⟨c + 1, cvB l c k, by omega, rfl, by go_num, hn, Xn.out⟩
                  case measure => simp [intOf]; omega
                · have hn : Hid (true = cvTo l k (c + 1)) := by show _ = _; simp only [cvTo]; rw [← hC.out]; rfl
                  clear hC c0 c1
                  go_wp2
                  go_roundw
                  case rel => exact ⟨c + 1, true, by omega, rfl, by go_num, hn, Xz.out⟩
                  case measure => simp [intOf]; omega
              · obtain rfl : c = m := by omega
                have hCK : Hid (C = !Kk.kingN (ww l) c k) := hC.out.trans (cvTo_king V.out hlt)
                clear hC
                go_wp2_with fail
                refine (k_climb at' ct k _ V.out Xz.out.rd hlt).mono ?_
                rintro e w5 ⟨rfl, hb5⟩
                have X5 := Lib.hid (Xz.out.kept hb5)
                clear c0 c1 hb5 Xz
                have c0 := X5.out.bx.c0
                have c1 := X5.out.bx.c1
                go_wp2_with fail
                refine (k_step at' ct k _ V.out X5.out.rd hlt).mono ?_
                rintro e w6 ⟨rfl, hb6⟩
                have X6 := Lib.hid (X5.out.kept hb6)
                clear c0 c1 hb6 X5
                have hva := V.out.va
                have hclk := Kk.climb_king hva hlt
                have hstl := Kk.step_lt hva hlt
                have hKbit := HKb.out k hlt
                have hASk := HAS.out k hlt
                have hcs : Kk.kingN (ww l) c k = true → Kk.climb (ww l) c k = k := fun e => by unfold Kk.climb; rw [e]; rfl
                have hne : Kk.kingN (ww l) c k = false → Kk.step (ww l) c k ≠ k := fun e => (Kk.king_step hva hlt e).1
                have hbt : Kk.step (ww l) c k ≠ k → (ww l (Kk.step (ww l) c k)).testBit k = true := fun e => (Kk.step_beats hva hlt e).1
                obtain ⟨X, hX⟩ : ∃ X, X = Kk.climb (ww l) c k := ⟨_, rfl⟩
                obtain ⟨Y, hY⟩ : ∃ Y, Y = Kk.step (ww l) c k := ⟨_, rfl⟩
                rw [← hX] at hclk hcs ⊢
                rw [← hY] at hstl hne hbt hASk ⊢
                have hrq := fun d os => X6.out.rd.below (below_regrown w6 d os) (Nat.le_refl _)
                have r0 := fun d os => cell_regrown X6.out.bx.c0 d os
                have r1 := fun d os => cell_regrown X6.out.bx.c1 d os
                have hk64 : k < 64 := by omega
                have cX : ∀ d os, Calls Try.prog 35 #[.agg #[.int .i64 (c : Int), .slice at' c ct], .int .i64 (X : Int)] (Go.Sort.grow (redrawn w6 d) os) fun e w'' => e = .returned (.bool true) ∧ ∃ p : Regrown, w'' = Go.Sort.grow (redrawn w6 p.d) p.os :=
                  fun d os => Calls.regrown_of ((k_king at' ct X _ V.out (hrq d os) hclk.2).mono fun e w' ⟨he, hw⟩ => ⟨by rw [he, hclk.1], hw⟩)
                have cKg : ∀ d os, Calls Try.prog 35 #[.agg #[.int .i64 (c : Int), .slice at' c ct], .int .i64 (k : Int)] (Go.Sort.grow (redrawn w6 d) os) fun e w'' => e = .returned (.bool (Kk.kingN (ww l) c k)) ∧ ∃ p : Regrown, w'' = Go.Sort.grow (redrawn w6 p.d) p.os :=
                  fun d os => Calls.regrown_of (k_king at' ct k _ V.out (hrq d os) hlt)
                have hCC := hCK.out
                clear hCK hX hY
                cases hkg : Kk.kingN (ww l) c k
                · rw [hkg] at cKg hKbit hCC
                  have hYk := hne hkg
                  have hyk : ((Y : Int) == (k : Int)) = false := by rw [beq_eq_false_iff_ne]; omega
                  have hyk2 : ((Y : Int) != (k : Int)) = true := by rw [bne_iff_ne]; omega
                  have hyk3 : (Y == k) = false := by rw [beq_eq_false_iff_ne]; exact hYk
                  have hks : (((k : Nat) : Int) == Si) = false := by rw [hASk]; simp [hYk]
                  have cD : ∀ d os, Calls Try.prog 36 #[.agg #[.int .i64 (c : Int), .slice at' c ct], .int .i64 (Y : Int), .int .i64 (k : Int)] (Go.Sort.grow (redrawn w6 d) os) fun e w'' => e = .returned (.bool true) ∧ ∃ p : Regrown, w'' = Go.Sort.grow (redrawn w6 p.d) p.os :=
                    fun d os => Calls.regrown_of ((k_beat at' ct Y k _ V.out (hrq d os) hstl hlt).mono fun e w' ⟨he, hw⟩ => ⟨by rw [he, hbt hYk], hw⟩)
                  have hC2 : C = true := hCC
                  subst hC2
                  clear hkg hCC hcs hne hbt hclk hrq hva hASk
                  go_wp2
                  refine wp_region_quiet_below (by kernel_rfl) (by kernel_rfl) ?_
                  repeat (go_big_quiet_step (first | (with_reducible exact cKg _ _) | (with_reducible exact cX _ _) | (with_reducible exact cD _ _)))
                  refine wpQuiet_nil ?_
                  intro wq2 hw'
                  have hbq : Below w6.heap.size w6 wq2 := by obtain ⟨⟨dq, osq⟩, hw''⟩ := hw'; rw [hw'']; exact below_regrown w6 dq osq
                  have X7 := Lib.hid (X6.out.kept hbq)
                  clear hw' cKg cX cD r0 r1 hbq X6
                  go_wp2
                  go_roundw
                  case rel => exact ⟨k + 1, k, by omega, rfl, by go_num, hb2m, hb2x, X7.out⟩
                  case measure => simp [intOf]; omega
                · rw [hkg] at cKg hKbit hCC
                  have hC2 : C = false := hCC
                  subst hC2
                  have hXk := hcs hkg
                  have hxk : ((X : Int) == (k : Int)) = true := by rw [hXk]; simp
                  have hxk2 : ((X : Int) != (k : Int)) = false := by rw [hXk]; simp
                  have hxk3 : (X == k) = true := by rw [hXk]; simp
                  by_cases hYk : Y = k
                  · have hyk : ((Y : Int) == (k : Int)) = true := by rw [hYk]; simp
                    have hyk2 : ((Y : Int) != (k : Int)) = false := by rw [hYk]; simp
                    have hyk3 : (Y == k) = true := by rw [hYk]; simp
                    have hks : (((k : Nat) : Int) == Si) = true := by rw [hASk]; simp [hYk]
                    clear hkg hCC hcs hne hbt hclk hrq hva hASk hXk hYk
                    go_wp2
                    refine wp_region_quiet_below (by kernel_rfl) (by kernel_rfl) ?_
                    repeat (go_big_quiet_step (first | (with_reducible exact cKg _ _) | (with_reducible exact cX _ _)))
                    refine wpQuiet_nil ?_
                    intro wq2 hw'
                    have hbq : Below w6.heap.size w6 wq2 := by obtain ⟨⟨dq, osq⟩, hw''⟩ := hw'; rw [hw'']; exact below_regrown w6 dq osq
                    have X7 := Lib.hid (X6.out.kept hbq)
                    clear hw' cKg cX r0 r1 hbq X6
                    go_wp2
                    go_roundw
                    case rel => exact ⟨k + 1, k, by omega, rfl, by go_num, hb2m, hb2x, X7.out⟩
                    case measure => simp [intOf]; omega
                  · skip
                    have hyk : ((Y : Int) == (k : Int)) = false := by rw [beq_eq_false_iff_ne]; omega
                    have hyk2 : ((Y : Int) != (k : Int)) = true := by rw [bne_iff_ne]; omega
                    have hyk3 : (Y == k) = false := by rw [beq_eq_false_iff_ne]; exact hYk
                    have hks : (((k : Nat) : Int) == Si) = false := by rw [hASk]; simp [hYk]
                    have cD : ∀ d os, Calls Try.prog 36 #[.agg #[.int .i64 (c : Int), .slice at' c ct], .int .i64 (Y : Int), .int .i64 (k : Int)] (Go.Sort.grow (redrawn w6 d) os) fun e w'' => e = .returned (.bool true) ∧ ∃ p : Regrown, w'' = Go.Sort.grow (redrawn w6 p.d) p.os :=
                      fun d os => Calls.regrown_of ((k_beat at' ct Y k _ V.out (hrq d os) hstl hlt).mono fun e w' ⟨he, hw⟩ => ⟨by rw [he, hbt hYk], hw⟩)
                    clear hkg hCC hcs hne hbt hclk hrq hva hASk hXk
                    go_wp2
                    refine wp_region_quiet_below (by kernel_rfl) (by kernel_rfl) ?_
                    repeat (go_big_quiet_step (first | (with_reducible exact cKg _ _) | (with_reducible exact cX _ _) | (with_reducible exact cD _ _)))
                    refine wpQuiet_nil ?_
                    intro wq2 hw'
                    have hbq : Below w6.heap.size w6 wq2 := by obtain ⟨⟨dq, osq⟩, hw''⟩ := hw'; rw [hw'']; exact below_regrown w6 dq osq
                    have X7 := Lib.hid (X6.out.kept hbq)
                    clear hw' cKg cX cD r0 r1 hbq X6
                    go_wp2
                    go_roundw
                    case rel => exact ⟨k + 1, k, by omega, rfl, by go_num, hb2m, hb2x, X7.out⟩
                    case measure => simp [intOf]; omega
          · have hd : decide (y < x) = false := by simpa using hyx
            have hb2e : b2 = b := HYN.out hyx
            rw [hb2e] at hb2m hb2x
            clear HYX HYN hb2e
            go_wp2
            refine wp_region_quiet_below (by kernel_rfl) (by kernel_rfl) ?_
            repeat (go_big_quiet_step (first | (with_reducible exact cA _ _) | (with_reducible exact cB _ _)))
            refine wpQuiet_nil ?_
            intro wq hw'
            have hbq : Below wr.heap.size wr wq := by obtain ⟨⟨dq, osq⟩, hw''⟩ := hw'; rw [hw'']; exact below_regrown wr dq osq
            have Xq := Lib.hid (Xr.out.kept hbq)
            clear hw' cA cB r0 r1 hbq Xr hd hyx
            go_wp2
            go_loopw [10, 11] (fun cv ci wz => ∃ (c : Nat) (C : Bool), c ≤ m ∧ cv = .bool C ∧ ci = .int .i64 (c : Int) ∧ Hid (C = cvTo l k c) ∧ Hid (Kx w wz a len m l pt at' ct)) (fun _ i _ => m - (intOf i).toNat)
            case atStart => exact ⟨0, false, Nat.zero_le _, rfl, rfl, rfl, Xq.out⟩
            case round =>
              clear Xq
              obtain ⟨c, C, hc, rfl, rfl, hC, Xz⟩ := hrel
              have c0 := Xz.out.bx.c0
              have c1 := Xz.out.bx.c1
              by_cases hlc : c < m
              · have hcb : (c : Int) < (m : Int) := by omega
                cases C
                · have hn : Hid (cvB l c k = cvTo l k (c + 1)) := by show _ = _; simp only [cvTo]; rw [← hC.out]; rfl
                  go_wp2_with fail
                  refine (k_cov at' ct c k _ V.out Xz.out.rd hlc hlt).mono ?_
                  rintro e w5 ⟨rfl, hb5⟩
                  have Xn := Lib.hid (Xz.out.kept hb5)
                  clear c0 c1 hb5 Xz hC
                  go_wp2
                  go_roundw
                  case rel => exact ⟨c + 1, cvB l c k, by omega, rfl, by go_num, hn, Xn.out⟩
                  case measure => simp [intOf]; omega
                · have hn : Hid (true = cvTo l k (c + 1)) := by show _ = _; simp only [cvTo]; rw [← hC.out]; rfl
                  clear hC c0 c1
                  go_wp2
                  go_roundw
                  case rel => exact ⟨c + 1, true, by omega, rfl, by go_num, hn, Xz.out⟩
                  case measure => simp [intOf]; omega
              · obtain rfl : c = m := by omega
                have hCK : Hid (C = !Kk.kingN (ww l) c k) := hC.out.trans (cvTo_king V.out hlt)
                clear hC
                go_wp2_with fail
                refine (k_climb at' ct k _ V.out Xz.out.rd hlt).mono ?_
                rintro e w5 ⟨rfl, hb5⟩
                have X5 := Lib.hid (Xz.out.kept hb5)
                clear c0 c1 hb5 Xz
                have c0 := X5.out.bx.c0
                have c1 := X5.out.bx.c1
                go_wp2_with fail
                refine (k_step at' ct k _ V.out X5.out.rd hlt).mono ?_
                rintro e w6 ⟨rfl, hb6⟩
                have X6 := Lib.hid (X5.out.kept hb6)
                clear c0 c1 hb6 X5
                have hva := V.out.va
                have hclk := Kk.climb_king hva hlt
                have hstl := Kk.step_lt hva hlt
                have hKbit := HKb.out k hlt
                have hASk := HAS.out k hlt
                have hcs : Kk.kingN (ww l) c k = true → Kk.climb (ww l) c k = k := fun e => by unfold Kk.climb; rw [e]; rfl
                have hne : Kk.kingN (ww l) c k = false → Kk.step (ww l) c k ≠ k := fun e => (Kk.king_step hva hlt e).1
                have hbt : Kk.step (ww l) c k ≠ k → (ww l (Kk.step (ww l) c k)).testBit k = true := fun e => (Kk.step_beats hva hlt e).1
                obtain ⟨X, hX⟩ : ∃ X, X = Kk.climb (ww l) c k := ⟨_, rfl⟩
                obtain ⟨Y, hY⟩ : ∃ Y, Y = Kk.step (ww l) c k := ⟨_, rfl⟩
                rw [← hX] at hclk hcs ⊢
                rw [← hY] at hstl hne hbt hASk ⊢
                have hrq := fun d os => X6.out.rd.below (below_regrown w6 d os) (Nat.le_refl _)
                have r0 := fun d os => cell_regrown X6.out.bx.c0 d os
                have r1 := fun d os => cell_regrown X6.out.bx.c1 d os
                have hk64 : k < 64 := by omega
                have cX : ∀ d os, Calls Try.prog 35 #[.agg #[.int .i64 (c : Int), .slice at' c ct], .int .i64 (X : Int)] (Go.Sort.grow (redrawn w6 d) os) fun e w'' => e = .returned (.bool true) ∧ ∃ p : Regrown, w'' = Go.Sort.grow (redrawn w6 p.d) p.os :=
                  fun d os => Calls.regrown_of ((k_king at' ct X _ V.out (hrq d os) hclk.2).mono fun e w' ⟨he, hw⟩ => ⟨by rw [he, hclk.1], hw⟩)
                have cKg : ∀ d os, Calls Try.prog 35 #[.agg #[.int .i64 (c : Int), .slice at' c ct], .int .i64 (k : Int)] (Go.Sort.grow (redrawn w6 d) os) fun e w'' => e = .returned (.bool (Kk.kingN (ww l) c k)) ∧ ∃ p : Regrown, w'' = Go.Sort.grow (redrawn w6 p.d) p.os :=
                  fun d os => Calls.regrown_of (k_king at' ct k _ V.out (hrq d os) hlt)
                have hCC := hCK.out
                clear hCK hX hY
                cases hkg : Kk.kingN (ww l) c k
                · rw [hkg] at cKg hKbit hCC
                  have hYk := hne hkg
                  have hyk : ((Y : Int) == (k : Int)) = false := by rw [beq_eq_false_iff_ne]; omega
                  have hyk2 : ((Y : Int) != (k : Int)) = true := by rw [bne_iff_ne]; omega
                  have hyk3 : (Y == k) = false := by rw [beq_eq_false_iff_ne]; exact hYk
                  have hks : (((k : Nat) : Int) == Si) = false := by rw [hASk]; simp [hYk]
                  have cD : ∀ d os, Calls Try.prog 36 #[.agg #[.int .i64 (c : Int), .slice at' c ct], .int .i64 (Y : Int), .int .i64 (k : Int)] (Go.Sort.grow (redrawn w6 d) os) fun e w'' => e = .returned (.bool true) ∧ ∃ p : Regrown, w'' = Go.Sort.grow (redrawn w6 p.d) p.os :=
                    fun d os => Calls.regrown_of ((k_beat at' ct Y k _ V.out (hrq d os) hstl hlt).mono fun e w' ⟨he, hw⟩ => ⟨by rw [he, hbt hYk], hw⟩)
                  have hC2 : C = true := hCC
                  subst hC2
                  clear hkg hCC hcs hne hbt hclk hrq hva hASk
                  go_wp2
                  refine wp_region_quiet_below (by kernel_rfl) (by kernel_rfl) ?_
                  repeat (go_big_quiet_step (first | (with_reducible exact cKg _ _) | (with_reducible exact cX _ _) | (with_reducible exact cD _ _)))
                  refine wpQuiet_nil ?_
                  intro wq2 hw'
                  have hbq : Below w6.heap.size w6 wq2 := by obtain ⟨⟨dq, osq⟩, hw''⟩ := hw'; rw [hw'']; exact below_regrown w6 dq osq
                  have X7 := Lib.hid (X6.out.kept hbq)
                  clear hw' cKg cX cD r0 r1 hbq X6
                  go_wp2
                  go_roundw
                  case rel => exact ⟨k + 1, b, by omega, rfl, by go_num, hb2m, hb2x, X7.out⟩
                  case measure => simp [intOf]; omega
                · rw [hkg] at cKg hKbit hCC
                  have hC2 : C = false := hCC
                  subst hC2
                  have hXk := hcs hkg
                  have hxk : ((X : Int) == (k : Int)) = true := by rw [hXk]; simp
                  have hxk2 : ((X : Int) != (k : Int)) = false := by rw [hXk]; simp
                  have hxk3 : (X == k) = true := by rw [hXk]; simp
                  by_cases hYk : Y = k
                  · have hyk : ((Y : Int) == (k : Int)) = true := by rw [hYk]; simp
                    have hyk2 : ((Y : Int) != (k : Int)) = false := by rw [hYk]; simp
                    have hyk3 : (Y == k) = true := by rw [hYk]; simp
                    have hks : (((k : Nat) : Int) == Si) = true := by rw [hASk]; simp [hYk]
                    clear hkg hCC hcs hne hbt hclk hrq hva hASk hXk hYk
                    go_wp2
                    refine wp_region_quiet_below (by kernel_rfl) (by kernel_rfl) ?_
                    repeat (go_big_quiet_step (first | (with_reducible exact cKg _ _) | (with_reducible exact cX _ _)))
                    refine wpQuiet_nil ?_
                    intro wq2 hw'
                    have hbq : Below w6.heap.size w6 wq2 := by obtain ⟨⟨dq, osq⟩, hw''⟩ := hw'; rw [hw'']; exact below_regrown w6 dq osq
                    have X7 := Lib.hid (X6.out.kept hbq)
                    clear hw' cKg cX r0 r1 hbq X6
                    go_wp2
                    go_roundw
                    case rel => exact ⟨k + 1, b, by omega, rfl, by go_num, hb2m, hb2x, X7.out⟩
                    case measure => simp [intOf]; omega
                  · skip
                    have hyk : ((Y : Int) == (k : Int)) = false := by rw [beq_eq_false_iff_ne]; omega
                    have hyk2 : ((Y : Int) != (k : Int)) = true := by rw [bne_iff_ne]; omega
                    have hyk3 : (Y == k) = false := by rw [beq_eq_false_iff_ne]; exact hYk
                    have hks : (((k : Nat) : Int) == Si) = false := by rw [hASk]; simp [hYk]
                    have cD : ∀ d os, Calls Try.prog 36 #[.agg #[.int .i64 (c : Int), .slice at' c ct], .int .i64 (Y : Int), .int .i64 (k : Int)] (Go.Sort.grow (redrawn w6 d) os) fun e w'' => e = .returned (.bool true) ∧ ∃ p : Regrown, w'' = Go.Sort.grow (redrawn w6 p.d) p.os :=
                      fun d os => Calls.regrown_of ((k_beat at' ct Y k _ V.out (hrq d os) hstl hlt).mono fun e w' ⟨he, hw⟩ => ⟨by rw [he, hbt hYk], hw⟩)
                    clear hkg hCC hcs hne hbt hclk hrq hva hASk hXk
                    go_wp2
                    refine wp_region_quiet_below (by kernel_rfl) (by kernel_rfl) ?_
                    repeat (go_big_quiet_step (first | (with_reducible exact cKg _ _) | (with_reducible exact cX _ _) | (with_reducible exact cD _ _)))
                    refine wpQuiet_nil ?_
                    intro wq2 hw'
                    have hbq : Below w6.heap.size w6 wq2 := by obtain ⟨⟨dq, osq⟩, hw''⟩ := hw'; rw [hw'']; exact below_regrown w6 dq osq
                    have X7 := Lib.hid (X6.out.kept hbq)
                    clear hw' cKg cX cD r0 r1 hbq X6
                    go_wp2
                    go_roundw
                    case rel => exact ⟨k + 1, b, by omega, rfl, by go_num, hb2m, hb2x, X7.out⟩
                    case measure => simp [intOf]; omega
        · obtain rfl : k = m := by omega
          have hmk : Hid (Kk.kingN (ww l) k b = true) := Kk.max_king V.out.va hbm hmax.out
          have c0 := Xr.out.bx.c0
          have c1 := Xr.out.bx.c1
          clear hmax
          go_wp2_with fail
          refine (CLD.out wr Xr.out.rd).mono ?_
          rintro e w5 ⟨rfl, hb5⟩
          have X5 := Lib.hid (Xr.out.kept hb5)
          clear c0 c1 hb5 Xr
          have c0 := X5.out.bx.c0
          have c1 := X5.out.bx.c1
          go_wp2_with fail
          refine (k_king at' ct b w5 V.out X5.out.rd hbm).mono ?_
          rintro e w6 ⟨rfl, hb6⟩
          rw [hmk.out]
          have X6 := Lib.hid (X5.out.kept hb6)
          clear c0 c1 hb6 X5
          have c0 := X6.out.bx.c0
          have c1 := X6.out.bx.c1
          go_wp2_with fail
          refine (CDD.out w6 X6.out.rd).mono ?_
          rintro e w7 ⟨rfl, hb7⟩
          have X7 := Lib.hid (X6.out.kept hb7)
          clear c0 c1 hb7 X6
          rcases HTT.out with ⟨hpD1, hS0⟩ | ⟨hpD1, hS0⟩
          · go_wp2_with fail
            refine (CDB.out _).mono ?_
            rintro e w' ⟨rfl, rfl⟩
            go_wp2
            go_loopw [15] (fun ai wz => ∃ i : Nat, i ≤ k ∧ ai = .int .i64 (i : Int) ∧ Hid (Kx w wz a len k l pt at' ct)) (fun i _ => k - (intOf i).toNat)
            case atStart => exact ⟨0, Nat.zero_le _, rfl, X7.out⟩
            case round =>
              clear X7
              obtain ⟨i, hi, rfl, Xz⟩ := hrel
              by_cases hli : i < k
              · have hib : (i : Int) < (k : Int) := by omega
                have hi64 : i < 64 := by omega
                have hDbit := HDb.out i
                have hrq := fun d os => Xz.out.rd.below (below_regrown wr d os) (Nat.le_refl _)
                have r0 := fun d os => cell_regrown Xz.out.bx.c0 d os
                have r1 := fun d os => cell_regrown Xz.out.bx.c1 d os
                have cP : ∀ d os, Calls Try.prog 30 #[.int .i64 Di] (Go.Sort.grow (redrawn wr d) os) fun e w'' => e = .returned (.int .i64 pD) ∧ ∃ p : Regrown, w'' = Go.Sort.grow (redrawn wr p.d) p.os :=
                  fun d os => Calls.regrown_of ((CDB.out _).mono fun e w' ⟨he, hw⟩ => ⟨he, hw ▸ Below.refl _ _⟩)
                obtain ⟨pw, hpw⟩ : ∃ pw, pw = 2 ^ i := ⟨_, rfl⟩
                have hw64 : wrap64 (2 ^ i) = (pw : Int) := by rw [hpw]; exact wrapPow i (by omega)
                have hw642 : IntKind.i64.wrap (2 ^ i) = (pw : Int) := by rw [hpw]; exact wrapPow2 i (by omega)
                cases hbd : D.testBit i
                · rw [hbd] at hDbit
                  clear hbd hpw hrq
                  go_wp2
                  refine wp_region_quiet_below (by kernel_rfl) (by kernel_rfl) ?_
                  repeat (go_big_quiet_step (first | (with_reducible exact cP _ _)))
                  refine wpQuiet_nil ?_
                  intro wq hw'
                  have hbq : Below wr.heap.size wr wq := by obtain ⟨⟨dq, osq⟩, hw''⟩ := hw'; rw [hw'']; exact below_regrown wr dq osq
                  have Xq := Lib.hid (Xz.out.kept hbq)
                  clear hw' cP r0 r1 hbq Xz
                  go_wp2
                  go_roundw
                  case rel => exact ⟨i + 1, by omega, by go_num, Xq.out⟩
                  case measure => simp [intOf]; omega
                · rw [hbd] at hDbit
                  obtain ⟨h1, h2, h3⟩ := HDT.out i hli hbd
                  rw [← hpw] at h1 h2 h3
                  by_cases hp1 : (1 : Int) < pD
                  · have hd1 : decide ((1 : Int) < pD) = true := by simpa using hp1
                    obtain ⟨D2, hD2⟩ : ∃ D2, D2 = D - pw := ⟨_, rfl⟩
                    rw [← hD2] at h2 h3
                    have hsub : IntKind.i64.wrap (Di - (pw : Int)) = (D2 : Int) := subK D pw D2 Di HDI.out HD8.out h1 hD2
                    have cN : ∀ d os, Calls Try.prog 38 #[.agg #[.int .i64 (k : Int), .slice at' k ct], .int .i64 (D2 : Int)] (Go.Sort.grow (redrawn wr d) os) fun e w'' => e = .returned (.bool false) ∧ ∃ p : Regrown, w'' = Go.Sort.grow (redrawn wr p.d) p.os :=
                      fun d os => Calls.regrown_of ((k_dom at' ct D2 _ V.out (hrq d os) h3).mono fun e w' ⟨he, hw⟩ => ⟨by rw [he, h2], hw⟩)
                    clear hbd hpw hrq h1 h2 h3 hD2
                    go_wp2
                    refine wp_region_quiet_below (by kernel_rfl) (by kernel_rfl) ?_
                    repeat (go_big_quiet_step (first | (with_reducible exact cP _ _) | (with_reducible exact cN _ _)))
                    refine wpQuiet_nil ?_
                    intro wq hw'
                    have hbq : Below wr.heap.size wr wq := by obtain ⟨⟨dq, osq⟩, hw''⟩ := hw'; rw [hw'']; exact below_regrown wr dq osq
                    have Xq := Lib.hid (Xz.out.kept hbq)
                    clear hw' cP cN r0 r1 hbq Xz
                    go_wp2
                    go_roundw
                    case rel => exact ⟨i + 1, by omega, by go_num, Xq.out⟩
                    case measure => simp [intOf]; omega
                  · have hd1 : decide ((1 : Int) < pD) = false := by simpa using hp1
                    clear hbd hpw hrq h1 h2 h3
                    go_wp2
                    refine wp_region_quiet_below (by kernel_rfl) (by kernel_rfl) ?_
                    repeat (go_big_quiet_step (first | (with_reducible exact cP _ _)))
                    refine wpQuiet_nil ?_
                    intro wq hw'
                    have hbq : Below wr.heap.size wr wq := by obtain ⟨⟨dq, osq⟩, hw''⟩ := hw'; rw [hw'']; exact below_regrown wr dq osq
                    have Xq := Lib.hid (Xz.out.kept hbq)
                    clear hw' cP r0 r1 hbq Xz
                    go_wp2
                    go_roundw
                    case rel => exact ⟨i + 1, by omega, by go_num, Xq.out⟩
                    case measure => simp [intOf]; omega
              · obtain rfl : i = k := by omega
                go_wp2_with fail
                refine (makeNum_any _ _ a len cap 30 (by omega) hl20 (Nat.le_refl _) (Xz.out.ro.mono Xz.out.hb.size)).mono ?_
                rintro e w8 ⟨x, hx, rfl, hb8⟩
                obtain ⟨r, hr, hr4⟩ := modK x 4 (by omega)
                have hr' : (x : Int) % 4 = (r : Int) := hr
                obtain ⟨n, hn⟩ : ∃ n, n = 1 + r := ⟨_, rfl⟩
                have hn4 : n ≤ 4 := by omega
                have hn1 : 1 ≤ n := by omega
                have hnr : (1 : Int) + (r : Int) = (n : Int) := by omega
                have X8 := Lib.hid (Xz.out.kept hb8)
                have hrt : (x : Int).tmod 4 = (r : Int) := by rw [Int.tmod_eq_emod_of_nonneg (Int.natCast_nonneg _)]; exact hr'
                have hr3 : (r : Int) ≤ 3 := by omega
                clear hb8 Xz hr hn
                obtain ⟨ht1, ht2⟩ := kings_tot hn1 hn4
                obtain ⟨P, hP⟩ : ∃ P, P = 2 ^ Tmpm.prN n := ⟨_, rfl⟩
                have hP64 : P ≤ 1024 := by
                  rw [hP]
                  have : ∀ m : Fin 6, 2 ^ Tmpm.prN m.val ≤ 1024 := by decide +kernel
                  exact this ⟨n, by omega⟩
                have hpw := (wrapPow10 _ (prN_le (show n ≤ 5 by omega))).1
                have hw1 : wrap64 ((n : Int) * ((n : Int) - 1)) = ((n * (n - 1) : Nat) : Int) := by
                  have : ∀ x : Fin 6, 1 ≤ x.val → wrap64 ((x.val : Int) * ((x.val : Int) - 1)) = ((x.val * (x.val - 1) : Nat) : Int) := by decide +kernel
                  exact this ⟨n, by omega⟩ hn1
                have hw2 : ((n * (n - 1) : Nat) : Int).tdiv 2 = ((Tmpm.prN n : Nat) : Int) := by
                  have : ∀ x : Fin 6, 1 ≤ x.val → ((x.val * (x.val - 1) : Nat) : Int).tdiv 2 = ((Tmpm.prN x.val : Nat) : Int) := by decide +kernel
                  exact this ⟨n, by omega⟩ hn1
                obtain ⟨pn, hpn⟩ : ∃ pn, pn = Tmpm.prN n := ⟨_, rfl⟩
                have hpn10 : pn ≤ 10 := by rw [hpn]; exact prN_le (by omega)
                obtain ⟨mm, hmm⟩ : ∃ mm, mm = n * (n - 1) := ⟨_, rfl⟩
                have hmm20 : mm ≤ 20 := by
                  rw [hmm]
                  have : ∀ x : Fin 6, x.val * (x.val - 1) ≤ 20 := by decide +kernel
                  exact this ⟨n, by omega⟩
                rw [← hP] at hpw ht1
                rw [← hpn] at hpw hw2
                rw [← hmm] at hw1 hw2
                have HT1 := Lib.hid ht1
                have HT2 := Lib.hid ht2
                have HW1 := Lib.hid hw1
                have HW2 := Lib.hid hw2
                have HPW := Lib.hid hpw
                have HP0 := Lib.hid hP
                clear ht1 ht2 hP hpn hmm hw1 hw2 hpw
                go_wp2
                go_loopw [16, 18] (fun tt ii wz => ∃ j q : Nat, j ≤ n + 1 ∧ tt = .int .i64 (q : Int) ∧ ii = .int .i64 (j : Int) ∧ q ≤ 1024 ∧ Hid (q = sm (fun k => cntK tourL n k) j) ∧ Hid (Kx w wz a len i l pt at' ct)) (fun _ ii _ => n + 1 - (intOf ii).toNat)
                case atStart => exact ⟨0, 0, Nat.zero_le _, rfl, rfl, by omega, rfl, X8.out⟩
                case round =>
                  clear X8
                  obtain ⟨j, q, hj, rfl, rfl, hq, hqs, Xy⟩ := hrel
                  by_cases hlj : j ≤ n
                  · have hjb : (j : Int) ≤ (n : Int) := by omega
                    have hlo := sm_le (fun k => cntK tourL n k) (show j + 1 ≤ n + 1 by omega)
                    rw [HT1.out] at hlo
                    obtain ⟨cj, hcj⟩ : ∃ cj, cj = cntK tourL n j := ⟨_, rfl⟩
                    have hs : sm (fun k => cntK tourL n k) (j + 1) = q + cj := by simp only [sm]; rw [← hqs.out, hcj]
                    have hqc : q + cj ≤ 1024 := by omega
                    have hns : Hid (q + cj = sm (fun k => cntK tourL n k) (j + 1)) := hs.symm
                    have HCJ := Lib.hid hcj
                    clear hlo hs hqs hcj
                    go_wp2_with fail
                    refine (k_count n j _ hn1 (by omega) hlj).mono ?_
                    rintro e w9 ⟨rfl, hb9⟩
                    rw [← HCJ.out]
                    have X9 := Lib.hid (Xy.out.kept hb9)
                    clear hb9 Xy
                    go_wp2
                    go_roundw
                    case rel => exact ⟨j + 1, q + cj, by omega, by go_num, by go_num, hqc, hns, X9.out⟩
                    case measure => simp [intOf]; omega
                  · obtain rfl : j = n + 1 := by omega
                    have hqP : q = P := by rw [hqs.out]; exact HT1.out
                    subst hqP
                    have hjb : ¬ ((n + 1 : Nat) : Int) ≤ (n : Int) := by omega
                    have c0 := Xy.out.bx.c0
                    have c1 := Xy.out.bx.c1
                    have hw1 := HW1.out
                    have hw2 := HW2.out
                    have hpw := HPW.out
                    by_cases hn2 : (n : Int) < 2
                    · go_wp2_with fail
                      refine (CKD.out _ Xy.out.rd).mono ?_
                      rintro e w9 ⟨rfl, hb9⟩
                      have X9 := Lib.hid (Xy.out.kept hb9)
                      clear hb9 Xy c0 c1
                      go_wp2
                      go_ret
                      exact ⟨rfl, X9.out.hb⟩
                    · have hc2 : Hid (cntK tourL n 2 = 0) := HT2.out (by omega)
                      go_wp2_with fail
                      refine (CKD.out _ Xy.out.rd).mono ?_
                      rintro e w9 ⟨rfl, hb9⟩
                      have X9 := Lib.hid (Xy.out.kept hb9)
                      clear hb9 Xy c0 c1
                      go_wp2_with fail
                      refine (k_count n 2 _ hn1 (by omega) (by omega)).mono ?_
                      rintro e w10 ⟨rfl, hb10⟩
                      rw [hc2.out]
                      have X10 := Lib.hid (X9.out.kept hb10)
                      clear hb10 X9
                      go_wp2
                      go_ret
                      exact ⟨rfl, X10.out.hb⟩
          · go_wp2_with fail
            refine (CDB.out _).mono ?_
            rintro e w' ⟨rfl, rfl⟩
            go_wp2
            go_loopw [15] (fun ai wz => ∃ i : Nat, i ≤ k ∧ ai = .int .i64 (i : Int) ∧ Hid (Kx w wz a len k l pt at' ct)) (fun i _ => k - (intOf i).toNat)
            case atStart => exact ⟨0, Nat.zero_le _, rfl, X7.out⟩
            case round =>
              clear X7
              obtain ⟨i, hi, rfl, Xz⟩ := hrel
              by_cases hli : i < k
              · have hib : (i : Int) < (k : Int) := by omega
                have hi64 : i < 64 := by omega
                have hDbit := HDb.out i
                have hrq := fun d os => Xz.out.rd.below (below_regrown wr d os) (Nat.le_refl _)
                have r0 := fun d os => cell_regrown Xz.out.bx.c0 d os
                have r1 := fun d os => cell_regrown Xz.out.bx.c1 d os
                have cP : ∀ d os, Calls Try.prog 30 #[.int .i64 Di] (Go.Sort.grow (redrawn wr d) os) fun e w'' => e = .returned (.int .i64 pD) ∧ ∃ p : Regrown, w'' = Go.Sort.grow (redrawn wr p.d) p.os :=
                  fun d os => Calls.regrown_of ((CDB.out _).mono fun e w' ⟨he, hw⟩ => ⟨he, hw ▸ Below.refl _ _⟩)
                obtain ⟨pw, hpw⟩ : ∃ pw, pw = 2 ^ i := ⟨_, rfl⟩
                have hw64 : wrap64 (2 ^ i) = (pw : Int) := by rw [hpw]; exact wrapPow i (by omega)
                have hw642 : IntKind.i64.wrap (2 ^ i) = (pw : Int) := by rw [hpw]; exact wrapPow2 i (by omega)
                cases hbd : D.testBit i
                · rw [hbd] at hDbit
                  clear hbd hpw hrq
                  go_wp2
                  refine wp_region_quiet_below (by kernel_rfl) (by kernel_rfl) ?_
                  repeat (go_big_quiet_step (first | (with_reducible exact cP _ _)))
                  refine wpQuiet_nil ?_
                  intro wq hw'
                  have hbq : Below wr.heap.size wr wq := by obtain ⟨⟨dq, osq⟩, hw''⟩ := hw'; rw [hw'']; exact below_regrown wr dq osq
                  have Xq := Lib.hid (Xz.out.kept hbq)
                  clear hw' cP r0 r1 hbq Xz
                  go_wp2
                  go_roundw
                  case rel => exact ⟨i + 1, by omega, by go_num, Xq.out⟩
                  case measure => simp [intOf]; omega
                · rw [hbd] at hDbit
                  obtain ⟨h1, h2, h3⟩ := HDT.out i hli hbd
                  rw [← hpw] at h1 h2 h3
                  by_cases hp1 : (1 : Int) < pD
                  · have hd1 : decide ((1 : Int) < pD) = true := by simpa using hp1
                    obtain ⟨D2, hD2⟩ : ∃ D2, D2 = D - pw := ⟨_, rfl⟩
                    rw [← hD2] at h2 h3
                    have hsub : IntKind.i64.wrap (Di - (pw : Int)) = (D2 : Int) := subK D pw D2 Di HDI.out HD8.out h1 hD2
                    have cN : ∀ d os, Calls Try.prog 38 #[.agg #[.int .i64 (k : Int), .slice at' k ct], .int .i64 (D2 : Int)] (Go.Sort.grow (redrawn wr d) os) fun e w'' => e = .returned (.bool false) ∧ ∃ p : Regrown, w'' = Go.Sort.grow (redrawn wr p.d) p.os :=
                      fun d os => Calls.regrown_of ((k_dom at' ct D2 _ V.out (hrq d os) h3).mono fun e w' ⟨he, hw⟩ => ⟨by rw [he, h2], hw⟩)
                    clear hbd hpw hrq h1 h2 h3 hD2
                    go_wp2
                    refine wp_region_quiet_below (by kernel_rfl) (by kernel_rfl) ?_
                    repeat (go_big_quiet_step (first | (with_reducible exact cP _ _) | (with_reducible exact cN _ _)))
                    refine wpQuiet_nil ?_
                    intro wq hw'
                    have hbq : Below wr.heap.size wr wq := by obtain ⟨⟨dq, osq⟩, hw''⟩ := hw'; rw [hw'']; exact below_regrown wr dq osq
                    have Xq := Lib.hid (Xz.out.kept hbq)
                    clear hw' cP cN r0 r1 hbq Xz
                    go_wp2
                    go_roundw
                    case rel => exact ⟨i + 1, by omega, by go_num, Xq.out⟩
                    case measure => simp [intOf]; omega
                  · have hd1 : decide ((1 : Int) < pD) = false := by simpa using hp1
                    clear hbd hpw hrq h1 h2 h3
                    go_wp2
                    refine wp_region_quiet_below (by kernel_rfl) (by kernel_rfl) ?_
                    repeat (go_big_quiet_step (first | (with_reducible exact cP _ _)))
                    refine wpQuiet_nil ?_
                    intro wq hw'
                    have hbq : Below wr.heap.size wr wq := by obtain ⟨⟨dq, osq⟩, hw''⟩ := hw'; rw [hw'']; exact below_regrown wr dq osq
                    have Xq := Lib.hid (Xz.out.kept hbq)
                    clear hw' cP r0 r1 hbq Xz
                    go_wp2
                    go_roundw
                    case rel => exact ⟨i + 1, by omega, by go_num, Xq.out⟩
                    case measure => simp [intOf]; omega
              · obtain rfl : i = k := by omega
                go_wp2_with fail
                refine (makeNum_any _ _ a len cap 30 (by omega) hl20 (Nat.le_refl _) (Xz.out.ro.mono Xz.out.hb.size)).mono ?_
                rintro e w8 ⟨x, hx, rfl, hb8⟩
                obtain ⟨r, hr, hr4⟩ := modK x 4 (by omega)
                have hr' : (x : Int) % 4 = (r : Int) := hr
                obtain ⟨n, hn⟩ : ∃ n, n = 1 + r := ⟨_, rfl⟩
                have hn4 : n ≤ 4 := by omega
                have hn1 : 1 ≤ n := by omega
                have hnr : (1 : Int) + (r : Int) = (n : Int) := by omega
                have X8 := Lib.hid (Xz.out.kept hb8)
                have hrt : (x : Int).tmod 4 = (r : Int) := by rw [Int.tmod_eq_emod_of_nonneg (Int.natCast_nonneg _)]; exact hr'
                have hr3 : (r : Int) ≤ 3 := by omega
                clear hb8 Xz hr hn
                obtain ⟨ht1, ht2⟩ := kings_tot hn1 hn4
                obtain ⟨P, hP⟩ : ∃ P, P = 2 ^ Tmpm.prN n := ⟨_, rfl⟩
                have hP64 : P ≤ 1024 := by
                  rw [hP]
                  have : ∀ m : Fin 6, 2 ^ Tmpm.prN m.val ≤ 1024 := by decide +kernel
                  exact this ⟨n, by omega⟩
                have hpw := (wrapPow10 _ (prN_le (show n ≤ 5 by omega))).1
                have hw1 : wrap64 ((n : Int) * ((n : Int) - 1)) = ((n * (n - 1) : Nat) : Int) := by
                  have : ∀ x : Fin 6, 1 ≤ x.val → wrap64 ((x.val : Int) * ((x.val : Int) - 1)) = ((x.val * (x.val - 1) : Nat) : Int) := by decide +kernel
                  exact this ⟨n, by omega⟩ hn1
                have hw2 : ((n * (n - 1) : Nat) : Int).tdiv 2 = ((Tmpm.prN n : Nat) : Int) := by
                  have : ∀ x : Fin 6, 1 ≤ x.val → ((x.val * (x.val - 1) : Nat) : Int).tdiv 2 = ((Tmpm.prN x.val : Nat) : Int) := by decide +kernel
                  exact this ⟨n, by omega⟩ hn1
                obtain ⟨pn, hpn⟩ : ∃ pn, pn = Tmpm.prN n := ⟨_, rfl⟩
                have hpn10 : pn ≤ 10 := by rw [hpn]; exact prN_le (by omega)
                obtain ⟨mm, hmm⟩ : ∃ mm, mm = n * (n - 1) := ⟨_, rfl⟩
                have hmm20 : mm ≤ 20 := by
                  rw [hmm]
                  have : ∀ x : Fin 6, x.val * (x.val - 1) ≤ 20 := by decide +kernel
                  exact this ⟨n, by omega⟩
                rw [← hP] at hpw ht1
                rw [← hpn] at hpw hw2
                rw [← hmm] at hw1 hw2
                have HT1 := Lib.hid ht1
                have HT2 := Lib.hid ht2
                have HW1 := Lib.hid hw1
                have HW2 := Lib.hid hw2
                have HPW := Lib.hid hpw
                have HP0 := Lib.hid hP
                clear ht1 ht2 hP hpn hmm hw1 hw2 hpw
                go_wp2
                go_loopw [16, 18] (fun tt ii wz => ∃ j q : Nat, j ≤ n + 1 ∧ tt = .int .i64 (q : Int) ∧ ii = .int .i64 (j : Int) ∧ q ≤ 1024 ∧ Hid (q = sm (fun k => cntK tourL n k) j) ∧ Hid (Kx w wz a len i l pt at' ct)) (fun _ ii _ => n + 1 - (intOf ii).toNat)
                case atStart => exact ⟨0, 0, Nat.zero_le _, rfl, rfl, by omega, rfl, X8.out⟩
                case round =>
                  clear X8
                  obtain ⟨j, q, hj, rfl, rfl, hq, hqs, Xy⟩ := hrel
                  by_cases hlj : j ≤ n
                  · have hjb : (j : Int) ≤ (n : Int) := by omega
                    have hlo := sm_le (fun k => cntK tourL n k) (show j + 1 ≤ n + 1 by omega)
                    rw [HT1.out] at hlo
                    obtain ⟨cj, hcj⟩ : ∃ cj, cj = cntK tourL n j := ⟨_, rfl⟩
                    have hs : sm (fun k => cntK tourL n k) (j + 1) = q + cj := by simp only [sm]; rw [← hqs.out, hcj]
                    have hqc : q + cj ≤ 1024 := by omega
                    have hns : Hid (q + cj = sm (fun k => cntK tourL n k) (j + 1)) := hs.symm
                    have HCJ := Lib.hid hcj
                    clear hlo hs hqs hcj
                    go_wp2_with fail
                    refine (k_count n j _ hn1 (by omega) hlj).mono ?_
                    rintro e w9 ⟨rfl, hb9⟩
                    rw [← HCJ.out]
                    have X9 := Lib.hid (Xy.out.kept hb9)
                    clear hb9 Xy
                    go_wp2
                    go_roundw
                    case rel => exact ⟨j + 1, q + cj, by omega, by go_num, by go_num, hqc, hns, X9.out⟩
                    case measure => simp [intOf]; omega
                  · obtain rfl : j = n + 1 := by omega
                    have hqP : q = P := by rw [hqs.out]; exact HT1.out
                    subst hqP
                    have hjb : ¬ ((n + 1 : Nat) : Int) ≤ (n : Int) := by omega
                    have c0 := Xy.out.bx.c0
                    have c1 := Xy.out.bx.c1
                    have hw1 := HW1.out
                    have hw2 := HW2.out
                    have hpw := HPW.out
                    by_cases hn2 : (n : Int) < 2
                    · go_wp2_with fail
                      refine (CKD.out _ Xy.out.rd).mono ?_
                      rintro e w9 ⟨rfl, hb9⟩
                      have X9 := Lib.hid (Xy.out.kept hb9)
                      clear hb9 Xy c0 c1
                      go_wp2
                      go_ret
                      exact ⟨rfl, X9.out.hb⟩
                    · have hc2 : Hid (cntK tourL n 2 = 0) := HT2.out (by omega)
                      go_wp2_with fail
                      refine (CKD.out _ Xy.out.rd).mono ?_
                      rintro e w9 ⟨rfl, hb9⟩
                      have X9 := Lib.hid (Xy.out.kept hb9)
                      clear hb9 Xy c0 c1
                      go_wp2_with fail
                      refine (k_count n 2 _ hn1 (by omega) (by omega)).mono ?_
                      rintro e w10 ⟨rfl, hb10⟩
                      rw [hc2.out]
                      have X10 := Lib.hid (X9.out.kept hb10)
                      clear hb10 X9
                      go_wp2
                      go_ret
                      exact ⟨rfl, X10.out.hb⟩
    clear hK2 X4
    rcases HT.out with ⟨hpK1, _, hKB, hpB1, hS0⟩ | ⟨hpK1, _, hS0, ⟨hKB, hpB1⟩ | hKB⟩
    · refine (CK.out _).mono ?_
      rintro e w' ⟨rfl, rfl⟩
      go_wp2_with fail
      refine (CK.out _).mono ?_
      rintro e w' ⟨rfl, rfl⟩
      go_wp2_with fail
      refine (CB.out _).mono ?_
      rintro e w' ⟨rfl, rfl⟩
      go_wp2
      try simp only [hdK, hdB, Bool.or_self, Bool.or_false, Bool.false_or, Bool.and_true, Bool.and_false, Bool.bne_false, Bool.bne_true, Bool.not_true, Bool.not_false, bne_self_eq_false]
      exact REST _ _ _ _ _ _ _ _ _ _ _ _ _ _ _ _ _ _ _ _ _ _ _ _ _ _ _ _ _ _ _ _ _ _ _ _ _
    · have hdS : decide (0 ≤ Si) = false := decide_eq_false (by omega)
      refine (CK.out _).mono ?_
      rintro e w' ⟨rfl, rfl⟩
      go_wp2_with fail
      refine (CK.out _).mono ?_
      rintro e w' ⟨rfl, rfl⟩
      go_wp2_with fail
      refine (CB.out _).mono ?_
      rintro e w' ⟨rfl, rfl⟩
      go_wp2
      try simp only [hdK, hdB, Bool.or_self, Bool.or_false, Bool.false_or, Bool.and_true, Bool.and_false, Bool.bne_false, Bool.bne_true, Bool.not_true, Bool.not_false, bne_self_eq_false]
      exact REST _ _ _ _ _ _ _ _ _ _ _ _ _ _ _ _ _ _ _ _ _ _ _ _ _ _ _ _ _ _ _ _ _ _ _ _ _
    · have hdS : decide (0 ≤ Si) = false := decide_eq_false (by omega)
      refine (CK.out _).mono ?_
      rintro e w' ⟨rfl, rfl⟩
      go_wp2_with fail
      refine (CK.out _).mono ?_
      rintro e w' ⟨rfl, rfl⟩
      go_wp2
      try simp only [hdK, hdB, Bool.or_self, Bool.or_false, Bool.false_or, Bool.and_true, Bool.and_false, Bool.bne_false, Bool.bne_true, Bool.not_true, Bool.not_false, bne_self_eq_false]
      exact REST _ _ _ _ _ _ _ _ _ _ _ _ _ _ _ _ _ _ _ _ _ _ _ _ _ _ _ _ _ _ _ _ _ _ _ _ _
end Go.Proofs.Ytgjogbihadiojaa
