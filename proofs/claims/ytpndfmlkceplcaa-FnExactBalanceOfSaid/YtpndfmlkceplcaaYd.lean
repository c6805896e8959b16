/-
  The model's 'l10Balance' and 'l10Safe'; 'BalanceOf', 'IsSafe', 'BestAnswer' of the model. No conditions on the three but the bounds that Go gives a slice.
-/
import Derived.Test.YtpndfmlkceplcaaYb
import Derived.Test.YtpndfmlkceplcaaE
namespace Go.Proofs.Ytpndfmlkceplcaa
open Go.ChangeShapes Go.WideShapes Go.ChangeAt Go.RowKit
set_option linter.unusedVariables false

theorem balZ_def (l ns : List Int) (b : Nat) : balZ l ns b = balT (bt l) (fun i => ns.getD i 0) b l.length := rfl
theorem balT_succ (q : Nat → Nat → Bool) (x : Nat → Int) (b k : Nat) : balT q x b (k + 1) = balT q x b k + ((if q k b = true then x k else 0) - (if q b k = true then x k else 0)) := rfl

set_option maxHeartbeats 2000000 in
theorem l10Balance_any (n : Int) (a : Option Addr) (l : List Int) (cap : Nat) (an : Option Addr) (ns : List Int) (cn b : Nat) (w : World) (hrow : IntRow w a l) (hok : Ok n l) (hrn : IntRow w an ns) (hlen : ns.length = l.length) (hall : ns.all wOk = true) (hb : b < l.length) :
    Calls Try.prog 84 #[.agg #[.int .i64 n, .slice a l.length cap], .slice an l.length cn, .int .i64 (b : Int)] w fun e w' => e = .returned (.int .i64 (balZ l ns b)) ∧ Below w.heap.size w w' := by
  obtain ⟨Wa, hWa⟩ : ∃ Wa, Wa = w.alloc (.cells #[.int .i64 n, .slice a l.length cap] 27) := ⟨_, rfl⟩
  have HWa := Lib.hid hWa
  have hba : Below w.heap.size w Wa := by rw [hWa]; exact (Below.refl _ _).alloc (Nat.le_refl _) _
  have xa : Box Wa w.heap.size 27 (.int .i64 n) (.slice a l.length cap) := by rw [hWa]; exact Box.new _ _ _ _
  obtain rfl : n = (l.length : Int) := hok.2.2.1.symm
  have h8 : l.length ≤ 8 := by have := hok.2.1; omega
  have hm64 : l.length ≤ maxLen := by unfold maxLen; omega
  have RA := hrow.below hba (Nat.le_refl _)
  have RN := Lib.hid (hrn.below hba (Nat.le_refl _))
  have HBT : Hid (∀ (i j : Nat) (W : World), Below Wa.heap.size Wa W → i < l.length → j < l.length → Calls Try.prog 143 #[.agg #[.int .i64 (l.length : Int), .slice a l.length cap], .int .i64 i, .int .i64 j] W fun e w' => e = .returned (.bool (bt l i j)) ∧ Below W.heap.size W w') := fun i j W hW hi hj => l02Beats_any _ a l cap i j W (RA.below hW (Nat.le_refl _)) hm64 hi (by omega)
  have HBX : Hid (∀ W, Below Wa.heap.size Wa W → Box W w.heap.size 27 (.int .i64 (l.length : Int)) (.slice a l.length cap)) := fun W hW => xa.below hW xa.lt
  have BA := Lib.hid hba
  obtain ⟨x, hx⟩ : ∃ x : Nat → Int, x = fun i => ns.getD i 0 := ⟨_, rfl⟩
  have HXB : Hid (∀ i, i < l.length → 0 ≤ x i ∧ x i ≤ 100000) := fun i hi => by rw [hx]; exact all_at hall i (by omega)
  have HR : Hid (∀ (k : Nat) (W : World), Below Wa.heap.size Wa W → k < l.length → ∃ bb off, an = some ⟨bb, off, none⟩ ∧ W.cell? ⟨bb, off + k, none⟩ = some (.int .i64 (x k))) := fun k W hW hk => by
    obtain ⟨bb, off, e, _, hc⟩ := (RN.out.below hW (Nat.le_refl _)).at (show k < ns.length by omega)
    exact ⟨bb, off, e, by rw [hx]; exact hc⟩
  have HE : Hid (balZ l ns b = balT (bt l) x b l.length) := by show _ = _; rw [hx]; rfl
  rw [HE.out]
  have c0 := xa.c0
  have c1 := xa.c1
  obtain ⟨m, hm⟩ : ∃ m, m = l.length := ⟨_, rfl⟩
  rw [← hm] at HBT HBX HXB HR HWa h8 hb c0 c1 ⊢
  clear hrow hok hrn hlen hall hWa hba xa RA hx HE hm hm64 RN
  go_enter Try.func84, Try.ntmps84
  go_wp2
  rw [← HWa.out]
  clear c0 c1
  go_loopw [7, 12] (fun s i wr => ∃ k : Nat, k ≤ m ∧ i = .int .i64 k ∧ s = .int .i64 (balT (bt l) x b k) ∧ Hid (Below Wa.heap.size Wa wr)) (fun _ i _ => m - (intOf i).toNat)
  case atStart => exact ⟨0, Nat.zero_le _, rfl, rfl, Below.refl _ _⟩
  case round =>
    obtain ⟨k, hk, rfl, rfl, B1⟩ := hrel
    by_cases hlt : k < m
    · have hki : (k : Int) < (m : Int) := by omega
      obtain ⟨bb, off, rfl, hc⟩ := HR.out k wr B1.out hlt
      have hbd := balT_bd (bt l) x b k (fun i hi => HXB.out i (by omega))
      have hxb := HXB.out k hlt
      have HS : Hid (balT (bt l) x b (k + 1) = balT (bt l) x b k + ((if bt l k b = true then x k else 0) - (if bt l b k = true then x k else 0))) := balT_succ _ _ _ _
      have HC1 := Lib.hid (HBT.out k b wr B1.out hlt hb)
      obtain ⟨s, hs⟩ : ∃ s, s = balT (bt l) x b k := ⟨_, rfl⟩
      obtain ⟨v, hv⟩ : ∃ v, v = x k := ⟨_, rfl⟩
      rw [← hs] at hbd HS ⊢
      rw [← hv] at hxb hc HS
      have hsb : -800000 ≤ s ∧ s ≤ 800000 := by omega
      have c0 := (HBX.out wr B1.out).c0
      have c1 := (HBX.out wr B1.out).c1
      obtain ⟨q1, hq1⟩ : ∃ q, q = bt l k b := ⟨_, rfl⟩
      obtain ⟨q2, hq2⟩ : ∃ q, q = bt l b k := ⟨_, rfl⟩
      have HQ1 := Lib.hid hq1
      have HQ2 := Lib.hid hq2
      clear hs hv hq1 hq2 hbd
      cases q1 <;> cases q2 <;>
      · go_wp2_with fail
        refine HC1.out.mono ?_
        rintro e w2 ⟨rfl, hb2⟩
        rw [← HQ1.out]
        have B2 : Hid (Below Wa.heap.size Wa w2) := B1.out.trans (hb2.mono B1.out.size)
        clear c0 c1 hc hb2
        have c0 := (HBX.out w2 B2.out).c0
        have c1 := (HBX.out w2 B2.out).c1
        have HC2 := Lib.hid (HBT.out b k w2 B2.out hb hlt)
        go_wp2_with fail
        refine HC2.out.mono ?_
        rintro e w3 ⟨rfl, hb3⟩
        rw [← HQ2.out]
        have B3 : Hid (Below Wa.heap.size Wa w3) := B2.out.trans (hb3.mono B2.out.size)
        clear c0 c1 hb3
        go_wp2
        go_roundw
        case rel => exact ⟨k + 1, by omega, by go_num, by rw [HS.out, ← HQ1.out, ← HQ2.out]; simp <;> omega, B3⟩
        case measure => simp [intOf]; omega
    · obtain rfl : k = m := by omega
      go_wp2
      go_ret
      exact ⟨rfl, BA.out.trans (B1.out.mono BA.out.size)⟩

theorem balR_no {n : Int} {l ns : List Int} (h : stB n l ns = false) (b : Int) : balR n l ns b = 0 := by unfold balR; rw [if_neg]; simp [h]
theorem l01In_of (x lo hi : Int) (w : World) (q : Bool) (h : (decide (lo ≤ x) && decide (x ≤ hi)) = q) : Calls Try.prog 80 #[.int .i64 x, .int .i64 lo, .int .i64 hi] w fun e w' => e = .returned (.bool q) ∧ w = w' := by
  rw [← h]; exact l01In_any x lo hi w

set_option maxHeartbeats 1000000 in
theorem specBalanceOf (n : Int) (a : Option Addr) (l : List Int) (cap : Nat) (an : Option Addr) (ns : List Int) (cn : Nat) (b : Int) (w : World) (hrow : IntRow w a l) (hl : l.length ≤ maxLen) (hrn : IntRow w an ns) (hn : ns.length ≤ maxLen) :
    Calls Try.prog 19 #[.agg #[.int .i64 n, .slice a l.length cap], .slice an ns.length cn, .int .i64 b] w fun e w' => e = .returned (.int .i64 (balR n l ns b)) ∧ Below w.heap.size w w' := by
  obtain ⟨Wa, hWa⟩ : ∃ Wa, Wa = w.alloc (.cells #[.int .i64 n, .slice a l.length cap] 27) := ⟨_, rfl⟩
  have HWa := Lib.hid hWa
  have hba : Below w.heap.size w Wa := by rw [hWa]; exact (Below.refl _ _).alloc (Nat.le_refl _) _
  have xa : Box Wa w.heap.size 27 (.int .i64 n) (.slice a l.length cap) := by rw [hWa]; exact Box.new _ _ _ _
  have HC := Lib.hid (specStrategyOk n a l cap an ns cn Wa (hrow.below hba (Nat.le_refl _)) hl (hrn.below hba (Nat.le_refl _)) hn)
  have XA := Lib.hid xa
  have BA := Lib.hid hba
  have RA := Lib.hid (hrow.below hba (Nat.le_refl _))
  have RN := Lib.hid (hrn.below hba (Nat.le_refl _))
  have c0 := xa.c0
  have c1 := xa.c1
  clear hl hrow hrn hWa xa hba hn
  cases hok : stB n l ns
  · have HO := Lib.hid hok
    have HE := Lib.hid (balR_no hok b)
    clear hok
    go_enter Try.func19, Try.ntmps19
    go_wp2_with fail
    rw [← HWa.out]
    refine HC.out.mono ?_
    rintro e w1 ⟨rfl, hb1⟩
    rw [HO.out]
    go_wp2
    go_ret
    exact ⟨by rw [HE.out]; rfl, BA.out.trans (hb1.mono BA.out.size)⟩
  · have HO := Lib.hid hok
    have hk := okB_iff.1 (stB_ok hok).1
    have hlen := (stB_ok hok).2.1
    obtain rfl : n = (l.length : Int) := hk.2.2.1.symm
    have h8 : l.length ≤ 8 := by have := hk.2.1; omega
    have h1 : 1 ≤ l.length := by have := hk.1; omega
    have HBal : Hid (∀ (j : Nat) (W : World), Below Wa.heap.size Wa W → j < l.length → Calls Try.prog 84 #[.agg #[.int .i64 (l.length : Int), .slice a l.length cap], .slice an l.length cn, .int .i64 (j : Int)] W fun e w' => e = .returned (.int .i64 (balZ l ns j)) ∧ Below W.heap.size W w') := fun j W hW hj => l10Balance_any _ a l cap an ns cn j W (RA.out.below hW (Nat.le_refl _)) hk (RN.out.below hW (Nat.le_refl _)) hlen (stB_ok hok).2.2 hj
    rw [hlen] at HC ⊢
    clear hk
    cases hin : (decide (0 ≤ b) && decide (b ≤ (l.length : Int) - 1))
    · have HIN := Lib.hid hin
      have HE : Hid (balR l.length l ns b = 0) := by
        show _ = _
        unfold balR
        rw [if_neg]
        rintro ⟨_, h0, h1⟩
        rw [decide_eq_true h0, decide_eq_true (by omega)] at hin
        exact absurd hin (by decide)
      clear hok hin hlen
      go_enter Try.func19, Try.ntmps19
      go_wp2_with fail
      rw [← HWa.out]
      refine HC.out.mono ?_
      rintro e w1 ⟨rfl, hb1⟩
      rw [HO.out]
      have xa1 := XA.out.below hb1 XA.out.lt
      clear c0 c1
      have c0 := xa1.c0
      have c1 := xa1.c1
      have B1 := Lib.hid (BA.out.trans (hb1.mono BA.out.size))
      clear xa1 hb1
      go_wp2_with fail
      refine (l01In_of _ _ _ w1 _ HIN.out).mono ?_
      rintro e w2 ⟨rfl, rfl⟩
      go_wp2
      go_ret
      exact ⟨by rw [HE.out]; rfl, B1.out⟩
    · have HIN := Lib.hid hin
      have hin2 : 0 ≤ b ∧ b ≤ (l.length : Int) - 1 := by simpa using hin
      obtain ⟨j, rfl⟩ : ∃ j : Nat, b = (j : Int) := ⟨b.toNat, by omega⟩
      have hj : j < l.length := by omega
      have HE : Hid (balR l.length l ns (j : Int) = balZ l ns j) := by
        show _ = _
        unfold balR
        rw [if_pos ⟨hok, by omega, by omega⟩, Int.toNat_natCast]
      clear hok hin hlen hin2
      go_enter Try.func19, Try.ntmps19
      go_wp2_with fail
      rw [← HWa.out]
      refine HC.out.mono ?_
      rintro e w1 ⟨rfl, hb1⟩
      rw [HO.out]
      have xa1 := XA.out.below hb1 XA.out.lt
      clear c0 c1
      have c0 := xa1.c0
      have c1 := xa1.c1
      have HB := Lib.hid (HBal.out j w1 hb1 hj)
      have B1 := Lib.hid (BA.out.trans (hb1.mono BA.out.size))
      clear xa1 hb1
      go_wp2_with fail
      refine (l01In_of _ _ _ w1 _ HIN.out).mono ?_
      rintro e w2 ⟨rfl, rfl⟩
      go_wp2_with fail
      refine HB.out.mono ?_
      rintro e w3 ⟨rfl, hb3⟩
      go_wp2
      go_ret
      exact ⟨by rw [HE.out]; rfl, B1.out.trans (hb3.mono B1.out.size)⟩

set_option maxHeartbeats 1000000 in
theorem l10Safe_any (n : Int) (a : Option Addr) (l : List Int) (cap : Nat) (an : Option Addr) (ns : List Int) (cn : Nat) (w : World) (hrow : IntRow w a l) (hok : Ok n l) (hrn : IntRow w an ns) (hlen : ns.length = l.length) (hall : ns.all wOk = true) :
    Calls Try.prog 87 #[.agg #[.int .i64 n, .slice a l.length cap], .slice an l.length cn] w fun e w' => e = .returned (.bool ((List.range l.length).all fun b => decide (0 ≤ balZ l ns b))) ∧ Below w.heap.size w w' := by
  obtain ⟨Wa, hWa⟩ : ∃ Wa, Wa = w.alloc (.cells #[.int .i64 n, .slice a l.length cap] 27) := ⟨_, rfl⟩
  have HWa := Lib.hid hWa
  have hba : Below w.heap.size w Wa := by rw [hWa]; exact (Below.refl _ _).alloc (Nat.le_refl _) _
  have xa : Box Wa w.heap.size 27 (.int .i64 n) (.slice a l.length cap) := by rw [hWa]; exact Box.new _ _ _ _
  obtain rfl : n = (l.length : Int) := hok.2.2.1.symm
  have h8 : l.length ≤ 8 := by have := hok.2.1; omega
  have RA := hrow.below hba (Nat.le_refl _)
  have RN := hrn.below hba (Nat.le_refl _)
  have HBal : Hid (∀ (j : Nat) (W : World), Below Wa.heap.size Wa W → j < l.length → Calls Try.prog 84 #[.agg #[.int .i64 (l.length : Int), .slice a l.length cap], .slice an l.length cn, .int .i64 (j : Int)] W fun e w' => e = .returned (.int .i64 (balZ l ns j)) ∧ Below W.heap.size W w') := fun j W hW hj => l10Balance_any _ a l cap an ns cn j W (RA.below hW (Nat.le_refl _)) hok (RN.below hW (Nat.le_refl _)) hlen hall hj
  have HBX : Hid (∀ W, Below Wa.heap.size Wa W → Box W w.heap.size 27 (.int .i64 (l.length : Int)) (.slice a l.length cap)) := fun W hW => xa.below hW xa.lt
  have BA := Lib.hid hba
  have c0 := xa.c0
  have c1 := xa.c1
  obtain ⟨m, hm⟩ : ∃ m, m = l.length := ⟨_, rfl⟩
  rw [← hm] at HBal HBX HWa h8 c0 c1 ⊢
  clear hrow hok hrn hlen hall hWa hba xa RA RN hm
  go_enter Try.func87, Try.ntmps87
  go_wp2
  rw [← HWa.out]
  clear c0 c1
  go_loopw [8] (fun i wr => ∃ k : Nat, k ≤ m ∧ i = .int .i64 k ∧ Hid (∀ j, j < k → 0 ≤ balZ l ns j) ∧ Hid (Below Wa.heap.size Wa wr)) (fun i _ => m - (intOf i).toNat)
  case atStart => exact ⟨0, Nat.zero_le _, rfl, fun j h => absurd h (by omega), Below.refl _ _⟩
  case round =>
    obtain ⟨k, hk, rfl, HN, B1⟩ := hrel
    by_cases hlt : k < m
    · have hki : (k : Int) < (m : Int) := by omega
      have HC1 := Lib.hid (HBal.out k wr B1.out hlt)
      have c0 := (HBX.out wr B1.out).c0
      have c1 := (HBX.out wr B1.out).c1
      obtain ⟨z, hz⟩ : ∃ z, z = balZ l ns k := ⟨_, rfl⟩
      have HZ := Lib.hid hz
      rw [← hz] at HC1
      clear hz
      by_cases h0 : z < 0
      · have HE : Hid (((List.range m).all fun b => decide (0 ≤ balZ l ns b)) = false) := by
          show _ = _
          rw [List.all_eq_false]
          exact ⟨k, List.mem_range.2 hlt, by rw [← HZ.out]; simpa using h0⟩
        go_wp2_with fail
        refine HC1.out.mono ?_
        rintro e w2 ⟨rfl, hb2⟩
        have B2 : Hid (Below Wa.heap.size Wa w2) := B1.out.trans (hb2.mono B1.out.size)
        clear c0 c1 hb2
        go_wp2
        go_ret
        exact ⟨by rw [HE.out]; rfl, BA.out.trans (B2.out.mono BA.out.size)⟩
      · go_wp2_with fail
        refine HC1.out.mono ?_
        rintro e w2 ⟨rfl, hb2⟩
        have B2 : Hid (Below Wa.heap.size Wa w2) := B1.out.trans (hb2.mono B1.out.size)
        clear c0 c1 hb2
        go_wp2
        go_roundw
        case rel =>
          refine ⟨k + 1, by omega, by go_num, fun j hj => ?_, B2⟩
          rcases Nat.lt_or_ge j k with h | h
          · exact HN.out j h
          · obtain rfl : j = k := by omega
            rw [← HZ.out]; omega
        case measure => simp [intOf]; omega
    · obtain rfl : k = m := by omega
      have HE : Hid (((List.range k).all fun b => decide (0 ≤ balZ l ns b)) = true) := by
        show _ = _
        rw [List.all_eq_true]
        intro j hj
        exact decide_eq_true (HN.out j (List.mem_range.1 hj))
      go_wp2
      go_ret
      exact ⟨by rw [HE.out]; rfl, BA.out.trans (B1.out.mono BA.out.size)⟩

set_option maxHeartbeats 1000000 in
theorem specIsSafe (n : Int) (a : Option Addr) (l : List Int) (cap : Nat) (an : Option Addr) (ns : List Int) (cn : Nat) (w : World) (hrow : IntRow w a l) (hl : l.length ≤ maxLen) (hrn : IntRow w an ns) (hn : ns.length ≤ maxLen) :
    Calls Try.prog 21 #[.agg #[.int .i64 n, .slice a l.length cap], .slice an ns.length cn] w fun e w' => e = .returned (.bool (safeR n l ns)) ∧ Below w.heap.size w w' := by
  obtain ⟨Wa, hWa⟩ : ∃ Wa, Wa = w.alloc (.cells #[.int .i64 n, .slice a l.length cap] 27) := ⟨_, rfl⟩
  have HWa := Lib.hid hWa
  have hba : Below w.heap.size w Wa := by rw [hWa]; exact (Below.refl _ _).alloc (Nat.le_refl _) _
  have xa : Box Wa w.heap.size 27 (.int .i64 n) (.slice a l.length cap) := by rw [hWa]; exact Box.new _ _ _ _
  have HC := Lib.hid (specStrategyOk n a l cap an ns cn Wa (hrow.below hba (Nat.le_refl _)) hl (hrn.below hba (Nat.le_refl _)) hn)
  have XA := Lib.hid xa
  have BA := Lib.hid hba
  have RA := Lib.hid (hrow.below hba (Nat.le_refl _))
  have RN := Lib.hid (hrn.below hba (Nat.le_refl _))
  have c0 := xa.c0
  have c1 := xa.c1
  clear hl hrow hrn hWa xa hba hn
  cases hok : stB n l ns
  · have HO := Lib.hid hok
    have HE : Hid (safeR n l ns = false) := by show _ = _; unfold safeR; rw [hok]; rfl
    clear hok
    go_enter Try.func21, Try.ntmps21
    go_wp2_with fail
    rw [← HWa.out]
    refine HC.out.mono ?_
    rintro e w1 ⟨rfl, hb1⟩
    rw [HO.out]
    go_wp2
    go_ret
    exact ⟨by rw [HE.out]; rfl, BA.out.trans (hb1.mono BA.out.size)⟩
  · have HO := Lib.hid hok
    have hk := okB_iff.1 (stB_ok hok).1
    have hlen := (stB_ok hok).2.1
    obtain rfl : n = (l.length : Int) := hk.2.2.1.symm
    have HS : Hid (∀ (W : World), Below Wa.heap.size Wa W → Calls Try.prog 87 #[.agg #[.int .i64 (l.length : Int), .slice a l.length cap], .slice an l.length cn] W fun e w' => e = .returned (.bool ((List.range l.length).all fun b => decide (0 ≤ balZ l ns b))) ∧ Below W.heap.size W w') := fun W hW => l10Safe_any _ a l cap an ns cn W (RA.out.below hW (Nat.le_refl _)) hk (RN.out.below hW (Nat.le_refl _)) hlen (stB_ok hok).2.2
    obtain ⟨q, hq⟩ : ∃ q, q = ((List.range l.length).all fun b => decide (0 ≤ balZ l ns b)) := ⟨_, rfl⟩
    have HE : Hid (safeR l.length l ns = q) := by show _ = _; unfold safeR; rw [hok, Bool.true_and, hq]
    rw [← hq] at HS
    rw [hlen] at HC ⊢
    rw [HE.out]
    clear hk hok hlen hq HE
    go_enter Try.func21, Try.ntmps21
    go_wp2_with fail
    rw [← HWa.out]
    refine HC.out.mono ?_
    rintro e w1 ⟨rfl, hb1⟩
    rw [HO.out]
    have xa1 := XA.out.below hb1 XA.out.lt
    clear c0 c1
    have c0 := xa1.c0
    have c1 := xa1.c1
    have HB := Lib.hid (HS.out w1 hb1)
    have B1 := Lib.hid (BA.out.trans (hb1.mono BA.out.size))
    clear xa1 hb1
    go_wp2_with fail
    refine HB.out.mono ?_
    rintro e w3 ⟨rfl, hb3⟩
    go_wp2
    go_ret
    exact ⟨rfl, B1.out.trans (hb3.mono B1.out.size)⟩

set_option maxRecDepth 100000 in
set_option maxHeartbeats 4000000 in
theorem specBestAnswer (n : Int) (a : Option Addr) (l : List Int) (cap : Nat) (an : Option Addr) (ns : List Int) (cn : Nat) (w : World) (hrow : IntRow w a l) (hl : l.length ≤ maxLen) (hrn : IntRow w an ns) (hn : ns.length ≤ maxLen) :
    Calls Try.prog 23 #[.agg #[.int .i64 n, .slice a l.length cap], .slice an ns.length cn] w fun e w' => e = .returned (.int .i64 (bestR n l ns)) ∧ Below w.heap.size w w' := by
  obtain ⟨Wa, hWa⟩ : ∃ Wa, Wa = w.alloc (.cells #[.int .i64 n, .slice a l.length cap] 27) := ⟨_, rfl⟩
  have HWa := Lib.hid hWa
  have hba : Below w.heap.size w Wa := by rw [hWa]; exact (Below.refl _ _).alloc (Nat.le_refl _) _
  have xa : Box Wa w.heap.size 27 (.int .i64 n) (.slice a l.length cap) := by rw [hWa]; exact Box.new _ _ _ _
  have HC := Lib.hid (specStrategyOk n a l cap an ns cn Wa (hrow.below hba (Nat.le_refl _)) hl (hrn.below hba (Nat.le_refl _)) hn)
  have XA := Lib.hid xa
  have BA := Lib.hid hba
  have RA := Lib.hid (hrow.below hba (Nat.le_refl _))
  have RN := Lib.hid (hrn.below hba (Nat.le_refl _))
  have c0 := xa.c0
  have c1 := xa.c1
  clear hl hrow hrn hWa xa hba hn
  cases hok : stB n l ns
  · have HO := Lib.hid hok
    have HE : Hid (bestR n l ns = -1) := by show _ = _; unfold bestR; rw [hok]; rfl
    clear hok
    go_enter Try.func23, Try.ntmps23
    go_wp2_with fail
    rw [← HWa.out]
    refine HC.out.mono ?_
    rintro e w1 ⟨rfl, hb1⟩
    rw [HO.out]
    go_wp2
    go_ret
    exact ⟨by rw [HE.out]; rfl, BA.out.trans (hb1.mono BA.out.size)⟩
  · have HO := Lib.hid hok
    have hk := okB_iff.1 (stB_ok hok).1
    have hlen := (stB_ok hok).2.1
    obtain rfl : n = (l.length : Int) := hk.2.2.1.symm
    have h8 : l.length ≤ 8 := by have := hk.2.1; omega
    have h1 : 1 ≤ l.length := by have := hk.1; omega
    have HBal : Hid (∀ (j : Nat) (W : World), Below Wa.heap.size Wa W → j < l.length → Calls Try.prog 84 #[.agg #[.int .i64 (l.length : Int), .slice a l.length cap], .slice an l.length cn, .int .i64 (j : Int)] W fun e w' => e = .returned (.int .i64 (balZ l ns j)) ∧ Below W.heap.size W w') := fun j W hW hj => l10Balance_any _ a l cap an ns cn j W (RA.out.below hW (Nat.le_refl _)) hk (RN.out.below hW (Nat.le_refl _)) hlen (stB_ok hok).2.2 hj
    have HBX : Hid (∀ W, Below Wa.heap.size Wa W → Box W w.heap.size 27 (.int .i64 (l.length : Int)) (.slice a l.length cap)) := fun W hW => XA.out.below hW XA.out.lt
    have HE : Hid (bestR l.length l ns = (bst (balZ l ns) l.length : Nat)) := by show _ = _; unfold bestR; rw [hok]; rfl
    have HZb : Hid (∀ j, -800000 ≤ balZ l ns j ∧ balZ l ns j ≤ 800000) := fun j => balZ_bd h8 hlen (stB_ok hok).2.2 j
    rw [hlen] at HC ⊢
    rw [HE.out]
    obtain ⟨m, hm⟩ : ∃ m, m = l.length := ⟨_, rfl⟩
    rw [← hm] at HBal HBX HWa HC HO h8 h1 c0 c1 XA ⊢
    clear hk hok hlen HE hm
    go_enter Try.func23, Try.ntmps23
    go_wp2_with fail
    rw [← HWa.out]
    refine HC.out.mono ?_
    rintro e w1 ⟨rfl, hb1⟩
    rw [HO.out]
    have B0 := Lib.hid hb1
    clear c0 c1 hb1
    go_wp2
    go_loopw [5, 13] (fun s i wr => ∃ k : Nat, k ≤ m ∧ i = .int .i64 k ∧ s = .int .i64 (bst (balZ l ns) k : Nat) ∧ Hid (Below Wa.heap.size Wa wr)) (fun _ i _ => m - (intOf i).toNat)
    case atStart => exact ⟨0, Nat.zero_le _, rfl, rfl, B0⟩
    case round =>
      obtain ⟨k, hk, rfl, rfl, B1⟩ := hrel
      by_cases hlt : k < m
      · have hki : (k : Int) < (m : Int) := by omega
        have hbl : bst (balZ l ns) k < m := by
          rcases Nat.eq_zero_or_pos k with h | h
          · subst h; simp [bst]; omega
          · have := bst_lt (balZ l ns) k h; omega
        have HS : Hid (bst (balZ l ns) (k + 1) = if balZ l ns k < balZ l ns (bst (balZ l ns) k) then k else bst (balZ l ns) k) := rfl
        obtain ⟨o, ho⟩ : ∃ o, o = bst (balZ l ns) k := ⟨_, rfl⟩
        rw [← ho] at hbl HS ⊢
        have b1 := HBX.out wr B1.out
        have HC1 := Lib.hid (HBal.out k wr B1.out hlt)
        have cK : ∀ d os, Calls Try.prog 84 #[.agg #[.int .i64 (m : Int), .slice a m cap], .slice an m cn, .int .i64 (k : Int)] (Go.Sort.grow (redrawn wr d) os) fun e w'' => e = .returned (.int .i64 (balZ l ns k)) ∧ ∃ p : Regrown, w'' = Go.Sort.grow (redrawn wr p.d) p.os :=
          fun d os => Calls.regrown_of (HBal.out k _ (B1.out.trans ((below_regrown wr d os).mono B1.out.size)) hlt)
        have cO : ∀ d os, Calls Try.prog 84 #[.agg #[.int .i64 (m : Int), .slice a m cap], .slice an m cn, .int .i64 (o : Int)] (Go.Sort.grow (redrawn wr d) os) fun e w'' => e = .returned (.int .i64 (balZ l ns o)) ∧ ∃ p : Regrown, w'' = Go.Sort.grow (redrawn wr p.d) p.os :=
          fun d os => Calls.regrown_of (HBal.out o _ (B1.out.trans ((below_regrown wr d os).mono B1.out.size)) hbl)
        have hq0 := fun d os => cell_regrown b1.c0 d os
        have hq1 := fun d os => cell_regrown b1.c1 d os
        obtain ⟨zk, hzk⟩ : ∃ z, z = balZ l ns k := ⟨_, rfl⟩
        obtain ⟨zo, hzo⟩ : ∃ z, z = balZ l ns o := ⟨_, rfl⟩
        rw [← hzk] at cK HS
        rw [← hzo] at cO HS
        clear hzk hzo ho b1 HC1
        by_cases hz : zk < zo
        · have HS2 : Hid (bst (balZ l ns) (k + 1) = k) := by show _ = _; rw [HS.out, if_pos hz]
          go_wp2
          refine wp_region_quiet_below (by kernel_rfl) (by kernel_rfl) ?_
          repeat (go_big_quiet_step (first | (with_reducible exact cK _ _) | (with_reducible exact cO _ _)))
          refine wpQuiet_nil ?_
          intro wq hw'
          have hbq : Below wr.heap.size wr wq := by obtain ⟨⟨dq, osq⟩, hw''⟩ := hw'; rw [hw'']; exact below_regrown wr dq osq
          have B2 : Hid (Below Wa.heap.size Wa wq) := B1.out.trans (hbq.mono B1.out.size)
          clear hw' cK cO hq0 hq1 hbq
          go_wp2
          go_roundw
          case rel => exact ⟨k + 1, by omega, by go_num, by rw [HS2.out], B2⟩
          case measure => simp [intOf]; omega
        · have HS2 : Hid (bst (balZ l ns) (k + 1) = o) := by show _ = _; rw [HS.out, if_neg hz]
          go_wp2
          refine wp_region_quiet_below (by kernel_rfl) (by kernel_rfl) ?_
          repeat (go_big_quiet_step (first | (with_reducible exact cK _ _) | (with_reducible exact cO _ _)))
          refine wpQuiet_nil ?_
          intro wq hw'
          have hbq : Below wr.heap.size wr wq := by obtain ⟨⟨dq, osq⟩, hw''⟩ := hw'; rw [hw'']; exact below_regrown wr dq osq
          have B2 : Hid (Below Wa.heap.size Wa wq) := B1.out.trans (hbq.mono B1.out.size)
          clear hw' cK cO hq0 hq1 hbq
          go_wp2
          go_roundw
          case rel => exact ⟨k + 1, by omega, by go_num, by rw [HS2.out], B2⟩
          case measure => simp [intOf]; omega
      · obtain rfl : k = m := by omega
        go_wp2
        go_ret
        exact ⟨rfl, BA.out.trans (B1.out.mono BA.out.size)⟩
end Go.Proofs.Ytpndfmlkceplcaa
