/-
  The model's count of sequences, and both 'CountSequences'. No conditions.
-/
import Derived.Test.Ytnlbijmkehijiaa3P
import Derived.Test.Ytnlbijmkehijiaa3O
namespace Go.Proofs.Ytnlbijmkehijiaa
open Go.ChangeShapes Go.WideShapes Go.ChangeAt Go.RowKit
set_option linter.unusedVariables false

theorem n_wrap2 (k : Nat) (h : k ≤ 8) : wrap64 ((wrap64 ((k : Int) * ((k : Int) - 1))).tdiv 2) = (Tmpm.prN k : Int) := by
  have : ∀ n : Fin 9, wrap64 ((wrap64 ((n.val : Int) * ((n.val : Int) - 1))).tdiv 2) = (Tmpm.prN n.val : Int) := by decide +kernel
  exact this ⟨k, by omega⟩
theorem mul_wrap (x N k m : Nat) (hx : x ≤ 8) (hm : m ≤ 8) (h : k + m = N) : wrap64 ((x : Int) * ((N : Int) - (k : Int))) = ((x * m : Nat) : Int) := by
  have e : (N : Int) - (k : Int) = (m : Int) := by omega
  rw [e]
  have : ∀ a b : Fin 9, wrap64 ((a.val : Int) * (b.val : Int)) = ((a.val * b.val : Nat) : Int) := by decide +kernel
  exact this ⟨x, by omega⟩ ⟨m, by omega⟩
theorem prN8 (k : Nat) (h : k ≤ 8) : Tmpm.prN k ≤ 28 := by
  have : ∀ n : Fin 9, Tmpm.prN n.val ≤ 28 := by decide
  exact this ⟨k, by omega⟩
theorem mul64 (x m : Nat) (hx : x ≤ 8) (hm : m ≤ 8) : x * m ≤ 64 := Nat.mul_le_mul hx hm

set_option maxHeartbeats 1000000 in
theorem specCount (N : Nat) (hN : N ≤ 8) (m : Nat) : ∀ (k last sum : Nat) (w : World), k + m = N → last ≤ 8 → sum ≤ 28 →
    Calls Try.prog 61 #[.int .i64 N, .int .i64 k, .int .i64 last, .int .i64 sum] w fun e w' => e = .returned (.int .i64 (Tmpm.cS N m last sum : Nat)) ∧ w = w' := by
  induction m with
  | zero =>
    intro k last sum w hk hla hsu
    obtain rfl : N = k := by omega
    have hpw := n_wrap2 N hN
    have hp := prN8 N hN
    have hc : Tmpm.cS N 0 last sum = if sum < Tmpm.prN N then 0 else if sum = Tmpm.prN N then 1 else 0 := by rw [Tmpm.cS]
    obtain ⟨p, hpe⟩ : ∃ p, p = Tmpm.prN N := ⟨_, rfl⟩
    rw [← hpe] at hpw hp hc
    clear hpe hk
    by_cases h1 : sum < p
    · have HE : Hid (Tmpm.cS N 0 last sum = 0) := by show _ = _; rw [hc, if_pos h1]
      have h1' : (sum : Int) < (p : Int) := by omega
      clear hc
      go_enter Try.func61, Try.ntmps61
      go_wp2_with fail
      go_ret
      exact ⟨by rw [HE.out]; rfl, rfl⟩
    · have h1' : ¬ (sum : Int) < (p : Int) := by omega
      by_cases h2 : sum = p
      · have HE : Hid (Tmpm.cS N 0 last sum = 1) := by show _ = _; rw [hc, if_neg h1, if_pos h2]
        have h2' : ((sum : Int) == (p : Int)) = true := by rw [beq_iff_eq]; omega
        clear hc h2
        go_enter Try.func61, Try.ntmps61
        go_wp2_with fail
        go_ret
        exact ⟨by rw [HE.out]; rfl, rfl⟩
      · have HE : Hid (Tmpm.cS N 0 last sum = 0) := by show _ = _; rw [hc, if_neg h1, if_neg h2]
        have h2' : ((sum : Int) == (p : Int)) = false := by rw [beq_eq_false_iff_ne]; omega
        clear hc h2
        go_enter Try.func61, Try.ntmps61
        go_wp2_with fail
        go_ret
        exact ⟨by rw [HE.out]; rfl, rfl⟩
  | succ m ih =>
    intro k last sum w hk hla hsu
    have hkN : N - (m + 1) = k := by omega
    have hpk := n_wrap2 k (by omega)
    have hpn := n_wrap2 N hN
    have hp8 := prN8 k (by omega)
    have hq8 := prN8 N hN
    obtain ⟨T, hT⟩ : ∃ T, T = Tmpm.cS N (m + 1) last sum := ⟨_, rfl⟩
    have hTb : T ≤ 16777216 := by rw [hT]; exact Nat.le_trans (cS_le N hN _ _ _) (pow8 _ (by omega))
    obtain ⟨f, hf⟩ : ∃ f : Nat → Nat, f = fun x : Nat => Tmpm.cS N m x (sum + x) := ⟨_, rfl⟩
    have hc : T = if sum < Tmpm.prN k then 0 else Tmpm.loopS f (Tmpm.okS N (m + 1) sum) (N - last) last := by rw [hT, Tmpm.cS, hkN, hf]
    have hcall : ∀ (x : Nat) (W : World), x ≤ 8 → sum + x ≤ 28 → Calls Try.prog 61 #[.int .i64 N, .int .i64 ((k : Int) + 1), .int .i64 x, .int .i64 ((sum : Int) + (x : Int))] W fun e w' => e = .returned (.int .i64 (f x : Nat)) ∧ W = w' := by
      intro x W hx hsx
      have h := ih (k + 1) x (sum + x) W (by omega) hx hsx
      rw [hf]
      exact h
    have HC := Lib.hid hcall
    have HT := Lib.hid hT
    obtain ⟨p, hpe⟩ : ∃ p, p = Tmpm.prN k := ⟨_, rfl⟩
    obtain ⟨q, hqe⟩ : ∃ q, q = Tmpm.prN N := ⟨_, rfl⟩
    rw [← hpe] at hpk hp8 hc
    rw [← hqe] at hpn hq8
    have HQ := Lib.hid hqe
    have hne : ((k : Int) == (N : Int)) = false := by rw [beq_eq_false_iff_ne]; omega
    clear ih hcall hf hT hpe hqe hkN
    by_cases h1 : sum < p
    · have HE : Hid (T = 0) := by show _ = _; rw [hc, if_pos h1]
      have h1' : (sum : Int) < (p : Int) := by omega
      clear hc
      go_enter Try.func61, Try.ntmps61
      go_wp2_with fail
      go_ret
      exact ⟨by rw [← HT.out, HE.out]; rfl, rfl⟩
    · have h1' : ¬ (sum : Int) < (p : Int) := by omega
      have hloop : T = Tmpm.loopS f (Tmpm.okS N (m + 1) sum) (N - last) last := by rw [hc, if_neg h1]
      have HLoop := Lib.hid hloop
      clear hc hloop
      go_enter Try.func61, Try.ntmps61
      go_wp2_with fail
      go_loopw [9, 10] (fun c i wr => ∃ (x cc : Nat), x ≤ 8 ∧ i = .int .i64 x ∧ c = .int .i64 cc ∧ Hid (cc + Tmpm.loopS f (Tmpm.okS N (m + 1) sum) (N - x) x = T) ∧ wr = w) (fun _ i _ => 8 - (intOf i).toNat)
      case atStart => exact ⟨last, 0, hla, rfl, rfl, by show _ = _; rw [HLoop.out]; simp, rfl⟩
      case round =>
        obtain ⟨x, cc, hx8, rfl, rfl, hsum, rfl⟩ := hrel
        by_cases hlt : x < N
        · have hst : Hid (Tmpm.loopS f (Tmpm.okS N (m + 1) sum) (N - x) x = if Tmpm.okS N (m + 1) sum x then f x + Tmpm.loopS f (Tmpm.okS N (m + 1) sum) (N - (x + 1)) (x + 1) else 0) := by
            show _ = _
            rw [show N - x = (N - (x + 1)) + 1 by omega]; rfl
          have hmw := mul_wrap x N k (m + 1) hx8 (by omega) hk
          have hm64 := mul64 x (m + 1) hx8 (by omega)
          have hxm : x ≤ x * (m + 1) := Nat.le_mul_of_pos_right x (by omega)
          obtain ⟨z, hz⟩ : ∃ z, z = x * (m + 1) := ⟨_, rfl⟩
          rw [← hz] at hmw hm64 hxm
          have HZ := Lib.hid hz
          have hlt' : (x : Int) < (N : Int) := by omega
          clear hz
          by_cases hroom : sum + z ≤ q
          · have hroom' : (sum : Int) + (z : Int) ≤ (q : Int) := by omega
            have hok : Tmpm.okS N (m + 1) sum x = true := by unfold Tmpm.okS; rw [← HQ.out, ← HZ.out]; simp [hlt, hroom]
            have hsum2 : Hid (cc + f x + Tmpm.loopS f (Tmpm.okS N (m + 1) sum) (N - (x + 1)) (x + 1) = T) := by
              have h1 := hsum.out
              rw [hst.out, hok, if_pos rfl] at h1
              show _ = _; omega
            have hcb : cc + f x ≤ 16777216 := by have := hsum2.out; omega
            obtain ⟨v, hv⟩ : ∃ v, v = f x := ⟨_, rfl⟩
            have hCv := fun W => HC.out x W hx8 (by omega)
            rw [← hv] at hsum2 hcb hCv
            have HCV : Hid (∀ (W : World), Calls Try.prog 61 #[.int .i64 N, .int .i64 ((k : Int) + 1), .int .i64 x, .int .i64 ((sum : Int) + (x : Int))] W fun e w' => e = .returned (.int .i64 (v : Nat)) ∧ W = w') := hCv
            clear hok hv hCv hst hsum
            go_wp2_with fail
            refine (HCV.out _).mono ?_
            rintro e w2 ⟨rfl, rfl⟩
            go_wp2
            go_roundw
            case rel => exact ⟨x + 1, cc + v, by omega, by go_num, by go_num, hsum2, trivial⟩
            case measure => simp [intOf]; omega
          · have hroom' : ¬ (sum : Int) + (z : Int) ≤ (q : Int) := by omega
            have hok : Tmpm.okS N (m + 1) sum x = false := by unfold Tmpm.okS; rw [← HQ.out, ← HZ.out]; simp [hroom]
            have hcc : Hid (cc = T) := by
              have h1 := hsum.out
              rw [hst.out, hok] at h1
              show cc = T
              simpa using h1
            clear hok hst hsum
            go_wp2
            go_ret
            exact ⟨by rw [← HT.out, ← hcc.out]; rfl, rfl⟩
        · have hlt' : ¬ (x : Int) < (N : Int) := by omega
          have hcc : Hid (cc = T) := by
            have h1 := hsum.out
            rw [show N - x = 0 by omega] at h1
            show cc = T
            simpa [Tmpm.loopS] using h1
          clear hsum
          go_wp2
          go_ret
          exact ⟨by rw [← HT.out, ← hcc.out]; rfl, rfl⟩

noncomputable def seqR (n : Int) : Int := if isz n then (Tmpm.cS n.toNat n.toNat 0 0 : Int) else -1

set_option maxHeartbeats 400000 in
theorem specSeq (n : Int) (w : World) : Calls Try.prog 35 #[.int .i64 n] w fun e w' => e = .returned (.int .i64 (seqR n)) ∧ w = w' := by
  cases hz : isz n
  · have HS : Hid ((decide (1 ≤ n) && decide (n ≤ 8)) = false) := hz
    have HE : Hid (seqR n = -1) := by show _ = _; unfold seqR; rw [hz]; rfl
    clear hz
    go_enter Try.func35, Try.ntmps35
    go_wp2_with fail
    refine (l01In_any n 1 8 _).mono ?_
    rintro e w' ⟨rfl, rfl⟩
    rw [HS.out]
    go_wp2
    go_ret
    exact ⟨by rw [HE.out]; rfl, rfl⟩
  · have hn : 1 ≤ n ∧ n ≤ 8 := by simpa [isz] using hz
    obtain ⟨N, rfl⟩ : ∃ N : Nat, n = N := ⟨n.toNat, by omega⟩
    have HS : Hid ((decide ((1 : Int) ≤ (N : Int)) && decide ((N : Int) ≤ 8)) = true) := hz
    obtain ⟨T, hT⟩ : ∃ T, T = Tmpm.cS N N 0 0 := ⟨_, rfl⟩
    have HE : Hid (seqR N = (T : Int)) := by show _ = _; unfold seqR; rw [hz, hT]; rfl
    have hN8 : N ≤ 8 := by omega
    have hc := fun (W : World) => specCount N hN8 N 0 0 0 W (by omega) (by omega) (by omega)
    rw [← hT] at hc
    have HC : Hid (∀ (W : World), Calls Try.prog 61 #[.int .i64 N, .int .i64 0, .int .i64 0, .int .i64 0] W fun e w' => e = .returned (.int .i64 (T : Nat)) ∧ W = w') := hc
    clear hz hn hT hc
    go_enter Try.func35, Try.ntmps35
    go_wp2_with fail
    refine (l01In_any _ 1 8 _).mono ?_
    rintro e w' ⟨rfl, rfl⟩
    rw [HS.out]
    go_wp2_with fail
    refine (HC.out _).mono ?_
    rintro e w' ⟨rfl, rfl⟩
    go_wp2
    go_ret
    exact ⟨by rw [HE.out]; rfl, rfl⟩

set_option maxHeartbeats 400000 in
theorem implSeq (n : Int) (w : World) : Calls Try.prog 36 #[.int .i64 n] w fun e w' => e = .returned (.int .i64 (seqR n)) ∧ Below w.heap.size w w' := by
  cases hz : isz n
  · have HS := Lib.hid hz
    have HE : Hid (seqR n = -1) := by show _ = _; unfold seqR; rw [hz]; rfl
    clear hz
    go_enter Try.func36, Try.ntmps36
    go_wp2_with fail
    refine (isSize_any n _).mono ?_
    rintro e w' ⟨rfl, rfl⟩
    rw [HS.out]
    go_wp2
    go_ret
    exact ⟨by rw [HE.out]; rfl, Below.refl _ _⟩
  · have hn : 1 ≤ n ∧ n ≤ 8 := by simpa [isz] using hz
    obtain ⟨N, rfl⟩ : ∃ N : Nat, n = N := ⟨n.toNat, by omega⟩
    have HS := Lib.hid hz
    have hN1 : 1 ≤ N := by omega
    have hN8 : N ≤ 8 := by omega
    obtain ⟨T, hT⟩ : ∃ T, T = Tmpm.cI N N [] := ⟨_, rfl⟩
    have HE : Hid (seqR N = (T : Int)) := by show _ = _; unfold seqR; rw [hz, hT, Tmpm.counts_agree N hN1 hN8]; rfl
    have hc := fun (W : World) => implFrom N hN1 hN8 N [] W (by simp)
    rw [← hT] at hc
    have HC : Hid (∀ (W : World), Calls Try.prog 62 #[.agg (rv zeros8), .int .i64 0, .int .i64 N] W fun e w' => e = .returned (.int .i64 (T : Nat)) ∧ Below W.heap.size W w') := hc
    have hzr := zeroRow
    clear hz hn hT hc
    go_enter Try.func36, Try.ntmps36
    go_wp2_with fail
    refine (isSize_any _ _).mono ?_
    rintro e w' ⟨rfl, rfl⟩
    rw [HS.out]
    go_wp2_with fail
    refine (HC.out _).mono ?_
    rintro e w1 ⟨rfl, hb⟩
    go_wp2
    go_ret
    exact ⟨by rw [HE.out]; rfl, hb⟩
end Go.Proofs.Ytnlbijmkehijiaa
