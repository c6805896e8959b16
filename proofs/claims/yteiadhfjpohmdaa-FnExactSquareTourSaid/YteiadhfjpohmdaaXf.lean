/-
  'IsConnection' of the model. No conditions but the bounds that Go gives a slice.
-/
import Derived.Test.YteiadhfjpohmdaaXd
namespace Go.Proofs.Yteiadhfjpohmdaa
open Go.ChangeShapes Go.WideShapes Go.ChangeAt Go.RowKit
set_option linter.unusedVariables false

theorem tdiv2X (c : Nat) : (c : Int).tdiv 2 = ((c / 2 : Nat) : Int) := by rw [Int.tdiv_eq_ediv_of_nonneg (Int.natCast_nonneg _)]; omega

set_option maxHeartbeats 400000 in
theorem specIsConnection (n : Int) (a : Option Addr) (l : List Int) (cap : Nat) (w : World) (hrow : IntRow w a l) (hl : l.length ≤ maxLen) :
    Calls Try.prog 14 #[.int .i64 n, .slice a l.length cap] w fun e w' => e = .returned (.bool (Ct.conB n l)) ∧ Below w.heap.size w w' := by
  unfold maxLen at hl
  by_cases hz : 1 ≤ n ∧ n ≤ 7
  case neg =>
    have HE : Hid (Ct.conB n l = false) := Ct.con_odd (Ct.odd_not (fun h => hz (by omega)))
    have HB : Hid (∀ w, Calls Try.prog 78 #[.int .i64 n, .int .i64 1, .int .i64 7] w fun e w' => e = .returned (.bool false) ∧ w = w') := fun w => (l01In_any n 1 7 w).mono fun e w' ⟨he, hw⟩ => ⟨by rw [he]; congr 2; simp; omega, hw⟩
    clear hz
    go_enter Try.func14, Try.ntmps14
    go_wp2_with fail
    refine (HB.out _).mono ?_
    rintro e w' ⟨rfl, rfl⟩
    go_wp2
    go_ret
    exact ⟨by rw [HE.out]; rfl, Below.refl _ _⟩
  obtain ⟨m, rfl⟩ : ∃ m : Nat, n = m := ⟨n.toNat, by omega⟩
  have hm1 : 1 ≤ m := by omega
  have hm7 : m ≤ 7 := by omega
  have HB : Hid (∀ w, Calls Try.prog 78 #[.int .i64 (m : Int), .int .i64 1, .int .i64 7] w fun e w' => e = .returned (.bool true) ∧ w = w') := fun w => (l01In_any m 1 7 w).mono fun e w' ⟨he, hw⟩ => ⟨by rw [he]; congr 2; simp; omega, hw⟩
  clear hz
  rcases Nat.mod_two_eq_zero_or_one m with hev | hod
  · have HE : Hid (Ct.conB m l = false) := Ct.con_odd (Ct.odd_not (by omega))
    have hrem1 : (m : Int).tmod 2 = 0 := by rw [tmod2X, hev]; rfl
    have hrem2 : (m : Int) % 2 = 0 := by omega
    clear hev
    go_enter Try.func14, Try.ntmps14
    go_wp2_with fail
    refine (HB.out _).mono ?_
    rintro e w' ⟨rfl, rfl⟩
    go_wp2
    go_ret
    exact ⟨by rw [HE.out]; rfl, Below.refl _ _⟩
  have hodd : Ct.oddS (m : Int) = true := Ct.odd_is (by omega)
  have HOD := Lib.hid hodd
  have hrem1 : (m : Int).tmod 2 = 1 := by rw [tmod2X, hod]; rfl
  have hrem2 : (m : Int) % 2 = 1 := by omega
  obtain ⟨D, hD⟩ : ∃ D, D = m / 2 := ⟨_, rfl⟩
  have hq1 : (m : Int).tdiv 2 = (D : Int) := by rw [tdiv2X, hD]
  have hq2 : (m : Int) / 2 = (D : Int) := by omega
  have hD3 : D ≤ 3 := by omega
  have HD : Hid (D = m / 2) := hD
  clear hod hodd hD
  by_cases hlen : l.length = D
  case neg =>
    have HE : Hid (Ct.conB m l = false) := Ct.con_len (by show l.length ≠ m / 2; rw [← HD.out]; exact hlen)
    have hne : ((l.length : Int) == (D : Int)) = false := by rw [beq_eq_false_iff_ne]; intro e; exact hlen (by omega)
    go_enter Try.func14, Try.ntmps14
    go_wp2_with fail
    refine (HB.out _).mono ?_
    rintro e w' ⟨rfl, rfl⟩
    go_wp2
    go_ret
    exact ⟨by rw [HE.out]; rfl, Below.refl _ _⟩
  subst hlen
  go_enter Try.func14, Try.ntmps14
  go_wp2_with fail
  refine (HB.out _).mono ?_
  rintro e w' ⟨rfl, rfl⟩
  go_wp2
  clear hrem1 hrem2 hq1 hq2
  go_loopw [5, 25] (fun s i wr => ∃ (k q : Nat), k ≤ l.length ∧ i = .int .i64 (k : Int) ∧ s = .int .i64 (q : Int) ∧ q ≤ 64 * k ∧ Hid (q = Ct.sumK l k) ∧ Hid (∀ j, j < k → Ct.prv l j < l.getD j 0 ∧ l.getD j 0 < (m : Int)) ∧ Hid (Ct.prT m l k = true) ∧ Below w.heap.size w wr) (fun _ i _ => l.length - (intOf i).toNat)
  case atStart => exact ⟨0, 0, Nat.zero_le _, rfl, rfl, by omega, rfl, fun j h => absurd h (Nat.not_lt_zero _), rfl, Below.refl _ _⟩
  case round =>
    obtain ⟨k, q, hk, rfl, rfl, hqk, hq, hto, hpt, hb⟩ := hrel
    by_cases hlt : k < l.length
    · obtain ⟨b, off, rfl, hbb, hc⟩ := (hrow.below hb (Nat.le_refl _)).elim (fun h => absurd hlt (by rw [h]; simp)) id
      have hcx := hc k hlt
      obtain ⟨x, hx⟩ : ∃ x, x = l.getD k 0 := ⟨_, rfl⟩
      rw [← hx] at hcx
      have HX := Lib.hid hx
      have hib : (k : Int) < (l.length : Int) := by omega
      have hprv0 : 0 ≤ Ct.prv l k := by
        cases k with
        | zero => exact Int.le_refl _
        | succ k' =>
          have h1 := hto.out k' (by omega)
          have h2 : 0 ≤ Ct.prv l k' := by
            cases k' with
            | zero => exact Int.le_refl _
            | succ k'' =>
              have h3 := hto.out k'' (by omega)
              have h4 : 0 ≤ Ct.prv l k'' := by
                cases k'' with
                | zero => exact Int.le_refl _
                | succ z => exact absurd hlt (by omega)
              show 0 ≤ l.getD k'' 0
              omega
          show 0 ≤ l.getD k' 0
          omega
      have HP0 := Lib.hid hprv0
      clear hx hprv0
      by_cases hin : 1 ≤ x ∧ x ≤ (m : Int) - 1
      case neg =>
        have HE : Hid (Ct.conB m l = false) := Ct.con_not hlt (by rw [← HX.out]; have := HP0.out; omega)
        have HI : Hid (∀ w, Calls Try.prog 78 #[.int .i64 x, .int .i64 1, .int .i64 ((m : Int) - 1)] w fun e w' => e = .returned (.bool false) ∧ w = w') := fun w => (l01In_any x 1 _ w).mono fun e w' ⟨he, hw⟩ => ⟨by rw [he]; congr 2; simp; omega, hw⟩
        clear hin hc
        go_wp2_with fail
        refine (HI.out _).mono ?_
        rintro e w' ⟨rfl, rfl⟩
        go_wp2
        go_ret
        exact ⟨by rw [HE.out]; rfl, hb⟩
      have HI : Hid (∀ w, Calls Try.prog 78 #[.int .i64 x, .int .i64 1, .int .i64 ((m : Int) - 1)] w fun e w' => e = .returned (.bool true) ∧ w = w') := fun w => (l01In_any x 1 _ w).mono fun e w' ⟨he, hw⟩ => ⟨by rw [he]; congr 2; simp; omega, hw⟩
      obtain ⟨v, rfl⟩ : ∃ v : Nat, x = v := ⟨x.toNat, by omega⟩
      have hv1 : 1 ≤ v := by omega
      have hv6 : v ≤ 6 := by omega
      have hvm : (v : Int) < (m : Int) := by omega
      obtain ⟨d, hd⟩ : ∃ d, d = m - v := ⟨_, rfl⟩
      have hd7 : d < 64 := by omega
      have hd0 : 1 ≤ d := by omega
      have hsub : IntKind.i64.wrap ((m : Int) - (v : Int)) = (d : Int) := by rw [IntKind.wrap_i64]; omega
      have hsub2 : (m : Int) - (v : Int) = (d : Int) := by omega
      have hps : Ct.prS m l k = q.testBit d := by unfold Ct.prS; rw [← HX.out, hsub2, ← hq.out]; rfl
      have HPS := Lib.hid hps
      have HSUB := Lib.hid hsub2
      clear hin hd hps hsub2
      cases k with
      | zero =>
        simp only [Nat.add_zero] at hcx
        cases hbit : q.testBit d
        · have hf : bi (q : Int) d = false := by rw [bi_nat]; exact hbit
          have hp1 : Ct.prT m l (0 + 1) = true := by rw [Ct.prT_snoc, hpt.out, HPS.out, hbit]; rfl
          have hP1 := Lib.hid hp1
          have hw64 : Value.int .i64 (wrap64 (2 ^ v)) = Value.int .i64 ((2 ^ v : Nat) : Int) := by rw [wrapPow v (by omega)]
          have hw642 : Value.int .i64 (IntKind.i64.wrap (2 ^ v)) = Value.int .i64 ((2 ^ v : Nat) : Int) := by rw [wrapPow2 v (by omega)]
          have hp8 : 2 ^ v ≤ 64 := by have : ∀ z : Fin 7, 2 ^ z.val ≤ 64 := by decide
                                      exact this ⟨v, by omega⟩
          have hsk : Ct.sumK l (0 + 1) = q + 2 ^ v := by show Ct.sumK l 0 + 2 ^ (l.getD 0 0).toNat = _; rw [← HX.out, ← hq.out]; rfl
          have hT : Hid (∀ j, j < 0 + 1 → Ct.prv l j < l.getD j 0 ∧ l.getD j 0 < (m : Int)) := by
            intro j hj
            by_cases e : j = 0
            · subst e
              rw [← HX.out]
              exact ⟨by show (0 : Int) < _; omega, hvm⟩
            · exact hto.out j (by omega)
          obtain ⟨p, hp⟩ : ∃ p, p = 2 ^ v := ⟨_, rfl⟩
          rw [← hp] at hw64 hw642 hp8 hsk
          have hN : Hid (q + p = Ct.sumK l (0 + 1)) := hsk.symm
          have hqk2 : q + p ≤ 64 * (0 + 1) := by omega
          have hqs : q ≤ 1000 := by omega
          unfold bi at hf
          clear hp hsk hbit hp1 hq hto hpt hc
          go_wp2_with fail
          refine (HI.out _).mono ?_
          rintro e w' ⟨rfl, rfl⟩
          go_wp2
          go_roundw
          case rel => exact ⟨0 + 1, q + p, by omega, by go_num, by go_num, hqk2, hN, hT, hP1, hb⟩
          case measure => simp [intOf]; omega
        · have hf : bi (q : Int) d = true := by rw [bi_nat]; exact hbit
          have HE : Hid (Ct.conB m l = false) := Ct.con_pair hlt (by rw [HPS.out]; exact hbit)
          unfold bi at hf
          clear hbit hc
          go_wp2_with fail
          refine (HI.out _).mono ?_
          rintro e w' ⟨rfl, rfl⟩
          go_wp2
          go_ret
          exact ⟨by rw [HE.out]; rfl, hb⟩
      | succ k' =>
        have hcy := hc k' (by omega)
        obtain ⟨y, hy⟩ : ∃ y, y = l.getD k' 0 := ⟨_, rfl⟩
        rw [← hy] at hcy
        have HY := Lib.hid hy
        have hkp : (0 : Int) < ((k' + 1 : Nat) : Int) := by omega
        have hk1 : (k' : Int) < (l.length : Int) := by omega
        clear hy
        by_cases hxy : (v : Int) ≤ y
        · have HE : Hid (Ct.conB m l = false) := Ct.con_not hlt (.inl (by rw [← HX.out]; show _ ≤ l.getD k' 0; rw [← HY.out]; exact hxy))
          clear hc
          go_wp2_with fail
          refine (HI.out _).mono ?_
          rintro e w' ⟨rfl, rfl⟩
          go_wp2
          go_ret
          exact ⟨by rw [HE.out]; rfl, hb⟩
        cases hbit : q.testBit d
        · have hf : bi (q : Int) d = false := by rw [bi_nat]; exact hbit
          have hp1 : Ct.prT m l ((k' + 1) + 1) = true := by rw [Ct.prT_snoc, hpt.out, HPS.out, hbit]; rfl
          have hP1 := Lib.hid hp1
          have hw64 : Value.int .i64 (wrap64 (2 ^ v)) = Value.int .i64 ((2 ^ v : Nat) : Int) := by rw [wrapPow v (by omega)]
          have hw642 : Value.int .i64 (IntKind.i64.wrap (2 ^ v)) = Value.int .i64 ((2 ^ v : Nat) : Int) := by rw [wrapPow2 v (by omega)]
          have hp8 : 2 ^ v ≤ 64 := by have : ∀ z : Fin 7, 2 ^ z.val ≤ 64 := by decide
                                      exact this ⟨v, by omega⟩
          have hsk : Ct.sumK l ((k' + 1) + 1) = q + 2 ^ v := by show Ct.sumK l (k' + 1) + 2 ^ (l.getD (k' + 1) 0).toNat = _; rw [← HX.out, ← hq.out]; rfl
          have hT : Hid (∀ j, j < (k' + 1) + 1 → Ct.prv l j < l.getD j 0 ∧ l.getD j 0 < (m : Int)) := by
            intro j hj
            by_cases e : j = (k' + 1)
            · subst e
              rw [← HX.out]
              exact ⟨by show l.getD k' 0 < _; rw [← HY.out]; omega, hvm⟩
            · exact hto.out j (by omega)
          obtain ⟨p, hp⟩ : ∃ p, p = 2 ^ v := ⟨_, rfl⟩
          rw [← hp] at hw64 hw642 hp8 hsk
          have hN : Hid (q + p = Ct.sumK l ((k' + 1) + 1)) := hsk.symm
          have hqk2 : q + p ≤ 64 * ((k' + 1) + 1) := by omega
          have hqs : q ≤ 1000 := by omega
          unfold bi at hf
          clear hp hsk hbit hp1 hq hto hpt hc
          go_wp2_with fail
          refine (HI.out _).mono ?_
          rintro e w' ⟨rfl, rfl⟩
          go_wp2
          go_roundw
          case rel => exact ⟨(k' + 1) + 1, q + p, by omega, by go_num, by go_num, hqk2, hN, hT, hP1, hb⟩
          case measure => simp [intOf]; omega
        · have hf : bi (q : Int) d = true := by rw [bi_nat]; exact hbit
          have HE : Hid (Ct.conB m l = false) := Ct.con_pair hlt (by rw [HPS.out]; exact hbit)
          unfold bi at hf
          clear hbit hc
          go_wp2_with fail
          refine (HI.out _).mono ?_
          rintro e w' ⟨rfl, rfl⟩
          go_wp2
          go_ret
          exact ⟨by rw [HE.out]; rfl, hb⟩
    · obtain rfl : k = l.length := by omega
      have hasc : Ct.ascF m 0 l = true := (Ct.asc_iff _ _).2 hto.out
      have HE : Hid (Ct.conB m l = true) := Ct.con_yes HOD.out hasc HD.out hpt.out
      clear hasc
      go_wp2
      go_ret
      exact ⟨by rw [HE.out]; rfl, hb⟩
end Go.Proofs.Yteiadhfjpohmdaa
