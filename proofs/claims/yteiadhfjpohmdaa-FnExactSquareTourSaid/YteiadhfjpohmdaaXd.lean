/-
  'IsConnection' of the program and of the model. No conditions but the bounds that Go gives a slice.
-/
import Derived.Test.YteiadhfjpohmdaaXc
import Derived.Test.YteiadhfjpohmdaaF
import Derived.Test.YteiadhfjpohmdaaN
namespace Go.Proofs.Yteiadhfjpohmdaa
open Go.ChangeShapes Go.WideShapes Go.ChangeAt Go.RowKit
set_option linter.unusedVariables false

theorem tmod2X (c : Nat) : (c : Int).tmod 2 = ((c % 2 : Nat) : Int) := by rw [Int.tmod_eq_emod_of_nonneg (Int.natCast_nonneg _)]; omega
theorem isz_iff {n : Int} : isz n = true ↔ 1 ≤ n ∧ n ≤ 8 := by simp [isz]

set_option maxHeartbeats 2000000 in
theorem implIsConnection (n : Int) (a : Option Addr) (l : List Int) (cap : Nat) (w : World) (hrow : IntRow w a l) (hl : l.length ≤ maxLen) :
    Calls Try.prog 16 #[.int .i64 n, .slice a l.length cap] w fun e w' => e = .returned (.bool (Ct.conB n l)) ∧ Below w.heap.size w w' := by
  unfold maxLen at hl
  cases hz : isz n
  · have HE : Hid (Ct.conB n l = false) := Ct.con_odd (Ct.odd_not (fun h => by have := isz_iff.2 ⟨h.1, h.2.1⟩; rw [hz] at this; cases this))
    have HS := Lib.hid hz
    clear hz
    go_enter Try.func16, Try.ntmps16
    go_wp2_with fail
    refine (isSize_any n _).mono ?_
    rintro e w' ⟨rfl, rfl⟩
    rw [HS.out]
    go_wp2
    go_ret
    exact ⟨by rw [HE.out]; rfl, Below.refl _ _⟩
  have hz2 := isz_iff.1 hz
  obtain ⟨m, rfl⟩ : ∃ m : Nat, n = m := ⟨n.toNat, by omega⟩
  have hm1 : 1 ≤ m := by omega
  have hm8 : m ≤ 8 := by omega
  have HS := Lib.hid hz
  clear hz hz2
  rcases Nat.mod_two_eq_zero_or_one m with hev | hod
  · have HE : Hid (Ct.conB m l = false) := Ct.con_odd (Ct.odd_not (by omega))
    have hrem1 : (m : Int).tmod 2 = 0 := by rw [tmod2X, hev]; rfl
    have hrem2 : (m : Int) % 2 = 0 := by omega
    clear hev
    go_enter Try.func16, Try.ntmps16
    go_wp2_with fail
    refine (isSize_any _ _).mono ?_
    rintro e w' ⟨rfl, rfl⟩
    rw [HS.out]
    go_wp2
    go_ret
    exact ⟨by rw [HE.out]; rfl, Below.refl _ _⟩
  have hodd : Ct.oddS (m : Int) = true := Ct.odd_is (by omega)
  have hm7 : m ≤ 7 := by omega
  have HOD := Lib.hid hodd
  have hrem1 : (m : Int).tmod 2 = 1 := by rw [tmod2X, hod]; rfl
  have hrem2 : (m : Int) % 2 = 1 := by omega
  clear hod hodd hm8
  go_enter Try.func16, Try.ntmps16
  go_wp2_with fail
  refine (isSize_any _ _).mono ?_
  rintro e w' ⟨rfl, rfl⟩
  rw [HS.out]
  go_wp2
  clear hrem1 hrem2
  go_loopw [5, 6, 20] (fun s z i wr => ∃ (k q : Nat) (y : Int), k ≤ l.length ∧ i = .int .i64 (k : Int) ∧ s = .int .i64 (q : Int) ∧ z = .int .i64 y ∧ q < 128 ∧ Hid (q = Ct.mk l k) ∧ 0 ≤ y ∧ Hid (y = Ct.prv l k) ∧ Hid (∀ j, j < k → Ct.prv l j < l.getD j 0 ∧ l.getD j 0 < (m : Int)) ∧ Below w.heap.size w wr) (fun _ _ i _ => l.length - (intOf i).toNat)
  case atStart => exact ⟨0, 0, 0, Nat.zero_le _, rfl, rfl, rfl, by omega, rfl, Int.le_refl _, rfl, fun j h => absurd h (Nat.not_lt_zero _), Below.refl _ _⟩
  case round =>
    obtain ⟨k, q, y, hk, rfl, rfl, rfl, hq7, hq, hy0, hy, hto, hb⟩ := hrel
    by_cases hlt : k < l.length
    · obtain ⟨b, off, rfl, hbb, hcx⟩ := (hrow.below hb (Nat.le_refl _)).at hlt
      obtain ⟨x, hx⟩ : ∃ x, x = l.getD k 0 := ⟨_, rfl⟩
      rw [← hx] at hcx
      have HX := Lib.hid hx
      have hib : (k : Int) < (l.length : Int) := by omega
      clear hx
      by_cases hxy : x ≤ y
      · have HE : Hid (Ct.conB m l = false) := Ct.con_not hlt (.inl (by rw [← HX.out, ← hy.out]; exact hxy))
        go_wp2
        go_ret
        exact ⟨by rw [HE.out]; rfl, hb⟩
      by_cases hxm : (m : Int) ≤ x
      · have HE : Hid (Ct.conB m l = false) := Ct.con_not hlt (.inr (by rw [← HX.out]; exact hxm))
        go_wp2
        go_ret
        exact ⟨by rw [HE.out]; rfl, hb⟩
      obtain ⟨v, rfl⟩ : ∃ v : Nat, x = v := ⟨x.toNat, by omega⟩
      have hv7 : v < 7 := by omega
      have hw64 : wrap64 (2 ^ v) = ((2 ^ v : Nat) : Int) := wrapPow v (by omega)
      have hw642 : IntKind.i64.wrap (2 ^ v) = ((2 ^ v : Nat) : Int) := wrapPow2 v (by omega)
      have hp8 : 2 ^ v < 128 := Nat.lt_of_lt_of_le (Nat.pow_lt_pow_right (by decide) hv7) (by decide)
      have hmk : Ct.mk l (k + 1) = Ct.mk l k ||| 2 ^ v := by show Ct.mk l k ||| 2 ^ (l.getD k 0).toNat = _; rw [← HX.out]; rfl
      rw [← hq.out] at hmk
      obtain ⟨p, hp⟩ : ∃ p, p = 2 ^ v := ⟨_, rfl⟩
      rw [← hp] at hw64 hw642 hp8 hmk
      have hor : bits .or .i64 (q : Int) (p : Int) = ((q ||| p : Nat) : Int) := i64_or _ _ (Nat.lt_trans hq7 (by decide)) (Nat.lt_trans hp8 (by decide))
      have hqp : q ||| p < 128 := Nat.or_lt_two_pow (n := 7) hq7 hp8
      obtain ⟨z, hz⟩ : ∃ z, z = q ||| p := ⟨_, rfl⟩
      rw [← hz] at hor hqp hmk
      have hN : Hid (z = Ct.mk l (k + 1)) := hmk.symm
      have hP : Hid ((v : Int) = Ct.prv l (k + 1)) := HX.out
      have hT : Hid (∀ j, j < k + 1 → Ct.prv l j < l.getD j 0 ∧ l.getD j 0 < (m : Int)) := by
        intro j hj
        by_cases e : j = k
        · subst e; rw [← HX.out, ← hy.out]; omega
        · exact hto.out j (by omega)
      clear hmk hz hp hq hy hto
      go_wp2
      go_roundw
      case rel => exact ⟨k + 1, z, (v : Int), by omega, by go_num, rfl, rfl, hqp, hN, by omega, hP, hT, hb⟩
      case measure => simp [intOf]; omega
    · obtain rfl : k = l.length := by omega
      have hasc : Ct.ascF m 0 l = true := (Ct.asc_iff _ _).2 hto.out
      have HC : Hid (Ct.conB m l = Ct.symT m q m) := by show _ = _; rw [Ct.con_asc HOD.out hasc, ← hq.out]; rfl
      clear hasc hto hq hy
      go_wp2
      go_loopw [9] (fun i wr => ∃ k : Nat, 1 ≤ k ∧ k ≤ m ∧ i = .int .i64 (k : Int) ∧ Hid (Ct.symT m q k = true) ∧ Below w.heap.size w wr) (fun i _ => m - (intOf i).toNat)
      case atStart => exact ⟨1, Nat.le_refl _, hm1, rfl, rfl, hb⟩
      case round =>
        clear hb
        obtain ⟨j, hj1, hj, rfl, hsy, hb⟩ := hrel
        by_cases hlt2 : j < m
        · have hji : (j : Int) < (m : Int) := by omega
          have hCj : Hid (∀ W, Calls Try.prog 80 #[.int .i64 (q : Int), .int .i64 (j : Int)] W fun e w' => e = .returned (.bool (q.testBit j)) ∧ W = w') := fun W => by rw [← bi_nat]; exact hasElement_any q j W (by omega)
          have hCk : Hid (∀ W, Calls Try.prog 80 #[.int .i64 (q : Int), .int .i64 ((m : Int) - (j : Int))] W fun e w' => e = .returned (.bool (q.testBit (m - j))) ∧ W = w') := fun W => by
            rw [← bi_nat, show (m : Int) - (j : Int) = ((m - j : Nat) : Int) by omega]; exact hasElement_any q (m - j) W (by omega)
          by_cases he : q.testBit j = q.testBit (m - j)
          · have HE : Hid (Ct.conB m l = false) := by show _ = _; rw [HC.out]; exact Ct.symT_at hlt2 hj1 he
            have HEQ := Lib.hid he
            clear he
            go_wp2_with fail
            refine (hCj.out _).mono ?_
            rintro e w' ⟨rfl, rfl⟩
            go_wp2_with fail
            refine (hCk.out _).mono ?_
            rintro e w' ⟨rfl, rfl⟩
            rw [HEQ.out]
            obtain ⟨t, ht⟩ : ∃ t, t = q.testBit (m - j) := ⟨_, rfl⟩
            rw [← ht]
            clear ht
            cases t
            · go_wp2
              go_ret
              exact ⟨by rw [HE.out]; rfl, hb⟩
            · go_wp2
              go_ret
              exact ⟨by rw [HE.out]; rfl, hb⟩
          · have hs2 : Hid (Ct.symT m q (j + 1) = true) := by show _ = _; rw [Ct.symT_snoc, hsy.out]; simp [he]
            have HEQ := Lib.hid he
            clear he hsy
            go_wp2_with fail
            refine (hCj.out _).mono ?_
            rintro e w' ⟨rfl, rfl⟩
            go_wp2_with fail
            refine (hCk.out _).mono ?_
            rintro e w' ⟨rfl, rfl⟩
            have HEO := HEQ.out
            cases t1 : q.testBit j <;> cases t2 : q.testBit (m - j) <;> rw [t1, t2] at HEO
            · exact absurd rfl HEO
            · clear HEO t1 t2
              go_wp2
              go_roundw
              case rel => exact ⟨j + 1, by omega, by omega, by go_num, hs2, hb⟩
              case measure => simp [intOf]; omega
            · clear HEO t1 t2
              go_wp2
              go_roundw
              case rel => exact ⟨j + 1, by omega, by omega, by go_num, hs2, hb⟩
              case measure => simp [intOf]; omega
            · exact absurd rfl HEO
        · obtain rfl : j = m := by omega
          go_wp2
          go_ret
          exact ⟨by rw [HC.out, hsy.out]; rfl, hb⟩
end Go.Proofs.Yteiadhfjpohmdaa
