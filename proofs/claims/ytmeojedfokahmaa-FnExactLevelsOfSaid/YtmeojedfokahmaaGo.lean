/-
  The library's rotation of two neighboring blocks ('rotateCmpFunc'), on a row of numbers below some bound. Conditions: at most a thousand places, neither block empty.
-/
import Derived.Test.YtmeojedfokahmaaGn
namespace Go.Proofs.Ytmeojedfokahmaa
open Go.ChangeShapes Go.WideShapes Go.ChangeAt Go.RowKit Go.Sort Go.Shelf Go.Lib
set_option linter.unusedVariables false

set_option maxHeartbeats 1600000 in
set_option maxRecDepth 1000000 in
theorem rotate_any (n : Nat) (g : Nat) (cb : Array Value) (blk off cap a m b : Nat) (d0 d : Array Nat) (w0 w : World) (R : Row1 (encM n) w0 blk off d0) (hs : d.size = d0.size) (S : SW (encM n) w0 blk off d w) (h1 : a < m) (h2 : m < b) (hb : b ≤ d.size) (hsz : d.size ≤ 1000) :
    Calls Try.prog 145 #[.slice (some ⟨blk, off, none⟩) d.size cap, .int .i64 a, .int .i64 m, .int .i64 b, .func (.func g) #[] cb] w fun e w' => e = .returned (.tuple #[]) ∧ ∃ d', Gm.Rt d d' a m b ∧ SW (encM n) w0 blk off d' w' := by
  have S0 := Lib.hid S
  obtain ⟨D, hD⟩ : ∃ D, D = d.size := ⟨_, rfl⟩
  have HD := Lib.hid hD
  rw [← hD] at hsz hb ⊢
  have HSW : Hid (∀ (p q k : Nat) (dk : Array Nat) (W : World), dk.size = D → SW (encM n) w0 blk off dk W → p + k ≤ q → q + k ≤ D → Calls Try.prog 147 #[.slice (some ⟨blk, off, none⟩) D cap, .int .i64 p, .int .i64 q, .int .i64 k, .func (.func g) #[] cb] W fun e w' => e = .returned (.tuple #[]) ∧ SW (encM n) w0 blk off (Gm.swR dk p q k) w') := by
    intro p q k dk W hk hS hp hq
    have := swapRange_any n g cb blk off cap p q k d0 dk w0 W R (hk.trans (hD.trans hs)) hS hp (by omega) (by omega)
    rw [hk] at this
    exact this
  clear S hD
  obtain ⟨i0, hi0⟩ : ∃ i0, i0 = m - a := ⟨_, rfl⟩
  obtain ⟨j0, hj0⟩ : ∃ j0, j0 = b - m := ⟨_, rfl⟩
  have z1 : (m : Int) - (a : Int) = (i0 : Int) := by omega
  have z2 : (b : Int) - (m : Int) = (j0 : Int) := by omega
  go_enter Try.func145, Try.ntmps145
  go_wp2
  go_loopw [10, 11] (fun u v wr => ∃ (i j : Nat) (dk : Array Nat), u = .int .i64 (i : Int) ∧ v = .int .i64 (j : Int) ∧ 0 < i ∧ 0 < j ∧ i ≤ i0 ∧ j ≤ j0 ∧ Hid (dk.size = D) ∧ Hid (PermIn a b d dk) ∧ Hid (∀ x, Gm.rot dk (m - i) m (m + j) x = Gm.rot d a m b x) ∧ Hid (SW (encM n) w0 blk off dk wr)) (fun u v _ => (intOf u).toNat + (intOf v).toNat)
  case atStart => exact ⟨i0, j0, d, by first | rfl | exact congrArg _ z1 | (congr 1; omega), by first | rfl | exact congrArg _ z2 | (congr 1; omega), by omega, by omega, Nat.le_refl _, Nat.le_refl _, HD.out.symm, permIn_refl _ _ _, fun x => by rw [show m - i0 = a by omega, show m + j0 = b by omega], S0⟩
  case round =>
    clear S0
    obtain ⟨i, j, dk, rfl, rfl, hi, hj, hi0', hj0', hz, hp, hr, S1⟩ := hrel
    rcases Nat.lt_trichotomy i j with hlt | heq | hgt
    · have hne : ¬ (i : Int) = (j : Int) := by omega
      have hng : ¬ (j : Int) < (i : Int) := by omega
      have hC := HSW.out (m - i) (m + j - i) i dk wr hz.out S1.out (by omega) (by omega)
      have e1 : ((m - i : Nat) : Int) = (m : Int) - (i : Int) := by omega
      have e2 : ((m + j - i : Nat) : Int) = (m : Int) + (j : Int) - (i : Int) := by omega
      rw [e1, e2] at hC
      have HC := Lib.hid hC
      have hz2 : Hid ((Gm.swR dk (m - i) (m + j - i) i).size = D) := (Gm.swR_size _ _ _ _).trans hz.out
      have hp2 : Hid (PermIn a b d (Gm.swR dk (m - i) (m + j - i) i)) := permIn_trans _ _ _ _ _ hp.out (Gm.swR_perm _ _ _ _ _ _ (by omega) (by omega) (by omega) (by rw [hz.out]; omega))
      have hr2 : Hid (∀ x, Gm.rot (Gm.swR dk (m - i) (m + j - i) i) (m - i) m (m + (j - i)) x = Gm.rot d a m b x) := fun x => (Gm.rot_right dk m i j x hlt (by omega) (by rw [hz.out]; omega)).trans (hr.out x)
      clear hC e1 e2 S1 hz hp hr
      go_wp2_with (go_at_call 147; refine HC.out.mono ?_; rintro e w2 ⟨rfl, hS2⟩; have S2 := Lib.hid hS2; clear hS2)
      go_roundw
      case rel => exact ⟨i, j - i, _, rfl, by go_num, hi, by omega, hi0', by omega, hz2, hp2, hr2, S2⟩
      case measure => simp [intOf]; omega
    · subst heq
      have hC := HSW.out (m - i) m i dk wr hz.out S1.out (by omega) (by omega)
      have e1 : ((m - i : Nat) : Int) = (m : Int) - (i : Int) := by omega
      rw [e1] at hC
      have HC := Lib.hid hC
      have hfin : Hid (Gm.Rt d (Gm.swR dk (m - i) m i) a m b) := ⟨permIn_trans _ _ _ _ _ hp.out (Gm.swR_perm _ _ _ _ _ _ (by omega) (by omega) (by omega) (by rw [hz.out]; omega)), fun x => (Gm.rot_even dk m i x (by omega) (by rw [hz.out]; omega)).trans (hr.out x)⟩
      clear hC e1 S1 hz hp hr
      go_wp2_with (go_at_call 147; refine HC.out.mono ?_; rintro e w2 ⟨rfl, hS2⟩; have S2 := Lib.hid hS2; clear hS2)
      go_end0
      exact ⟨rfl, _, hfin.out, S2.out⟩
    · have hne : ¬ (i : Int) = (j : Int) := by omega
      have hng : (j : Int) < (i : Int) := by omega
      have hC := HSW.out (m - i) m j dk wr hz.out S1.out (by omega) (by omega)
      have e1 : ((m - i : Nat) : Int) = (m : Int) - (i : Int) := by omega
      rw [e1] at hC
      have HC := Lib.hid hC
      have hz2 : Hid ((Gm.swR dk (m - i) m j).size = D) := (Gm.swR_size _ _ _ _).trans hz.out
      have hp2 : Hid (PermIn a b d (Gm.swR dk (m - i) m j)) := permIn_trans _ _ _ _ _ hp.out (Gm.swR_perm _ _ _ _ _ _ (by omega) (by omega) (by omega) (by rw [hz.out]; omega))
      have hr2 : Hid (∀ x, Gm.rot (Gm.swR dk (m - i) m j) (m - (i - j)) m (m + j) x = Gm.rot d a m b x) := fun x => (Gm.rot_left dk m i j x hgt (by omega) (by rw [hz.out]; omega)).trans (hr.out x)
      clear hC e1 S1 hz hp hr
      go_wp2_with (go_at_call 147; refine HC.out.mono ?_; rintro e w2 ⟨rfl, hS2⟩; have S2 := Lib.hid hS2; clear hS2)
      go_roundw
      case rel => exact ⟨i - j, j, _, by go_num, rfl, by omega, hj, by omega, hj0', hz2, hp2, hr2, S2⟩
      case measure => simp [intOf]; omega
end Go.Proofs.Ytmeojedfokahmaa
