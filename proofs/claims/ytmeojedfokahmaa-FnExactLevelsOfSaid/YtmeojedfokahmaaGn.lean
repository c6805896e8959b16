/-
  The library's sort that keeps equals in order, on a row of numbers below some bound: two blocks exchanged ('swapRangeCmpFunc'), a rotation ('rotateCmpFunc'). Conditions: at most a thousand places.
-/
import Derived.Test.YtmeojedfokahmaaGm
import Derived.Test.YtmeojedfokahmaaShelfG
import Derived.Test.YtmeojedfokahmaaC
namespace Go.Proofs.Ytmeojedfokahmaa
open Go.ChangeShapes Go.WideShapes Go.ChangeAt Go.RowKit Go.Sort Go.Shelf Go.Lib
set_option linter.unusedVariables false

/-- A place's value: a number below n. -/
def encM (n x : Nat) : Value := .int .i64 ((x % n : Nat) : Int)

/-- What an exchange of two places asks and leaves. -/
theorem swap_facts {n : Nat} {w0 W : World} {blk off : Nat} {d0 dk : Array Nat} (S : SW (encM n) w0 blk off dk W) (R : Row1 (encM n) w0 blk off d0) (hs : dk.size = d0.size) (i j : Nat) (hi : i < dk.size) (hj : j < dk.size) :
    ∃ x y : Int, W.cell? ⟨blk, off + i, none⟩ = some (.int .i64 x) ∧ W.cell? ⟨blk, off + j, none⟩ = some (.int .i64 y) ∧ W.frozen? ⟨blk, off + i, none⟩ = false ∧ W.frozen? ⟨blk, off + j, none⟩ = false ∧
      (∃ u, (W.setCell ⟨blk, off + i, none⟩ (.int .i64 y)).cell? ⟨blk, off + j, none⟩ = some u) ∧
      SW (encM n) w0 blk off (swp dk i j) ((W.setCell ⟨blk, off + i, none⟩ (.int .i64 y)).setCell ⟨blk, off + j, none⟩ (.int .i64 x)).drew :=
  ⟨_, _, S.c1 R hs i hi, S.c1 R hs j hj, S.f1 R hs i hi, S.f1 R hs j hj, S.c2 R hs i j hi hj _, S.swapped R i j hi hj⟩

set_option maxHeartbeats 1600000 in
set_option maxRecDepth 1000000 in
theorem swapRange_any (n : Nat) (g : Nat) (cb : Array Value) (blk off cap a b k : Nat) (d0 d : Array Nat) (w0 w : World) (R : Row1 (encM n) w0 blk off d0) (hs : d.size = d0.size) (S : SW (encM n) w0 blk off d w) (h1 : a + k ≤ b) (h2 : b + k ≤ d.size) (hsz : d.size ≤ 1000) :
    Calls Try.prog 147 #[.slice (some ⟨blk, off, none⟩) d.size cap, .int .i64 a, .int .i64 b, .int .i64 k, .func (.func g) #[] cb] w fun e w' => e = .returned (.tuple #[]) ∧ SW (encM n) w0 blk off (Gm.swR d a b k) w' := by
  have S0 := Lib.hid S
  obtain ⟨D, hD⟩ : ∃ D, D = d.size := ⟨_, rfl⟩
  have HD := Lib.hid hD
  rw [← hD] at hsz h2 ⊢
  clear S hD
  go_enter Try.func147, Try.ntmps147
  go_wp2
  go_loopw [10] (fun v wr => ∃ i : Nat, v = .int .i64 (i : Int) ∧ i ≤ k ∧ Hid (SW (encM n) w0 blk off (Gm.swR d a b i) wr)) (fun v _ => k - (intOf v).toNat)
  case atStart => exact ⟨0, rfl, Nat.zero_le _, S0⟩
  case round =>
    clear S0
    obtain ⟨i, rfl, hi, S1⟩ := hrel
    by_cases hlt : i < k
    · have hlti : (i : Int) < (k : Int) := by omega
      have hz : (Gm.swR d a b i).size = D := by rw [Gm.swR_size]; exact HD.out.symm
      obtain ⟨x, y, c1, c2, f1, f2, ⟨u, c3⟩, S2⟩ := swap_facts S1.out R (hz.trans (HD.out.trans hs)) (a + i) (b + i) (by omega) (by omega)
      have S3 : Hid (SW (encM n) w0 blk off (Gm.swR d a b (i + 1)) _) := S2
      obtain ⟨p, hp⟩ : ∃ p, p = a + i := ⟨_, rfl⟩
      obtain ⟨q, hq⟩ : ∃ q, q = b + i := ⟨_, rfl⟩
      rw [← hp] at c1 c3 f1 S3
      rw [← hq] at c2 c3 f2 S3
      have e1 : ((a : Int) + (i : Int)).toNat = p := by omega
      have e2 : (0 : Int) ≤ (a : Int) + (i : Int) := by omega
      have e3 : (a : Int) + (i : Int) < (D : Int) := by omega
      have e4 : IntKind.i64.wrap ((a : Int) + (i : Int)) = (a : Int) + (i : Int) := by rw [IntKind.wrap_i64]; omega
      have g1 : ((b : Int) + (i : Int)).toNat = q := by omega
      have g2 : (0 : Int) ≤ (b : Int) + (i : Int) := by omega
      have g3 : (b : Int) + (i : Int) < (D : Int) := by omega
      have g4 : IntKind.i64.wrap ((b : Int) + (i : Int)) = (b : Int) + (i : Int) := by rw [IntKind.wrap_i64]; omega
      clear S1 S2 hp hq hz
      go_wp2_with fail
      go_region
      go_wp2
      go_roundw
      case rel => exact ⟨i + 1, by go_num, by omega, S3⟩
      case measure => simp [intOf]; omega
    · obtain rfl : i = k := by omega
      go_wp2
      go_end0
      exact ⟨rfl, S1.out⟩
end Go.Proofs.Ytmeojedfokahmaa
