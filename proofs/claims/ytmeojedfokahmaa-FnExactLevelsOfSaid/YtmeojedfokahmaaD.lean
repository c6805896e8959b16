/-
  How many elements a set has, on both sides; both 'DoesBeat', both 'ScoreOf'. The sets are below 256.
-/
import Derived.Test.YtmeojedfokahmaaC
import Derived.Laws.BitsAllLaws
namespace Go.Proofs.Ytmeojedfokahmaa
open Go.ChangeShapes Go.WideShapes Go.ChangeAt Go.RowKit
set_option linter.unusedVariables false

/-- How many elements a set of numbers up to 8 has. -/
def pc (x : Nat) : Nat := x % 2 + x / 2 % 2 + x / 4 % 2 + x / 8 % 2 + x / 16 % 2 + x / 32 % 2 + x / 64 % 2 + x / 128 % 2
theorem pc_half (x : Nat) (h : x < 256) : pc x = x % 2 + pc (x / 2) := by unfold pc; omega
theorem pc_le (x : Nat) : pc x ≤ 8 := by unfold pc; omega

set_option maxHeartbeats 400000 in
theorem ones64 (x : Nat) (hx : x < 256) (w : World) : Calls Try.prog 137 #[.int .u64 x] w fun e w' => e = .returned (.int .i64 (pc x)) ∧ w = w' := by
  obtain ⟨y, rfl⟩ : ∃ y : Fin 256, y.val = x := ⟨⟨x, hx⟩, rfl⟩
  go_enter Try.func137, Try.ntmps137
  go_wp2
  go_ret
  refine ⟨congrArg (fun z => Ending.returned (Value.int .i64 z)) ?_, rfl⟩
  clear hx
  revert y
  decide +kernel

theorem ones_any (x : Nat) (hx : x < 256) (w : World) : Calls Try.prog 124 #[.int .u64 x] w fun e w' => e = .returned (.int .i64 (pc x)) ∧ w = w' := by
  go_enter Try.func124, Try.ntmps124
  go_wp2_with (go_at_call 137; refine (ones64 x hx _).mono ?_; rintro e w' ⟨rfl, rfl⟩)
  go_ret
  exact ⟨rfl, rfl⟩

theorem countElements_any (x : Nat) (hx : x < 256) (w : World) : Calls Try.prog 87 #[.int .i64 x] w fun e w' => e = .returned (.int .i64 (pc x)) ∧ w = w' := by
  go_enter Try.func87, Try.ntmps87
  go_wp2_with (go_at_call 124; refine (ones_any x hx _).mono ?_; rintro e w' ⟨rfl, rfl⟩)
  go_ret
  exact ⟨rfl, rfl⟩

set_option maxHeartbeats 400000 in
theorem l02Bits_any (x : Nat) (hx : x < 256) (w : World) : Calls Try.prog 127 #[.int .i64 x] w fun e w' => e = .returned (.int .i64 (pc x)) ∧ w = w' := by
  have hx8 := pc_le x
  go_enter Try.func127, Try.ntmps127
  go_wp2
  go_loop [0, 3] (fun n k => ∃ m q : Nat, n = .int .i64 m ∧ k = .int .i64 q ∧ m < 256 ∧ Hid (q + pc m = pc x)) (fun n _ => (intOf n).toNat)
  case atStart => exact ⟨x, 0, rfl, rfl, hx, by simp [Hid]⟩
  case round =>
    obtain ⟨m, q, rfl, rfl, hm, hq⟩ := hrel
    by_cases h0 : 0 < m
    · have hi : (0 : Int) < (m : Int) := by omega
      obtain ⟨d, hd⟩ : ∃ d, d = m / 2 := ⟨_, rfl⟩
      obtain ⟨r, hr⟩ : ∃ r, r = m % 2 := ⟨_, rfl⟩
      have hb : bits .and .i64 (m : Int) 1 = (r : Int) := by rw [andOne]; omega
      have hdd : (m : Int) / 2 = (d : Int) := by omega
      have hq2 : Hid (q + r + pc d = pc x) := by
        have h1 := hq.out
        have h2 := pc_half m hm
        rw [← hd, ← hr] at h2
        show _ = _
        omega
      have hq9 : q ≤ 8 := by have := hq.out; omega
      have hdm : d < m := by omega
      have hr1 : r ≤ 1 := by omega
      clear hq hd hr
      go_wp2
      go_round
      case rel => exact ⟨d, q + r, rfl, by go_num, by omega, hq2⟩
      case measure => simp [intOf]; omega
    · obtain rfl : m = 0 := by omega
      have hq0 : Hid (q = pc x) := (show q = pc x from by
        have h1 := hq.out
        rw [show pc 0 = 0 from rfl] at h1
        omega)
      go_wp2
      go_ret
      exact ⟨by rw [← hq0.out]; rfl, rfl⟩

/-- Whether a number is a player's. -/
def pl (n a : Int) : Bool := decide (0 ≤ a) && decide (a < n)
theorem pl_iff {n a : Int} : pl n a = true ↔ 0 ≤ a ∧ a < n := by simp [pl]
theorem pl_le (n a : Int) : (decide (0 ≤ a) && decide (a ≤ n - 1)) = pl n a := by
  unfold pl
  have : (a ≤ n - 1) = (a < n) := propext (by omega)
  simp only [this]
theorem okB_iff {n : Int} {l : List Int} : okB n l = true ↔ Ok n l := by simp [okB]

end Go.Proofs.Ytmeojedfokahmaa
