/-
  How many elements a set has, on both sides; both 'DoesBeat', both 'ScoreOf'. The sets are below 256.
-/
import Derived.Test.YteiadhfjpohmdaaC
import Derived.Laws.BitsAllLaws
namespace Go.Proofs.Yteiadhfjpohmdaa
open Go.ChangeShapes Go.WideShapes Go.ChangeAt Go.RowKit
set_option linter.unusedVariables false

/-- How many elements a set of numbers up to 8 has. -/
def pc (x : Nat) : Nat := x % 2 + x / 2 % 2 + x / 4 % 2 + x / 8 % 2 + x / 16 % 2 + x / 32 % 2 + x / 64 % 2 + x / 128 % 2
theorem pc_half (x : Nat) (h : x < 256) : pc x = x % 2 + pc (x / 2) := by unfold pc; omega
theorem pc_le (x : Nat) : pc x ≤ 8 := by unfold pc; omega

set_option maxHeartbeats 400000 in
theorem ones64 (x : Nat) (hx : x < 256) (w : World) : Calls Try.prog 184 #[.int .u64 x] w fun e w' => e = .returned (.int .i64 (pc x)) ∧ w = w' := by
  obtain ⟨y, rfl⟩ : ∃ y : Fin 256, y.val = x := ⟨⟨x, hx⟩, rfl⟩
  go_enter Try.func184, Try.ntmps184
  go_wp2
  go_ret
  refine ⟨congrArg (fun z => Ending.returned (Value.int .i64 z)) ?_, rfl⟩
  clear hx
  revert y
  decide +kernel

theorem ones_any (x : Nat) (hx : x < 256) (w : World) : Calls Try.prog 159 #[.int .u64 x] w fun e w' => e = .returned (.int .i64 (pc x)) ∧ w = w' := by
  go_enter Try.func159, Try.ntmps159
  go_wp2_with (go_at_call 184; refine (ones64 x hx _).mono ?_; rintro e w' ⟨rfl, rfl⟩)
  go_ret
  exact ⟨rfl, rfl⟩

theorem countElements_any (x : Nat) (hx : x < 256) (w : World) : Calls Try.prog 123 #[.int .i64 x] w fun e w' => e = .returned (.int .i64 (pc x)) ∧ w = w' := by
  go_enter Try.func123, Try.ntmps123
  go_wp2_with (go_at_call 159; refine (ones_any x hx _).mono ?_; rintro e w' ⟨rfl, rfl⟩)
  go_ret
  exact ⟨rfl, rfl⟩

/-- Whether a number is a player's. -/
def pl (n a : Int) : Bool := decide (0 ≤ a) && decide (a < n)
theorem pl_iff {n a : Int} : pl n a = true ↔ 0 ≤ a ∧ a < n := by simp [pl]
theorem pl_le (n a : Int) : (decide (0 ≤ a) && decide (a ≤ n - 1)) = pl n a := by
  unfold pl
  have : (a ≤ n - 1) = (a < n) := propext (by omega)
  simp only [this]
theorem okB_iff {n : Int} {l : List Int} : okB n l = true ↔ Ok n l := by simp [okB]

end Go.Proofs.Yteiadhfjpohmdaa
