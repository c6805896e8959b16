/-
  'FullWay' of both, in the law's words. No conditions but the bounds that Go gives a slice.
-/
import Derived.Test.YtnlpfajncpbjpaaJF4
namespace Go.Proofs.Ytnlpfajncpbjpaa
open Go.ChangeShapes Go.WideShapes Go.ChangeAt Go.RowKit
set_option linter.unusedVariables false

theorem fwR_le (n : Int) (l : List Int) : (ofN (fwR n l)).length ≤ 8 := by
  rw [ofN_len]
  unfold fwR
  split
  · rename_i hok
    have hk := okB_iff.1 hok
    have h1 := hk.2.1
    have h2 := hk.2.2.1
    rw [Hw.fwL_len]; omega
  · simp
theorem implFW (n : Int) (a : Option Addr) (l : List Int) (cap : Nat) (w : World) (hrow : IntRow w a l) (hl : l.length ≤ maxLen) :
    Calls Try.prog 26 #[.agg #[.int .i64 n, .slice a l.length cap]] w fun e w' => (∃ a0 c0, e = .returned (.slice a0 (ofN (fwR n l)).length c0) ∧ w'.ownsRow w.heap.size 3 1 (.slice a0 (ofN (fwR n l)).length c0) (ofN (fwR n l)).length ((ofN (fwR n l)).map iv)) ∧ Below w.heap.size w w' :=
  (implFullWay n a l cap w hrow hl).mono fun _ _ h => retR_row h
theorem specFW (n : Int) (a : Option Addr) (l : List Int) (cap : Nat) (w : World) (hrow : IntRow w a l) (hl : l.length ≤ maxLen) :
    Calls Try.prog 42 #[.agg #[.int .i64 n, .slice a l.length cap]] w fun e w' => (∃ a0 c0, e = .returned (.slice a0 (ofN (fwR n l)).length c0) ∧ w'.ownsRow w.heap.size 3 1 (.slice a0 (ofN (fwR n l)).length c0) (ofN (fwR n l)).length ((ofN (fwR n l)).map iv)) ∧ Below w.heap.size w w' :=
  (specFullWay n a l cap w hrow hl).mono fun _ _ h => retR_row h
end Go.Proofs.Ytnlpfajncpbjpaa
