/-
  'l02List' of the model: the elements of a set. No conditions but that the set is small.
-/
import Derived.Test.YtpndfmlkceplcaaK
import Derived.Test.YtpndfmlkceplcaaN
namespace Go.Proofs.Ytpndfmlkceplcaa
open Go.ChangeShapes Go.WideShapes Go.ChangeAt Go.RowKit
set_option linter.unusedVariables false

theorem elTo_done (x k : Nat) (h : x / 2 ^ k = 0) (hk : k ≤ 8) : elTo x k = elems x := by
  have hx : x < 2 ^ k := by
    rcases Nat.lt_or_ge x (2 ^ k) with h' | h'
    · exact h'
    · have := Nat.div_pos h' (Nat.two_pow_pos k); omega
  unfold elems elTo
  have e : (8 : Nat) = k + (8 - k) := by omega
  rw [e, List.range_add, List.filter_append]
  rw [show (List.map (k + ·) (List.range (8 - k))).filter (fun i => x.testBit i) = [] from by
    rw [List.filter_eq_nil_iff]
    intro b hb
    obtain ⟨c, _, rfl⟩ := List.mem_map.1 hb
    rw [Nat.testBit_lt_two_pow (Nat.lt_of_lt_of_le hx (Nat.pow_le_pow_right (by decide) (by omega)))]
    simp]
  simp

end Go.Proofs.Ytpndfmlkceplcaa
