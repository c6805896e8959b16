/-
  The two ways of counting Landau's sequences agree for 1 to 8 players. No program.
-/
import Derived.Test.Ytnlbijmkehijiaa3N
namespace Go.Proofs.Ytnlbijmkehijiaa.Tmpm
set_option maxHeartbeats 4000000 in
theorem counts_agree (n : Nat) (h1 : 1 ≤ n) (h8 : n ≤ 8) : cI n n [] = cS n n 0 0 := by
  have : ∀ n : Fin 8, cI (n.val + 1) (n.val + 1) [] = cS (n.val + 1) (n.val + 1) 0 0 := by decide +kernel
  have e := this ⟨n - 1, by omega⟩
  rw [show n - 1 + 1 = n by omega] at e
  exact e
end Go.Proofs.Ytnlbijmkehijiaa.Tmpm
