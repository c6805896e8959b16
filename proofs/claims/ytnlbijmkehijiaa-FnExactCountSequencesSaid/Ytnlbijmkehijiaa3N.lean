/-
  The two ways of counting Landau's sequences, as plain functions. No program.
-/
import Derived.Test.Ytnlbijmkehijiaa3M
namespace Go.Proofs.Ytnlbijmkehijiaa.Tmpm

/-- The model's loop: over x from a first number on, while there is room. -/
def loopS (f : Nat → Nat) (c : Nat → Bool) : Nat → Nat → Nat
  | 0, _ => 0
  | d + 1, x => if c x then f x + loopS f c d (x + 1) else 0
def okS (n m sum x : Nat) : Bool := decide (x < n) && decide (sum + x * m ≤ prN n)
/-- The model's count: m numbers are still to come. -/
def cS (n : Nat) : Nat → Nat → Nat → Nat
  | 0, _, sum => if sum < prN n then 0 else if sum = prN n then 1 else 0
  | m + 1, last, sum => if sum < prN (n - (m + 1)) then 0 else loopS (fun x => cS n m x (sum + x)) (okS n (m + 1) sum) (n - last) last
/-- The program's loop over s from a first number on. -/
def loopI (f : Nat → Nat) (c : Nat → Bool) : Nat → Nat → Nat
  | 0, _ => 0
  | d + 1, s => (if c s then f s else 0) + loopI f c d (s + 1)
def okI (p : List Int) (s : Nat) : Bool := decide (p.length = 0) || decide (p.getD (p.length - 1) 0 ≤ (s : Int))
def cI (n : Nat) : Nat → List Int → Nat
  | 0, p => if landB p then 1 else 0
  | m + 1, p => loopI (fun s => cI n m (p ++ [(s : Int)])) (okI p) n 0
end Go.Proofs.Ytnlbijmkehijiaa.Tmpm
