/-
  All tours of up to 5 players, as lists of numbers, and how reversed triangles join them: a count by the kernel (mathematics). No conditions.
-/
import Derived.Lib.Hide
namespace Go.Proofs.YtgdejippddcekaaDoor
set_option linter.unusedVariables false

namespace Cn
def bt (ws : List Nat) (a b : Nat) : Bool := Nat.testBit (ws.getD a 0) b
def fl (ws : List Nat) (a b : Nat) : List Nat := ws.set a (ws.getD a 0 ^^^ 2 ^ b)
def rv (ws : List Nat) (r : Nat × Nat × Nat) : List Nat := fl (fl (fl (fl (fl (fl ws r.1 r.2.1) r.2.1 r.1) r.2.1 r.2.2) r.2.2 r.2.1) r.2.2 r.1) r.1 r.2.2
def tr (ws : List Nat) : List (Nat × Nat × Nat) :=
  (List.range ws.length).flatMap fun a => (List.range ws.length).flatMap fun b => if a < b && bt ws a b then ((List.range ws.length).filter fun c => a < c && (bt ws b c && bt ws c a)).map fun c => (a, b, c) else []
def nb (ws : List Nat) : List (List Nat) := (tr ws).map (rv ws)
def key (ws : List Nat) : Nat := ws.foldl (fun s w => s * 32 + w) 0
def pop (w : Nat) : Nat := w % 2 + w / 2 % 2 + w / 4 % 2 + w / 8 % 2 + w / 16 % 2
def sco (ws : List Nat) : Nat := ws.foldl (fun s w => s * 8 + pop w) 0
def ext (m k : Nat) (ws : List Nat) : List (List Nat) :=
  ((List.range (2 ^ m)).filter fun w => !Nat.testBit w k && (List.range k).all fun j => Nat.testBit w j != Nat.testBit (ws.getD j 0) k).map fun w => ws ++ [w]
def E (m : Nat) : Nat → List (List Nat)
  | 0 => [[]]
  | k + 1 => (E m k).flatMap (ext m k)
/-- Whether one or two reversed triangles lead to a lesser tour. -/
def low (ws : List Nat) : Bool := (nb ws).any fun x => key x < key ws || (nb x).any fun y => key y < key ws
def mins (m : Nat) : List (List Nat) := (E m m).filter fun ws => !low ws
def near3 (x y : List Nat) : Bool := (nb x).any fun a => (nb a).any fun b => (nb b).any fun c => c == y || (nb c).any fun d => d == y
def one (m : Nat) : Bool := (mins m).all fun x => (mins m).all fun y => sco x != sco y || (x == y || near3 x y)
theorem one5 : one 5 = true := by decide +kernel
end Cn
end Go.Proofs.YtgdejippddcekaaDoor
