/-
  Both 'FormatTour': the tour's text. The program's one wants the library's table of powers of ten. No conditions else but the bounds that Go gives a slice.
-/
import Derived.Lib.ItoaLen
import Derived.Test.YtgjogbihadiojaaF
namespace Go.Proofs.Ytgjogbihadiojaa
open Go.ChangeShapes Go.WideShapes Go.ChangeAt Go.RowKit
set_option linter.unusedVariables false

/-- A result's letter. -/
def bitc (b : Bool) : UInt8 := if b then 49 else 48
def rowBits (l : List Int) (i j : Nat) : List UInt8 := (List.range (j - (i + 1))).map fun d => bitc (bt l i (i + 1 + d))
theorem rowBits_zero (l : List Int) (i : Nat) : rowBits l i (i + 1) = [] := by simp [rowBits]
theorem rowBits_succ (l : List Int) (i j : Nat) (h : i + 1 ≤ j) : rowBits l i (j + 1) = rowBits l i j ++ [bitc (bt l i j)] := by
  unfold rowBits
  rw [show j + 1 - (i + 1) = (j - (i + 1)) + 1 by omega, List.range_succ, List.map_append, List.map_singleton, show i + 1 + (j - (i + 1)) = j by omega]
theorem rowBits_len (l : List Int) (i j : Nat) : (rowBits l i j).length = j - (i + 1) := by simp [rowBits]
def rowsTo (l : List Int) (m : Nat) : List UInt8 := (List.range m).flatMap fun a => rowBits l a l.length
theorem rowsTo_zero (l : List Int) : rowsTo l 0 = [] := rfl
theorem rowsTo_succ (l : List Int) (m : Nat) : rowsTo l (m + 1) = rowsTo l m ++ rowBits l m l.length := by simp [rowsTo, List.range_succ]
theorem rowsTo_len (l : List Int) (m : Nat) : (rowsTo l m).length ≤ m * l.length := by
  induction m with
  | zero => simp [rowsTo]
  | succ m ih =>
    rw [rowsTo_succ, List.length_append, rowBits_len, Nat.succ_mul]
    omega
/-- The text of a valid tour up to row i, and in row i up to column j. -/
def fmtTo (l : List Int) (i : Nat) (x : List UInt8) : List UInt8 := Lib.itoa (l.length : Int) ++ [58] ++ rowsTo l i ++ x
noncomputable def fmtR (n : Int) (l : List Int) : List UInt8 := if okB n l then fmtTo l l.length [] else []
theorem fmtTo_next (l : List Int) (i : Nat) : fmtTo l (i + 1) [] = fmtTo l i (rowBits l i l.length) := by
  unfold fmtTo; rw [rowsTo_succ]; simp
theorem fmtTo_snoc (l : List Int) (i : Nat) (x : List UInt8) (c : UInt8) : fmtTo l i (x ++ [c]) = fmtTo l i x ++ [c] := by
  unfold fmtTo; rw [List.append_assoc _ x [c]]
theorem fmtTo_len (l : List Int) (h8 : l.length ≤ 8) (i : Nat) (hi : i ≤ 8) (x : List UInt8) (hx : x.length ≤ 8) : (fmtTo l i x).length ≤ 200 := by
  unfold fmtTo
  have h1 := Lib.itoa_length_le (l.length : Int) (by omega) (by omega)
  have h2 := rowsTo_len l i
  have h3 : i * l.length ≤ 64 := Nat.mul_le_mul hi h8
  simp only [List.length_append, List.length_singleton]
  omega

end Go.Proofs.Ytgjogbihadiojaa
