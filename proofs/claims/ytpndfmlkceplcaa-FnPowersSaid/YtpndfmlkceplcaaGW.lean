/-
  The great condition of the law 'FnPowers' (96 operations, all of which only read): its operations may be taken in the order of the text. No conditions.
-/
import Derived.Test.YtpndfmlkceplcaaA
import Derived.Deep.Quiet
namespace Go.Proofs.Ytpndfmlkceplcaa
open Go.ChangeShapes Go.WideShapes Go.ChangeAt Go.RowKit
set_option linter.unusedVariables false

/-- What is listed behind the first k operations. -/
def lkQ (n : Nat) : Nat → Array Bool
  | 0 => Array.replicate n false
  | k + 1 => (lkQ n k).setIfInBounds k true
def stepQ (ops : Array Oper) (n k : Nat) : Bool := (Region.ready .any ops (lkQ n k)).contains k && Region.free .any ops (lkQ n k) k
theorem lexQ {ops : Array Oper} {n : Nat} (h : ∀ k, k < n → stepQ ops n k = true) (he : (Region.ready .any ops (lkQ n n)).isEmpty = true) : ∀ fuel k, k + fuel = n → Region.lexFrom .any ops fuel k (lkQ n k) = true
  | 0, k, hk => by
    obtain rfl : k = n := by omega
    exact he
  | fuel + 1, k, hk => by
    have h1 := h k (by omega)
    have h2 := lexQ h he fuel (k + 1) (by omega)
    unfold stepQ at h1
    rw [Bool.and_eq_true] at h1
    unfold Region.lexFrom
    rw [h1.1, h1.2]
    exact h2
theorem lexB_of {ops : Array Oper} {n : Nat} (hn : ops.size = n) (hs : Region.noSelect ops = true) (h : ∀ k, k < n → stepQ ops n k = true) (he : (Region.ready .any ops (lkQ n n)).isEmpty = true) : Region.lexB .any ops = true := by
  unfold Region.lexB
  rw [hs, hn, Bool.true_and]
  exact lexQ h he n 0 (by omega)

def pwA : List Oper :=
  [{ dst := some 161, op := Op.move (Operand.tmp 13), type := 22, pos := "laws.go:431", after := #[], guard := none },
  { dst := some 162, op := Op.move (Operand.tmp 16), type := 3, pos := "laws.go:431", after := #[], guard := none },
  { dst := some 163, op := Op.indexAddr 22 (Operand.tmp 161) (Operand.tmp 162), type := 0, pos := "laws.go:431", after := #[{ on := 0, ground := Ground.data }, { on := 1, ground := Ground.data }], guard := none },
  { dst := some 164, op := Op.load 3 (Operand.tmp 163), type := 3, pos := "laws.go:431", after := #[{ on := 2, ground := Ground.data }], guard := none },
  { dst := some 165, op := Op.binOp BinOp.lss 3 (Operand.tmp 164) (Operand.const (Value.int IntKind.i64 0)) 3, type := 4, pos := "laws.go:431", after := #[{ on := 3, ground := Ground.data }], guard := none },
  { dst := some 166, op := Op.move (Operand.tmp 165), type := 4, pos := "laws.go:431", after := #[{ on := 4, ground := Ground.data }], guard := none },
  { dst := some 167, op := Op.move (Operand.tmp 13), type := 22, pos := "laws.go:431", after := #[{ on := 5, ground := Ground.guard }], guard := some (5, false) },
  { dst := some 168, op := Op.move (Operand.tmp 16), type := 3, pos := "laws.go:431", after := #[{ on := 5, ground := Ground.guard }], guard := some (5, false) },
  { dst := some 169, op := Op.indexAddr 22 (Operand.tmp 167) (Operand.tmp 168), type := 0, pos := "laws.go:431", after := #[{ on := 6, ground := Ground.data }, { on := 7, ground := Ground.data }, { on := 5, ground := Ground.guard }], guard := some (5, false) },
  { dst := some 170, op := Op.load 3 (Operand.tmp 169), type := 3, pos := "laws.go:431", after := #[{ on := 8, ground := Ground.data }, { on := 5, ground := Ground.guard }], guard := some (5, false) },
  { dst := some 171, op := Op.move (Operand.tmp 4), type := 3, pos := "laws.go:431", after := #[{ on := 5, ground := Ground.guard }], guard := some (5, false) },
  { dst := some 172, op := Op.binOp BinOp.geq 3 (Operand.tmp 170) (Operand.tmp 171) 3, type := 4, pos := "laws.go:431", after := #[{ on := 9, ground := Ground.data }, { on := 10, ground := Ground.data }, { on := 5, ground := Ground.guard }], guard := some (5, false) },
  { dst := some 173, op := Op.pick (Operand.tmp 166) (Operand.const (Value.bool true)) (Operand.tmp 172), type := 4, pos := "laws.go:431", after := #[{ on := 5, ground := Ground.data }, { on := 11, ground := Ground.data }], guard := none },
  { dst := some 174, op := Op.move (Operand.tmp 173), type := 4, pos := "laws.go:431", after := #[{ on := 12, ground := Ground.data }, { on := 5, ground := Ground.chain }], guard := none },
  { dst := some 175, op := Op.move (Operand.tmp 13), type := 22, pos := "laws.go:431", after := #[{ on := 13, ground := Ground.guard }], guard := some (13, false) },
  { dst := some 176, op := Op.move (Operand.tmp 16), type := 3, pos := "laws.go:431", after := #[{ on := 13, ground := Ground.guard }], guard := some (13, false) },
  { dst := some 177, op := Op.binOp BinOp.sub 3 (Operand.tmp 176) (Operand.const (Value.int IntKind.i64 1)) 3, type := 3, pos := "laws.go:431", after := #[{ on := 15, ground := Ground.data }, { on := 13, ground := Ground.guard }], guard := some (13, false) },
  { dst := some 178, op := Op.indexAddr 22 (Operand.tmp 175) (Operand.tmp 177), type := 0, pos := "laws.go:431", after := #[{ on := 14, ground := Ground.data }, { on := 16, ground := Ground.data }, { on := 13, ground := Ground.guard }], guard := some (13, false) },
  { dst := some 179, op := Op.load 3 (Operand.tmp 178), type := 3, pos := "laws.go:431", after := #[{ on := 17, ground := Ground.data }, { on := 13, ground := Ground.guard }], guard := some (13, false) },
  { dst := some 180, op := Op.binOp BinOp.lss 3 (Operand.tmp 179) (Operand.const (Value.int IntKind.i64 0)) 3, type := 4, pos := "laws.go:431", after := #[{ on := 18, ground := Ground.data }, { on := 13, ground := Ground.guard }], guard := some (13, false) },
  { dst := some 181, op := Op.pick (Operand.tmp 174) (Operand.const (Value.bool true)) (Operand.tmp 180), type := 4, pos := "laws.go:431", after := #[{ on := 13, ground := Ground.data }, { on := 19, ground := Ground.data }], guard := none },
  { dst := some 182, op := Op.move (Operand.tmp 181), type := 4, pos := "laws.go:431", after := #[{ on := 20, ground := Ground.data }, { on := 13, ground := Ground.chain }], guard := none },
  { dst := some 183, op := Op.move (Operand.tmp 13), type := 22, pos := "laws.go:431", after := #[{ on := 21, ground := Ground.guard }], guard := some (21, false) },
  { dst := some 184, op := Op.move (Operand.tmp 16), type := 3, pos := "laws.go:431", after := #[{ on := 21, ground := Ground.guard }], guard := some (21, false) },
  { dst := some 185, op := Op.binOp BinOp.sub 3 (Operand.tmp 184) (Operand.const (Value.int IntKind.i64 1)) 3, type := 3, pos := "laws.go:431", after := #[{ on := 23, ground := Ground.data }, { on := 21, ground := Ground.guard }], guard := some (21, false) },
  { dst := some 186, op := Op.indexAddr 22 (Operand.tmp 183) (Operand.tmp 185), type := 0, pos := "laws.go:431", after := #[{ on := 22, ground := Ground.data }, { on := 24, ground := Ground.data }, { on := 21, ground := Ground.guard }], guard := some (21, false) },
  { dst := some 187, op := Op.load 3 (Operand.tmp 186), type := 3, pos := "laws.go:431", after := #[{ on := 25, ground := Ground.data }, { on := 21, ground := Ground.guard }], guard := some (21, false) },
  { dst := some 188, op := Op.move (Operand.tmp 4), type := 3, pos := "laws.go:431", after := #[{ on := 21, ground := Ground.guard }], guard := some (21, false) },
  { dst := some 189, op := Op.binOp BinOp.geq 3 (Operand.tmp 187) (Operand.tmp 188) 3, type := 4, pos := "laws.go:431", after := #[{ on := 26, ground := Ground.data }, { on := 27, ground := Ground.data }, { on := 21, ground := Ground.guard }], guard := some (21, false) },
  { dst := some 190, op := Op.pick (Operand.tmp 182) (Operand.const (Value.bool true)) (Operand.tmp 189), type := 4, pos := "laws.go:431", after := #[{ on := 21, ground := Ground.data }, { on := 28, ground := Ground.data }], guard := none },
  { dst := some 191, op := Op.move (Operand.tmp 190), type := 4, pos := "laws.go:431", after := #[{ on := 29, ground := Ground.data }, { on := 21, ground := Ground.chain }], guard := none },
  { dst := some 192, op := Op.move (Operand.tmp 6), type := 22, pos := "laws.go:431", after := #[{ on := 30, ground := Ground.guard }], guard := some (30, false) },
  { dst := some 193, op := Op.move (Operand.tmp 13), type := 22, pos := "laws.go:431", after := #[{ on := 30, ground := Ground.guard }], guard := some (30, false) },
  { dst := some 194, op := Op.move (Operand.tmp 16), type := 3, pos := "laws.go:431", after := #[{ on := 30, ground := Ground.guard }], guard := some (30, false) },
  { dst := some 195, op := Op.indexAddr 22 (Operand.tmp 193) (Operand.tmp 194), type := 0, pos := "laws.go:431", after := #[{ on := 32, ground := Ground.data }, { on := 33, ground := Ground.data }, { on := 30, ground := Ground.guard }], guard := some (30, false) },
  { dst := some 196, op := Op.load 3 (Operand.tmp 195), type := 3, pos := "laws.go:431", after := #[{ on := 34, ground := Ground.data }, { on := 30, ground := Ground.guard }], guard := some (30, false) },
  { dst := some 197, op := Op.indexAddr 22 (Operand.tmp 192) (Operand.tmp 196), type := 0, pos := "laws.go:431", after := #[{ on := 31, ground := Ground.data }, { on := 35, ground := Ground.data }, { on := 30, ground := Ground.guard }], guard := some (30, false) },
  { dst := some 198, op := Op.load 3 (Operand.tmp 197), type := 3, pos := "laws.go:431", after := #[{ on := 36, ground := Ground.data }, { on := 30, ground := Ground.guard }], guard := some (30, false) },
  { dst := some 199, op := Op.move (Operand.tmp 6), type := 22, pos := "laws.go:431", after := #[{ on := 30, ground := Ground.guard }], guard := some (30, false) },
  { dst := some 200, op := Op.move (Operand.tmp 13), type := 22, pos := "laws.go:431", after := #[{ on := 30, ground := Ground.guard }], guard := some (30, false) },
  { dst := some 201, op := Op.move (Operand.tmp 16), type := 3, pos := "laws.go:431", after := #[{ on := 30, ground := Ground.guard }], guard := some (30, false) },
  { dst := some 202, op := Op.binOp BinOp.sub 3 (Operand.tmp 201) (Operand.const (Value.int IntKind.i64 1)) 3, type := 3, pos := "laws.go:431", after := #[{ on := 40, ground := Ground.data }, { on := 30, ground := Ground.guard }], guard := some (30, false) },
  { dst := some 203, op := Op.indexAddr 22 (Operand.tmp 200) (Operand.tmp 202), type := 0, pos := "laws.go:431", after := #[{ on := 39, ground := Ground.data }, { on := 41, ground := Ground.data }, { on := 30, ground := Ground.guard }], guard := some (30, false) },
  { dst := some 204, op := Op.load 3 (Operand.tmp 203), type := 3, pos := "laws.go:431", after := #[{ on := 42, ground := Ground.data }, { on := 30, ground := Ground.guard }], guard := some (30, false) },
  { dst := some 205, op := Op.indexAddr 22 (Operand.tmp 199) (Operand.tmp 204), type := 0, pos := "laws.go:431", after := #[{ on := 38, ground := Ground.data }, { on := 43, ground := Ground.data }, { on := 30, ground := Ground.guard }], guard := some (30, false) },
  { dst := some 206, op := Op.load 3 (Operand.tmp 205), type := 3, pos := "laws.go:431", after := #[{ on := 44, ground := Ground.data }, { on := 30, ground := Ground.guard }], guard := some (30, false) },
  { dst := some 207, op := Op.binOp BinOp.gtr 3 (Operand.tmp 198) (Operand.tmp 206) 3, type := 4, pos := "laws.go:431", after := #[{ on := 37, ground := Ground.data }, { on := 45, ground := Ground.data }, { on := 30, ground := Ground.guard }], guard := some (30, false) },
  { dst := some 208, op := Op.pick (Operand.tmp 191) (Operand.const (Value.bool true)) (Operand.tmp 207), type := 4, pos := "laws.go:431", after := #[{ on := 30, ground := Ground.data }, { on := 46, ground := Ground.data }], guard := none }]
def pwB : List Oper :=
  [{ dst := some 209, op := Op.move (Operand.tmp 208), type := 4, pos := "laws.go:431", after := #[{ on := 47, ground := Ground.data }, { on := 30, ground := Ground.chain }], guard := none },
  { dst := some 210, op := Op.move (Operand.tmp 6), type := 22, pos := "laws.go:431", after := #[{ on := 48, ground := Ground.guard }], guard := some (48, false) },
  { dst := some 211, op := Op.move (Operand.tmp 13), type := 22, pos := "laws.go:431", after := #[{ on := 48, ground := Ground.guard }], guard := some (48, false) },
  { dst := some 212, op := Op.move (Operand.tmp 16), type := 3, pos := "laws.go:431", after := #[{ on := 48, ground := Ground.guard }], guard := some (48, false) },
  { dst := some 213, op := Op.indexAddr 22 (Operand.tmp 211) (Operand.tmp 212), type := 0, pos := "laws.go:431", after := #[{ on := 50, ground := Ground.data }, { on := 51, ground := Ground.data }, { on := 48, ground := Ground.guard }], guard := some (48, false) },
  { dst := some 214, op := Op.load 3 (Operand.tmp 213), type := 3, pos := "laws.go:431", after := #[{ on := 52, ground := Ground.data }, { on := 48, ground := Ground.guard }], guard := some (48, false) },
  { dst := some 215, op := Op.indexAddr 22 (Operand.tmp 210) (Operand.tmp 214), type := 0, pos := "laws.go:431", after := #[{ on := 49, ground := Ground.data }, { on := 53, ground := Ground.data }, { on := 48, ground := Ground.guard }], guard := some (48, false) },
  { dst := some 216, op := Op.load 3 (Operand.tmp 215), type := 3, pos := "laws.go:431", after := #[{ on := 54, ground := Ground.data }, { on := 48, ground := Ground.guard }], guard := some (48, false) },
  { dst := some 217, op := Op.move (Operand.tmp 6), type := 22, pos := "laws.go:431", after := #[{ on := 48, ground := Ground.guard }], guard := some (48, false) },
  { dst := some 218, op := Op.move (Operand.tmp 13), type := 22, pos := "laws.go:431", after := #[{ on := 48, ground := Ground.guard }], guard := some (48, false) },
  { dst := some 219, op := Op.move (Operand.tmp 16), type := 3, pos := "laws.go:431", after := #[{ on := 48, ground := Ground.guard }], guard := some (48, false) },
  { dst := some 220, op := Op.binOp BinOp.sub 3 (Operand.tmp 219) (Operand.const (Value.int IntKind.i64 1)) 3, type := 3, pos := "laws.go:431", after := #[{ on := 58, ground := Ground.data }, { on := 48, ground := Ground.guard }], guard := some (48, false) },
  { dst := some 221, op := Op.indexAddr 22 (Operand.tmp 218) (Operand.tmp 220), type := 0, pos := "laws.go:431", after := #[{ on := 57, ground := Ground.data }, { on := 59, ground := Ground.data }, { on := 48, ground := Ground.guard }], guard := some (48, false) },
  { dst := some 222, op := Op.load 3 (Operand.tmp 221), type := 3, pos := "laws.go:431", after := #[{ on := 60, ground := Ground.data }, { on := 48, ground := Ground.guard }], guard := some (48, false) },
  { dst := some 223, op := Op.indexAddr 22 (Operand.tmp 217) (Operand.tmp 222), type := 0, pos := "laws.go:431", after := #[{ on := 56, ground := Ground.data }, { on := 61, ground := Ground.data }, { on := 48, ground := Ground.guard }], guard := some (48, false) },
  { dst := some 224, op := Op.load 3 (Operand.tmp 223), type := 3, pos := "laws.go:431", after := #[{ on := 62, ground := Ground.data }, { on := 48, ground := Ground.guard }], guard := some (48, false) },
  { dst := some 225, op := Op.binOp BinOp.eql 3 (Operand.tmp 216) (Operand.tmp 224) 3, type := 4, pos := "laws.go:431", after := #[{ on := 55, ground := Ground.data }, { on := 63, ground := Ground.data }, { on := 48, ground := Ground.guard }], guard := some (48, false) },
  { dst := some 226, op := Op.move (Operand.tmp 225), type := 4, pos := "laws.go:431", after := #[{ on := 64, ground := Ground.data }, { on := 48, ground := Ground.chain }, { on := 48, ground := Ground.guard }], guard := some (48, false) },
  { dst := some 227, op := Op.move (Operand.tmp 13), type := 22, pos := "laws.go:431", after := #[{ on := 65, ground := Ground.guard }], guard := some (65, true) },
  { dst := some 228, op := Op.move (Operand.tmp 16), type := 3, pos := "laws.go:431", after := #[{ on := 65, ground := Ground.guard }], guard := some (65, true) },
  { dst := some 229, op := Op.indexAddr 22 (Operand.tmp 227) (Operand.tmp 228), type := 0, pos := "laws.go:431", after := #[{ on := 66, ground := Ground.data }, { on := 67, ground := Ground.data }, { on := 65, ground := Ground.guard }], guard := some (65, true) },
  { dst := some 230, op := Op.load 3 (Operand.tmp 229), type := 3, pos := "laws.go:431", after := #[{ on := 68, ground := Ground.data }, { on := 65, ground := Ground.guard }], guard := some (65, true) },
  { dst := some 231, op := Op.move (Operand.tmp 13), type := 22, pos := "laws.go:431", after := #[{ on := 65, ground := Ground.guard }], guard := some (65, true) },
  { dst := some 232, op := Op.move (Operand.tmp 16), type := 3, pos := "laws.go:431", after := #[{ on := 65, ground := Ground.guard }], guard := some (65, true) },
  { dst := some 233, op := Op.binOp BinOp.sub 3 (Operand.tmp 232) (Operand.const (Value.int IntKind.i64 1)) 3, type := 3, pos := "laws.go:431", after := #[{ on := 71, ground := Ground.data }, { on := 65, ground := Ground.guard }], guard := some (65, true) },
  { dst := some 234, op := Op.indexAddr 22 (Operand.tmp 231) (Operand.tmp 233), type := 0, pos := "laws.go:431", after := #[{ on := 70, ground := Ground.data }, { on := 72, ground := Ground.data }, { on := 65, ground := Ground.guard }], guard := some (65, true) },
  { dst := some 235, op := Op.load 3 (Operand.tmp 234), type := 3, pos := "laws.go:431", after := #[{ on := 73, ground := Ground.data }, { on := 65, ground := Ground.guard }], guard := some (65, true) },
  { dst := some 236, op := Op.binOp BinOp.lss 3 (Operand.tmp 230) (Operand.tmp 235) 3, type := 4, pos := "laws.go:431", after := #[{ on := 69, ground := Ground.data }, { on := 74, ground := Ground.data }, { on := 65, ground := Ground.guard }], guard := some (65, true) },
  { dst := some 237, op := Op.pick (Operand.tmp 226) (Operand.tmp 236) (Operand.const (Value.bool false)), type := 4, pos := "laws.go:431", after := #[{ on := 65, ground := Ground.data }, { on := 75, ground := Ground.data }, { on := 48, ground := Ground.guard }], guard := some (48, false) },
  { dst := some 238, op := Op.pick (Operand.tmp 209) (Operand.const (Value.bool true)) (Operand.tmp 237), type := 4, pos := "laws.go:431", after := #[{ on := 48, ground := Ground.data }, { on := 76, ground := Ground.data }], guard := none },
  { dst := some 239, op := Op.move (Operand.tmp 238), type := 4, pos := "laws.go:431", after := #[{ on := 77, ground := Ground.data }, { on := 65, ground := Ground.chain }], guard := none },
  { dst := some 240, op := Op.move (Operand.tmp 14), type := 22, pos := "laws.go:431", after := #[{ on := 78, ground := Ground.guard }], guard := some (78, false) },
  { dst := some 241, op := Op.move (Operand.tmp 13), type := 22, pos := "laws.go:431", after := #[{ on := 78, ground := Ground.guard }], guard := some (78, false) },
  { dst := some 242, op := Op.move (Operand.tmp 16), type := 3, pos := "laws.go:431", after := #[{ on := 78, ground := Ground.guard }], guard := some (78, false) },
  { dst := some 243, op := Op.indexAddr 22 (Operand.tmp 241) (Operand.tmp 242), type := 0, pos := "laws.go:431", after := #[{ on := 80, ground := Ground.data }, { on := 81, ground := Ground.data }, { on := 78, ground := Ground.guard }], guard := some (78, false) },
  { dst := some 244, op := Op.load 3 (Operand.tmp 243), type := 3, pos := "laws.go:431", after := #[{ on := 82, ground := Ground.data }, { on := 78, ground := Ground.guard }], guard := some (78, false) },
  { dst := some 245, op := Op.indexAddr 22 (Operand.tmp 240) (Operand.tmp 244), type := 0, pos := "laws.go:431", after := #[{ on := 79, ground := Ground.data }, { on := 83, ground := Ground.data }, { on := 78, ground := Ground.guard }], guard := some (78, false) },
  { dst := some 246, op := Op.load 3 (Operand.tmp 245), type := 3, pos := "laws.go:431", after := #[{ on := 84, ground := Ground.data }, { on := 78, ground := Ground.guard }], guard := some (78, false) },
  { dst := some 247, op := Op.move (Operand.tmp 14), type := 22, pos := "laws.go:431", after := #[{ on := 78, ground := Ground.guard }], guard := some (78, false) },
  { dst := some 248, op := Op.move (Operand.tmp 13), type := 22, pos := "laws.go:431", after := #[{ on := 78, ground := Ground.guard }], guard := some (78, false) },
  { dst := some 249, op := Op.move (Operand.tmp 16), type := 3, pos := "laws.go:431", after := #[{ on := 78, ground := Ground.guard }], guard := some (78, false) },
  { dst := some 250, op := Op.binOp BinOp.sub 3 (Operand.tmp 249) (Operand.const (Value.int IntKind.i64 1)) 3, type := 3, pos := "laws.go:431", after := #[{ on := 88, ground := Ground.data }, { on := 78, ground := Ground.guard }], guard := some (78, false) },
  { dst := some 251, op := Op.indexAddr 22 (Operand.tmp 248) (Operand.tmp 250), type := 0, pos := "laws.go:431", after := #[{ on := 87, ground := Ground.data }, { on := 89, ground := Ground.data }, { on := 78, ground := Ground.guard }], guard := some (78, false) },
  { dst := some 252, op := Op.load 3 (Operand.tmp 251), type := 3, pos := "laws.go:431", after := #[{ on := 90, ground := Ground.data }, { on := 78, ground := Ground.guard }], guard := some (78, false) },
  { dst := some 253, op := Op.indexAddr 22 (Operand.tmp 247) (Operand.tmp 252), type := 0, pos := "laws.go:431", after := #[{ on := 86, ground := Ground.data }, { on := 91, ground := Ground.data }, { on := 78, ground := Ground.guard }], guard := some (78, false) },
  { dst := some 254, op := Op.load 3 (Operand.tmp 253), type := 3, pos := "laws.go:431", after := #[{ on := 92, ground := Ground.data }, { on := 78, ground := Ground.guard }], guard := some (78, false) },
  { dst := some 255, op := Op.binOp BinOp.lss 3 (Operand.tmp 246) (Operand.tmp 254) 3, type := 4, pos := "laws.go:431", after := #[{ on := 85, ground := Ground.data }, { on := 93, ground := Ground.data }, { on := 78, ground := Ground.guard }], guard := some (78, false) },
  { dst := some 256, op := Op.pick (Operand.tmp 239) (Operand.const (Value.bool true)) (Operand.tmp 255), type := 4, pos := "laws.go:431", after := #[{ on := 78, ground := Ground.data }, { on := 94, ground := Ground.data }], guard := none }]
def pwO : Array Oper := (pwA.append pwB).toArray
theorem pwC0 : ((List.range' 0 4).all fun k => stepQ pwO 96 k) = true := by kernel_rfl
theorem pwC1 : ((List.range' 4 4).all fun k => stepQ pwO 96 k) = true := by kernel_rfl
theorem pwC2 : ((List.range' 8 4).all fun k => stepQ pwO 96 k) = true := by kernel_rfl
theorem pwC3 : ((List.range' 12 4).all fun k => stepQ pwO 96 k) = true := by kernel_rfl
theorem pwC4 : ((List.range' 16 4).all fun k => stepQ pwO 96 k) = true := by kernel_rfl
theorem pwC5 : ((List.range' 20 4).all fun k => stepQ pwO 96 k) = true := by kernel_rfl
theorem pwC6 : ((List.range' 24 4).all fun k => stepQ pwO 96 k) = true := by kernel_rfl
theorem pwC7 : ((List.range' 28 4).all fun k => stepQ pwO 96 k) = true := by kernel_rfl
theorem pwC8 : ((List.range' 32 4).all fun k => stepQ pwO 96 k) = true := by kernel_rfl
theorem pwC9 : ((List.range' 36 4).all fun k => stepQ pwO 96 k) = true := by kernel_rfl
theorem pwC10 : ((List.range' 40 4).all fun k => stepQ pwO 96 k) = true := by kernel_rfl
theorem pwC11 : ((List.range' 44 4).all fun k => stepQ pwO 96 k) = true := by kernel_rfl
theorem pwC12 : ((List.range' 48 4).all fun k => stepQ pwO 96 k) = true := by kernel_rfl
theorem pwC13 : ((List.range' 52 4).all fun k => stepQ pwO 96 k) = true := by kernel_rfl
theorem pwC14 : ((List.range' 56 4).all fun k => stepQ pwO 96 k) = true := by kernel_rfl
theorem pwC15 : ((List.range' 60 4).all fun k => stepQ pwO 96 k) = true := by kernel_rfl
theorem pwC16 : ((List.range' 64 4).all fun k => stepQ pwO 96 k) = true := by kernel_rfl
theorem pwC17 : ((List.range' 68 4).all fun k => stepQ pwO 96 k) = true := by kernel_rfl
theorem pwC18 : ((List.range' 72 4).all fun k => stepQ pwO 96 k) = true := by kernel_rfl
theorem pwC19 : ((List.range' 76 4).all fun k => stepQ pwO 96 k) = true := by kernel_rfl
theorem pwC20 : ((List.range' 80 4).all fun k => stepQ pwO 96 k) = true := by kernel_rfl
theorem pwC21 : ((List.range' 84 4).all fun k => stepQ pwO 96 k) = true := by kernel_rfl
theorem pwC22 : ((List.range' 88 4).all fun k => stepQ pwO 96 k) = true := by kernel_rfl
theorem pwC23 : ((List.range' 92 4).all fun k => stepQ pwO 96 k) = true := by kernel_rfl
theorem pwE : (Region.ready .any pwO (lkQ 96 96)).isEmpty = true := by kernel_rfl
theorem pwS : Region.noSelect pwO = true := by kernel_rfl
theorem of_chunk {f : Nat → Bool} {a n k : Nat} (h : ((List.range' a n).all f) = true) (h1 : a ≤ k) (h2 : k < a + n) : f k = true := by
  rw [List.all_eq_true] at h
  exact h k (by rw [List.mem_range'_1]; omega)
theorem pwL32 : Region.lexB .any pwO = true := by
  refine lexB_of (n := 96) (by kernel_rfl) pwS (fun k hk => ?_) pwE
  rcases Nat.lt_or_ge k 4 with h0 | h0
  · exact of_chunk pwC0 (by omega) (by omega)
  rcases Nat.lt_or_ge k 8 with h1 | h1
  · exact of_chunk pwC1 (by omega) (by omega)
  rcases Nat.lt_or_ge k 12 with h2 | h2
  · exact of_chunk pwC2 (by omega) (by omega)
  rcases Nat.lt_or_ge k 16 with h3 | h3
  · exact of_chunk pwC3 (by omega) (by omega)
  rcases Nat.lt_or_ge k 20 with h4 | h4
  · exact of_chunk pwC4 (by omega) (by omega)
  rcases Nat.lt_or_ge k 24 with h5 | h5
  · exact of_chunk pwC5 (by omega) (by omega)
  rcases Nat.lt_or_ge k 28 with h6 | h6
  · exact of_chunk pwC6 (by omega) (by omega)
  rcases Nat.lt_or_ge k 32 with h7 | h7
  · exact of_chunk pwC7 (by omega) (by omega)
  rcases Nat.lt_or_ge k 36 with h8 | h8
  · exact of_chunk pwC8 (by omega) (by omega)
  rcases Nat.lt_or_ge k 40 with h9 | h9
  · exact of_chunk pwC9 (by omega) (by omega)
  rcases Nat.lt_or_ge k 44 with h10 | h10
  · exact of_chunk pwC10 (by omega) (by omega)
  rcases Nat.lt_or_ge k 48 with h11 | h11
  · exact of_chunk pwC11 (by omega) (by omega)
  rcases Nat.lt_or_ge k 52 with h12 | h12
  · exact of_chunk pwC12 (by omega) (by omega)
  rcases Nat.lt_or_ge k 56 with h13 | h13
  · exact of_chunk pwC13 (by omega) (by omega)
  rcases Nat.lt_or_ge k 60 with h14 | h14
  · exact of_chunk pwC14 (by omega) (by omega)
  rcases Nat.lt_or_ge k 64 with h15 | h15
  · exact of_chunk pwC15 (by omega) (by omega)
  rcases Nat.lt_or_ge k 68 with h16 | h16
  · exact of_chunk pwC16 (by omega) (by omega)
  rcases Nat.lt_or_ge k 72 with h17 | h17
  · exact of_chunk pwC17 (by omega) (by omega)
  rcases Nat.lt_or_ge k 76 with h18 | h18
  · exact of_chunk pwC18 (by omega) (by omega)
  rcases Nat.lt_or_ge k 80 with h19 | h19
  · exact of_chunk pwC19 (by omega) (by omega)
  rcases Nat.lt_or_ge k 84 with h20 | h20
  · exact of_chunk pwC20 (by omega) (by omega)
  rcases Nat.lt_or_ge k 88 with h21 | h21
  · exact of_chunk pwC21 (by omega) (by omega)
  rcases Nat.lt_or_ge k 92 with h22 | h22
  · exact of_chunk pwC22 (by omega) (by omega)
  exact of_chunk pwC23 (by omega) (by omega)
end Go.Proofs.Ytpndfmlkceplcaa
