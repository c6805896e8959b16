/-
  Contracts of the standard library's functions that the program calls, at this program's own numbers: each one application of a proved contract of the library. No conditions beyond those that each names.
-/
import Derived.Shelf.SortG.SortNone
import Derived.Ground.SlgnProg
import Derived.Test.YtnlbijmkehijiaaProg
namespace Go.Proofs
open Go.Shelf
def Try.laysSlN53_f44_ren : Go.Shelf.Ren := ⟨fun | 53 => 44 | 64 => 66 | 63 => 65 | 78 => 86 | 79 => 87 | 70 => 78 | 71 => 79 | 72 => 80 | 73 => 81 | 74 => 82 | 75 => 83 | 59 => 67 | 76 => 84 | 77 => 85 | 88 => 94 | 89 => 95 | 90 => 96 | 91 => 97 | 92 => 98 | 68 => 88 | 96 => 107 | n => n, fun | 22 => 22 | 23 => 3 | 3 => 3 | 51 => 61 | 0 => 0 | 67 => 75 | 69 => 77 | 4 => 4 | 61 => 68 | 60 => 67 | 44 => 72 | 5 => 5 | 9 => 9 | 75 => 80 | 79 => 84 | 83 => 91 | 84 => 92 | n => n, fun | n => n⟩
theorem Try.laysSlN53_f44 : Go.Proofs.SlLaysN.n53 Try.prog Try.laysSlN53_f44_ren := {
  mixed := by kernel_rfl
  f53 := ⟨Try.f44.name, by decide, Try.func44.trans (congrArg some (by kernel_rfl))⟩
  f59 := ⟨Try.f67.name, by decide, Try.func67.trans (congrArg some (by kernel_rfl))⟩
  f63 := ⟨Try.f65.name, by decide, Try.func65.trans (congrArg some (by kernel_rfl))⟩
  f64 := Try.func66.trans (congrArg some (by kernel_rfl))
  f68 := ⟨Try.f88.name, by decide, Try.func88.trans (congrArg some (by kernel_rfl))⟩
  f70 := ⟨Try.f78.name, by decide, Try.func78.trans (congrArg some (by kernel_rfl))⟩
  f71 := ⟨Try.f79.name, by decide, Try.func79.trans (congrArg some (by kernel_rfl))⟩
  f72 := ⟨Try.f80.name, by decide, Try.func80.trans (congrArg some (by kernel_rfl))⟩
  f73 := ⟨Try.f81.name, by decide, Try.func81.trans (congrArg some (by kernel_rfl))⟩
  f74 := ⟨Try.f82.name, by decide, Try.func82.trans (congrArg some (by kernel_rfl))⟩
  f75 := ⟨Try.f83.name, by decide, Try.func83.trans (congrArg some (by kernel_rfl))⟩
  f76 := ⟨Try.f84.name, by decide, Try.func84.trans (congrArg some (by kernel_rfl))⟩
  f77 := ⟨Try.f85.name, by decide, Try.func85.trans (congrArg some (by kernel_rfl))⟩
  f78 := Try.func86.trans (congrArg some (by kernel_rfl))
  f79 := Try.func87.trans (congrArg some (by kernel_rfl))
  f88 := ⟨Try.f94.name, by decide, Try.func94.trans (congrArg some (by kernel_rfl))⟩
  f89 := Try.func95.trans (congrArg some (by kernel_rfl))
  f90 := Try.func96.trans (congrArg some (by kernel_rfl))
  f91 := ⟨Try.f97.name, by decide, Try.func97.trans (congrArg some (by kernel_rfl))⟩
  f92 := ⟨Try.f98.name, by decide, Try.func98.trans (congrArg some (by kernel_rfl))⟩
  f96 := ⟨Try.f107.name, by decide, Try.func107.trans (congrArg some (by kernel_rfl))⟩
  t0 := Try.underlying0
  a0 := Try.isAgg0
  z0 := Try.sizeOf0
  v0 := Try.zeroValue0
  t3 := Try.underlying3
  a3 := Try.isAgg3
  z3 := Try.sizeOf3
  v3 := Try.zeroValue3
  t4 := Try.underlying4
  a4 := Try.isAgg4
  z4 := Try.sizeOf4
  v4 := Try.zeroValue4
  t5 := Try.underlying5
  a5 := Try.isAgg5
  z5 := Try.sizeOf5
  v5 := Try.zeroValue5
  t9 := Try.underlying9
  a9 := Try.isAgg9
  z9 := Try.sizeOf9
  v9 := Try.zeroValue9
  t22 := Try.underlying22
  a22 := Try.isAgg22
  z22 := Try.sizeOf22
  v22 := Try.zeroValue22
  t23 := Try.underlying3
  a23 := Try.isAgg3
  z23 := Try.sizeOf3
  v23 := Try.zeroValue3
  t44 := Try.underlying72
  a44 := Try.isAgg72
  z44 := Try.sizeOf72
  v44 := Try.zeroValue72
  t51 := Try.underlying61
  a51 := Try.isAgg61
  z51 := Try.sizeOf61
  v51 := Try.zeroValue61
  t60 := Try.underlying67
  a60 := Try.isAgg67
  z60 := Try.sizeOf67
  v60 := Try.zeroValue67
  t61 := Try.underlying68
  a61 := Try.isAgg68
  z61 := Try.sizeOf68
  v61 := Try.zeroValue68
  t67 := Try.underlying75
  a67 := Try.isAgg75
  z67 := Try.sizeOf75
  v67 := Try.zeroValue75
  t69 := Try.underlying77
  a69 := Try.isAgg77
  z69 := Try.sizeOf77
  v69 := Try.zeroValue77
  t75 := Try.underlying80
  a75 := Try.isAgg80
  z75 := Try.sizeOf80
  v75 := Try.zeroValue80
  t79 := Try.underlying84
  a79 := Try.isAgg84
  z79 := Try.sizeOf84
  v79 := Try.zeroValue84
  t83 := Try.underlying91
  a83 := Try.isAgg91
  z83 := Try.sizeOf91
  v83 := Try.zeroValue91
  t84 := Try.underlying92
  a84 := Try.isAgg92
  z84 := Try.sizeOf92
  v84 := Try.zeroValue92 }
theorem Try.slices_Sort_int_none (p : Option Addr) (cap : Nat) (w : World) :
    Calls Try.prog 44 #[.slice p 0 cap] w fun e w' => e = .returned (.tuple #[]) ∧ w' = w := AnyG.slices_Sort_int_none Try.laysSlN53_f44 p cap w

end Go.Proofs
