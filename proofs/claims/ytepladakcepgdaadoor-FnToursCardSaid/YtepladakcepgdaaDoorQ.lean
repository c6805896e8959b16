/-
  'FnExactCountDifferent', 'FnExactSameTour': the program's CountDifferent and SameTour answer as the model's for every two tours, and leave both as they were. No conditions.
-/
import Derived.Test.YtepladakcepgdaaDoorP
namespace Go.Proofs.YtepladakcepgdaaDoor
open Go.ChangeShapes Go.WideShapes Go.ChangeAt Go.RowKit
set_option linter.unusedVariables false

theorem implSame (nt : Int) (at' : Option Addr) (lt : List Int) (ct : Nat) (nu : Int) (au : Option Addr) (lu : List Int) (cu : Nat) (w : World) (hrowt : IntRow w at' lt) (hrowu : IntRow w au lu) (hlt : lt.length ≤ maxLen) (hlu : lu.length ≤ maxLen) :
    Calls Tryd.prog 11 #[.agg #[.int .i64 nt, .slice at' lt.length ct], .agg #[.int .i64 nu, .slice au lu.length cu]] w fun e w' => e = .returned (.bool (cdR nt lt nu lu == 0)) ∧ Below w.heap.size w w' := by
  obtain ⟨Wa, hWa⟩ : ∃ Wa, Wa = (w.alloc (.cells #[.int .i64 nt, .slice at' lt.length ct] 25)).alloc (.cells #[.int .i64 nu, .slice au lu.length cu] 25) := ⟨_, rfl⟩
  have hba : Below w.heap.size w Wa := by rw [hWa]; exact (Below.one _ _).alloc (by simp) _
  have ht := hrowt.below hba (Nat.le_refl _)
  have hu := hrowu.below hba (Nat.le_refl _)
  have HW := Lib.hid hWa
  have HLT := Lib.hid hlt
  have HLU := Lib.hid hlu
  clear hWa hlt hlu hrowt hrowu
  go_enter Tryd.func11, Tryd.ntmps11
  go_wp2_with fail
  rw [← HW.out]
  refine (implCount nt at' lt ct nu au lu cu Wa ht hu HLT.out HLU.out).mono ?_
  rintro e w1 ⟨rfl, hb1⟩
  go_wp2
  go_ret
  exact ⟨rfl, hba.trans (hb1.mono hba.size)⟩

/-- What follows a region that draws its order is walked once, whatever the order. -/
theorem once1 {P : Nat → World → Prop} {S : World → Prop} {Goal : Prop} (main : (∀ g W, S W → P g W) → Goal) (rest : ∀ g W, S W → P g W) : Goal := main rest
theorem once2 {P : Nat → Nat → World → Prop} {S : World → Prop} {Goal : Prop} (main : (∀ g h W, S W → P g h W) → Goal) (rest : ∀ g h W, S W → P g h W) : Goal := main rest

/-- What a law over two tours holds of the memory between its steps. -/
structure Q2 (w W : World) (nt : Int) (at' : Option Addr) (ct : Nat) (lt : List Int) (nu : Int) (au : Option Addr) (cu : Nat) (lu : List Int) (px gx py gy : Nat) : Prop where
  hb : Below w.heap.size w W
  ht : IntRow w at' lt
  hu : IntRow w au lu
  bT : Box W w.heap.size 44 (.int .i64 nt) (.slice at' lt.length ct)
  bU : Box W (w.heap.size + 1) 44 (.int .i64 nu) (.slice au lu.length cu)
  bx : Box W px 25 (.int .i64 nt) (.slice (some ⟨gx, 0, none⟩) lt.length lt.length)
  by' : Box W py 25 (.int .i64 nu) (.slice (some ⟨gy, 0, none⟩) lu.length lu.length)
  rx : IntRow W (some ⟨gx, 0, none⟩) lt
  ry : IntRow W (some ⟨gy, 0, none⟩) lu
section
variable {w W W' : World} {nt : Int} {at' : Option Addr} {ct : Nat} {lt : List Int} {nu : Int} {au : Option Addr} {cu : Nat} {lu : List Int} {px gx py gy : Nat}
theorem Q2.kept (h : Q2 w W nt at' ct lt nu au cu lu px gx py gy) (hb : Below W.heap.size W W') : Q2 w W' nt at' ct lt nu au cu lu px gx py gy :=
  ⟨h.hb.trans (hb.mono h.hb.size), h.ht, h.hu, h.bT.below hb h.bT.lt, h.bU.below hb h.bU.lt, h.bx.below hb h.bx.lt, h.by'.below hb h.by'.lt, h.rx.below hb (Nat.le_refl _), h.ry.below hb (Nat.le_refl _)⟩
theorem Q2.tt (h : Q2 w W nt at' ct lt nu au cu lu px gx py gy) : IntRow W at' lt := h.ht.below h.hb (Nat.le_refl _)
theorem Q2.uu (h : Q2 w W nt at' ct lt nu au cu lu px gx py gy) : IntRow W au lu := h.hu.below h.hb (Nat.le_refl _)
end
/-- .. before the copies are made. -/
structure Q1 (w W : World) (nt : Int) (at' : Option Addr) (ct : Nat) (lt : List Int) (nu : Int) (au : Option Addr) (cu : Nat) (lu : List Int) : Prop where
  hb : Below w.heap.size w W
  ht : IntRow w at' lt
  hu : IntRow w au lu
  bT : Box W w.heap.size 44 (.int .i64 nt) (.slice at' lt.length ct)
  bU : Box W (w.heap.size + 1) 44 (.int .i64 nu) (.slice au lu.length cu)
section
variable {w W W' : World} {nt : Int} {at' : Option Addr} {ct : Nat} {lt : List Int} {nu : Int} {au : Option Addr} {cu : Nat} {lu : List Int}
theorem Q1.kept (h : Q1 w W nt at' ct lt nu au cu lu) (hb : Below W.heap.size W W') : Q1 w W' nt at' ct lt nu au cu lu :=
  ⟨h.hb.trans (hb.mono h.hb.size), h.ht, h.hu, h.bT.below hb h.bT.lt, h.bU.below hb h.bU.lt⟩
theorem Q1.tt (h : Q1 w W nt at' ct lt nu au cu lu) : IntRow W at' lt := h.ht.below h.hb (Nat.le_refl _)
theorem Q1.uu (h : Q1 w W nt at' ct lt nu au cu lu) : IntRow W au lu := h.hu.below h.hb (Nat.le_refl _)
end

end Go.Proofs.YtepladakcepgdaaDoor



