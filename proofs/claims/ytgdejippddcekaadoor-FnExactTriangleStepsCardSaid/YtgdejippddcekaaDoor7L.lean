/-
  'l04Two' of the model, a case of it.
-/
import Derived.Test.YtgdejippddcekaaDoor7K
namespace Go.Proofs.YtgdejippddcekaaDoor
open Go.ChangeShapes Go.WideShapes Go.ChangeAt Go.RowKit
set_option linter.unusedVariables false

set_option maxRecDepth 100000 in
set_option maxHeartbeats 1000000 in
theorem l04Two_u (nt : Int) (at' : Option Addr) (lt : List Int) (ct : Nat) (nu : Int) (au : Option Addr) (lu : List Int) (cu : Nat) (w : World) (hrowt : IntRow w at' lt) (hrowu : IntRow w au lu) (hlt : lt.length ≤ maxLen) (hlu : lu.length ≤ maxLen) (ht : okB nt lt = true) (hu : okB nu lu = false) :
    Calls Tryd.prog 17 #[.agg #[.int .i64 nt, .slice at' lt.length ct], .agg #[.int .i64 nu, .slice au lu.length cu]] w fun e w' => e = .returned (.bool (twoB nt lt nu lu)) ∧ Below w.heap.size w w' := by
  obtain ⟨Wb, hWb⟩ : ∃ Wb, Wb = w.alloc (.cells #[.int .i64 nt, .slice at' lt.length ct] 27) := ⟨_, rfl⟩
  obtain ⟨Wa, hWa⟩ : ∃ Wa, Wa = Wb.alloc (.cells #[.int .i64 nu, .slice au lu.length cu] 27) := ⟨_, rfl⟩
  have sb : Wb.heap.size = w.heap.size + 1 := by rw [hWb]; simp
  have hbb : Below w.heap.size w Wb := by rw [hWb]; exact (Below.refl _ _).alloc (Nat.le_refl _) _
  have hba : Below w.heap.size w Wa := by rw [hWa]; exact hbb.alloc hbb.size _
  have xt : Box Wa w.heap.size 27 (.int .i64 nt) (.slice at' lt.length ct) := by
    rw [hWa]; exact (show Box Wb w.heap.size 27 (.int .i64 nt) (.slice at' lt.length ct) by rw [hWb]; exact Box.new _ _ _ _).more _
  have xu : Box Wa (w.heap.size + 1) 27 (.int .i64 nu) (.slice au lu.length cu) := by rw [hWa, ← sb]; exact Box.new _ _ _ _
  have HWa : Hid (Wa = (w.alloc (.cells #[.int .i64 nt, .slice at' lt.length ct] 27)).alloc (.cells #[.int .i64 nu, .slice au lu.length cu] 27)) := by rw [hWa, hWb]; exact rfl
  have qa : Hid (R1 w Wa nt at' ct lt nu au cu lu) := ⟨hba, hrowt, hrowu, xt, xu⟩
  have HLT := Lib.hid hlt
  have HLU := Lib.hid hlu
  have HT : Hid (∀ W, IntRow W at' lt → Calls Tryd.prog 33 #[.agg #[.int .i64 nt, .slice at' lt.length ct]] W fun e w' => e = .returned (.bool (okB nt lt)) ∧ Below W.heap.size W w') := fun W h => specTourOk nt at' lt ct W h HLT.out
  have HU : Hid (∀ W, IntRow W au lu → Calls Tryd.prog 33 #[.agg #[.int .i64 nu, .slice au lu.length cu]] W fun e w' => e = .returned (.bool (okB nu lu)) ∧ Below W.heap.size W w') := fun W h => specTourOk nu au lu cu W h HLU.out
  clear hlt hlu hrowt hrowu hWa hWb sb hbb hba xt xu
  rw [ht] at HT
  rw [hu] at HU
  have HE : Hid (twoB nt lt nu lu = false) := by show _ = _; unfold twoB; rw [ht, hu]; rfl
  clear ht hu
  have c0 := qa.out.bT.c0
  have c1 := qa.out.bT.c1
  have c2 := qa.out.bU.c0
  have c3 := qa.out.bU.c1
  go_enter Tryd.func17, Tryd.ntmps17
  go_wp2
  rw [← HWa.out]
  first | (go_region_with (first
      | (go_at_call_of 33 ct; refine (HT.out Wa.drew qa.out.drew.tt).mono ?_; rintro e w1 ⟨rfl, hb1⟩; have q1 := Lib.hid (qa.out.drew.kept hb1); have d0 := q1.out.bT.c0; have d1 := q1.out.bT.c1; have d2 := q1.out.bU.c0; have d3 := q1.out.bU.c1; clear hb1)
      | (go_at_call_of 33 cu; refine (HU.out w1 q1.out.uu).mono ?_; rintro e w2 ⟨rfl, hb2⟩; have q2 := Lib.hid (q1.out.kept hb2); clear d0 d1 d2 d3; have d0 := q2.out.bT.c0; have d1 := q2.out.bT.c1; have d2 := q2.out.bU.c0; have d3 := q2.out.bU.c1; clear hb2))) | fail
  all_goals
    go_wp2
    go_ret
    exact ⟨by rw [HE.out]; rfl, q2.out.hb⟩

end Go.Proofs.YtgdejippddcekaaDoor
