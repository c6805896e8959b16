/-
  'l04Two' of the model: two valid tours of one Size, at most 5 players, the same scores. No conditions but the bounds that Go gives a slice.
-/
import Derived.Test.YtgdejippddcekaaDoor7I
import Derived.Deep.RegionHeld3
namespace Go.Proofs.YtgdejippddcekaaDoor
open Go.ChangeShapes Go.WideShapes Go.ChangeAt Go.RowKit
set_option linter.unusedVariables false

theorem scM (n : Int) (a : Option Addr) (l : List Int) (cap : Nat) (w : World) (hrow : IntRow w a l) (hl : l.length ≤ maxLen) (hok : Ok n l) :
    Calls Tryd.prog 35 #[.agg #[.int .i64 n, .slice a l.length cap]] w fun e w' => (∃ a1 c1, e = .returned (.slice a1 (scoresL l).length c1) ∧ IntRow w' a1 ((scoresL l).map Int.ofNat)) ∧ Below w.heap.size w w' := by
  refine (l02Scores_any n a l cap w hrow hl hok).mono ?_
  rintro e w' ⟨⟨v, rfl, ho⟩, hb⟩
  rw [nv_iv, show (scoresL l).length = ((scoresL l).map Int.ofNat).length by rw [List.length_map]] at ho
  obtain ⟨a1, c1, rfl, hi, _⟩ := own_read ho
  rw [List.length_map]
  exact ⟨⟨a1, c1, rfl, hi⟩, hb⟩
theorem sameM (a b : Option Addr) (x y : List Nat) (ca cb : Nat) (w : World) (ha : IntRow w a (x.map Int.ofNat)) (hb : IntRow w b (y.map Int.ofNat)) (hx : x.length ≤ 8) (hy : y.length ≤ 8) :
    Calls Tryd.prog 34 #[.slice a x.length ca, .slice b y.length cb] w fun e w' => e = .returned (.bool (eqB (x.map Int.ofNat) (y.map Int.ofNat))) ∧ w = w' := by
  have := l04Same_any a b (x.map Int.ofNat) (y.map Int.ofNat) ca cb w ha hb (by rw [List.length_map]; unfold maxLen; omega) (by rw [List.length_map]; unfold maxLen; omega)
  rw [List.length_map, List.length_map] at this
  exact this
theorem sc_len8 {n : Int} {l : List Int} (h : Ok n l) : (scoresL l).length ≤ 8 := by
  have := h.2.1; have := h.2.2.1
  unfold scoresL
  rw [List.length_map]; omega

/-- Do the two tours have a way: valid, of one Size, of at most 5 players, with the same scores. -/
noncomputable def twoB (nt : Int) (lt : List Int) (nu : Int) (lu : List Int) : Bool := okB nt lt && okB nu lu && decide (nt = nu) && decide (nt ≤ 5) && eqB ((scoresL lt).map Int.ofNat) ((scoresL lu).map Int.ofNat)

/-- The two boxes of two tours' arguments. -/
structure R1 (w W : World) (nt : Int) (at' : Option Addr) (ct : Nat) (lt : List Int) (nu : Int) (au : Option Addr) (cu : Nat) (lu : List Int) : Prop where
  hb : Below w.heap.size w W
  ht : IntRow w at' lt
  hu : IntRow w au lu
  bT : Box W w.heap.size 27 (.int .i64 nt) (.slice at' lt.length ct)
  bU : Box W (w.heap.size + 1) 27 (.int .i64 nu) (.slice au lu.length cu)
section
variable {w W W' : World} {nt : Int} {at' : Option Addr} {ct : Nat} {lt : List Int} {nu : Int} {au : Option Addr} {cu : Nat} {lu : List Int}
theorem R1.kept (h : R1 w W nt at' ct lt nu au cu lu) (hb : Below W.heap.size W W') : R1 w W' nt at' ct lt nu au cu lu :=
  ⟨h.hb.trans (hb.mono h.hb.size), h.ht, h.hu, h.bT.below hb h.bT.lt, h.bU.below hb h.bU.lt⟩
theorem R1.drew (h : R1 w W nt at' ct lt nu au cu lu) : R1 w W.drew nt at' ct lt nu au cu lu := h.kept (Below.refl _ _).drew
theorem R1.tt (h : R1 w W nt at' ct lt nu au cu lu) : IntRow W at' lt := h.ht.below h.hb (Nat.le_refl _)
theorem R1.uu (h : R1 w W nt at' ct lt nu au cu lu) : IntRow W au lu := h.hu.below h.hb (Nat.le_refl _)
end

set_option maxRecDepth 100000 in
set_option maxHeartbeats 1000000 in
theorem l04Two_t (nt : Int) (at' : Option Addr) (lt : List Int) (ct : Nat) (nu : Int) (au : Option Addr) (lu : List Int) (cu : Nat) (w : World) (hrowt : IntRow w at' lt) (hrowu : IntRow w au lu) (hlt : lt.length ≤ maxLen) (hlu : lu.length ≤ maxLen) (ht : okB nt lt = false) :
    Calls Tryd.prog 17 #[.agg #[.int .i64 nt, .slice at' lt.length ct], .agg #[.int .i64 nu, .slice au lu.length cu]] w fun e w' => e = .returned (.bool (twoB nt lt nu lu)) ∧ Below w.heap.size w w' := by
  obtain ⟨Wb, hWb⟩ : ∃ Wb, Wb = w.alloc (.cells #[.int .i64 nt, .slice at' lt.length ct] 27) := ⟨_, rfl⟩
  obtain ⟨Wa, hWa⟩ : ∃ Wa, Wa = Wb.alloc (.cells #[.int .i64 nu, .slice au lu.length cu] 27) := ⟨_, rfl⟩
  have sb : Wb.heap.size = w.heap.size + 1 := by rw [hWb]; simp
  have hbb : Below w.heap.size w Wb := by rw [hWb]; exact (Below.refl _ _).alloc (Nat.le_refl _) _
  have hba : Below w.heap.size w Wa := by rw [hWa]; exact hbb.alloc hbb.size _
  have xt : Box Wa w.heap.size 27 (.int .i64 nt) (.slice at' lt.length ct) := by
    rw [hWa]; exact (show Box Wb w.heap.size 27 (.int .i64 nt) (.slice at' lt.length ct) by rw [hWb]; exact Box.new _ _ _ _).more _
  have xu : Box Wa (w.heap.size + 1) 27 (.int .i64 nu) (.slice au lu.length cu) := by rw [hWa, ← sb]; exact Box.new _ _ _ _
  have HWa : Hid (Wa = (w.alloc (.cells #[.int .i64 nt, .slice at' lt.length ct] 27)).alloc (.cells #[.int .i64 nu, .slice au lu.length cu] 27)) := by rw [hWa, hWb]; exact rfl
  have qa : Hid (R1 w Wa nt at' ct lt nu au cu lu) := ⟨hba, hrowt, hrowu, xt, xu⟩
  have HLT := Lib.hid hlt
  have HLU := Lib.hid hlu
  have HT : Hid (∀ W, IntRow W at' lt → Calls Tryd.prog 33 #[.agg #[.int .i64 nt, .slice at' lt.length ct]] W fun e w' => e = .returned (.bool (okB nt lt)) ∧ Below W.heap.size W w') := fun W h => specTourOk nt at' lt ct W h HLT.out
  have HU : Hid (∀ W, IntRow W au lu → Calls Tryd.prog 33 #[.agg #[.int .i64 nu, .slice au lu.length cu]] W fun e w' => e = .returned (.bool (okB nu lu)) ∧ Below W.heap.size W w') := fun W h => specTourOk nu au lu cu W h HLU.out
  clear hlt hlu hrowt hrowu hWa hWb sb hbb hba xt xu
  rw [ht] at HT
  have HE : Hid (twoB nt lt nu lu = false) := by show _ = _; unfold twoB; rw [ht]; rfl
  clear ht
  have c0 := qa.out.bT.c0
  have c1 := qa.out.bT.c1
  have c2 := qa.out.bU.c0
  have c3 := qa.out.bU.c1
  go_enter Tryd.func17, Tryd.ntmps17
  go_wp2
  rw [← HWa.out]
  first | (go_region_with (first
      | (go_at_call_of 33 ct; refine (HT.out Wa.drew qa.out.drew.tt).mono ?_; rintro e w1 ⟨rfl, hb1⟩; have q1 := Lib.hid (qa.out.drew.kept hb1); have d0 := q1.out.bT.c0; have d1 := q1.out.bT.c1; have d2 := q1.out.bU.c0; have d3 := q1.out.bU.c1; clear hb1))) | fail
  all_goals
    go_wp2
    go_ret
    exact ⟨by rw [HE.out]; rfl, q1.out.hb⟩

end Go.Proofs.YtgdejippddcekaaDoor
