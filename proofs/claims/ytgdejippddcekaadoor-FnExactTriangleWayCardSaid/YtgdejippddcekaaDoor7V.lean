/-
  'TriangleWay' of the program: when it has none. No conditions but the bounds that Go gives a slice.
-/
import Derived.Test.YtgdejippddcekaaDoor7U
import Derived.Test.YtgdejippddcekaaDoor7PQ
import Derived.Test.YtgdejippddcekaaDoor6I
namespace Go.Proofs.YtgdejippddcekaaDoor
open Go.ChangeShapes Go.WideShapes Go.ChangeAt Go.RowKit
set_option linter.unusedVariables false

theorem resS_t {n : Int} {l : List Int} (h : okB n l = true) : resS n l = scoresL l := by unfold resS; rw [h]; rfl
theorem resS_f {n : Int} {l : List Int} (h : okB n l = false) : resS n l = [] := by unfold resS; rw [h]; rfl
theorem twoP (nt : Int) (lt : List Int) (nu : Int) (lu : List Int) : twoB nt lt nu lu = (okB nt lt && decide (nt ≤ 5) && eqB ((resS nt lt).map Int.ofNat) ((resS nu lu).map Int.ofNat)) := by
  unfold twoB
  cases ht : okB nt lt
  · rfl
  have kt := okB_iff.1 ht
  cases hu : okB nu lu
  · rw [resS_t ht, resS_f hu]
    have e0 : eqB ((scoresL lt).map Int.ofNat) (([] : List Nat).map Int.ofNat) = false := by
      unfold eqB
      rw [decide_eq_false_iff_not]
      intro h
      have h2 := congrArg List.length h
      rw [List.length_map, scoresL_len] at h2
      have h3 := kt.1
      have h4 := kt.2.2.1
      simp only [List.map_nil, List.length_nil] at h2
      omega
    rw [e0]; simp
  · rw [resS_t ht, resS_t hu]
    have ku := okB_iff.1 hu
    by_cases he : eqB ((scoresL lt).map Int.ofNat) ((scoresL lu).map Int.ofNat) = true
    · have hl := congrArg List.length (of_decide_eq_true (show decide (((scoresL lt).map Int.ofNat) = ((scoresL lu).map Int.ofNat)) = true from he))
      rw [List.length_map, List.length_map, scoresL_len, scoresL_len] at hl
      have hn : nt = nu := by have := kt.2.2.1; have := ku.2.2.1; omega
      rw [he, decide_eq_true hn]; simp
    · rw [Bool.not_eq_true] at he
      rw [he]; simp
theorem scP (n : Int) (a : Option Addr) (l : List Int) (cap : Nat) (w : World) (hrow : IntRow w a l) (hl : l.length ≤ maxLen) :
    Calls Tryd.prog 26 #[.agg #[.int .i64 n, .slice a l.length cap]] w fun e w' => (∃ a1 c1, e = .returned (.slice a1 (resS n l).length c1) ∧ IntRow w' a1 ((resS n l).map Int.ofNat)) ∧ Below w.heap.size w w' := by
  refine (implScoresOf n a l cap w hrow hl).mono ?_
  rintro e w' ⟨⟨v, rfl, ho⟩, hb⟩
  rw [nv_iv, show (resS n l).length = ((resS n l).map Int.ofNat).length by rw [List.length_map]] at ho
  obtain ⟨a1, c1, rfl, hi, _⟩ := own_read ho
  rw [List.length_map]
  exact ⟨⟨a1, c1, rfl, hi⟩, hb⟩
theorem eqP (a b : Option Addr) (x y : List Nat) (ca cb : Nat) (w : World) (ha : IntRow w a (x.map Int.ofNat)) (hb : IntRow w b (y.map Int.ofNat)) (hx : x.length ≤ 8) (hy : y.length ≤ 8) :
    Calls Tryd.prog 25 #[.slice a x.length ca, .slice b y.length cb] w fun e w' => e = .returned (.bool (eqB (x.map Int.ofNat) (y.map Int.ofNat))) ∧ Below w.heap.size w w' := by
  have := equal_any a b (x.map Int.ofNat) (y.map Int.ofNat) ca cb w ha hb (by rw [List.length_map]; unfold maxLen; omega) (by rw [List.length_map]; unfold maxLen; omega)
  rw [List.length_map, List.length_map] at this
  exact this
theorem res_len8 (n : Int) (l : List Int) : (resS n l).length ≤ 8 := by
  cases h : okB n l
  · rw [resS_f h]; simp
  · rw [resS_t h]; exact sc_len8 (okB_iff.1 h)
/-- The way is as long as the distance says. -/
theorem way_len {m : Nat} {u : List Int} {D : Bf.Fd (List Int)} (h5 : m ≤ 5) (h : Got m u D) : ∀ (d : Nat) (l : List Int), (l, d) ∈ D → (wayF D d l).length = d
  | 0, _, _ => rfl
  | d + 1, l, hl => by
    obtain ⟨r, hf, hr, _⟩ := way_some h5 h hl
    rw [wayF_step hf, List.length_cons, way_len h5 h d _ hr]

set_option maxRecDepth 100000 in
set_option maxHeartbeats 1000000 in
theorem way_t (nt : Int) (at' : Option Addr) (lt : List Int) (ct : Nat) (nu : Int) (au : Option Addr) (lu : List Int) (cu : Nat) (w : World) (hrowt : IntRow w at' lt) (hrowu : IntRow w au lu) (hlt : lt.length ≤ maxLen) (hlu : lu.length ≤ maxLen) (ht : okB nt lt = false) :
    Calls Tryd.prog 11 #[.agg #[.int .i64 nt, .slice at' lt.length ct], .agg #[.int .i64 nu, .slice au lu.length cu]] w fun e w' => e = .returned (.tuple #[.slice none 0 0, .bool false]) ∧ Below w.heap.size w w' := by
  obtain ⟨Wb, hWb⟩ : ∃ Wb, Wb = w.alloc (.cells #[.int .i64 nt, .slice at' lt.length ct] 27) := ⟨_, rfl⟩
  obtain ⟨Wa, hWa⟩ : ∃ Wa, Wa = Wb.alloc (.cells #[.int .i64 nu, .slice au lu.length cu] 27) := ⟨_, rfl⟩
  have sb : Wb.heap.size = w.heap.size + 1 := by rw [hWb]; simp
  have hbb : Below w.heap.size w Wb := by rw [hWb]; exact (Below.refl _ _).alloc (Nat.le_refl _) _
  have hba : Below w.heap.size w Wa := by rw [hWa]; exact hbb.alloc hbb.size _
  have xt : Box Wa w.heap.size 27 (.int .i64 nt) (.slice at' lt.length ct) := by
    rw [hWa]; exact (show Box Wb w.heap.size 27 (.int .i64 nt) (.slice at' lt.length ct) by rw [hWb]; exact Box.new _ _ _ _).more _
  have xu : Box Wa (w.heap.size + 1) 27 (.int .i64 nu) (.slice au lu.length cu) := by rw [hWa, ← sb]; exact Box.new _ _ _ _
  have HWa : Hid (Wa = (w.alloc (.cells #[.int .i64 nt, .slice at' lt.length ct] 27)).alloc (.cells #[.int .i64 nu, .slice au lu.length cu] 27)) := by rw [hWa, hWb]; exact rfl
  have qa : Hid (R1 w Wa nt at' ct lt nu au cu lu) := ⟨hba, hrowt, hrowu, xt, xu⟩
  have HLT := Lib.hid hlt
  have HLU := Lib.hid hlu
  have HT : Hid (∀ W, IntRow W at' lt → Calls Tryd.prog 24 #[.agg #[.int .i64 nt, .slice at' lt.length ct]] W fun e w' => e = .returned (.bool (okB nt lt)) ∧ Below W.heap.size W w') := fun W h => implTourOk nt at' lt ct W h HLT.out
  clear hlt hlu hrowt hrowu hWa hWb sb hbb hba xt xu
  rw [ht] at HT
  have c0 := qa.out.bT.c0
  have c1 := qa.out.bT.c1
  have c2 := qa.out.bU.c0
  have c3 := qa.out.bU.c1
  go_enter Tryd.func11, Tryd.ntmps11
  go_wp2
  rw [← HWa.out]
  first | (go_region_with (first
      | (go_at_call_of 24 ct; refine (HT.out Wa.drew qa.out.drew.tt).mono ?_; rintro e w1 ⟨rfl, hb1⟩; have q1 := Lib.hid (qa.out.drew.kept hb1); have d0 := q1.out.bT.c0; have d1 := q1.out.bT.c1; have d2 := q1.out.bU.c0; have d3 := q1.out.bU.c1; clear hb1))) | fail
  all_goals
    go_wp2
    go_ret2
    exact ⟨rfl, q1.out.hb⟩

set_option maxRecDepth 100000 in
set_option maxHeartbeats 1000000 in
theorem way_5 (nt : Int) (at' : Option Addr) (lt : List Int) (ct : Nat) (nu : Int) (au : Option Addr) (lu : List Int) (cu : Nat) (w : World) (hrowt : IntRow w at' lt) (hrowu : IntRow w au lu) (hlt : lt.length ≤ maxLen) (hlu : lu.length ≤ maxLen) (ht : okB nt lt = true) (h5 : ¬ nt ≤ 5) :
    Calls Tryd.prog 11 #[.agg #[.int .i64 nt, .slice at' lt.length ct], .agg #[.int .i64 nu, .slice au lu.length cu]] w fun e w' => e = .returned (.tuple #[.slice none 0 0, .bool false]) ∧ Below w.heap.size w w' := by
  obtain ⟨Wb, hWb⟩ : ∃ Wb, Wb = w.alloc (.cells #[.int .i64 nt, .slice at' lt.length ct] 27) := ⟨_, rfl⟩
  obtain ⟨Wa, hWa⟩ : ∃ Wa, Wa = Wb.alloc (.cells #[.int .i64 nu, .slice au lu.length cu] 27) := ⟨_, rfl⟩
  have sb : Wb.heap.size = w.heap.size + 1 := by rw [hWb]; simp
  have hbb : Below w.heap.size w Wb := by rw [hWb]; exact (Below.refl _ _).alloc (Nat.le_refl _) _
  have hba : Below w.heap.size w Wa := by rw [hWa]; exact hbb.alloc hbb.size _
  have xt : Box Wa w.heap.size 27 (.int .i64 nt) (.slice at' lt.length ct) := by
    rw [hWa]; exact (show Box Wb w.heap.size 27 (.int .i64 nt) (.slice at' lt.length ct) by rw [hWb]; exact Box.new _ _ _ _).more _
  have xu : Box Wa (w.heap.size + 1) 27 (.int .i64 nu) (.slice au lu.length cu) := by rw [hWa, ← sb]; exact Box.new _ _ _ _
  have HWa : Hid (Wa = (w.alloc (.cells #[.int .i64 nt, .slice at' lt.length ct] 27)).alloc (.cells #[.int .i64 nu, .slice au lu.length cu] 27)) := by rw [hWa, hWb]; exact rfl
  have qa : Hid (R1 w Wa nt at' ct lt nu au cu lu) := ⟨hba, hrowt, hrowu, xt, xu⟩
  have HLT := Lib.hid hlt
  have HLU := Lib.hid hlu
  have HT : Hid (∀ W, IntRow W at' lt → Calls Tryd.prog 24 #[.agg #[.int .i64 nt, .slice at' lt.length ct]] W fun e w' => e = .returned (.bool (okB nt lt)) ∧ Below W.heap.size W w') := fun W h => implTourOk nt at' lt ct W h HLT.out
  clear hlt hlu hrowt hrowu hWa hWb sb hbb hba xt xu
  rw [ht] at HT
  have h5b : (5 : Int) < nt := by omega
  clear ht
  have c0 := qa.out.bT.c0
  have c1 := qa.out.bT.c1
  have c2 := qa.out.bU.c0
  have c3 := qa.out.bU.c1
  go_enter Tryd.func11, Tryd.ntmps11
  go_wp2
  rw [← HWa.out]
  first | (go_region_with (first
      | (go_at_call_of 24 ct; refine (HT.out Wa.drew qa.out.drew.tt).mono ?_; rintro e w1 ⟨rfl, hb1⟩; have q1 := Lib.hid (qa.out.drew.kept hb1); have d0 := q1.out.bT.c0; have d1 := q1.out.bT.c1; have d2 := q1.out.bU.c0; have d3 := q1.out.bU.c1; clear hb1))) | fail
  all_goals
    go_wp2
    go_ret2
    exact ⟨rfl, q1.out.hb⟩

end Go.Proofs.YtgdejippddcekaaDoor
