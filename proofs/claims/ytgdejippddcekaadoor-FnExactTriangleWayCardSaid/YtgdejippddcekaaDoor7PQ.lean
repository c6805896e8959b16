/-
  'l04Two' and 'TriangleSteps' of the model, whole. No conditions but the bounds that Go gives a slice.
-/
import Derived.Test.YtgdejippddcekaaDoor7L
import Derived.Test.YtgdejippddcekaaDoor7MN
import Derived.Test.YtgdejippddcekaaDoor7O
namespace Go.Proofs.YtgdejippddcekaaDoor
open Go.ChangeShapes Go.WideShapes Go.ChangeAt Go.RowKit
set_option linter.unusedVariables false

theorem l04Two_any (nt : Int) (at' : Option Addr) (lt : List Int) (ct : Nat) (nu : Int) (au : Option Addr) (lu : List Int) (cu : Nat) (w : World) (hrowt : IntRow w at' lt) (hrowu : IntRow w au lu) (hlt : lt.length ≤ maxLen) (hlu : lu.length ≤ maxLen) :
    Calls Tryd.prog 17 #[.agg #[.int .i64 nt, .slice at' lt.length ct], .agg #[.int .i64 nu, .slice au lu.length cu]] w fun e w' => e = .returned (.bool (twoB nt lt nu lu)) ∧ Below w.heap.size w w' := by
  cases ht : okB nt lt
  · exact l04Two_t nt at' lt ct nu au lu cu w hrowt hrowu hlt hlu ht
  cases hu : okB nu lu
  · exact l04Two_u nt at' lt ct nu au lu cu w hrowt hrowu hlt hlu ht hu
  cases hn : decide (nt = nu)
  · exact l04Two_n nt at' lt ct nu au lu cu w hrowt hrowu hlt hlu ht hu hn
  cases h5 : decide (nt ≤ 5)
  · exact l04Two_5 nt at' lt ct nu au lu cu w hrowt hrowu hlt hlu ht hu hn h5
  · exact l04Two_y nt at' lt ct nu au lu cu w hrowt hrowu hlt hlu ht hu hn h5
/-- What a true answer says. -/
theorem twoB_parts {nt : Int} {lt : List Int} {nu : Int} {lu : List Int} (h : twoB nt lt nu lu = true) : Ok nt lt ∧ Ok nu lu ∧ nt = nu ∧ nt ≤ 5 ∧ scoresL lt = scoresL lu := by
  unfold twoB eqB at h
  simp only [Bool.and_eq_true, decide_eq_true_eq] at h
  obtain ⟨⟨⟨⟨h1, h2⟩, h3⟩, h4⟩, h6⟩ := h
  refine ⟨okB_iff.1 h1, okB_iff.1 h2, h3, h4, ?_⟩
  have := congrArg (List.map Int.toNat) h6
  simpa [List.map_map, Function.comp_def] using this
end Go.Proofs.YtgdejippddcekaaDoor
namespace Go.Proofs.YtgdejippddcekaaDoor
open Go.ChangeShapes Go.WideShapes Go.ChangeAt Go.RowKit
set_option linter.unusedVariables false

theorem cellD {m N v : Nat} {W : World} {B go co : Nat} {xs : List Int} {D : Bf.Fd (List Int)} {l : List Int} (own : W.ownsRow B 3 1 (.slice (some ⟨go, 0, none⟩) N co) N (xs.map iv)) (hd : Dis m D xs) (hN : N = nN m) (hv : v = numL l) (hok : Ok (m : Int) l) (h5 : m ≤ 5) : W.cell? ⟨go, v, none⟩ = some (.int .i64 (dI D l)) := by
  have hat := hd.at_ l hok
  have hnl := numL_lt hok h5
  have hxl := hd.len
  rw [← hv] at hat hnl
  rw [← hN] at hnl hxl
  rw [own.cellAt v (by omega), List.getElem?_map, List.getElem?_eq_getElem (by omega)]
  rw [List.getD_eq_getElem?_getD, List.getElem?_eq_getElem (by omega)] at hat
  simp only [Option.getD_some] at hat
  rw [hat]; rfl

/-- What 'TriangleSteps' answers. -/
noncomputable def stR (nt : Int) (lt : List Int) (nu : Int) (lu : List Int) : Int := if twoB nt lt nu lu then dI (all lu) lt else -1

set_option maxRecDepth 100000 in
set_option maxHeartbeats 1000000 in
theorem steps_no (nt : Int) (at' : Option Addr) (lt : List Int) (ct : Nat) (nu : Int) (au : Option Addr) (lu : List Int) (cu : Nat) (w : World) (hrowt : IntRow w at' lt) (hrowu : IntRow w au lu) (hlt : lt.length ≤ maxLen) (hlu : lu.length ≤ maxLen) (h2 : twoB nt lt nu lu = false) :
    Calls Tryd.prog 6 #[.agg #[.int .i64 nt, .slice at' lt.length ct], .agg #[.int .i64 nu, .slice au lu.length cu]] w fun e w' => e = .returned (.int .i64 (-1)) ∧ Below w.heap.size w w' := by
  obtain ⟨Wa, hWa⟩ : ∃ Wa, Wa = (w.alloc (.cells #[.int .i64 nt, .slice at' lt.length ct] 27)).alloc (.cells #[.int .i64 nu, .slice au lu.length cu] 27) := ⟨_, rfl⟩
  have hba : Below w.heap.size w Wa := by rw [hWa]; exact (Below.one _ _).alloc (by simp) _
  have hc := Lib.hid (l04Two_any nt at' lt ct nu au lu cu Wa (hrowt.below hba (Nat.le_refl _)) (hrowu.below hba (Nat.le_refl _)) hlt hlu)
  have HWa := Lib.hid hWa
  have H2 := Lib.hid h2
  have HBA := Lib.hid hba
  clear hWa hlt hlu hrowt hrowu h2 hba
  go_enter Tryd.func6, Tryd.ntmps6
  go_wp2_with fail
  rw [← HWa.out]
  refine hc.out.mono ?_
  rintro e w1 ⟨rfl, hb1⟩
  rw [H2.out]
  go_wp2
  go_ret
  exact ⟨rfl, HBA.out.trans (hb1.mono HBA.out.size)⟩

set_option maxRecDepth 100000 in
set_option maxHeartbeats 1000000 in
theorem steps_yes (m : Nat) (at' : Option Addr) (lt : List Int) (ct : Nat) (au : Option Addr) (lu : List Int) (cu : Nat) (w : World) (hrowt : IntRow w at' lt) (hrowu : IntRow w au lu) (hmt : lt.length = m) (hmu : lu.length = m) (okt : Ok (m : Int) lt) (oku : Ok (m : Int) lu) (h5 : m ≤ 5) (h2 : twoB (m : Int) lt (m : Int) lu = true) :
    Calls Tryd.prog 6 #[.agg #[.int .i64 (m : Int), .slice at' m ct], .agg #[.int .i64 (m : Int), .slice au m cu]] w fun e w' => e = .returned (.int .i64 (dI (all lu) lt)) ∧ Below w.heap.size w w' := by
  obtain ⟨Wb, hWb⟩ : ∃ Wb, Wb = w.alloc (.cells #[.int .i64 (m : Int), .slice at' m ct] 27) := ⟨_, rfl⟩
  obtain ⟨Wa, hWa⟩ : ∃ Wa, Wa = Wb.alloc (.cells #[.int .i64 (m : Int), .slice au m cu] 27) := ⟨_, rfl⟩
  have sb : Wb.heap.size = w.heap.size + 1 := by rw [hWb]; simp
  have hbb : Below w.heap.size w Wb := by rw [hWb]; exact (Below.refl _ _).alloc (Nat.le_refl _) _
  have hba : Below w.heap.size w Wa := by rw [hWa]; exact hbb.alloc hbb.size _
  have xt : Box Wa w.heap.size 27 (.int .i64 (m : Int)) (.slice at' m ct) := by
    rw [hWa]; exact (show Box Wb w.heap.size 27 (.int .i64 (m : Int)) (.slice at' m ct) by rw [hWb]; exact Box.new _ _ _ _).more _
  have xu : Box Wa (w.heap.size + 1) 27 (.int .i64 (m : Int)) (.slice au m cu) := by rw [hWa, ← sb]; exact Box.new _ _ _ _
  have HWa : Hid (Wa = (w.alloc (.cells #[.int .i64 (m : Int), .slice at' m ct] 27)).alloc (.cells #[.int .i64 (m : Int), .slice au m cu] 27)) := by rw [hWa, hWb]; exact rfl
  have qa0 : R1 w Wa (m : Int) at' ct lt (m : Int) au cu lu := ⟨hba, hrowt, hrowu, by rw [hmt]; exact xt, by rw [hmu]; exact xu⟩
  have qa := Lib.hid qa0
  obtain ⟨N, hN⟩ : ∃ N, N = nN m := ⟨_, rfl⟩
  obtain ⟨v, hv⟩ : ∃ v, v = numL lt := ⟨_, rfl⟩
  obtain ⟨z, hz⟩ : ∃ z, z = dI (all lu) lt := ⟨_, rfl⟩
  have hvN0 : v < N := by rw [hv, hN]; exact numL_lt okt h5
  have hN0 := (nN5 m h5)
  rw [← hN] at hN0
  have HTW : Hid (Calls Tryd.prog 17 #[.agg #[.int .i64 (m : Int), .slice at' m ct], .agg #[.int .i64 (m : Int), .slice au m cu]] Wa fun e w' => e = .returned (.bool true) ∧ Below Wa.heap.size Wa w') := by
    have := l04Two_any (m : Int) at' lt ct (m : Int) au lu cu Wa qa0.tt qa0.uu (by unfold maxLen; omega) (by unfold maxLen; omega)
    rw [h2, hmt, hmu] at this
    exact this
  have HD : Hid (∀ W, IntRow W au lu → Calls Tryd.prog 18 #[.agg #[.int .i64 (m : Int), .slice au m cu]] W fun e w' => (∃ go co, e = .returned (.slice (some ⟨go, 0, none⟩) N co) ∧ w'.cell? ⟨go, v, none⟩ = some (.int .i64 z) ∧ go < w'.heap.size) ∧ Below W.heap.size W w') := by
    intro W hW
    refine (l04Dist_any m au lu cu W hmu hW oku h5).mono ?_
    rintro e w' ⟨⟨go, co, xs, rfl, ho, hd⟩, hb⟩
    rw [← hN] at ho ⊢
    refine ⟨⟨go, co, rfl, ?_, (ho.lt go rfl).2⟩, hb⟩
    rw [hz]; exact cellD ho hd hN hv okt h5
  have HNU : Hid (∀ W, IntRow W at' lt → Calls Tryd.prog 19 #[.agg #[.int .i64 (m : Int), .slice at' m ct]] W fun e w' => e = .returned (.int .i64 (v : Int)) ∧ Below W.heap.size W w') := by
    intro W hW
    rw [hv]
    exact l04Number_m m at' lt ct W hmt hW okt h5
  have R0 : Hid (∀ V, R1 w V (m : Int) at' ct lt (m : Int) au cu lu → Box V w.heap.size 27 (.int .i64 (m : Int)) (.slice at' m ct) ∧ Box V (w.heap.size + 1) 27 (.int .i64 (m : Int)) (.slice au m cu)) := fun V h => ⟨by have := h.bT; rw [hmt] at this; exact this, by have := h.bU; rw [hmu] at this; exact this⟩
  rw [← hz]
  have hvN : (v : Int) < (N : Int) := by omega
  clear hWa hWb sb hbb hba xt xu qa0 hrowt hrowu hmt hmu okt oku h5 h2 hN hv hz hvN0
  have c0 := (R0.out _ qa.out).1.c0
  have c1 := (R0.out _ qa.out).1.c1
  have c2 := (R0.out _ qa.out).2.c0
  have c3 := (R0.out _ qa.out).2.c1
  rw [HWa.out] at c0 c1 c2 c3
  go_enter Tryd.func6, Tryd.ntmps6
  go_wp2_with fail
  rw [← HWa.out]
  refine HTW.out.mono ?_
  rintro e w1 ⟨rfl, hb1⟩
  have q1 := Lib.hid (qa.out.kept hb1)
  clear c0 c1 c2 c3 hb1
  have c0 := (R0.out _ q1.out).1.c0
  have c1 := (R0.out _ q1.out).1.c1
  have c2 := (R0.out _ q1.out).2.c0
  have c3 := (R0.out _ q1.out).2.c1
  go_wp2
  first | (go_region_with (first
      | (go_at_call 18; have hx := N3; refine (HD.out w3 q3.out.uu).mono ?_; rintro e w4 ⟨⟨go, co, rfl, hcl, hgl⟩, hb4⟩; have q4 := Lib.hid (q3.out.kept hb4); clear hb4)
      | (go_at_call 19; have hx := D3; refine (HNU.out w3 q3.out.tt).mono ?_; rintro e w4 ⟨rfl, hb4⟩; have hcl := (hb4.cell (p := ⟨go, v, none⟩) D3.out.2).trans D3.out.1; have q4 := Lib.hid (q3.out.kept hb4); clear hb4)
      | (go_at_call 18; refine (HD.out w1.drew q1.out.drew.uu).mono ?_; rintro e w3 ⟨⟨go, co, rfl, hcl0, hgl⟩, hb3⟩; have D3 := Lib.hid (And.intro hcl0 hgl); have q3 := Lib.hid (q1.out.drew.kept hb3); have e0 := (R0.out _ q3.out).1.c0; have e1 := (R0.out _ q3.out).1.c1; clear hb3 hcl0 hgl)
      | (go_at_call 19; refine (HNU.out w1.drew q1.out.drew.tt).mono ?_; rintro e w3 ⟨rfl, hb3⟩; have N3 := Lib.hid True.intro; have q3 := Lib.hid (q1.out.drew.kept hb3); have e2 := (R0.out _ q3.out).2.c0; have e3 := (R0.out _ q3.out).2.c1; clear hb3))) | fail
  all_goals
    go_wp2
    go_ret
    exact ⟨rfl, q4.out.hb⟩

theorem specSteps (nt : Int) (at' : Option Addr) (lt : List Int) (ct : Nat) (nu : Int) (au : Option Addr) (lu : List Int) (cu : Nat) (w : World) (hrowt : IntRow w at' lt) (hrowu : IntRow w au lu) (hlt : lt.length ≤ maxLen) (hlu : lu.length ≤ maxLen) :
    Calls Tryd.prog 6 #[.agg #[.int .i64 nt, .slice at' lt.length ct], .agg #[.int .i64 nu, .slice au lu.length cu]] w fun e w' => e = .returned (.int .i64 (stR nt lt nu lu)) ∧ Below w.heap.size w w' := by
  cases h2 : twoB nt lt nu lu
  · have hE : stR nt lt nu lu = -1 := by unfold stR; rw [h2]; exact if_neg (by decide)
    rw [hE]
    exact steps_no nt at' lt ct nu au lu cu w hrowt hrowu hlt hlu h2
  · have hE : stR nt lt nu lu = dI (all lu) lt := by unfold stR; exact if_pos h2
    rw [hE]
    obtain ⟨h1, h3, h4, h6, h7⟩ := twoB_parts h2
    have e1 : nt = (lt.length : Int) := by have := h1.2.2.1; omega
    have e2 : nu = (lu.length : Int) := by have := h3.2.2.1; omega
    have e3 : lu.length = lt.length := by omega
    subst h4
    subst e1
    have := steps_yes lt.length at' lt ct au lu cu w hrowt hrowu rfl e3 h1 h3 (by omega) h2
    rw [e3]
    exact this
end Go.Proofs.YtgdejippddcekaaDoor
