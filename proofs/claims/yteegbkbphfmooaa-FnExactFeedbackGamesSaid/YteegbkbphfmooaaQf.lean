/-
  Both 'OrderOk'; the program's and the model's 'CountReversals'; the program's 'IsSettled' and 'ImproveOrder'. No conditions but the bounds that Go gives a slice.
-/
import Derived.Test.YteegbkbphfmooaaQe
namespace Go.Proofs.Yteegbkbphfmooaa
open Go.ChangeShapes Go.WideShapes Go.ChangeAt Go.RowKit Go.Sort
set_option linter.unusedVariables false

def tn (ns : List Int) : List Nat := ns.map Int.toNat
theorem tn_at {ns : List Int} {k : Nat} (hk : k < ns.length) : (tn ns)[k]'(by simpa [tn] using hk) = nm ns k := by
  unfold tn nm
  rw [List.getElem_map, List.getD_eq_getElem?_getD, List.getElem?_eq_getElem hk]; rfl
theorem perm_od {m : Nat} {ns : List Int} (h : permB m ns = true) : Rv.Od m (tn ns) ∧ ns = ni (tn ns) := by
  have hl : ns.length = m := (permB_iff.1 h).1
  have hl2 : (tn ns).length = m := by simp [tn, hl]
  refine ⟨⟨?_, ?_, hl2⟩, ?_⟩
  · unfold List.Nodup
    rw [List.pairwise_iff_getElem]
    intro i j hi hj hij e
    rw [tn_at (by omega), tn_at (by omega)] at e
    have := nm_inj h (show i < m by omega) (show j < m by omega) e
    omega
  · intro x hx
    obtain ⟨i, hi, rfl⟩ := List.mem_iff_getElem.1 hx
    rw [tn_at (by omega)]
    exact (nm_val h (show i < m by omega)).2
  · have hp : ∀ x ∈ ns, Int.ofNat x.toNat = x := by
      intro x hx
      obtain ⟨i, hi, rfl⟩ := List.mem_iff_getElem.1 hx
      have := (nm_val h (show i < m by omega)).1
      rw [List.getD_eq_getElem?_getD, List.getElem?_eq_getElem hi] at this
      have h2 : ns[i] = (nm ns i : Int) := this
      rw [h2]; rfl
    unfold ni tn
    rw [List.map_map]
    have : ns.map (Int.ofNat ∘ Int.toNat) = ns.map id := List.map_congr_left fun x hx => hp x hx
    rw [this, List.map_id]

set_option maxHeartbeats 1000000 in
theorem implOrderOk (n : Int) (a : Option Addr) (l : List Int) (cap : Nat) (an : Option Addr) (ns : List Int) (cn : Nat) (w : World) (hrow : IntRow w a l) (hl : l.length ≤ maxLen) (hrn : IntRow w an ns) (hn : ns.length ≤ maxLen) (hcn : ns.length ≤ cn) (hcm : cn ≤ maxLen) :
    Calls Try.prog 34 #[.agg #[.int .i64 n, .slice a l.length cap], .slice an ns.length cn] w fun e w' => e = .returned (.bool (renB n l ns)) ∧ Below w.heap.size w w' := by
  obtain ⟨Wa, hWa⟩ : ∃ Wa, Wa = w.alloc (.cells #[.int .i64 n, .slice a l.length cap] 25) := ⟨_, rfl⟩
  have HWa := Lib.hid hWa
  have hba : Below w.heap.size w Wa := by rw [hWa]; exact (Below.refl _ _).alloc (Nat.le_refl _) _
  have xa : Box Wa w.heap.size 25 (.int .i64 n) (.slice a l.length cap) := by rw [hWa]; exact Box.new _ _ _ _
  have hrowa : IntRow Wa a l := hrow.below hba (Nat.le_refl _)
  have hrna : IntRow Wa an ns := hrn.below hba (Nat.le_refl _)
  have HL := Lib.hid hl
  have HN := Lib.hid hn
  have c0 := xa.c0
  have c1 := xa.c1
  clear hl hn hrow hrn hWa hcn hcm
  cases hok : okB n l
  · have HO := Lib.hid hok
    have HE : Hid (renB n l ns = false) := by show _ = _; unfold renB; rw [hok]; rfl
    clear hok
    go_enter Try.func34, Try.ntmps34
    go_wp2_with fail
    rw [← HWa.out]
    refine (implTourOk n a l cap Wa hrowa HL.out).mono ?_
    rintro e w1 ⟨rfl, hb1⟩
    rw [HO.out]
    go_wp2
    go_ret
    exact ⟨by rw [HE.out]; rfl, hba.trans (hb1.mono hba.size)⟩
  · have HO := Lib.hid hok
    have hk := okB_iff.1 hok
    obtain rfl : n = (l.length : Int) := hk.2.2.1.symm
    have h8 : l.length ≤ 8 := by have := hk.2.1; omega
    have HE : Hid (renB l.length l ns = permB l.length ns) := by show _ = _; unfold renB; rw [hok]; rfl
    clear hok hk
    go_enter Try.func34, Try.ntmps34
    go_wp2_with fail
    rw [← HWa.out]
    refine (implTourOk _ a l cap Wa hrowa HL.out).mono ?_
    rintro e w1 ⟨rfl, hb1⟩
    rw [HO.out]
    clear c0 c1
    have c0 := (xa.below hb1 xa.lt).c0
    go_wp2_with fail
    refine (isOrder_any l.length an ns cn w1 h8 (hrna.below hb1 (Nat.le_refl _)) HN.out).mono ?_
    rintro e w2 ⟨rfl, hb2⟩
    have B1 := hba.trans (hb1.mono hba.size)
    go_wp2
    go_ret
    exact ⟨by rw [HE.out]; rfl, B1.trans (hb2.mono B1.size)⟩

set_option maxHeartbeats 1000000 in
theorem specOrderOk (n : Int) (a : Option Addr) (l : List Int) (cap : Nat) (an : Option Addr) (ns : List Int) (cn : Nat) (w : World) (hrow : IntRow w a l) (hl : l.length ≤ maxLen) (hrn : IntRow w an ns) (hn : ns.length ≤ maxLen) (hcn : ns.length ≤ cn) (hcm : cn ≤ maxLen) :
    Calls Try.prog 45 #[.agg #[.int .i64 n, .slice a l.length cap], .slice an ns.length cn] w fun e w' => e = .returned (.bool (renB n l ns)) ∧ Below w.heap.size w w' := by
  obtain ⟨Wa, hWa⟩ : ∃ Wa, Wa = w.alloc (.cells #[.int .i64 n, .slice a l.length cap] 25) := ⟨_, rfl⟩
  have HWa := Lib.hid hWa
  have hba : Below w.heap.size w Wa := by rw [hWa]; exact (Below.refl _ _).alloc (Nat.le_refl _) _
  have xa : Box Wa w.heap.size 25 (.int .i64 n) (.slice a l.length cap) := by rw [hWa]; exact Box.new _ _ _ _
  have hrowa : IntRow Wa a l := hrow.below hba (Nat.le_refl _)
  have hrna : IntRow Wa an ns := hrn.below hba (Nat.le_refl _)
  have HL := Lib.hid hl
  have HN := Lib.hid hn
  have c0 := xa.c0
  have c1 := xa.c1
  clear hl hn hrow hrn hWa hcn hcm
  cases hok : okB n l
  · have HO := Lib.hid hok
    have HE : Hid (renB n l ns = false) := by show _ = _; unfold renB; rw [hok]; rfl
    clear hok
    go_enter Try.func45, Try.ntmps45
    go_wp2_with fail
    rw [← HWa.out]
    refine (specTourOk n a l cap Wa hrowa HL.out).mono ?_
    rintro e w1 ⟨rfl, hb1⟩
    rw [HO.out]
    go_wp2
    go_ret
    exact ⟨by rw [HE.out]; rfl, hba.trans (hb1.mono hba.size)⟩
  · have HO := Lib.hid hok
    have hk := okB_iff.1 hok
    obtain rfl : n = (l.length : Int) := hk.2.2.1.symm
    have h8 : l.length ≤ 8 := by have := hk.2.1; omega
    have HE : Hid (renB l.length l ns = permB l.length ns) := by show _ = _; unfold renB; rw [hok]; rfl
    clear hok hk
    go_enter Try.func45, Try.ntmps45
    go_wp2_with fail
    rw [← HWa.out]
    refine (specTourOk _ a l cap Wa hrowa HL.out).mono ?_
    rintro e w1 ⟨rfl, hb1⟩
    rw [HO.out]
    clear c0 c1
    have c0 := (xa.below hb1 xa.lt).c0
    go_wp2_with fail
    refine (l02Perm_any l.length an ns cn w1 h8 (hrna.below hb1 (Nat.le_refl _)) HN.out).mono ?_
    rintro e w2 ⟨rfl, hb2⟩
    have B1 := hba.trans (hb1.mono hba.size)
    go_wp2
    go_ret
    exact ⟨by rw [HE.out]; rfl, B1.trans (hb2.mono B1.size)⟩

/-- What is known where 'OrderOk' is true. -/
theorem ren_parts {n : Int} {l ns : List Int} (h : renB n l ns = true) : Ok n l ∧ n = (l.length : Int) ∧ permB l.length ns = true ∧ ns.length = l.length ∧ Rv.Od l.length (tn ns) ∧ ns = ni (tn ns) := by
  unfold renB at h
  rw [Bool.and_eq_true] at h
  obtain ⟨h1, h2⟩ := h
  have ok := okB_iff.1 h1
  obtain ⟨h3, h4⟩ := perm_od h2
  exact ⟨ok, ok.2.2.1.symm, h2, (permB_iff.1 h2).1, h3, h4⟩
noncomputable def crR (n : Int) (l ns : List Int) : Int := if renB n l ns then ((Rv.rv (bt l) (tn ns) : Nat) : Int) else -1
noncomputable def isR (n : Int) (l ns : List Int) : Bool := renB n l ns && (Rv.bet (bt l) (tn ns)).isNone
noncomputable def imR (n : Int) (l ns : List Int) : List Int := if renB n l ns then ni (Rv.imp (bt l) (tn ns)) else []

set_option maxHeartbeats 1000000 in
theorem implCountReversals (n : Int) (a : Option Addr) (l : List Int) (cap : Nat) (an : Option Addr) (ns : List Int) (cn : Nat) (w : World) (hrow : IntRow w a l) (hl : l.length ≤ maxLen) (hrn : IntRow w an ns) (hn : ns.length ≤ maxLen) (hcn : ns.length ≤ cn) (hcm : cn ≤ maxLen) :
    Calls Try.prog 30 #[.agg #[.int .i64 n, .slice a l.length cap], .slice an ns.length cn] w fun e w' => e = .returned (.int .i64 (crR n l ns)) ∧ Below w.heap.size w w' := by
  obtain ⟨Wa, hWa⟩ : ∃ Wa, Wa = w.alloc (.cells #[.int .i64 n, .slice a l.length cap] 25) := ⟨_, rfl⟩
  have HWa := Lib.hid hWa
  have hba : Below w.heap.size w Wa := by rw [hWa]; exact (Below.refl _ _).alloc (Nat.le_refl _) _
  have xa : Box Wa w.heap.size 25 (.int .i64 n) (.slice a l.length cap) := by rw [hWa]; exact Box.new _ _ _ _
  have R1 := hrow.below hba (Nat.le_refl _)
  have N1 := hrn.below hba (Nat.le_refl _)
  have HOK := Lib.hid (implOrderOk n a l cap an ns cn Wa R1 hl N1 hn hcn hcm)
  have c0 := xa.c0
  have c1 := xa.c1
  cases hok : renB n l ns
  · have HO := Lib.hid hok
    have HE : Hid (crR n l ns = -1) := by show _ = _; unfold crR; rw [hok]; rfl
    clear hl hn hrow hrn hWa hcn hcm hok R1 N1
    go_enter Try.func30, Try.ntmps30
    go_wp2_with fail
    rw [← HWa.out]
    refine HOK.out.mono ?_
    rintro e w1 ⟨rfl, hb1⟩
    rw [HO.out]
    go_wp2
    go_ret
    exact ⟨by rw [HE.out]; rfl, hba.trans (hb1.mono hba.size)⟩
  · have HO := Lib.hid hok
    obtain ⟨ok, rfl, hp, hnl, hod, hni⟩ := ren_parts hok
    have HE : Hid (crR l.length l ns = ((Rv.rv (bt l) (tn ns) : Nat) : Int)) := by show _ = _; unfold crR; rw [hok]; rfl
    obtain ⟨o, ho⟩ : ∃ o, o = tn ns := ⟨_, rfl⟩
    rw [← ho] at hod hni HE
    have HC : Hid (∀ W, IntRow W a l → IntRow W an ns → Calls Try.prog 83 #[.agg #[.int .i64 (l.length : Int), .slice a l.length cap], .slice an l.length cn] W fun e w' => e = .returned (.int .i64 ((Rv.rv (bt l) o : Nat) : Int)) ∧ Below W.heap.size W w') :=
      fun W h1 h2 => countRev_any l.length a l cap an o cn W rfl ok h1 hod (hni ▸ h2)
    have RR := Lib.hid R1
    have NN := Lib.hid N1
    have HNL := Lib.hid hnl
    clear hl hn hrow hrn hWa hcn hcm hok R1 N1 ok hp hod hni ho
    rw [hnl]
    rw [hnl] at HOK
    go_enter Try.func30, Try.ntmps30
    go_wp2_with fail
    rw [← HWa.out]
    refine HOK.out.mono ?_
    rintro e w1 ⟨rfl, hb1⟩
    rw [HO.out]
    clear c0 c1
    have c0 := (xa.below hb1 xa.lt).c0
    have c1 := (xa.below hb1 xa.lt).c1
    go_wp2_with fail
    refine (HC.out w1 (RR.out.below hb1 (Nat.le_refl _)) (NN.out.below hb1 (Nat.le_refl _))).mono ?_
    rintro e w2 ⟨rfl, hb2⟩
    have B1 := hba.trans (hb1.mono hba.size)
    go_wp2
    go_ret
    exact ⟨by rw [HE.out]; rfl, B1.trans (hb2.mono B1.size)⟩
end Go.Proofs.Yteegbkbphfmooaa
