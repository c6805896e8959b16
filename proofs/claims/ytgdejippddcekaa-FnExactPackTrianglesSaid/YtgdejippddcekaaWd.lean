/-
  'TrianglesOf' and 'TrianglesAt' of the model. No conditions but the bounds that Go gives a slice.
-/
import Derived.Test.YtgdejippddcekaaWc
namespace Go.Proofs.Ytgdejippddcekaa
open Go.ChangeShapes Go.WideShapes Go.ChangeAt Go.RowKit
set_option linter.unusedVariables false

theorem OwnSS.at {W : World} {B : Nat} {a : Option Addr} {c : Nat} {gs : List (Nat × Nat)} {Ls : List (List Int)} (h : OwnSS W B a c gs Ls) (i j : Nat) (hi : i < Ls.length) (hj : j < (Ls.getD i []).length) : W.cell? ⟨(gs.getD i (0, 0)).1, j, none⟩ = some (.int .i64 ((Ls.getD i []).getD j 0)) := by
  have hr := h.inn i hi
  unfold sv at hr
  rw [hr.cellAt j (by omega), List.getElem?_map, List.getElem?_eq_getElem hj, List.getD_eq_getElem?_getD (l := Ls.getD i []), List.getElem?_eq_getElem hj]
  rfl

noncomputable def trR (n : Int) (l : List Int) : List (List Int) := if okB n l then triL l else []
theorem trR_le (n : Int) (l : List Int) : (trR n l).length ≤ 512 := by
  unfold trR
  cases h : okB n l
  · simp
  · have hk := okB_iff.1 h
    simp only [if_true]
    exact triL_len l (by have := hk.2.1; have := hk.2.2.1; omega)
theorem trR_row (n : Int) (l : List Int) (i : Nat) (hi : i < (trR n l).length) : ((trR n l).getD i []).length = 3 := by
  have hm : (trR n l).getD i [] ∈ trR n l := by rw [List.getD_eq_getElem?_getD, List.getElem?_eq_getElem hi]; exact List.getElem_mem hi
  cases h : okB n l
  · have e : trR n l = [] := by unfold trR; rw [h]; rfl
    rw [e] at hm; cases hm
  · have e : trR n l = triL l := by unfold trR; rw [h]; rfl
    rw [e] at hm ⊢; exact triL_row hm

set_option maxHeartbeats 400000 in
theorem specTriangles (n : Int) (a : Option Addr) (l : List Int) (cap : Nat) (w : World) (hrow : IntRow w a l) (hl : l.length ≤ maxLen) :
    Calls Try.prog 9 #[.agg #[.int .i64 n, .slice a l.length cap]] w (RetSS w (trR n l)) := by
  obtain ⟨Wa, hWa⟩ : ∃ Wa, Wa = w.alloc (.cells #[.int .i64 n, .slice a l.length cap] 28) := ⟨_, rfl⟩
  have HWa := Lib.hid hWa
  have hba : Below w.heap.size w Wa := by rw [hWa]; exact (Below.refl _ _).alloc (Nat.le_refl _) _
  have xa : Box Wa w.heap.size 28 (.int .i64 n) (.slice a l.length cap) := by rw [hWa]; exact Box.new _ _ _ _
  have hrowa : IntRow Wa a l := hrow.below hba (Nat.le_refl _)
  have HL := Lib.hid hl
  clear hl hrow hWa
  cases hok : okB n l
  · have HO := Lib.hid hok
    have HE : Hid (trR n l = []) := by show _ = _; unfold trR; rw [hok]; rfl
    rw [HE.out]
    clear hok
    go_enter Try.func9, Try.ntmps9
    go_wp2_with fail
    rw [← HWa.out]
    refine (specTourOk n a l cap Wa hrowa HL.out).mono ?_
    rintro e w1 ⟨rfl, hb1⟩
    rw [HO.out]
    have B1 := Lib.hid (hba.trans (hb1.mono hba.size))
    clear hb1
    go_wp2
    go_ret
    exact ⟨⟨none, 0, [], rfl, OwnSS.nil _ _⟩, B1.out⟩
  · have HO := Lib.hid hok
    have HK : Hid (Ok n l) := okB_iff.1 hok
    have HE : Hid (trR n l = triL l) := by show _ = _; unfold trR; rw [hok]; rfl
    rw [HE.out]
    clear hok
    go_enter Try.func9, Try.ntmps9
    go_wp2_with fail
    rw [← HWa.out]
    refine (specTourOk n a l cap Wa hrowa HL.out).mono ?_
    rintro e w1 ⟨rfl, hb1⟩
    rw [HO.out]
    have x1 := xa.below hb1 xa.lt
    have c0 := x1.c0
    have c1 := x1.c1
    have B1 := Lib.hid (hba.trans (hb1.mono hba.size))
    have HC := Lib.hid (l04All_any n a l cap w1 (hrowa.below hb1 (Nat.le_refl _)) HK.out)
    clear hb1
    go_wp2_with fail
    refine HC.out.mono ?_
    rintro e w2 ⟨⟨a0, c0', gs, rfl, hss⟩, hb2⟩
    have HS := Lib.hid (hss.mono B1.out.size)
    have B2 := Lib.hid (B1.out.trans (hb2.mono B1.out.size))
    clear hss hb2
    go_wp2
    go_ret
    exact ⟨⟨a0, c0', gs, rfl, HS.out⟩, B2.out⟩

/-- Whether a triangle has the player. -/
def atT (k : Int) (r : List Int) : Bool := r.getD 0 0 == k || (r.getD 1 0 == k || r.getD 2 0 == k)
noncomputable def taR (n : Int) (l : List Int) (k : Int) : Int := if okB n l && pl n k then ((triL l).countP (atT k) : Nat) else -1
theorem count_succ (k : Int) (Ls : List (List Int)) (i : Nat) (h : i < Ls.length) : (Ls.take (i + 1)).countP (atT k) = (Ls.take i).countP (atT k) + (if atT k (Ls.getD i []) then 1 else 0) := by
  rw [List.take_succ_eq_append_getElem h, List.countP_append, List.getD_eq_getElem?_getD, List.getElem?_eq_getElem h]
  simp [List.countP_cons]

set_option maxHeartbeats 1000000 in
theorem specTrianglesAt (n : Int) (a : Option Addr) (l : List Int) (cap : Nat) (k : Int) (w : World) (hrow : IntRow w a l) (hl : l.length ≤ maxLen) :
    Calls Try.prog 27 #[.agg #[.int .i64 n, .slice a l.length cap], .int .i64 k] w fun e w' => e = .returned (.int .i64 (taR n l k)) ∧ Below w.heap.size w w' := by
  obtain ⟨Wa, hWa⟩ : ∃ Wa, Wa = w.alloc (.cells #[.int .i64 n, .slice a l.length cap] 28) := ⟨_, rfl⟩
  have HWa := Lib.hid hWa
  have hba : Below w.heap.size w Wa := by rw [hWa]; exact (Below.refl _ _).alloc (Nat.le_refl _) _
  have xa : Box Wa w.heap.size 28 (.int .i64 n) (.slice a l.length cap) := by rw [hWa]; exact Box.new _ _ _ _
  have hrowa : IntRow Wa a l := hrow.below hba (Nat.le_refl _)
  have HL := Lib.hid hl
  clear hl hrow hWa
  cases hok : (okB n l && pl n k)
  · have HO := Lib.hid hok
    have HE : Hid (taR n l k = -1) := by show _ = _; unfold taR; rw [hok]; rfl
    clear hok
    go_enter Try.func27, Try.ntmps27
    go_wp2_with fail
    rw [← HWa.out]
    refine (specPlayer n a l cap k Wa hrowa HL.out).mono ?_
    rintro e w1 ⟨rfl, hb1⟩
    rw [HO.out]
    have B1 := Lib.hid (hba.trans (hb1.mono hba.size))
    clear hb1
    go_wp2
    go_ret
    exact ⟨by rw [HE.out]; rfl, B1.out⟩
  · have HO := Lib.hid hok
    have HK : Hid (Ok n l) := okB_iff.1 (Bool.and_eq_true_iff.1 hok).1
    have h8 : l.length ≤ 8 := by have := HK.out.2.1; have := HK.out.2.2.1; omega
    have HE : Hid (taR n l k = ((triL l).countP (atT k) : Nat)) := by show _ = _; unfold taR; rw [hok]; rfl
    have hln := triL_len l h8
    have hro : ∀ i, i < (triL l).length → ((triL l).getD i []).length = 3 := fun i hi => triL_row (by rw [List.getD_eq_getElem?_getD, List.getElem?_eq_getElem hi]; exact List.getElem_mem hi)
    have hCA := fun (W : World) (hR : IntRow W a l) => l04All_any n a l cap W hR HK.out
    obtain ⟨Ls, hLs⟩ : ∃ Ls, Ls = triL l := ⟨_, rfl⟩
    rw [← hLs] at hln hro HE
    simp only [← hLs] at hCA
    have HCA := Lib.hid hCA
    have HRO := Lib.hid hro
    clear hok hLs hCA hro
    go_enter Try.func27, Try.ntmps27
    go_wp2_with fail
    rw [← HWa.out]
    refine (specPlayer n a l cap k Wa hrowa HL.out).mono ?_
    rintro e w1 ⟨rfl, hb1⟩
    rw [HO.out]
    have x1 := xa.below hb1 xa.lt
    have c0 := x1.c0
    have c1 := x1.c1
    have B1 := Lib.hid (hba.trans (hb1.mono hba.size))
    have HC := Lib.hid (HCA.out w1 (hrowa.below hb1 (Nat.le_refl _)))
    clear hb1
    go_wp2_with fail
    refine HC.out.mono ?_
    rintro e w2 ⟨⟨a0, c0', gs, rfl, hss⟩, hb2⟩
    have HS := Lib.hid hss
    have B2 := Lib.hid (B1.out.trans (hb2.mono B1.out.size))
    clear hss hb2 c0 c1 x1 xa hrowa
    go_wp2
    go_loop [5, 15] (fun cn i => ∃ (x m : Nat), x ≤ Ls.length ∧ i = .int .i64 x ∧ cn = .int .i64 m ∧ m ≤ x ∧ Hid (m = (Ls.take x).countP (atT k))) (fun _ i => Ls.length - (intOf i).toNat)
    case atStart => exact ⟨0, 0, Nat.zero_le _, rfl, rfl, Nat.le_refl _, rfl⟩
    case round =>
      obtain ⟨x, m, hx, rfl, rfl, hmx, hm⟩ := hrel
      by_cases hlt : x < Ls.length
      · obtain ⟨g, rfl, _⟩ := HS.out.base (by omega)
        have hc := HS.out.cell x hlt
        have h3 := HRO.out x hlt
        have r0 := HS.out.at x 0 hlt (by omega)
        have r1 := HS.out.at x 1 hlt (by omega)
        have r2 := HS.out.at x 2 hlt (by omega)
        have hcs := count_succ k Ls x hlt
        rw [h3] at hc
        obtain ⟨p, hp⟩ : ∃ p, p = gs.getD x (0, 0) := ⟨_, rfl⟩
        obtain ⟨R, hR⟩ : ∃ R, R = Ls.getD x [] := ⟨_, rfl⟩
        rw [← hp] at hc r0 r1 r2
        rw [← hR] at r0 r1 r2 hcs
        obtain ⟨u, hu⟩ : ∃ u, u = R.getD 0 0 := ⟨_, rfl⟩
        obtain ⟨v, hv⟩ : ∃ v, v = R.getD 1 0 := ⟨_, rfl⟩
        obtain ⟨z, hz⟩ : ∃ z, z = R.getD 2 0 := ⟨_, rfl⟩
        have hat : atT k R = (u == k || (v == k || z == k)) := by unfold atT; rw [← hu, ← hv, ← hz]
        rw [← hu] at r0
        rw [← hv] at r1
        rw [← hz] at r2
        rw [hat, ← hm.out] at hcs
        have HCS := Lib.hid hcs
        have hxi : (x : Int) < (Ls.length : Int) := by omega
        have hmi : (m : Int) ≤ 512 := by omega
        clear hp hR hu hv hz hat hcs h3 hm
        by_cases h0 : u = k
        · have hb0 : (u == k) = true := by rw [beq_iff_eq]; exact h0
          have HM : Hid (m + 1 = (Ls.take (x + 1)).countP (atT k)) := by show _ = _; rw [HCS.out, hb0]; rfl
          clear HCS
          subst h0
          go_wp2
          go_round
          case rel => exact ⟨x + 1, m + 1, by omega, by go_num, by go_num, by omega, HM.out⟩
          case measure => simp [intOf]; omega
        · have hb0 : (u == k) = false := by rw [beq_eq_false_iff_ne]; exact h0
          by_cases h1 : v = k
          · have hb1 : (v == k) = true := by rw [beq_iff_eq]; exact h1
            have HM : Hid (m + 1 = (Ls.take (x + 1)).countP (atT k)) := by show _ = _; rw [HCS.out, hb0, hb1]; rfl
            clear HCS
            subst h1
            go_wp2
            go_round
            case rel => exact ⟨x + 1, m + 1, by omega, by go_num, by go_num, by omega, HM.out⟩
            case measure => simp [intOf]; omega
          · have hb1 : (v == k) = false := by rw [beq_eq_false_iff_ne]; exact h1
            by_cases h2 : z = k
            · have hb2 : (z == k) = true := by rw [beq_iff_eq]; exact h2
              have HM : Hid (m + 1 = (Ls.take (x + 1)).countP (atT k)) := by show _ = _; rw [HCS.out, hb0, hb1, hb2]; rfl
              clear HCS
              subst h2
              go_wp2
              go_round
              case rel => exact ⟨x + 1, m + 1, by omega, by go_num, by go_num, by omega, HM.out⟩
              case measure => simp [intOf]; omega
            · have hb2 : (z == k) = false := by rw [beq_eq_false_iff_ne]; exact h2
              have HM : Hid (m = (Ls.take (x + 1)).countP (atT k)) := by show _ = _; rw [HCS.out, hb0, hb1, hb2]; rfl
              clear HCS
              go_wp2
              go_round
              case rel => exact ⟨x + 1, m, by omega, by go_num, rfl, by omega, HM.out⟩
              case measure => simp [intOf]; omega
      · obtain rfl : x = Ls.length := by omega
        have hxi : ¬ (Ls.length : Int) < (Ls.length : Int) := by omega
        have HM : Hid (m = Ls.countP (atT k)) := by show _ = _; rw [hm.out, List.take_length]
        clear hm
        go_wp2
        go_ret
        exact ⟨by rw [HE.out, ← HM.out]; rfl, B2.out⟩
end Go.Proofs.Ytgdejippddcekaa
