/-
  'DefeatScores' of the model. No conditions but the bounds that Go gives a slice.
-/
import Derived.Test.YtmeojedfokahmaaGA
namespace Go.Proofs.Ytmeojedfokahmaa
open Go.ChangeShapes Go.WideShapes Go.ChangeAt Go.RowKit Go.Sort
set_option linter.unusedVariables false

theorem defTo_bd {n : Int} {l : List Int} (h : Ok n l) (a : Nat) : ∀ z, z ≤ l.length → -(8 * (z : Int)) ≤ defTo l a z ∧ defTo l a z ≤ 8 * (z : Int)
  | 0, _ => by simp [defTo, sI]
  | z + 1, hz => by
    have ih := defTo_bd h a z (by omega)
    have h8 : l.length ≤ 8 := by have := h.2.1; have := h.2.2.1; omega
    have hs := score_lt h (show z < l.length by omega)
    rw [defTo_succ]
    generalize (scoresL l).getD z 0 = s at hs ⊢
    cases bt l a z <;> cases bt l z a <;> simp <;> omega

set_option maxRecDepth 100000 in
set_option maxHeartbeats 4000000 in
theorem specDefeats (n : Int) (a : Option Addr) (l : List Int) (cap : Nat) (w : World) (hrow : IntRow w a l) (hl : l.length ≤ maxLen) :
    Calls Try.prog 57 #[.agg #[.int .i64 n, .slice a l.length cap]] w fun e w' => (∃ a0 c0, e = .returned (.slice a0 (defR n l).length c0) ∧ w'.ownsRow w.heap.size 3 1 (.slice a0 (defR n l).length c0) (defR n l).length ((defR n l).map iv)) ∧ Below w.heap.size w w' := by
  obtain ⟨Wa, hWa⟩ : ∃ Wa, Wa = w.alloc (.cells #[.int .i64 n, .slice a l.length cap] 25) := ⟨_, rfl⟩
  have HWa := Lib.hid hWa
  have hba : Below w.heap.size w Wa := by rw [hWa]; exact (Below.refl _ _).alloc (Nat.le_refl _) _
  have xa : Box Wa w.heap.size 25 (.int .i64 n) (.slice a l.length cap) := by rw [hWa]; exact Box.new _ _ _ _
  have hrowa : IntRow Wa a l := hrow.below hba (Nat.le_refl _)
  have HL := Lib.hid hl
  have HCT := Lib.hid (specTourOk n a l cap Wa hrowa hl)
  have XA := Lib.hid xa
  have c0 := xa.c0
  have c1 := xa.c1
  have BA := Lib.hid hba
  have RA := Lib.hid hrowa
  clear hl hrow hWa xa hba hrowa
  cases hok : okB n l
  · have HE : Hid (defR n l = []) := by show _ = _; unfold defR; rw [hok]; rfl
    have HO := Lib.hid hok
    clear hok
    go_enter Try.func57, Try.ntmps57
    go_wp2_with fail
    rw [← HWa.out]
    refine HCT.out.mono ?_
    rintro e w1 ⟨rfl, hb1⟩
    rw [HO.out]
    go_wp2
    go_ret
    rw [HE.out]
    exact ⟨⟨none, 0, rfl, own_nil _ _⟩, BA.out.trans (hb1.mono BA.out.size)⟩
  · have hok' := okB_iff.1 hok
    have h8 : l.length ≤ 8 := by have := hok'.2.1; have := hok'.2.2.1; omega
    have h1 : 1 ≤ l.length := by have := hok'.1; have := hok'.2.2.1; omega
    obtain rfl : n = (l.length : Int) := hok'.2.2.1.symm
    have HK := Lib.hid hok'
    have HO := Lib.hid hok
    have HE : Hid (defR l.length l = defL l) := by show _ = _; unfold defR; rw [hok]; rfl
    have HEl : Hid ((defR l.length l).length = l.length) := by show _ = _; rw [HE.out]; simp [defL]
    have HBT : Hid (∀ (i j : Nat) (W : World), IntRow W a l → i < l.length → j < 64 → Calls Try.prog 103 #[.agg #[.int .i64 (l.length : Int), .slice a l.length cap], .int .i64 i, .int .i64 j] W fun e w' => e = .returned (.bool (bt l i j)) ∧ Below W.heap.size W w') := fun i j W hr hi hj => l02Beats_any _ a l cap i j W hr HL.out hi hj
    have HSC : Hid (∀ W : World, IntRow W a l → Calls Try.prog 102 #[.agg #[.int .i64 (l.length : Int), .slice a l.length cap]] W fun e w' => (∃ g c, e = .returned (.slice (some ⟨g, 0, none⟩) l.length c) ∧ w'.ownsRow W.heap.size 3 1 (.slice (some ⟨g, 0, none⟩) l.length c) l.length ((nI (scoresL l)).map iv)) ∧ Below W.heap.size W w') := by
      intro W hr
      refine (l02Scores_any _ a l cap W hr HL.out HK.out).mono ?_
      rintro e w' ⟨⟨v, rfl, ho⟩, hb⟩
      have hsl : (scoresL l).length = l.length := scoresL_len l
      rw [hsl, nv_iv] at ho
      obtain ⟨g, c, rfl⟩ := not_nil_slice ho (fun e => by
        rcases ho.2 with ⟨_, hn⟩ | ⟨g, c2, cur, he, _⟩
        · omega
        · rw [e] at he; simp at he)
      exact ⟨⟨g, c, rfl, ho⟩, hb⟩
    obtain ⟨m, hm⟩ : ∃ m, m = l.length := ⟨_, rfl⟩
    have HMl := Lib.hid hm
    rw [← hm] at h8 h1
    clear hok hok'
    rw [← hm] at c0 c1 HWa HCT XA HEl HO HK HBT HSC ⊢
    rw [HEl.out]
    clear hm
    go_enter Try.func57, Try.ntmps57
    go_wp2_with fail
    rw [← HWa.out]
    refine HCT.out.mono ?_
    rintro e w1 ⟨rfl, hb1⟩
    rw [HO.out]
    have xa1 := XA.out.below hb1 XA.out.lt
    have c2 := xa1.c0
    have c3 := xa1.c1
    have B1 := BA.out.trans (hb1.mono BA.out.size)
    have R1 := RA.out.below hb1 (Nat.le_refl _)
    have HS1 := Lib.hid (HSC.out w1 R1)
    clear c0 c1
    go_wp2_with fail
    refine HS1.out.mono ?_
    rintro e w2 ⟨⟨gs, cs, rfl, hos⟩, hb2⟩
    have xa2 := xa1.below hb2 xa1.lt
    have B2 := B1.trans (hb2.mono B1.size)
    have R2 := R1.below hb2 (Nat.le_refl _)
    obtain ⟨Q, hQ⟩ : ∃ Q, Q = w2.heap.size := ⟨_, rfl⟩
    have hwQ : w.heap.size < Q := by rw [hQ]; exact xa2.lt
    have O2 : Hid ((w2.alloc (.cells #[] 3)).ownsRow Q 3 1 (.slice (some ⟨Q, 0, none⟩) 0 0) 0 (((List.range 0).map fun i => defTo l i l.length).map iv)) := own_empty w2 Q Q (by omega) hQ.symm
    have B3 : Hid (Below Q w2 (w2.alloc (.cells #[] 3))) := by rw [hQ]; exact Below.one w2 _
    have HBox : Hid (∀ W, Below Q w2 W → Box W w.heap.size 25 (.int .i64 (m : Int)) (.slice a m cap)) := fun W hW => xa2.below hW hwQ
    have HRow : Hid (∀ W, Below Q w2 W → IntRow W a l) := fun W hW => R2.below hW (by omega)
    have HSr : Hid (∀ W, Below Q w2 W → ∀ j, j < m → W.cell? ⟨gs, j, none⟩ = some (.int .i64 (((scoresL l).getD j 0 : Nat) : Int))) := fun W hW j hj => by
      rw [hQ] at hW
      rw [cell_own (own_below hos hW) hj, nI_at]; rfl
    have HB1 := Lib.hid B2
    have HQ := Lib.hid hQ
    have c4 := (HBox.out _ B3.out).c0
    have c5 := (HBox.out _ B3.out).c1
    rw [hQ] at O2
    clear xa1 B1 R1 hb1 HCT c2 c3 XA RA BA xa2 B2 R2 hos hb2 HS1 HSC HWa
    go_wp2
    rw [← hQ]
    rw [← hQ] at O2
    clear c4 c5 hQ
    go_loopw [4, 17] (fun o i wr => ∃ (x g c : Nat), x ≤ m ∧ i = .int .i64 (x : Int) ∧ o = .slice (some ⟨g, 0, none⟩) x c ∧ Hid (wr.ownsRow Q 3 1 (.slice (some ⟨g, 0, none⟩) x c) x (((List.range x).map fun i => defTo l i l.length).map iv)) ∧ Hid (Below Q w2 wr)) (fun _ i _ => m - (intOf i).toNat)
    case atStart => exact ⟨0, Q, 0, Nat.zero_le _, rfl, rfl, O2, B3⟩
    case round =>
      clear O2 B3
      obtain ⟨x, g, c, hx, rfl, rfl, O1, B1⟩ := hrel
      have hQs : Q ≤ wr.heap.size := by have := B1.out.size; have := HQ.out; omega
      by_cases hlt : x < m
      · have hxi : (x : Int) < (m : Int) := by omega
        have c0 := (HBox.out _ B1.out).c0
        have c1 := (HBox.out _ B1.out).c1
        obtain ⟨wo, hwo⟩ : ∃ wo, wo = wr := ⟨_, rfl⟩
        subst hwo
        have HP : Hid (∀ W, Below wo.heap.size wo W → W.ownsRow Q 3 1 (.slice (some ⟨g, 0, none⟩) x c) x (((List.range x).map fun i => defTo l i l.length).map iv)) := fun W hW => own_below O1.out hW
        have HBx : Hid (∀ W, Below wo.heap.size wo W → Below Q w2 W) := fun W hW => B1.out.trans (hW.mono hQs)
        clear O1 B1
        go_wp2
        clear c0 c1
        go_loopw [6, 23] (fun t i wr2 => ∃ z : Nat, z ≤ m ∧ i = .int .i64 (z : Int) ∧ t = .int .i64 (defTo l x z) ∧ Hid (Below wo.heap.size wo wr2)) (fun _ i _ => m - (intOf i).toNat)
        case atStart => exact ⟨0, Nat.zero_le _, rfl, by simp [defTo, sI], Below.refl _ _⟩
        case round =>
          obtain ⟨z, hz, rfl, rfl, B1⟩ := hrel
          by_cases hltz : z < m
          · have hzi : (z : Int) < (m : Int) := by omega
            have hbd := defTo_bd HK.out x z (by have := HMl.out; omega)
            have hbd2 := defTo_bd HK.out x (z + 1) (by have := HMl.out; omega)
            have hsl := score_lt HK.out (show z < l.length by have := HMl.out; omega)
            have hs8 : (scoresL l).getD z 0 ≤ 8 := by have := HMl.out; omega
            have hsc := defTo_succ l x z
            obtain ⟨s, hs⟩ : ∃ s, s = (scoresL l).getD z 0 := ⟨_, rfl⟩
            have HCS : Hid (∀ W, Below wo.heap.size wo W → W.cell? ⟨gs, z, none⟩ = some (.int .i64 (s : Int))) := fun W hW => by rw [hs]; exact HSr.out W (HBx.out W hW) z hltz
            rw [← hs] at hsc hsl hs8
            rw [show ((l.length - 1 - s : Nat) : Int) = (m : Int) - 1 - (s : Int) by have := HMl.out; omega] at hsc
            obtain ⟨d, hd⟩ : ∃ d, d = defTo l x z := ⟨_, rfl⟩
            rw [← hd] at hbd hsc ⊢
            obtain ⟨d2, hd2⟩ : ∃ d2, d2 = defTo l x (z + 1) := ⟨_, rfl⟩
            rw [← hd2] at hsc hbd2
            have HD2 := Lib.hid hd2
            have HSC2 := Lib.hid hsc
            have hC1 := HBT.out x z wr (HRow.out wr (HBx.out wr B1.out)) (by have := HMl.out; omega) (by omega)
            have HC1 := Lib.hid hC1
            have c0 := (HBox.out wr (HBx.out wr B1.out)).c0
            have c1 := (HBox.out wr (HBx.out wr B1.out)).c1
            obtain ⟨p, hp⟩ : ∃ p, p = bt l x z := ⟨_, rfl⟩
            obtain ⟨q, hq⟩ : ∃ q, q = bt l z x := ⟨_, rfl⟩
            rw [← hp] at HC1
            rw [← hp, ← hq] at HSC2
            have HQQ := Lib.hid hq
            clear hC1 hsc hs hd hd2 hp hq
            go_wp2_with fail
            refine HC1.out.mono ?_
            rintro e w5 ⟨rfl, hb5⟩
            have B5 := Lib.hid (B1.out.trans (hb5.mono B1.out.size))
            have f5 := HCS.out w5 B5.out
            have d0 := (HBox.out w5 (HBx.out w5 B5.out)).c0
            have d1 := (HBox.out w5 (HBx.out w5 B5.out)).c1
            have HC2 := Lib.hid (HBT.out z x w5 (HRow.out w5 (HBx.out w5 B5.out)) (by have := HMl.out; omega) (by omega))
            rw [← HQQ.out] at HC2
            clear c0 c1 hb5 B1
            have hds : IntKind.i64.wrap (d + (s : Int)) = d + (s : Int) := by rw [IntKind.wrap_i64]; omega
            cases p
            · go_wp2_with fail
              refine HC2.out.mono ?_
              rintro e w6 ⟨rfl, hb6⟩
              have B6 := Lib.hid (B5.out.trans (hb6.mono B5.out.size))
              have f6 := HCS.out w6 B6.out
              have e0 := (HBox.out w6 (HBx.out w6 B6.out)).c0
              have e1 := (HBox.out w6 (HBx.out w6 B6.out)).c1
              clear d0 d1 f5 hb6 B5
              cases q
              · have HV : Hid (defTo l x (z + 1) = d) := by
                  show _ = _
                  have := HSC2.out
                  rw [← HD2.out, this]; simp
                clear HSC2 HD2
                go_wp2
                go_roundw
                case rel => exact ⟨z + 1, by omega, by go_num, by rw [HV.out], B6⟩
                case measure => simp [intOf]; omega
              · have HV : Hid (defTo l x (z + 1) = d - ((m : Int) - 1 - (s : Int))) := by
                  show _ = _
                  have := HSC2.out
                  rw [← HD2.out, this]; simp
                have hms : (s : Int) + 1 ≤ (m : Int) := by have := HMl.out; omega
                have w1' : IntKind.i64.wrap ((m : Int) - 1) = (m : Int) - 1 := by rw [IntKind.wrap_i64]; omega
                have w2' : IntKind.i64.wrap ((m : Int) - 1 - (s : Int)) = (m : Int) - 1 - (s : Int) := by rw [IntKind.wrap_i64]; omega
                have w3' : IntKind.i64.wrap (d - ((m : Int) - 1 - (s : Int))) = d - ((m : Int) - 1 - (s : Int)) := by rw [IntKind.wrap_i64]; omega
                have HB6 : Hid (∀ nq, Below wo.heap.size wo (w6.drewN nq)) := fun nq => below_drewN B6.out nq
                clear HSC2 HD2
                go_wp2_with fail
                go_quiet (fail)
                go_wp2
                go_roundw
                case rel => exact ⟨z + 1, by omega, by go_num, by rw [HV.out], HB6.out _⟩
                case measure => simp [intOf]; omega
            · go_wp2_with fail
              refine HC2.out.mono ?_
              rintro e w6 ⟨rfl, hb6⟩
              have B6 := Lib.hid (B5.out.trans (hb6.mono B5.out.size))
              have f6 := HCS.out w6 B6.out
              have e0 := (HBox.out w6 (HBx.out w6 B6.out)).c0
              have e1 := (HBox.out w6 (HBx.out w6 B6.out)).c1
              clear d0 d1 f5 hb6 B5
              cases q
              · have HV : Hid (defTo l x (z + 1) = d + (s : Int)) := by
                  show _ = _
                  have := HSC2.out
                  rw [← HD2.out, this]; simp
                clear HSC2 HD2
                go_wp2
                go_roundw
                case rel => exact ⟨z + 1, by omega, by go_num, by rw [HV.out], B6⟩
                case measure => simp [intOf]; omega
              · have HV : Hid (defTo l x (z + 1) = d + (s : Int) - ((m : Int) - 1 - (s : Int))) := by
                  show _ = _
                  have := HSC2.out
                  rw [← HD2.out, this]; simp
                have hms : (s : Int) + 1 ≤ (m : Int) := by have := HMl.out; omega
                have w1' : IntKind.i64.wrap ((m : Int) - 1) = (m : Int) - 1 := by rw [IntKind.wrap_i64]; omega
                have w2' : IntKind.i64.wrap ((m : Int) - 1 - (s : Int)) = (m : Int) - 1 - (s : Int) := by rw [IntKind.wrap_i64]; omega
                have w3' : IntKind.i64.wrap (d + (s : Int) - ((m : Int) - 1 - (s : Int))) = d + (s : Int) - ((m : Int) - 1 - (s : Int)) := by rw [IntKind.wrap_i64]; omega
                have HB6 : Hid (∀ nq, Below wo.heap.size wo (w6.drewN nq)) := fun nq => below_drewN B6.out nq
                clear HSC2 HD2
                go_wp2_with fail
                go_quiet (fail)
                go_wp2
                go_roundw
                case rel => exact ⟨z + 1, by omega, by go_num, by rw [HV.out], HB6.out _⟩
                case measure => simp [intOf]; omega
          · obtain rfl : z = m := by omega
            have hG5 : Q ≤ wr.heap.size := by have := (HBx.out wr B1.out).size; have := HQ.out; omega
            have hG6 : Q ≤ (wr.alloc (.cells #[.int .i64 (defTo l x z)] 3)).heap.size := by simp; omega
            have O6 := Lib.hid (own_one (defTo l x z) (HP.out wr B1.out))
            have B6 := Lib.hid ((HBx.out wr B1.out).alloc hG5 (.cells #[.int .i64 (defTo l x z)] 3))
            have HC6 := Lib.hid (one_cell wr (defTo l x z))
            clear B1
            go_wp2_with (at_builtin; refine list_append_int _ rfl _ _ rfl Q g x c ((List.range x).map fun i => defTo l i l.length) rfl O6.out ⟨wr.heap.size, 0, none⟩ 1 1 [defTo l x z] rfl rfl HC6.out (by omega) hG6 (x + 1) rfl ?_)
            intro g7 c7 w7 hown7 hg7 hb7
            have OO7 : Hid (w7.ownsRow Q 3 1 (.slice (some ⟨g7, 0, none⟩) (x + 1) c7) (x + 1) (((List.range (x + 1)).map fun i => defTo l i l.length).map iv)) := by
              show World.ownsRow _ _ _ _ _ _ _
              have e : ((List.range x).map fun i => defTo l i l.length) ++ [defTo l x z] = (List.range (x + 1)).map fun i => defTo l i l.length := by
                rw [List.range_succ, List.map_append, HMl.out]; rfl
              rw [← e]
              first | exact hown7 | simpa using hown7
            have BB7 := Lib.hid (B6.out.trans hb7)
            clear hown7 hg7 hb7 O6 HC6 B6 hG6 hG5
            go_wp2
            go_roundw
            case rel => exact ⟨x + 1, g7, c7, by omega, by go_num, rfl, OO7, BB7⟩
            case measure => simp [intOf]; omega
      · obtain rfl : x = m := by omega
        have O9 := Lib.hid (O1.out.mono (Nat.le_of_lt hwQ))
        have B9 : Hid (Below w.heap.size w wr) := HB1.out.trans (B1.out.mono (Nat.le_of_lt hwQ))
        clear O1 B1
        go_wp2
        go_ret
        refine ⟨⟨some ⟨g, 0, none⟩, c, rfl, ?_⟩, B9.out⟩
        have hE := HE.out
        rw [← HMl.out] at hE
        rw [hE, defL, ← HMl.out]
        have := O9.out
        rw [← HMl.out] at this
        exact this
end Go.Proofs.Ytmeojedfokahmaa
