/-
  'PackTriangles' of the model: the walk. No conditions but the bounds that Go gives a slice.
-/
import Derived.Test.YtgdejippddcekaaWi
namespace Go.Proofs.Ytgdejippddcekaa
open Go.ChangeShapes Go.WideShapes Go.ChangeAt Go.RowKit
set_option linter.unusedVariables false

noncomputable def pkR (n : Int) (l : List Int) : List (List Int) := if okB n l then pk (triL l) else []
theorem pk_len (Ls : List (List Int)) : (pk Ls).length ≤ Ls.length := by
  have h : ∀ (Ls acc : List (List Int)), (Ls.foldl pkS acc).length ≤ acc.length + Ls.length := by
    intro Ls
    induction Ls with
    | nil => intro acc; simp
    | cons x t ih =>
      intro acc
      have h1 := ih (pkS acc x)
      have h2 : (pkS acc x).length ≤ acc.length + 1 := by unfold pkS; split <;> simp
      simp only [List.foldl_cons, List.length_cons]
      omega
  have h2 := h Ls []
  unfold pk
  simpa using h2
theorem pk_free {Ls : List (List Int)} {i : Nat} (h : i < Ls.length) (hc : clash (pk (Ls.take i)) (Ls.getD i []) = false) : pk (Ls.take (i + 1)) = pk (Ls.take i) ++ [Ls.getD i []] := by
  rw [pk_take Ls i h]; unfold pkS; rw [hc]; rfl
theorem pk_hit {Ls : List (List Int)} {i : Nat} (h : i < Ls.length) (hc : clash (pk (Ls.take i)) (Ls.getD i []) = true) : pk (Ls.take (i + 1)) = pk (Ls.take i) := by
  rw [pk_take Ls i h]; unfold pkS; rw [hc]; rfl

set_option maxRecDepth 100000 in
set_option maxHeartbeats 4000000 in
theorem specPack (n : Int) (a : Option Addr) (l : List Int) (cap : Nat) (w : World) (hrow : IntRow w a l) (hl : l.length ≤ maxLen) :
    Calls Try.prog 25 #[.agg #[.int .i64 n, .slice a l.length cap]] w (RetSS w (pkR n l)) := by
  obtain ⟨Wa, hWa⟩ : ∃ Wa, Wa = w.alloc (.cells #[.int .i64 n, .slice a l.length cap] 28) := ⟨_, rfl⟩
  have HWa := Lib.hid hWa
  have hba : Below w.heap.size w Wa := by rw [hWa]; exact (Below.refl _ _).alloc (Nat.le_refl _) _
  have xa : Box Wa w.heap.size 28 (.int .i64 n) (.slice a l.length cap) := by rw [hWa]; exact Box.new _ _ _ _
  have hrowa : IntRow Wa a l := hrow.below hba (Nat.le_refl _)
  have HL := Lib.hid hl
  clear hl hrow hWa
  cases hok : okB n l
  · have HO := Lib.hid hok
    have HE : Hid (pkR n l = []) := by show _ = _; unfold pkR; rw [hok]; rfl
    rw [HE.out]
    clear hok
    go_enter Try.func25, Try.ntmps25
    go_wp2_with fail
    rw [← HWa.out]
    refine (specTourOk n a l cap Wa hrowa HL.out).mono ?_
    rintro e w1 ⟨rfl, hb1⟩
    rw [HO.out]
    have B1 := Lib.hid (hba.trans (hb1.mono hba.size))
    clear hb1
    go_wp2
    go_ret
    exact ⟨⟨none, 0, [], rfl, OwnSS.nil _ _⟩, B1.out⟩
  · obtain ⟨i0, hi, hz0, hz1, hz2⟩ := info_parts infoInt
    obtain ⟨s0, si, sz0, sz1, sz2⟩ := info_parts infoSl
    have HO := Lib.hid hok
    have HK : Hid (Ok n l) := okB_iff.1 hok
    have hnl := HK.out.2.2.1
    have h8 : l.length ≤ 8 := by have := HK.out.2.1; omega
    have hln := triL_len l h8
    have hro : ∀ i, i < (triL l).length → ∃ x y z : Nat, (triL l).getD i [] = [(x : Int), (y : Int), (z : Int)] ∧ x < l.length ∧ y < l.length ∧ z < l.length ∧ x < y ∧ x < z ∧ y ≠ z := fun i hi => triL_mem (by rw [List.getD_eq_getElem?_getD, List.getElem?_eq_getElem hi]; exact List.getElem_mem hi)
    have hCA := fun (W : World) (hR : IntRow W a l) => l04All_any n a l cap W hR HK.out
    have HE : Hid (pkR n l = pk (triL l)) := by show _ = _; unfold pkR; rw [hok]; rfl
    rw [HE.out]
    obtain ⟨Ls, hLs⟩ : ∃ Ls, Ls = triL l := ⟨_, rfl⟩
    rw [← hLs] at hln hro ⊢
    simp only [← hLs] at hCA
    have hTO := specTourOk n a l cap Wa hrowa HL.out
    rw [hok] at hTO
    subst hnl
    have HTO := Lib.hid hTO
    have HCA := Lib.hid hCA
    have HRO := Lib.hid hro
    clear hok hLs hCA hro hTO HE
    go_enter Try.func25, Try.ntmps25
    go_wp2_with fail
    rw [← HWa.out]
    refine HTO.out.mono ?_
    rintro e w1 ⟨rfl, hb1⟩
    have x1 := xa.below hb1 xa.lt
    have c0 := x1.c0
    have c1 := x1.c1
    have X1 := Lib.hid x1
    have B1 := Lib.hid (hba.trans (hb1.mono hba.size))
    have R1 := Lib.hid (hrowa.below hb1 (Nat.le_refl _))
    clear hb1 x1 xa hrowa hba
    obtain ⟨w2, hw2⟩ : ∃ w2, w2 = w1.alloc (.cells #[] 22) := ⟨_, rfl⟩
    have HW2 := Lib.hid hw2
    have S2 : Hid (w2.heap.size = w1.heap.size + 1) := by show _ = _; rw [hw2]; simp
    have hb12 : Below w1.heap.size w1 w2 := by rw [hw2]; exact Below.one _ _
    have O2 : Hid (w2.ownsRow w.heap.size 22 1 (.slice (some ⟨w1.heap.size, 0, none⟩) 0 0) 0 []) := by
      rw [hw2]; exact World.ownsRow_lit (base := w.heap.size) (e := 22) (size := 1) w1 #[] 0 B1.out.size (by simp) rfl
    have B2 := Lib.hid (B1.out.trans (hb12.mono B1.out.size))
    have X2 := Lib.hid (X1.out.below hb12 X1.out.lt)
    have R2 := Lib.hid (R1.out.below hb12 (Nat.le_refl _))
    have d0 := X2.out.c0
    have d1 := X2.out.c1
    rw [HW2.out] at d0 d1
    clear hw2 hb12
    go_wp2_with (refine wpList_make_full _ rfl _ _ 22 rfl w2.heap.size 3 i0 (.int .i64 0) 1 Try.underlying22 hi hz0 hz1 .i64 .i64 _ _ l.length rfl rfl rfl rfl ?c1 ?c2 ?c3 ?_)
    case c1 => rw [hz2]; omega
    case c2 => unfold maxLen; omega
    case c3 => rw [HW2.out]; exact Nat.le_refl _
    rw [← HW2.out]
    intro w3 ho3 hg3
    rw [zeros] at ho3
    have hb3 : Below w2.heap.size w2 w3 := (Below.refl _ _).grown hg3 (Nat.le_refl _) (fun k hk => by cases hk)
    have x3 := X2.out.below hb3 X2.out.lt
    clear c0 c1 d0 d1
    have c0 := x3.c0
    have c1 := x3.c1
    have O3 := Lib.hid ho3
    have B3 := Lib.hid (B2.out.trans (hb3.mono B2.out.size))
    have P3 := Lib.hid (own_below O2.out hb3)
    have HC := Lib.hid (HCA.out w3 (R2.out.below hb3 (Nat.le_refl _)))
    have S3 : Hid (w1.heap.size + 1 < w3.heap.size) := by have := (O3.out.lt _ rfl).2; exact this
    clear ho3 hg3 hb3 x3
    go_wp2_with fail
    refine HC.out.mono ?_
    rintro e w4 ⟨⟨a0, c0', gs, rfl, hss⟩, hb4⟩
    have hz : Pz w w4 l.length a0 c0' gs Ls (w1.heap.size + 1) (List.replicate l.length 0) (some ⟨w1.heap.size, 0, none⟩) 0 [] [] 0 := by
      have hs2 := S2.out
      have hs3 := S3.out
      refine ⟨B3.out.trans (hb4.mono B3.out.size), hss.mono B3.out.size, (own_below O3.out hb4).mono B2.out.size, ⟨rfl, own_below P3.out hb4, fun i h => absurd h (Nat.not_lt_zero _), fun i j h => absurd h (Nat.not_lt_zero _)⟩, ?_, ?_, fun j hj => absurd hj (Nat.not_lt_zero _)⟩
      · intro i hi; have := (hss.blkI i hi).1; omega
      · intro k hk e
        obtain rfl : w1.heap.size = k := by simpa [blk] using hk
        have := (hss.blkO e).1; omega
    have HZ := Lib.hid hz
    have HU : Hid (UI l.length (List.replicate l.length 0) (pk (Ls.take 0))) := UI.zero _
    clear hss hb4 hz c0 c1
    go_wp2
    go_loopw [3, 20] (fun o i wr => ∃ (x mm : Nat) (a1 : Option Addr) (c1 : Nat) (hs : List (Nat × Nat)) (U : List Nat), x ≤ Ls.length ∧ i = .int .i64 x ∧ o = .slice a1 mm c1 ∧ Hid (mm = (pk (Ls.take x)).length) ∧ Hid (Pz w wr l.length a0 c0' gs Ls (w1.heap.size + 1) U a1 c1 hs (pk (Ls.take x)) x) ∧ Hid (UI l.length U (pk (Ls.take x)))) (fun _ i _ => Ls.length - (intOf i).toNat)
    case atStart => exact ⟨0, 0, _, 0, [], _, Nat.zero_le _, rfl, rfl, rfl, HZ.out, HU.out⟩
    case round =>
      clear HZ HU
      obtain ⟨x, mm, a1, c1, hs, U, hx, rfl, rfl, hmm, hz, hu⟩ := hrel
      by_cases hlt : x < Ls.length
      · obtain ⟨g0, rfl, _⟩ := hz.out.all.base (by omega)
        have hc := hz.out.all.cell x hlt
        obtain ⟨p, q, r, hR, hp, hq, hr, hpq, hpr, hqr⟩ := HRO.out x hlt
        have r0 := hz.out.all.at x 0 hlt (by rw [hR]; simp)
        have r1 := hz.out.all.at x 1 hlt (by rw [hR]; simp)
        have r2 := hz.out.all.at x 2 hlt (by rw [hR]; simp)
        rw [hR] at hc r0 r1 r2
        obtain ⟨t, ht⟩ : ∃ t, t = gs.getD x (0, 0) := ⟨_, rfl⟩
        rw [← ht] at hc r0 r1 r2
        have HR := Lib.hid hR
        have HT := Lib.hid ht
        have hxi : (x : Int) < (Ls.length : Int) := by omega
        have hpi : (p : Int) < (l.length : Int) := by omega
        have hqi : (q : Int) < (l.length : Int) := by omega
        have hri : (r : Int) < (l.length : Int) := by omega
        have v0 := hz.out.val hp
        have v1 := hz.out.val hq
        have v2 := hz.out.val hr
        have hfree := hu.out.free hp hq hr
        obtain ⟨u0, hu0⟩ : ∃ u0, u0 = U.getD p 0 := ⟨_, rfl⟩
        obtain ⟨u1, hu1⟩ : ∃ u1, u1 = U.getD q 0 := ⟨_, rfl⟩
        rw [← hu0] at v0 hfree
        rw [← hu1] at v1 hfree
        rw [← bi_nat, ← bi_nat, ← bi_nat] at hfree
        have HF := Lib.hid hfree
        have HU0 := Lib.hid hu0
        clear hfree hR ht hu0 hu1
        have r0' : wr.cell? ⟨t.1, 0, none⟩ = some (.int .i64 p) := r0
        have r1' : wr.cell? ⟨t.1, 1, none⟩ = some (.int .i64 q) := r1
        have r2' : wr.cell? ⟨t.1, 2, none⟩ = some (.int .i64 r) := r2
        have hc' : wr.cell? ⟨g0, x, none⟩ = some (.slice (some ⟨t.1, 0, none⟩) 3 t.2) := hc
        clear r0 r1 r2 hc
        cases t1 : bi (u0 : Int) q
        · have T1 := Lib.hid t1
          unfold bi at t1
          cases t2 : bi (u1 : Int) r
          · have T2 := Lib.hid t2
            unfold bi at t2
            cases t3 : bi (u0 : Int) r
            · have T3 := Lib.hid t3
              unfold bi at t3
              have HK2 : Hid (pk (Ls.take (x + 1)) = pk (Ls.take x) ++ [Ls.getD x []]) := pk_free hlt (by rw [HR.out, HF.out, T1.out, T2.out, T3.out]; rfl)
              have hul := hu.out.len
              have hR5 : (pk (Ls.take x)).length ≤ 512 := by
                have h1 := pk_len (Ls.take x)
                rw [List.length_take] at h1
                omega
              obtain ⟨R, hRk⟩ : ∃ R, R = pk (Ls.take x) := ⟨_, rfl⟩
              rw [← hRk] at hmm hz hu HK2 hR5
              obtain rfl := hmm.out
              have hp8 : p < 8 := by omega
              have hq8 : q < 8 := by omega
              have hr8 : r < 8 := by omega
              have HUM : Hid (UI l.length (mark3 U p q r) (R ++ [Ls.getD x []])) := by
                show UI _ _ _
                rw [HR.out]; exact hu.out.mark h8 hp hq hr (by omega) hqr (by omega)
              obtain ⟨y1, y2, f0, e1, e2, hz1⟩ := hz.out.at hu.out.lt hp hq8 hr8
              have hlt1 := mark_lt1 hu.out.lt hul hp hq8 hr8
              have HME := Lib.hid (mark_eq (U := U) (x := p) (y := q) (z := r) (by omega) (by omega) (by omega) (by omega) hqr (by omega))
              obtain ⟨U1, hU1⟩ : ∃ U1, U1 = U.set p (U.getD p 0 ||| 2 ^ q ||| 2 ^ r) := ⟨_, rfl⟩
              rw [← hU1] at hz1 hlt1 HME
              rw [← HU0.out] at e1
              have HZ1 := Lib.hid hz1
              have HLT1 := Lib.hid hlt1
              clear hU1 hz1 hlt1 hRk hz hu hul hmm
              go_wp2
              go_region
              all_goals
                obtain ⟨w7, hw7⟩ : ∃ w7, w7 = (wr.setCell ⟨w1.heap.size + 1, p, none⟩ (.int .i64 y2)).drew := ⟨_, rfl⟩
                rw [← hw7]
                have HZ2 : Hid (Pz w w7 l.length (some ⟨g0, 0, none⟩) c0' gs Ls (w1.heap.size + 1) U1 a1 c1 hs R x) := by rw [hw7]; exact HZ1.out.drew
                obtain ⟨y3, y4, f1, e3, e4, hz2⟩ := HZ2.out.at HLT1.out.1 hq hp8 hr8
                have hv1 := HZ2.out.val hq
                have hlt2 := mark_lt1 HLT1.out.1 HLT1.out.2 hq hp8 hr8
                obtain ⟨U2, hU2⟩ : ∃ U2, U2 = U1.set q (U1.getD q 0 ||| 2 ^ p ||| 2 ^ r) := ⟨_, rfl⟩
                rw [← hU2] at hz2 hlt2 HME
                obtain ⟨u2, hu2⟩ : ∃ u2, u2 = U1.getD q 0 := ⟨_, rfl⟩
                rw [← hu2] at hv1 e3
                have HZ3 := Lib.hid hz2
                have HLT2 := Lib.hid hlt2
                clear hU2 hu2 hz2 hlt2 hw7 v0 v1 v2 r0' r1' r2' hc' f0 e1 e2
                go_wp2
                go_region
                all_goals
                  obtain ⟨w8, hw8⟩ : ∃ w8, w8 = (w7.setCell ⟨w1.heap.size + 1, q, none⟩ (.int .i64 y4)).drew := ⟨_, rfl⟩
                  rw [← hw8]
                  have HZ4 : Hid (Pz w w8 l.length (some ⟨g0, 0, none⟩) c0' gs Ls (w1.heap.size + 1) U2 a1 c1 hs R x) := by rw [hw8]; exact HZ3.out.drew
                  obtain ⟨y5, y6, f2, e5, e6, hz3⟩ := HZ4.out.at HLT2.out.1 hr hp8 hq8
                  have hv2 := HZ4.out.val hr
                  obtain ⟨u3, hu3⟩ : ∃ u3, u3 = U2.getD r 0 := ⟨_, rfl⟩
                  rw [HME.out] at hz3
                  rw [← hu3] at hv2 e5
                  have HZ5 := Lib.hid hz3
                  clear hu3 hz3 hw8 hv1 f1 e3 e4
                  go_wp2
                  go_region
                  all_goals
                    obtain ⟨w9, hw9⟩ : ∃ w9, w9 = (w8.setCell ⟨w1.heap.size + 1, r, none⟩ (.int .i64 y6)).drew := ⟨_, rfl⟩
                    rw [← hw9]
                    have HZ6 : Hid (Pz w w9 l.length (some ⟨g0, 0, none⟩) c0' gs Ls (w1.heap.size + 1) (mark3 U p q r) a1 c1 hs R x) := by rw [hw9]; exact HZ5.out.drew
                    have HOW := Lib.hid (HZ6.out.out.out.alloc (.cells #[.slice (some ⟨t.1, 0, none⟩) 3 t.2] 22))
                    have HCN : Hid (∀ j u, [Value.slice (some ⟨t.1, 0, none⟩) 3 t.2][j]? = some u → (w9.alloc (.cells #[.slice (some ⟨t.1, 0, none⟩) 3 t.2] 22)).cell? ((⟨w9.heap.size, 0, none⟩ : Addr).add j) = some u) := cell_one_new w9 (.slice (some ⟨t.1, 0, none⟩) 3 t.2) 22
                    have hsz := HZ6.out.hb.size
                    clear hw9 hv2 f2 e5 e6
                    go_wp2_with (first | (at_builtin; refine wpList_append_own_at _ rfl (.tmp 100) (.tmp 102) 26 rfl w.heap.size 22 s0 (.slice none 0 0) 1 24 Try.underlying26 si sz0 sz1 sz2 rfl (by decide) (.slice a1 R.length c1) R.length (svs hs R) rfl HOW.out ⟨w9.heap.size, 0, none⟩ 1 1 [.slice (some ⟨t.1, 0, none⟩) 3 t.2] rfl rfl HCN.out (by intro u hu; simp at hu; subst hu; rfl) (by unfold maxLen; omega) (by omega) (by simp; omega) ?_; intro v4 w10 ho4 hg4 hn4 hat4; obtain ⟨g4, c4, rfl, _, _, _⟩ := own_someE4 ho4; rw [blk_own] at hg4; rw [blk_own, blk_own] at hat4) | fail)
                    have hat5 : blk a1 = some g4 ∨ g4 = w9.heap.size + 1 := by
                      rcases hat4 with h | h
                      · exact .inl h.symm
                      · right; simpa [blk] using h
                    have HS : Hid (Pz w w10 l.length (some ⟨g0, 0, none⟩) c0' gs Ls (w1.heap.size + 1) (mark3 U p q r) (some ⟨g4, 0, none⟩) c4 (hs ++ [gs.getD x (0, 0)]) (R ++ [Ls.getD x []]) (x + 1)) := by
                      refine HZ6.out.push hlt hg4 hat5 ?_
                      rw [HR.out, ← HT.out]; exact ho4
                    have HLN : Hid (R.length + 1 = (R ++ [Ls.getD x []]).length) := by show _ = _; simp
                    clear ho4 hg4 hn4 hat4 hat5 HOW
                    go_wp2
                    go_roundw
                    case rel => exact ⟨x + 1, _, _, c4, _, _, by omega, by go_num, rfl, by rw [HK2.out]; exact HLN.out, by rw [HK2.out]; exact HS.out, by rw [HK2.out]; exact HUM.out⟩
                    case measure => simp [intOf]; omega
            · have T3 := Lib.hid t3
              unfold bi at t3
              have HK2 : Hid (pk (Ls.take (x + 1)) = pk (Ls.take x)) := pk_hit hlt (by rw [HR.out, HF.out, T1.out, T2.out, T3.out]; rfl)
              go_wp2
              go_roundw
              case rel => exact ⟨x + 1, mm, _, c1, hs, U, by omega, by go_num, rfl, by rw [HK2.out]; exact hmm.out, by rw [HK2.out]; exact hz.out.next, by rw [HK2.out]; exact hu.out⟩
              case measure => simp [intOf]; omega
          · have T2 := Lib.hid t2
            unfold bi at t2
            have HK2 : Hid (pk (Ls.take (x + 1)) = pk (Ls.take x)) := pk_hit hlt (by rw [HR.out, HF.out, T1.out, T2.out]; rfl)
            go_wp2
            go_roundw
            case rel => exact ⟨x + 1, mm, _, c1, hs, U, by omega, by go_num, rfl, by rw [HK2.out]; exact hmm.out, by rw [HK2.out]; exact hz.out.next, by rw [HK2.out]; exact hu.out⟩
            case measure => simp [intOf]; omega
        · have T1 := Lib.hid t1
          unfold bi at t1
          have HK2 : Hid (pk (Ls.take (x + 1)) = pk (Ls.take x)) := pk_hit hlt (by rw [HR.out, HF.out, T1.out]; rfl)
          go_wp2
          go_roundw
          case rel => exact ⟨x + 1, mm, _, c1, hs, U, by omega, by go_num, rfl, by rw [HK2.out]; exact hmm.out, by rw [HK2.out]; exact hz.out.next, by rw [HK2.out]; exact hu.out⟩
          case measure => simp [intOf]; omega
      · obtain rfl : x = Ls.length := by omega
        have hxi : ¬ (Ls.length : Int) < (Ls.length : Int) := by omega
        have HK2 : Hid (pk (Ls.take Ls.length) = pk Ls) := by show _ = _; rw [List.take_length]
        rw [HK2.out] at hmm hz
        go_wp2
        go_ret
        exact ⟨⟨a1, c1, hs, by rw [← hmm.out]; rfl, hz.out.out⟩, hz.out.hb⟩
end Go.Proofs.Ytgdejippddcekaa
