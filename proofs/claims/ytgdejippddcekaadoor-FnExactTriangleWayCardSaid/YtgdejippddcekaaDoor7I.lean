/-
  'l04Distances' of the model. Conditions: the tour is valid, of at most 5 players.
-/
import Derived.Test.YtgdejippddcekaaDoor7J
namespace Go.Proofs.YtgdejippddcekaaDoor
open Go.ChangeShapes Go.WideShapes Go.ChangeAt Go.RowKit
set_option linter.unusedVariables false

theorem infoTour : (Tryd.prog.info? 27).map (fun i => (i.zero, i.size, i.bytes)) = some (some (.agg #[.int .i64 0, .slice none 0 0]), 2, 32) := by kernel_rfl

theorem l04Number_m (m : Nat) (a : Option Addr) (l : List Int) (cap : Nat) (w : World) (hm : l.length = m) (hrow : IntRow w a l) (hok : Ok (m : Int) l) (h5 : m ≤ 5) :
    Calls Tryd.prog 19 #[.agg #[.int .i64 (m : Int), .slice a m cap]] w fun e w' => e = .returned (.int .i64 (numL l : Nat)) ∧ Below w.heap.size w w' := by
  subst hm; exact l04Number_any a l cap w hrow hok h5
theorem l04All_m (m : Nat) (a : Option Addr) (l : List Int) (cap : Nat) (w : World) (hm : l.length = m) (hrow : IntRow w a l) (hok : Ok (m : Int) l) :
    Calls Tryd.prog 22 #[.agg #[.int .i64 (m : Int), .slice a m cap]] w fun e w' => (∃ a0 c0 gs, e = .returned (.slice a0 (triL l).length c0) ∧ OwnSS w' w.heap.size a0 c0 gs (triL l)) ∧ Below w.heap.size w w' := by
  subst hm; exact l04All_any (l.length : Int) a l cap w hrow hok
theorem own_int_mE {w : World} {B m c : Nat} {a : Option Addr} {L : List Int} (hm : L.length = m) (h : w.ownsRow B 3 1 (.slice a m c) m (L.map iv)) : IntRow w a L := by subst hm; exact own_int h
theorem grown_blkE {A C : World} {a : Option Addr} {n c : Nat} (h : A.grownBy C (Value.slice a n c).ownBlock) : A.grownBy C (blk a) := by rw [← blk_own a n c]; exact h
theorem nbL_len (l : List Int) : (nbL l).length = (triL l).length := by simp [nbL]
theorem dI_of {D : Bf.Fd (List Int)} (hn : (D.map Prod.fst).Nodup) {p : List Int × Nat} (h : p ∈ D) : dI D p.1 = (p.2 : Int) := by
  unfold dI
  rw [(Bf.dst_some hn).2 (show (p.1, p.2) ∈ D from h)]
theorem wrapQ (m : Nat) (h : m ≤ 5) : wrap64 ((wrap64 ((m : Int) * ((m : Int) - 1))).tdiv 2) = ((nP m : Nat) : Int) := by
  have : ∀ m : Fin 6, wrap64 ((wrap64 ((m.val : Int) * ((m.val : Int) - 1))).tdiv 2) = ((nP m.val : Nat) : Int) := by decide +kernel
  exact this ⟨m, by omega⟩

set_option maxRecDepth 100000 in
set_option maxHeartbeats 2000000 in
theorem l04Dist_any (m : Nat) (a : Option Addr) (u : List Int) (cap : Nat) (w : World) (hm : u.length = m) (hrow : IntRow w a u) (hok : Ok (m : Int) u) (h5 : m ≤ 5) :
    Calls Tryd.prog 18 #[.agg #[.int .i64 (m : Int), .slice a m cap]] w fun e w' => (∃ go co xs, e = .returned (.slice (some ⟨go, 0, none⟩) (nN m) co) ∧ w'.ownsRow w.heap.size 3 1 (.slice (some ⟨go, 0, none⟩) (nN m) co) (nN m) (xs.map iv) ∧ Dis m (all u) xs) ∧ Below w.heap.size w w' := by
  obtain ⟨i0, hi, hz0, hz1, hz2⟩ := info_parts infoInt
  obtain ⟨iT, hTi, hTz, hTs, hTb⟩ := info_parts infoTour
  have HTI := Lib.hid hTi
  have HTZ := Lib.hid hTz
  have HTS := Lib.hid hTs
  have HTB := Lib.hid hTb
  clear hTi hTz hTs hTb
  obtain ⟨Wa, hWa⟩ : ∃ Wa, Wa = w.alloc (.cells #[.int .i64 (m : Int), .slice a m cap] 27) := ⟨_, rfl⟩
  have hba : Below w.heap.size w Wa := by rw [hWa]; exact (Below.refl _ _).alloc (Nat.le_refl _) _
  have xa : Box Wa w.heap.size 27 (.int .i64 (m : Int)) (.slice a m cap) := by rw [hWa]; exact Box.new _ _ _ _
  have hlow := xa.lt
  have HWa := Lib.hid hWa
  have XA := Lib.hid xa
  have HBA := Lib.hid hba
  have HR := Lib.hid hrow
  have HOK := Lib.hid hok
  have HM := Lib.hid hm
  have hm1 : 1 ≤ m := hok.m.1
  obtain ⟨N, hN⟩ : ∃ N, N = nN m := ⟨_, rfl⟩
  have hN2 := nN5 m h5
  rw [← hN] at hN2
  have hN1 := hN2.1
  have hN4 := hN2.2
  have HN := Lib.hid hN
  obtain ⟨q, hq⟩ : ∃ q, q = nP m := ⟨_, rfl⟩
  have hwq := wrapQ m h5
  have hzw := (wrapP (nP m) (by have := nP5 m h5; omega)).1
  have hzw2 := (wrapP (nP m) (by have := nP5 m h5; omega)).2
  have hNq : 2 ^ nP m = N := hN.symm
  rw [hNq] at hzw hzw2
  rw [← hq] at hwq hzw hzw2
  have hq10 : q ≤ 10 := by rw [hq]; exact nP5 m h5
  have HQ := Lib.hid hq
  clear hq hNq
  clear hWa hrow hok xa hba hm hN hN2
  have hszW : Wa.heap.size = w.heap.size + 1 := by rw [HWa.out]; simp
  have START : Hid ((Wa.alloc (.cells #[] 3)).ownsRow (w.heap.size + 1) 3 1 (.slice (some ⟨w.heap.size + 1, 0, none⟩) 0 0) 0 ((List.replicate 0 (-1 : Int)).map iv)) := by
    have := World.ownsRow_made (e := 3) (size := 1) Wa #[] 0 (show w.heap.size + 1 ≤ Wa.heap.size by omega) (by unfold maxLen; omega) (by simp)
    rw [hszW] at this
    exact this
  have HSZ := Lib.hid hszW
  have hsz1 : w.heap.size + 1 ≤ Wa.heap.size := by omega
  clear hszW
  go_enter Tryd.func18, Tryd.ntmps18
  go_wp2
  rw [← HWa.out]
  go_loopw [3, 4] (fun o i wr => ∃ r : Nat, r ≤ N ∧ i = .int .i64 r ∧ (∃ g c, o = .slice (some ⟨g, 0, none⟩) r c ∧ wr.ownsRow (w.heap.size + 1) 3 1 (.slice (some ⟨g, 0, none⟩) r c) r ((List.replicate r (-1 : Int)).map iv)) ∧ Below (w.heap.size + 1) Wa wr) (fun _ i _ => N - (intOf i).toNat)
  case atStart => exact ⟨0, Nat.zero_le _, rfl, ⟨w.heap.size + 1, 0, rfl, START.out⟩, (Below.refl _ _).alloc (by omega) _⟩
  case round =>
    obtain ⟨r, hr, rfl, ⟨g, c, rfl, hown⟩, hb⟩ := hrel
    have xr := XA.out.below hb (Nat.lt_succ_self _)
    have c0 := xr.c0
    have c1 := xr.c1
    have hsz := hb.size
    have HO := Lib.hid hown
    have HB := Lib.hid hb
    clear hown hb xr
    by_cases hlt : r < N
    · have hrN : (r : Int) < (N : Int) := by omega
      go_wp2_with (first | (at_builtin; refine wpList_append_own _ rfl (.tmp 24) (.tmp 25) 22 rfl (w.heap.size + 1) 3 i0 (.int .i64 0) 1 8 Tryd.underlying22 hi hz0 hz1 hz2 rfl (by decide) _ _ _ rfl (HO.out.alloc _) ⟨wr.heap.size, 0, none⟩ 1 1 [iv (-1)] rfl rfl (cell_one_new _ _ _) (by simp [Value.oneCell', iv]) (by unfold maxLen; omega) (by omega) (by simp; omega) ?_; intro v2 w2 hown2 hgrow _; obtain ⟨g2, c2, rfl⟩ := ownsRow_succ hown2) | fail)
      have hlow2 := HO.out.lt
      have HO2 : Hid (w2.ownsRow (w.heap.size + 1) 3 1 (.slice (some ⟨g2, 0, none⟩) (r + 1) c2) (r + 1) ((List.replicate (r + 1) (-1 : Int)).map iv)) := by
        show World.ownsRow _ _ _ _ _ _ _
        rw [List.replicate_succ', List.map_append]
        exact hown2
      have HB2 := Lib.hid ((HB.out.alloc (by omega) (.cells #[.int .i64 (-1)] 3)).grown hgrow (by simp; omega) (fun k e => (hlow2 k e).1))
      clear hown2 hgrow hlow2 c0 c1
      try go_wp2
      go_roundw
      case rel => exact ⟨r + 1, by omega, by go_num, ⟨g2, c2, rfl, HO2.out⟩, HB2.out⟩
      case measure => simp [intOf]; omega
    · obtain rfl : r = N := by omega
      have hgl := HO.out.lt g rfl
      have hNum := l04Number_m m a u cap wr HM.out (HR.out.below (HBA.out.trans (HB.out.mono (by omega))) (Nat.le_refl _)) HOK.out h5
      have hvl : numL u < r := by rw [HN.out]; exact numL_lt HOK.out h5
      have hdis := dis_start h5 HOK.out
      obtain ⟨v, hv⟩ : ∃ v, v = numL u := ⟨_, rfl⟩
      rw [← hv] at hNum hvl hdis
      rw [← HN.out] at hdis
      have HV := Lib.hid hv
      have HNU := Lib.hid hNum
      have HD := Lib.hid hdis
      clear hv hNum hdis
      go_wp2_with fail
      refine HNU.out.mono ?_
      rintro e w5 ⟨rfl, hb5⟩
      have ho5 := own_below HO.out hb5
      have hcell := ho5.cellAt v (by omega)
      have hcell2 : w5.cell? ⟨g, v, none⟩ = some (.int .i64 (-1)) := by rw [hcell]; simp [hvl, iv]
      have hfr := ho5.frozenAt v
      have hst := (ho5.stored v (iv 0)).1
      rw [← List.map_set] at hst
      have xa5 := (XA.out.below HB.out (Nat.lt_succ_self _)).below hb5 (by omega)
      have xa6 := xa5.other ⟨g, v, none⟩ (iv 0) (by simp only; omega)
      have hvN : (v : Int) < (r : Int) := by omega
      have B5 := HB.out.trans (hb5.mono (by omega))
      have HB6 := Lib.hid (B5.setCell (p := ⟨g, v, none⟩) (by simp only; omega) (iv 0))
      have HST := Lib.hid hst
      have XA6 := Lib.hid xa6
      have hsz5 := hb5.size
      unfold iv at xa6
      clear c0 c1
      have c0 := xa6.c0
      have c1 := xa6.c1
      obtain ⟨W6, hW6⟩ : ∃ W6, W6 = w5.setCell ⟨g, v, none⟩ (.int .i64 0) := ⟨_, rfl⟩
      obtain ⟨W7, hW7⟩ : ∃ W7, W7 = W6.alloc (.cells #[.int .i64 (m : Int), .slice a m cap] 27) := ⟨_, rfl⟩
      have s6 : W6.heap.size = w5.heap.size := by rw [hW6]; simp
      have hst7 : W7.ownsRow (w.heap.size + 1) 3 1 (.slice (some ⟨g, 0, none⟩) r c) r (((List.replicate r (-1 : Int)).set v 0).map iv) := by
        rw [hW7, hW6]; exact hst.alloc _
      have hls7 : W7.ownsRow (w.heap.size + 1) 27 2 (.slice (some ⟨w5.heap.size, 0, none⟩) 1 1) 1 (cellsQ m [(a, cap)]) := by
        have := World.ownsRow_lit (base := w.heap.size + 1) (e := 27) (size := 2) W6 #[.int .i64 (m : Int), .slice a m cap] 1 (by omega) (by unfold maxLen; omega) rfl
        rw [s6] at this
        rw [hW7]; exact this
      have hb7 : Below w.heap.size w W7 := by
        have h6 : Below (w.heap.size + 1) Wa W6 := by rw [hW6]; exact HB6.out
        have h7 : Below (w.heap.size + 1) Wa W7 := by rw [hW7]; exact h6.alloc (by omega) _
        exact HBA.out.trans (h7.mono (by omega))
      have hsd : Sd w W7 (w.heap.size + 1) m g c (some ⟨w5.heap.size, 0, none⟩) 1 (up u 0) [(a, cap)] ((List.replicate (nN m) (-1)).set (numL u) 0) := by
        refine ⟨hb7, by rw [hW7, World.size_alloc, s6]; omega, by omega, by rw [← HN.out, ← HV.out]; exact hst7, hls7, rfl, ?_, by rw [← HN.out, ← HV.out]; exact HD.out⟩
        intro i p q hp hq
        have hi0 : i = 0 := by
          have := (List.getElem?_eq_some_iff.1 hq).1
          simp at this; omega
        subst hi0
        have e0 : up u 0 = [(u, 0)] := rfl
        rw [e0] at hp
        simp at hp hq
        subst hp hq
        exact .inl HR.out
      have HSD := Lib.hid hsd
      have HW6 := Lib.hid hW6
      have HW7 := Lib.hid hW7
      have S6 := Lib.hid s6
      clear hcell hst xa5 xa6 ho5 hb5 B5 hW6 hW7 s6 hst7 hls7 hb7 hsd
      go_wp2
      rw [← HW6.out, ← HW7.out]
      go_loopw [5, 6] (fun ls i wr2 => ∃ k : Nat, i = .int .i64 k ∧ k ≤ (up u k).length ∧ Hid (∀ j, j < k → j < (up u j).length) ∧ ∃ al cl Q xs, ls = .slice al (up u k).length cl ∧ Hid (Sd w wr2 (w.heap.size + 1) m g c al cl (up u k) Q xs)) (fun _ i _ => 1025 - (intOf i).toNat)
      case atStart => exact ⟨0, rfl, Nat.zero_le _, fun j hj => absurd hj (by omega), _, _, _, _, rfl, HSD.out⟩
      case round =>
        clear c0 c1
        obtain ⟨k, rfl, hk, hall, al, cl, Q, xs, rfl, hsd⟩ := hrel
        have hinv := Bf.inv_upto nbL u k hall.out
        have hlen := up_len h5 HOK.out k hinv.nodup
        obtain ⟨M, hM⟩ : ∃ M, M = (up u k).length := ⟨_, rfl⟩
        by_cases hlt : k < M
        · obtain ⟨p, hp⟩ : ∃ p, (up u k)[k]? = some p := ⟨_, List.getElem?_eq_getElem (by omega)⟩
          have hql := hsd.out.ql
          obtain ⟨q2, hq2⟩ : ∃ q2, Q[k]? = some q2 := ⟨_, List.getElem?_eq_getElem (by omega)⟩
          have hls := hsd.out.lst
          obtain ⟨gl, hal⟩ : ∃ gl, al = some ⟨gl, 0, none⟩ := by
            rcases hls.2 with ⟨hn, h0⟩ | ⟨gl, cap2, cur, he, _⟩
            · omega
            · simp only [Value.slice.injEq] at he; exact ⟨gl, he.1⟩
          subst hal
          have hcs := cellsQ_at m Q k q2 hq2
          have hd0 : wr.cell? ⟨gl, k * 2, none⟩ = some (.int .i64 (m : Int)) := by rw [hls.cellAt (k * 2) (by omega)]; exact hcs.1
          have hd1 : wr.cell? ⟨gl, k * 2 + 1, none⟩ = some (.slice q2.1 m q2.2) := by rw [hls.cellAt (k * 2 + 1) (by omega)]; exact hcs.2
          have hrw := (hsd.out.rows k p q2 hp hq2).row hsd.out.hb
          have okp := up_ok HOK.out k p (List.mem_of_getElem? hp)
          have hNum := l04Number_m m q2.1 p.1 q2.2 wr okp.m.2.2 hrw okp h5
          have hkM : (k : Int) < (M : Int) := by omega
          have hdi := dI_of hinv.nodup (List.mem_of_getElem? hp)
          have hat := hsd.out.dis.at_ p.1 okp
          rw [hdi] at hat
          have hnl : numL p.1 < r := by rw [HN.out]; exact numL_lt okp h5
          obtain ⟨np, hnp⟩ : ∃ np, np = numL p.1 := ⟨_, rfl⟩
          rw [← hnp] at hNum hat hnl
          have hout := hsd.out.out
          have hxl := hsd.out.dis.len
          rw [← HN.out] at hout hxl
          have hcd : wr.cell? ⟨g, np, none⟩ = some (.int .i64 (p.2 : Int)) := by
            rw [hout.cellAt np (by omega), List.getElem?_map, List.getElem?_eq_getElem (by omega)]
            rw [List.getD_eq_getElem?_getD, List.getElem?_eq_getElem (by omega)] at hat
            simp only [Option.getD_some] at hat
            rw [hat]; rfl
          have hnr : (np : Int) < (r : Int) := by omega
          have hd2 : p.2 ≤ 1100 := by have := up_dist u k hall.out k p hp; omega
          rw [← hM]
          have HMM := Lib.hid hM
          have HNU := Lib.hid hNum
          have HP := Lib.hid hp
          have HQ2 := Lib.hid hq2
          have OKP := Lib.hid okp
          have HINV := Lib.hid hinv
          have HNP := Lib.hid hnp
          have HRW := Lib.hid hrw
          clear hM hNum hp hq2 okp hinv hls hcs hql hdi hat hout hxl hnp hrw
          go_wp2_with fail
          refine HNU.out.mono ?_
          rintro e w8 ⟨rfl, hb8⟩
          have hg8 : g < wr.heap.size := hsd.out.out.lt g rfl |>.2
          have hgl8 : gl < wr.heap.size := hsd.out.lst.lt gl rfl |>.2
          have f0 := (hb8.cell (p := ⟨gl, k * 2, none⟩) hgl8).trans hd0
          have f1 := (hb8.cell (p := ⟨gl, k * 2 + 1, none⟩) hgl8).trans hd1
          have f2 := (hb8.cell (p := ⟨g, np, none⟩) hg8).trans hcd
          have hsd8 := Lib.hid (hsd.out.below hb8)
          have hall8 := Lib.hid (l04All_m m q2.1 p.1 q2.2 w8 OKP.out.m.2.2 (HRW.out.below hb8 (Nat.le_refl _)) OKP.out)
          clear hd0 hd1 hcd hb8
          go_wp2_with fail
          refine hall8.out.mono ?_
          rintro e w9 ⟨⟨a9, c9, gs9, rfl, hss9⟩, hb9⟩
          have hsd9 := Lib.hid (hsd8.out.below hb9)
          have HSS9 := Lib.hid hss9
          have hss_sz : Hid (w8.heap.size ≤ w9.heap.size) := hb9.size
          obtain ⟨T, hT⟩ : ∃ T, T = (triL p.1).length := ⟨_, rfl⟩
          rw [← hT]
          have HT := Lib.hid hT
          have hT5 : T ≤ 512 := by rw [hT]; exact triL_len p.1 (by have := OKP.out.m; omega)
          have hsz9 : w.heap.size < w8.heap.size := by have := hsd8.out.hb.size; have := hsd8.out.out.lt g rfl; omega
          have hg8' : g < w8.heap.size := hsd8.out.out.lt g rfl |>.2
          clear f0 f1 f2 hb9 hss9 hT hg8 hgl8
          go_wp2
          go_loopw [5, 53] (fun ls i wr2 => ∃ (j : Nat) (D : Bf.Fd (List Int)), i = .int .i64 j ∧ j ≤ T ∧ Hid (D = Bf.run p.2 ((nbL p.1).take j) (up u k)) ∧ ∃ al cl Q xs, ls = .slice al D.length cl ∧ Hid (Sd w wr2 (w.heap.size + 1) m g c al cl D Q xs) ∧ Hid (OwnSS wr2 w8.heap.size a9 c9 gs9 (triL p.1)) ∧ Hid (w8.heap.size ≤ wr2.heap.size)) (fun _ i _ => T - (intOf i).toNat)
          case atStart => exact ⟨0, up u k, rfl, Nat.zero_le _, rfl, _, _, _, _, by rw [← HMM.out], hsd9, HSS9.out, by show _ ≤ _; have := hss_sz.out; omega⟩
          case round =>
            obtain ⟨j, D, rfl, hj, hD, al2, cl2, Q2, xs2, rfl, hs2, hss2, hsw⟩ := hrel
            have hDn : (D.map Prod.fst).Nodup := by rw [hD.out]; exact Bf.run_nodup HINV.out.nodup
            have hL24 : D.length ≤ 1024 := cut_len h5 HOK.out HP.out HINV.out.nodup hD.out
            by_cases hlt2 : j < T
            · obtain ⟨A, hA, hA2⟩ := Bf.run_split p.2 ((nbL p.1).take j) (up u k)
              rw [← hD.out] at hA
              have hpD : D[k]? = some p := by rw [hA, List.getElem?_append_left (by have := HMM.out; omega)]; exact HP.out
              have hDl : M ≤ D.length := by rw [hA, List.length_append, HMM.out]; omega
              have hql2 := hs2.out.ql
              obtain ⟨q3, hq3⟩ : ∃ q3, Q2[k]? = some q3 := ⟨_, List.getElem?_eq_getElem (by omega)⟩
              have hls2 := hs2.out.lst
              obtain ⟨gl2, hal2⟩ : ∃ gl, al2 = some ⟨gl, 0, none⟩ := by
                rcases hls2.2 with ⟨hn, h0⟩ | ⟨gl, cap2, cur, he, _⟩
                · omega
                · simp only [Value.slice.injEq] at he; exact ⟨gl, he.1⟩
              subst hal2
              have hcs2 := cellsQ_at m Q2 k q3 hq3
              have hd0 : wr.cell? ⟨gl2, k * 2, none⟩ = some (.int .i64 (m : Int)) := by rw [hls2.cellAt (k * 2) (by omega)]; exact hcs2.1
              have hd1 : wr.cell? ⟨gl2, k * 2 + 1, none⟩ = some (.slice q3.1 m q3.2) := by rw [hls2.cellAt (k * 2 + 1) (by omega)]; exact hcs2.2
              have hrw2 := (hs2.out.rows k p q3 hpD hq3).row hs2.out.hb
              have hjl : j < (triL p.1).length := by rw [← HT.out]; exact hlt2
              obtain ⟨g9, hg9, _⟩ := hss2.out.base (by omega)
              subst hg9
              have hcr := hss2.out.cell j hjl
              obtain ⟨x, y, z, he, hx, hy, hz, hxy, hxz, hyz⟩ := tri_at (l := p.1) (r := (triL p.1).getD j []) (by rw [List.getD_eq_getElem?_getD, List.getElem?_eq_getElem hjl]; exact List.getElem_mem hjl)
              have hr0 := hss2.out.at j 0 hjl (by rw [he]; simp)
              have hr1 := hss2.out.at j 1 hjl (by rw [he]; simp)
              have hr2 := hss2.out.at j 2 hjl (by rw [he]; simp)
              have hri := (hss2.out.blkI j hjl).2
              rw [he] at hcr hr0 hr1 hr2
              simp only [List.getD_cons_zero, List.getD_cons_succ, List.length_cons, List.length_nil] at hcr hr0 hr1 hr2
              obtain ⟨bg, hbg⟩ : ∃ bg, bg = gs9.getD j (0, 0) := ⟨_, rfl⟩
              rw [← hbg] at hcr hr0 hr1 hr2 hri
              have hml := OKP.out.m.2.2
              have hrev := l04Reverse_any m q3.1 p.1 q3.2 x y z bg.1 0 bg.2 wr hml hrw2 OKP.out (by omega) (by omega) (by omega) (by omega) hyz (by omega) hri hr0 hr1 hr2
              have hjT : (j : Int) < (T : Int) := by omega
              have hkD : (k : Int) < (D.length : Int) := by omega
              have HREV := Lib.hid hrev
              have HE := Lib.hid he
              have HDN := Lib.hid hDn
              have HPD := Lib.hid hpD
              obtain ⟨L, hL⟩ : ∃ L, L = D.length := ⟨_, rfl⟩
              rw [← hL] at hkD hDl hL24
              rw [← hL]
              have HLL := Lib.hid hL
              clear hrev he hDn hpD hql2 hq3 hls2 hcs2 hrw2 hr0 hr1 hr2 hml hbg hL hA hA2
              have okx := (rev_ok OKP.out (show x < p.1.length by omega) hy hz (by omega) hyz (by omega)).2.2
              obtain ⟨X, hX⟩ : ∃ X, X = revL p.1 x y z := ⟨_, rfl⟩
              have hXm : X.length = m := by rw [hX]; exact okx.m.2.2
              have hXj : (nbL p.1)[j]? = some X := by
                unfold nbL
                rw [List.getElem?_map, List.getElem?_eq_getElem hjl]
                have he2 := HE.out
                rw [List.getD_eq_getElem?_getD, List.getElem?_eq_getElem hjl] at he2
                simp only [Option.getD_some] at he2
                rw [he2, hX]; rfl
              have hD1 : Bf.run p.2 ((nbL p.1).take (j + 1)) (up u k) = Bf.stp p.2 D X := by
                rw [take_snoc _ j X hXj, Bf.run_snoc, ← hD.out]
              rw [← hX] at okx
              have OKX := Lib.hid okx
              have HX := Lib.hid hX
              have HXM := Lib.hid hXm
              have HD1 := Lib.hid hD1
              have hat := hs2.out.dis.at_ X okx
              have hnl := numL_lt okx h5
              rw [← HN.out] at hnl
              obtain ⟨nx, hnx⟩ : ∃ nx, nx = numL X := ⟨_, rfl⟩
              rw [← hnx] at hat hnl
              have HNX := Lib.hid hnx
              have HAT := Lib.hid hat
              clear okx hX hXm hXj hD1 hat hnx hx hy hz hxy hxz hyz
              go_wp2_with fail
              refine HREV.out.mono ?_
              rintro e w10 ⟨⟨gx, cx, rfl, hox⟩, hb10⟩
              rw [← HX.out] at hox
              obtain ⟨W11, hW11⟩ : ∃ W11, W11 = w10.alloc (.cells #[.int .i64 (m : Int), .slice (some ⟨gx, 0, none⟩) m cx] 27) := ⟨_, rfl⟩
              have hb11 : Below w10.heap.size w10 W11 := by rw [hW11]; exact (Below.refl _ _).alloc (Nat.le_refl _) _
              have bx11 : Box W11 w10.heap.size 27 (.int .i64 (m : Int)) (.slice (some ⟨gx, 0, none⟩) m cx) := by rw [hW11]; exact Box.new _ _ _ _
              have ho11 := own_below hox hb11
              have hrx := own_int_mE HXM.out ho11
              have b1011 := hb10.trans (hb11.mono hb10.size)
              have hs11 := Lib.hid (hs2.out.below b1011)
              have hss11 := Lib.hid (hss2.out.below b1011)
              have hNum := l04Number_m m (some ⟨gx, 0, none⟩) X cx W11 HXM.out hrx OKX.out h5
              rw [← HNX.out] at hNum
              have HNUM := Lib.hid hNum
              have HW11 := Lib.hid hW11
              have hz10 := hb10.size
              have hgwr : g < wr.heap.size := (hs2.out.out.lt g rfl).2
              have hgxr : wr.heap.size ≤ gx := (hox.lt gx rfl).1
              have hz11 : w10.heap.size < W11.heap.size := bx11.lt
              have c0 := bx11.c0
              have c1 := bx11.c1
              rw [hW11] at c0 c1
              clear hW11 hb11 hNum hrx hb10 b1011 hox hd0 hd1 hcr hs2 hss2
              go_wp2_with fail
              rw [← HW11.out]
              refine HNUM.out.mono ?_
              rintro e w12 ⟨rfl, hb12⟩
              have hs12 := Lib.hid (hs11.out.below hb12)
              have hss12 := Lib.hid (hss11.out.below hb12)
              have bx12 := bx11.below hb12 hz11
              have ho12 := own_below ho11 hb12
              have hout := hs12.out.out
              have hxl := hs12.out.dis.len
              rw [← HN.out] at hout hxl
              obtain ⟨z0, hz0'⟩ : ∃ z0, z0 = dI D X := ⟨_, rfl⟩
              have hcx : w12.cell? ⟨g, nx, none⟩ = some (.int .i64 z0) := by
                have hat := HAT.out
                rw [hout.cellAt nx (by omega), List.getElem?_map, List.getElem?_eq_getElem (by omega)]
                rw [List.getD_eq_getElem?_getD, List.getElem?_eq_getElem (by omega)] at hat
                simp only [Option.getD_some] at hat
                rw [hz0', ← hat]; rfl
              have hng := dI_neg (D := D) (l := X)
              rw [← hz0'] at hng
              have hnr : (nx : Int) < (r : Int) := by omega
              have hsw2 : w8.heap.size ≤ w12.heap.size := by have h1 := hsw.out; have h2 := hb12.size; omega
              have HSW2 := Lib.hid hsw2
              have hz12 := hb12.size
              by_cases hin : X ∈ D.map Prod.fst
              · have hge : 0 ≤ z0 := by
                  rw [show decide (X ∉ D.map Prod.fst) = false from by simp [hin]] at hng
                  have := of_decide_eq_false hng
                  omega
                have hst : Bf.stp p.2 D X = D := by unfold Bf.stp; rw [if_pos hin]
                have HST2 := Lib.hid hst
                clear hst hin hng hout hxl hz0' hb12 bx12 ho12 bx11 ho11 c0 c1
                go_wp2
                go_roundw
                case rel => exact ⟨j + 1, D, by go_num, by omega, by show _ = _; rw [HD1.out, HST2.out], some ⟨gl2, 0, none⟩, cl2, Q2, xs2, by rw [HLL.out], hs12.out, hss12.out, HSW2.out⟩
                case measure => simp [intOf]; omega
              · have hlt0 : z0 < 0 := by
                  rw [show decide (X ∉ D.map Prod.fst) = true from by simp [hin]] at hng
                  exact of_decide_eq_true hng
                have hst : Bf.stp p.2 D X = D ++ [(X, p.2 + 1)] := by unfold Bf.stp; rw [if_neg hin]
                have HST2 := Lib.hid hst
                have HIN := Lib.hid hin
                have hNum2 := l04Number_m m (some ⟨gx, 0, none⟩) X cx w12 HXM.out (own_int_mE HXM.out ho12) OKX.out h5
                rw [← HNX.out] at hNum2
                have HNUM2 := Lib.hid hNum2
                have e0 := bx12.c0
                have e1 := bx12.c1
                clear hst hin hng hout hxl hz0' hNum2 c0 c1
                go_wp2_with fail
                refine HNUM2.out.mono ?_
                rintro e w13 ⟨rfl, hb13⟩
                have hs13 := Lib.hid (hs12.out.below hb13)
                have hss13 := Lib.hid (hss12.out.below hb13)
                have bx13 := bx12.below hb13 (by omega)
                have ho13 := own_below ho12 hb13
                have hcx3 := (hb13.cell (p := ⟨g, nx, none⟩) (by have := hs12.out.out.lt g rfl; exact this.2)).trans hcx
                have hfx3 := hs13.out.out.frozenAt nx
                have bx14 := bx13.other ⟨g, nx, none⟩ (.int .i64 ((p.2 : Int) + 1)) (by simp only; omega)
                have k0 := bx14.c0
                have k1 := bx14.c1
                have hl14 := hs13.out.lst_set nx (.int .i64 ((p.2 : Int) + 1))
                rw [← HLL.out] at hl14
                have HL14 := Lib.hid hl14
                have HO13 := Lib.hid ho13
                have hz13 := hb13.size
                clear hl14 hcx e0 e1 hb13 hb12 bx11 bx12 bx13 bx14 ho11 ho12 ho13
                have HC2 : Hid (∀ j u, [Value.int .i64 (m : Int), Value.slice (some ⟨gx, 0, none⟩) m cx][j]? = some u → ((w13.setCell ⟨g, nx, none⟩ (.int .i64 ((p.2 : Int) + 1))).alloc (.cells #[.int .i64 (m : Int), .slice (some ⟨gx, 0, none⟩) m cx] 27)).cell? ((⟨w13.heap.size, 0, none⟩ : Addr).add j) = some u) := by
                  have := cell_two_new (w13.setCell ⟨g, nx, none⟩ (.int .i64 ((p.2 : Int) + 1))) (.int .i64 (m : Int)) (.slice (some ⟨gx, 0, none⟩) m cx) 27
                  rw [World.size_setCell] at this
                  exact this
                go_wp2_with (first | (at_builtin; refine wpList_append_own _ rfl (.tmp 75) (.tmp 77) 52 rfl (w.heap.size + 1) 27 iT (.agg #[.int .i64 0, .slice none 0 0]) 2 32 Tryd.underlying52 HTI.out HTZ.out HTS.out HTB.out rfl (by decide) _ _ _ rfl (HL14.out.alloc _) ⟨w13.heap.size, 0, none⟩ 1 1 [.int .i64 (m : Int), .slice (some ⟨gx, 0, none⟩) m cx] rfl rfl HC2.out (by intro u hu; simp at hu; rcases hu with rfl | rfl <;> rfl) (by unfold maxLen; omega) (by omega) (by simp; omega) ?_; intro v4 w14 hown4 hgrow4 _; obtain ⟨g4, c4, rfl⟩ := ownsRow_succ hown4) | fail)
                have hgr := grown_blkE (a := some ⟨gl2, 0, none⟩) (n := L) (c := cl2) hgrow4
                have hval : iv (((p.2 + 1 : Nat)) : Int) = .int .i64 ((p.2 : Int) + 1) := by unfold iv; rw [Int.natCast_add]; rfl
                have hpush := hs13.out.push h5 OKX.out HIN.out (p.2 + 1) (B2 := wr.heap.size) HO13.out (by omega) (by omega) (by rw [hval, ← HNX.out]; exact hgr) (by rw [← HLL.out]; exact hown4)
                have g1 : w13.grownBy (w13.setCell ⟨g, nx, none⟩ (.int .i64 ((p.2 : Int) + 1))) (some g) := (hs13.out.out.stored nx (.int .i64 ((p.2 : Int) + 1))).2
                have s1 := hss13.out.aside g1 (fun k2 e2 => ⟨fun e3 => by have := (hss13.out.blkO e3).1; cases e2; omega, fun i hi2 e3 => by have := (hss13.out.blkI i hi2).1; cases e2; omega⟩)
                have s2 := s1.aside (World.grownBy_alloc _ (.cells #[.int .i64 (m : Int), .slice (some ⟨gx, 0, none⟩) m cx] 27) none) (fun k2 e2 => by cases e2)
                have hl15 := HL14.out.alloc (.cells #[.int .i64 (m : Int), .slice (some ⟨gx, 0, none⟩) m cx] 27)
                have s3 := s2.aside hgr (fun k2 e2 => ⟨fun e3 => own_type2 hl15 s2.out (by decide) e2 e3, fun i hi2 e3 => own_type2 hl15 (s2.inn i hi2) (by decide) e2 (by rw [← e3]; rfl)⟩)
                have hsz14 : w8.heap.size ≤ w14.heap.size := by have h1 := HSW2.out; have h2 := hgr.size; simp at h2; omega
                have HPU := Lib.hid hpush
                have HS3 := Lib.hid s3
                have HZ := Lib.hid hsz14
                clear hgr hval hpush g1 s1 s2 hl15 s3 hsz14 hown4 hgrow4 k0 k1
                try go_wp2
                go_roundw
                case rel => exact ⟨j + 1, D ++ [(X, p.2 + 1)], by go_num, by omega, by show _ = _; rw [HD1.out, HST2.out], some ⟨g4, 0, none⟩, c4, _, _, by rw [HLL.out, List.length_append]; rfl, HPU.out, HS3.out, HZ.out⟩
                case measure => simp [intOf]; omega
            · obtain rfl : j = T := by omega
              have hfull : (nbL p.1).take j = nbL p.1 := List.take_of_length_le (by rw [nbL_len, HT.out]; exact Nat.le_refl _)
              have hDu : D = up u (k + 1) := by rw [hD.out, hfull, up_next HP.out]
              have hall2 : ∀ i, i < k + 1 → i < (up u i).length := by
                intro i hi2
                rcases Nat.lt_or_ge i k with h1 | h1
                · exact hall.out i h1
                · obtain rfl : i = k := by omega
                  rw [← HMM.out]; exact hlt
              obtain ⟨A, hA, _⟩ := Bf.run_split p.2 (nbL p.1) (up u k)
              have hlen2 : k + 1 ≤ (up u (k + 1)).length := by rw [up_next HP.out, hA, List.length_append, ← HMM.out]; omega
              subst hDu
              have HA2 := Lib.hid hall2
              have HS2 := Lib.hid hs2.out
              have HLN := Lib.hid hlen2
              have hk1025 : k < 1025 := by have := HMM.out; omega
              clear hfull hall2 hA hlen2 hDn
              go_wp2
              go_roundw
              case rel => exact ⟨k + 1, by go_num, HLN.out, HA2.out, _, _, _, _, rfl, HS2.out⟩
              case measure => simp [intOf]; omega
        · have hkM : k = M := by omega
          have hal := all_of h5 HOK.out (k := k) (by omega) (by omega)
          have hs3 := hsd.out
          rw [hal] at hs3
          have HS3 := Lib.hid hs3
          rw [← hM]
          clear hal hs3 hM hlen hinv hall hsd hk
          subst hkM
          go_wp2
          go_ret
          refine ⟨⟨g, c, xs, by rw [HN.out]; rfl, HS3.out.out.mono (by omega), HS3.out.dis⟩, HS3.out.hb⟩
end Go.Proofs.YtgdejippddcekaaDoor
