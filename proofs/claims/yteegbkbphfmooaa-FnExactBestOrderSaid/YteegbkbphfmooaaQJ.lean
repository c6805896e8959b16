/-
  The model's best order ('l08Best'): the walk. No conditions but the bounds that Go gives a slice.
-/
import Derived.Test.YteegbkbphfmooaaQI
namespace Go.Proofs.Yteegbkbphfmooaa
open Go.ChangeShapes Go.WideShapes Go.ChangeAt Go.RowKit Go.Sort
set_option linter.unusedVariables false

theorem wrap_same (x : Int) : IntKind.i64.wrap x = RowKit.wrap64 x := by rw [IntKind.wrap_i64]; unfold RowKit.wrap64; rfl
def OrdR (m v : Nat) (w : World) (e : Ending) (w' : World) : Prop :=
  (∃ g c, e = .returned (.slice (some ⟨g, 0, none⟩) m c) ∧ w'.ownsRow w.heap.size 3 1 (.slice (some ⟨g, 0, none⟩) m c) m ((ni (Rv.dc m v)).map iv)) ∧ RowKit.Below w.heap.size w w'

set_option maxRecDepth 100000 in
set_option maxHeartbeats 8000000 in
theorem l08Best_any (m : Nat) (a : Option Addr) (l : List Int) (cap : Nat) (w : World) (hm : l.length = m) (hok : Ok m l) (hrow : IntRow w a l) :
    Calls Try.prog 100 #[.agg #[.int .i64 (m : Int), .slice a m cap]] w (OrdR m (Rv.gv (bt l) (2 ^ m - 1)) w) := by
  have h8 : m ≤ 8 := by have := hok.2.1; omega
  obtain ⟨Wa, hWa⟩ : ∃ Wa, Wa = w.alloc (.cells #[.int .i64 (m : Int), .slice a m cap] 25) := ⟨_, rfl⟩
  have HWa := Lib.hid hWa
  have hba : RowKit.Below w.heap.size w Wa := by rw [hWa]; exact (Below.refl _ _).alloc (Nat.le_refl _) _
  have xa : Box Wa w.heap.size 25 (.int .i64 (m : Int)) (.slice a m cap) := by rw [hWa]; exact Box.new _ _ _ _
  have R1 := Lib.hid (hrow.below hba (Nat.le_refl _))
  have X1 := Lib.hid xa
  have B1 := Lib.hid hba
  have HK := Lib.hid hok
  have HM := Lib.hid hm
  obtain ⟨f, hf⟩ : ∃ f, f = bt l := ⟨_, rfl⟩
  obtain ⟨N, hN⟩ : ∃ N, N = 2 ^ m := ⟨_, rfl⟩
  have hN256 : N ≤ 256 := by rw [hN]; exact pow_le m h8
  have hN1 : 1 ≤ N := by rw [hN]; exact Nat.one_le_two_pow
  obtain ⟨FU, hFU⟩ : ∃ FU, FU = N - 1 := ⟨_, rfl⟩
  have HFN : Hid ((N : Int) - 1 = (FU : Int)) := by show _ = _; omega
  have HPF : Hid (pc FU = m) := by show _ = _; rw [hFU, hN]; exact pc_top h8
  have HALL : Hid (∀ W, Calls Try.prog 99 #[.agg #[.int .i64 (m : Int), .slice a m cap]] W fun e w' => e = .returned (.int .i64 (FU : Int)) ∧ RowKit.Below W.heap.size W w') := fun W => by
    have := l02All_any a m cap m W h8
    rw [← hN, HFN.out] at this
    exact this.mono fun e w' ⟨h1, h2⟩ => ⟨h1, h2⟩
  have HT := Lib.hid (l08Table_any m a l cap Wa hm hok (hrow.below hba (Nat.le_refl _)))
  rw [← hf, ← hN] at HT
  rw [← hf, ← hN, ← hFU]
  have HF := Lib.hid hf
  have HN := Lib.hid hN
  have hFN : FU < N := by omega
  have hm1 : m ≤ 100 := by omega
  have c0 := xa.c0
  have c1 := xa.c1
  clear hWa hba xa hrow hok hm hf hN hFU
  go_enter Try.func100, Try.ntmps100
  go_wp2_with fail
  rw [← HWa.out]
  refine HT.out.mono ?_
  rintro e w2 ⟨⟨gb, cb, gw, cw, rfl, hob, how⟩, hb2⟩
  have OB := Lib.hid hob
  have HB2A := Lib.hid hb2
  have B2 := Lib.hid (B1.out.trans (hb2.mono B1.out.size))
  have x2 := X1.out.below hb2 X1.out.lt
  have X2 := Lib.hid x2
  have hgb := (hob.lt gb rfl).2
  obtain ⟨W3, hW3⟩ : ∃ W3, W3 = w2.alloc (.cells #[] 3) := ⟨_, rfl⟩
  have HW3 := Lib.hid hW3
  have hb3 : RowKit.Below w2.heap.size w2 W3 := by rw [hW3]; exact (Below.refl _ _).alloc (Nat.le_refl _) _
  have ho3 : W3.ownsRow w2.heap.size 3 1 (.slice (some ⟨w2.heap.size, 0, none⟩) 0 0) 0 (([] : List Int).map iv) := by rw [hW3]; exact own_empty w2 _ _ (Nat.le_refl _) rfl
  have HB3 := Lib.hid hb3
  have HO3 := Lib.hid ho3
  have y3 := x2.below hb3 x2.lt
  have d0 := y3.c0
  have d1 := y3.c1
  rw [hW3] at d0 d1
  clear hob how hb2 x2 y3 hW3 hb3 ho3 c0 c1 HT
  go_wp2_with fail
  rw [← HW3.out]
  refine (HALL.out W3).mono ?_
  rintro e w4 ⟨rfl, hb4⟩
  have B4 : Hid (RowKit.Below w2.heap.size w2 w4) := HB3.out.trans (hb4.mono HB3.out.size)
  have O4 : Hid (w4.ownsRow w2.heap.size 3 1 (.slice (some ⟨w2.heap.size, 0, none⟩) 0 0) 0 (([] : List Int).map iv)) := own_below HO3.out hb4
  have HCB : Hid (∀ W, RowKit.Below w2.heap.size w2 W → ∀ s, s < N → ∀ z, z = Rv.gm f s → W.cell? ⟨gb, s, none⟩ = some (.int .i64 (z : Int))) := fun W hW s hs z hz => by
    rw [hW.cell (p := ⟨gb, s, none⟩) hgb, hz]; exact tab_cell OB.out hs
  have HX3 : Hid (∀ W, RowKit.Below w2.heap.size w2 W → W.cell? ⟨w.heap.size, 0, none⟩ = some (.int .i64 (m : Int)) ∧ W.cell? ⟨w.heap.size, 1, none⟩ = some (.slice a m cap) ∧ IntRow W a l) := fun W hW => by
    have hB := B2.out.trans (hW.mono B2.out.size)
    have x2 := X2.out.below hW X2.out.lt
    exact ⟨x2.c0, x2.c1, R1.out.below (HB2A.out.trans (hW.mono HB2A.out.size)) (Nat.le_refl _)⟩
  have hst : Hid (Rv.dc (pc FU) (Rv.gv f FU) = Rv.dc m (Rv.gv f FU)) := by rw [HPF.out]; rfl
  clear hb4 d0 d1
  go_wp2
  go_loopw [5, 6] (fun vo vs wr => ∃ (s go co : Nat) (pre : List Nat), s < N ∧ vs = .int .i64 (s : Int) ∧ pre.length ≤ m ∧ vo = .slice (some ⟨go, 0, none⟩) pre.length co ∧ Hid (wr.ownsRow w2.heap.size 3 1 (.slice (some ⟨go, 0, none⟩) pre.length co) pre.length ((ni pre).map iv)) ∧ Hid (pre ++ Rv.dc (pc s) (Rv.gv f s) = Rv.dc m (Rv.gv f FU)) ∧ Hid (RowKit.Below w2.heap.size w2 wr)) (fun _ vs _ => (intOf vs).toNat)
  case atStart => exact ⟨FU, w2.heap.size, 0, [], hFN, rfl, Nat.zero_le _, rfl, O4, hst.out, B4⟩
  case round =>
    obtain ⟨s, go, co, pre, hsN, rfl, hpm, rfl, hpo, hpe, hbr⟩ := hrel
    clear O4 hst B4
    have hs256 : s < 256 := by omega
    by_cases hpos : 0 < s
    · have hsi : (s : Int) > 0 := by omega
      have hsi2 : (0 : Int) < (s : Int) := by omega
      have hpc : 0 < pc s := by
        have : ∀ s : Fin 256, 1 ≤ s.val → 0 < pc s.val := by decide +kernel
        exact this ⟨s, hs256⟩ hpos
      have HLI : Hid (∀ W, Calls Try.prog 135 #[.int .i64 (s : Int)] W fun e w' => (∃ g c, e = .returned (.slice (some ⟨g, 0, none⟩) (elems s).length c) ∧ w'.ownsRow W.heap.size 3 1 (.slice (some ⟨g, 0, none⟩) (elems s).length c) (elems s).length ((elems s).map nv)) ∧ RowKit.Below W.heap.size W w') := fun W => l02List_any s hs256 W
      obtain ⟨es, hes⟩ : ∃ es, es = elems s := ⟨_, rfl⟩
      rw [← hes] at HLI
      have HES := Lib.hid hes
      clear hes
      go_wp2_with fail
      refine (HLI.out wr).mono ?_
      rintro e w5 ⟨⟨g5, c5, rfl, ho5⟩, hb5⟩
      have B5 : Hid (RowKit.Below w2.heap.size w2 w5) := hbr.out.trans (hb5.mono hbr.out.size)
      have PO5 : Hid (w5.ownsRow w2.heap.size 3 1 (.slice (some ⟨go, 0, none⟩) pre.length co) pre.length ((ni pre).map iv)) := own_below hpo.out hb5
      have hg5 := (ho5.lt g5 rfl).2
      have HCE : Hid (∀ W, RowKit.Below w5.heap.size w5 W → ∀ j, j < es.length → ∀ z, z = es.getD j 0 → W.cell? ⟨g5, j, none⟩ = some (.int .i64 (z : Int))) := fun W hW j hj z hz => by
        rw [hW.cell (p := ⟨g5, j, none⟩) hg5, ho5.cellAt j (by omega), List.getElem?_map, hz, List.getD_eq_getElem?_getD, List.getElem?_eq_getElem hj]; rfl
      clear ho5 hb5 HLI hpo hbr
      go_wp2
      go_loopw [5, 6, 23] (fun vo vs i wr => ∃ j : Nat, j ≤ es.length ∧ i = .int .i64 (j : Int) ∧ vo = .slice (some ⟨go, 0, none⟩) pre.length co ∧ vs = .int .i64 (s : Int) ∧ Hid (∀ i, i < j → Rv.fst? f s (es.getD i 0) = false) ∧ Hid (RowKit.Below w5.heap.size w5 wr)) (fun _ _ i _ => es.length - (intOf i).toNat)
      case atStart => exact ⟨0, Nat.zero_le _, rfl, rfl, rfl, fun i hi => absurd hi (Nat.not_lt_zero _), Below.refl _ _⟩
      case round =>
        obtain ⟨j, hj, rfl, rfl, rfl, hno, hb⟩ := hrel
        by_cases hlt2 : j < es.length
        · have hes := HES.out
          obtain ⟨b, hbd⟩ : ∃ b, b = es.getD j 0 := ⟨_, rfl⟩
          have hbm : b ∈ elems s := by
            rw [← hes, hbd, List.getD_eq_getElem?_getD, List.getElem?_eq_getElem hlt2]; exact List.getElem_mem _
          obtain ⟨hb8, hbt⟩ := Hw.mem_elems.1 hbm
          have hsm : Hid (s < 2 ^ m) := by show s < 2 ^ m; rw [← HN.out]; exact hsN
          have hbmm : b < m := set_in hsm.out hbt
          obtain ⟨q, left, hqk, hwp, hleft, hsub, hlf, hle⟩ := sub_facts hs256 hb8 hbt
          have hl256 : left < 256 := Nat.lt_trans hleft hs256
          have hwv : Hid (Value.int .i64 (IntKind.i64.wrap (2 ^ b)) = Value.int .i64 (q : Int)) := by show _ = _; rw [wrap_same, hwp]
          have hwv2 : Hid (Value.int .i64 (RowKit.wrap64 (2 ^ b)) = Value.int .i64 (q : Int)) := by show _ = _; rw [hwp]
          clear hwp
          have hbl : b < l.length := by rw [HM.out]; exact hbmm
          obtain ⟨hw1, _, hw256⟩ := HK.out.ww hbl
          have hpcf := pc_first HK.out HM.out hbmm hl256 (fun b2 h2 => set_in (s := left) (Nat.lt_trans hleft hsm.out) h2) hlf
          rw [← HF.out] at hpcf
          have hB2 := B5.out.trans (hb.out.mono B5.out.size)
          obtain ⟨c0, c1, hrr⟩ := HX3.out wr hB2
          obtain ⟨ba, offa, rfl, hba2, hca⟩ := hrr.at hbl
          rw [hw1] at hca
          obtain ⟨wl, hwl⟩ : ∃ wl, wl = ww l b := ⟨_, rfl⟩
          rw [← hwl] at hca hw256 hpcf
          have hand : bits .andNot .i64 (left : Int) (wl : Int) = ((left ^^^ (left &&& wl) : Nat) : Int) := Rv.i64_andNotR _ _ (by omega) (by omega)
          obtain ⟨z, hz⟩ : ∃ z, z = left ^^^ (left &&& wl) := ⟨_, rfl⟩
          have hz256 : z < 256 := by rw [hz]; exact Nat.xor_lt_two_pow (n := 8) hl256 (Nat.lt_of_le_of_lt Nat.and_le_left hl256)
          rw [← hz] at hand hpcf
          obtain ⟨pz, hpz⟩ : ∃ pz, pz = pc z := ⟨_, rfl⟩
          have hpz8 : pz ≤ 8 := by rw [hpz]; exact pc_le z
          rw [← hpz] at hpcf
          obtain ⟨g1, hg1⟩ : ∃ g1, g1 = Rv.gm f left := ⟨_, rfl⟩
          obtain ⟨g2, hg2⟩ : ∃ g2, g2 = Rv.gm f s := ⟨_, rfl⟩
          have hg164 : g1 ≤ 64 := by rw [hg1]; exact (Rv.G_bound f hl256).1
          have hft : Rv.fst? f s b = (g1 + pz == g2) := by
            unfold Rv.fst?
            rw [← hle.out, ← hpcf, ← hg1, ← hg2]
          have e0 := HCE.out wr hb.out j hlt2 b hbd
          have e1 := HCB.out wr hB2 left (by omega) g1 hg1
          have e2 := HCB.out wr hB2 s hsN g2 hg2
          have DB : Hid (∀ W, Calls Try.prog 136 #[.int .i64 (z : Int)] W fun e w' => e = .returned (.int .i64 (pz : Int)) ∧ W = w') := fun W => by
            rw [hpz]; exact l02Bits_any z hz256 W
          have hji : (j : Int) < (es.length : Int) := by omega
          have hbi : (b : Int) < (m : Int) := by omega
          have hli : (left : Int) < (N : Int) := by omega
          have hsi3 : (s : Int) < (N : Int) := by omega
          have hb64 : b < 64 := by omega
          have hb0 : ¬ (b : Int) < 0 := by omega
          have HFT := Lib.hid hft
          have HBD := Lib.hid hbd
          have HLE := Lib.hid hle.out
          have HBM := Lib.hid hbm
          have hwv3 := hwv2.out
          clear hes hbd hbm hbt hle hg1 hg2 hlf hw1 hpcf hrr hwl hz hpz hsm hft
          have KS : Hid (wr.drew.cell? ⟨w.heap.size, 1, none⟩ = some (.slice (some ⟨ba, offa, none⟩) m cap) ∧ wr.drew.cell? ⟨gb, left, none⟩ = some (.int .i64 (g1 : Int)) ∧ wr.drew.cell? ⟨gb, s, none⟩ = some (.int .i64 (g2 : Int)) ∧ wr.drew.cell? ⟨ba, offa + b, none⟩ = some (.int .i64 (wl : Int))) := ⟨c1, e1, e2, hca⟩
          by_cases hx : g1 + pz = g2
          · have HX := Lib.hid hx
            have hxi : IntKind.i64.wrap ((g1 : Int) + (pz : Int)) = (g2 : Int) := by rw [IntKind.wrap_i64]; omega
            clear hx
            go_wp2
            go_region_held3 (fun V => V.cell? ⟨w.heap.size, 1, none⟩ = some (.slice (some ⟨ba, offa, none⟩) m cap) ∧ V.cell? ⟨gb, left, none⟩ = some (.int .i64 (g1 : Int)) ∧ V.cell? ⟨gb, s, none⟩ = some (.int .i64 (g2 : Int)) ∧ V.cell? ⟨ba, offa + b, none⟩ = some (.int .i64 (wl : Int)))
              (first | (exact KS.out))
              (first
                | (go_at_call 136
                   refine (DB.out _).mono ?_
                   rintro e w7 ⟨rfl, rfl⟩))
            obtain ⟨W8, hW8⟩ : ∃ W8, W8 = wr.drew := ⟨_, rfl⟩
            have hb8 : RowKit.Below w2.heap.size w2 W8 := by rw [hW8]; exact hB2.drew
            have po8 : W8.ownsRow w2.heap.size 3 1 (.slice (some ⟨go, 0, none⟩) pre.length co) pre.length ((ni pre).map iv) := by rw [hW8]; exact own_below PO5.out hb.out.drew
            rw [← hW8]
            have HB8 := Lib.hid hb8
            have PO8 := Lib.hid po8
            have OW8 : Hid ((W8.alloc (.cells #[.int .i64 (b : Int)] 3)).ownsRow w2.heap.size 3 1 (.slice (some ⟨go, 0, none⟩) pre.length co) pre.length ((ni pre).map iv)) := po8.alloc _
            have B9 := Lib.hid (hb8.alloc hb8.size (.cells #[.int .i64 (b : Int)] 3))
            have HCC : Hid ((W8.alloc (.cells #[.int .i64 (b : Int)] 3)).cell? ⟨W8.heap.size, 0, none⟩ = some (iv (b : Int))) := by
              have hh : (W8.alloc (.cells #[.int .i64 (b : Int)] 3)).heap[W8.heap.size]? = some (.cells #[.int .i64 (b : Int)] 3 (0, 0)) := by show (W8.heap.push _)[W8.heap.size]? = _; simp
              exact cell1 hh
            have hpl2 : pre.length + pc s = m := by
              have h1 := congrArg List.length hpe.out
              rw [List.length_append, Rv.dc_len, Rv.dc_len] at h1
              exact h1
            have hft2 : Rv.fst? f s b = true := by rw [HFT.out, HX.out]; exact beq_self_eq_true _
            have hdcs : Hid (Rv.dc (pc s) (Rv.gv f s) = b :: Rv.dc (pc left) (Rv.gv f left)) := by
              show _ = _
              have hes := HES.out
              have hj2 : j < (elems s).length := by rw [← hes]; exact hlt2
              have h1 := Rv.first_gv f hs256 hj2 (by rw [← hes]; exact HBD.out) hft2 (fun i hi => by rw [← hes]; exact hno.out i hi)
              obtain ⟨h3, h4⟩ := Hw.mem_elems.1 HBM.out
              have h2 := Rv.pc_take hs256 h3 h4
              have h5 := Rv.gv_lt f (Rv.sub_lt (s := s) (a := b) hs256)
              rw [h1, h2, Nat.add_sub_cancel, HLE.out]
              exact Rv.dc_first h3 h5
            have hpre : Hid ((pre ++ [b]) ++ Rv.dc (pc left) (Rv.gv f left) = Rv.dc m (Rv.gv f FU)) := by
              show _ = _
              rw [List.append_assoc, List.singleton_append, ← hdcs.out]; exact hpe.out
            clear hW8 hb8 po8 hxi KS e0 e1 e2 hca c0 c1 hand hwv3 hft2 hdcs
            go_wp2_with (at_builtin; refine list_appendV _ rfl _ _ rfl w2.heap.size pre.length _ (ni pre) rfl OW8.out ⟨W8.heap.size, 0, none⟩ 1 (b : Int) rfl HCC.out (by omega) B9.out.size ?_)
            intro g9 c9 w9 ho9 hb9
            have B10 := Lib.hid (B9.out.trans hb9)
            have hl9 : (pre ++ [b]).length = pre.length + 1 := by simp
            have o10 : w9.ownsRow w2.heap.size 3 1 (.slice (some ⟨g9, 0, none⟩) (pre ++ [b]).length c9) (pre ++ [b]).length ((ni (pre ++ [b])).map iv) := by
              have e : ni (pre ++ [b]) = ni pre ++ [(b : Int)] := by simp [ni]
              rw [hl9, e]; first | exact ho9 | simpa using ho9
            have O10 := Lib.hid o10
            rw [← hl9]
            clear ho9 hb9 OW8 B9 HCC o10
            go_wp2
            go_roundw
            case rel => exact ⟨left, g9, c9, pre ++ [b], by omega, rfl, by omega, rfl, O10, hpre, B10⟩
            case measure => simp [intOf]; omega
          · obtain ⟨x, hxx⟩ : ∃ x, x = g1 + pz := ⟨_, rfl⟩
            have hxi : IntKind.i64.wrap ((g1 : Int) + (pz : Int)) = (x : Int) := by rw [IntKind.wrap_i64]; omega
            have hne : ¬ (x : Int) = (g2 : Int) := by omega
            have hne2 : ((x : Int) == (g2 : Int)) = false := beq_false_of_ne hne
            have hne3 : ¬ x = g2 := by omega
            have hft2 : Rv.fst? f s b = false := by rw [HFT.out]; exact beq_false_of_ne hx
            have hno2 : Hid (∀ i, i < j + 1 → Rv.fst? f s (es.getD i 0) = false) := fun i hi => by
              rcases Nat.lt_or_ge i j with h | h
              · exact hno.out i h
              · obtain rfl : i = j := by omega
                rw [← HBD.out]; exact hft2
            have hbq : Hid (RowKit.Below w5.heap.size w5 wr.drew) := hb.out.drew
            clear hx hft2 hxx
            go_wp2
            go_region_held3 (fun V => V.cell? ⟨w.heap.size, 1, none⟩ = some (.slice (some ⟨ba, offa, none⟩) m cap) ∧ V.cell? ⟨gb, left, none⟩ = some (.int .i64 (g1 : Int)) ∧ V.cell? ⟨gb, s, none⟩ = some (.int .i64 (g2 : Int)) ∧ V.cell? ⟨ba, offa + b, none⟩ = some (.int .i64 (wl : Int)))
              (first | (exact KS.out))
              (first
                | (go_at_call 136
                   refine (DB.out _).mono ?_
                   rintro e w7 ⟨rfl, rfl⟩))
            have hel : es.length ≤ 8 := by rw [HES.out]; exact elTo_len s 8
            clear KS hne hne2 hne3 hxi e0 e1 e2 hca c0 c1 hand hwv3
            go_wp2
            go_roundw
            case rel => exact ⟨j + 1, by omega, by go_num, rfl, rfl, hno2, hbq⟩
            case measure => simp [intOf]; omega
        · exfalso
          have hes := HES.out
          obtain ⟨b, hb1, hb2⟩ := Rv.fst_some f hs256 hpc
          rw [← hes] at hb1
          obtain ⟨i, hi, he⟩ := List.getElem_of_mem hb1
          have h1 := hno.out i (by omega)
          rw [List.getD_eq_getElem?_getD, List.getElem?_eq_getElem hi, Option.getD_some, he, hb2] at h1
          cases h1
    · obtain rfl : s = 0 := by omega
      have he0 : pre = Rv.dc m (Rv.gv f FU) := by
        have h1 := hpe.out
        have h2 : Rv.dc (pc 0) (Rv.gv f 0) = [] := rfl
        rw [h2, List.append_nil] at h1
        exact h1
      have hpl : pre.length = m := by rw [he0, Rv.dc_len]
      have HE0 := Lib.hid he0
      have HPL := Lib.hid hpl
      clear he0 hpl
      go_wp2
      go_ret
      refine ⟨⟨go, co, ?_, ?_⟩, B2.out.trans (hbr.out.mono B2.out.size)⟩
      · rw [HPL.out]; rfl
      · have h1 := hpo.out
        rw [HPL.out, HE0.out] at h1
        exact h1.mono B2.out.size
end Go.Proofs.Yteegbkbphfmooaa
