/-
  Both 'ImproveOrder'. No conditions but the bounds that Go gives a slice.
-/
import Derived.Test.YteegbkbphfmooaaQj
namespace Go.Proofs.Yteegbkbphfmooaa
open Go.ChangeShapes Go.WideShapes Go.ChangeAt Go.RowKit Go.Sort
set_option linter.unusedVariables false

/-- The order that a slice holds. -/
def rdN (v : Value) (W : World) : List Nat := match v with
  | .slice (some a) n _ => (List.range n).map fun j => match W.cell? ⟨a.block, j, none⟩ with
    | some (.int _ z) => z.toNat
    | _ => 0
  | _ => []
theorem rdN_own {W : World} {B g m c : Nat} {x : List Nat} (h : W.ownsRow B 3 1 (.slice (some ⟨g, 0, none⟩) m c) m ((ni x).map iv)) : rdN (.slice (some ⟨g, 0, none⟩) m c) W = x := by
  have hl : x.length = m := by have := h.1; simpa [ni] using this
  unfold rdN
  apply List.ext_getElem (by simp [hl])
  intro j h1 h2
  have hj : j < m := by simpa using h1
  rw [List.getElem_map, List.getElem_range]
  simp only [cell_own h hj, iv]
  rw [ni_at h2, List.getD_eq_getElem?_getD, List.getElem?_eq_getElem h2]; rfl
theorem imR_le (n : Int) (l ns : List Int) : (imR n l ns).length ≤ 8 := by
  unfold imR
  cases h : renB n l ns
  · simp
  · obtain ⟨ok, rfl, _, _, hod, _⟩ := ren_parts h
    simp only [if_true]
    rw [ni_len, (Rv.imp_od (bt l) hod).len]
    have := ok.2.1; omega

set_option maxRecDepth 100000 in
set_option maxHeartbeats 2000000 in
theorem implImproveOrder (n : Int) (a : Option Addr) (l : List Int) (cap : Nat) (an : Option Addr) (ns : List Int) (cn : Nat) (w : World) (hrow : IntRow w a l) (hl : l.length ≤ maxLen) (hrn : IntRow w an ns) (hn : ns.length ≤ maxLen) (hcn : ns.length ≤ cn) (hcm : cn ≤ maxLen) :
    Calls Try.prog 31 #[.agg #[.int .i64 n, .slice a l.length cap], .slice an ns.length cn] w fun e w' => (∃ a0 c0, e = .returned (.slice a0 (imR n l ns).length c0) ∧ w'.ownsRow w.heap.size 3 1 (.slice a0 (imR n l ns).length c0) (imR n l ns).length ((imR n l ns).map iv)) ∧ Below w.heap.size w w' := by
  obtain ⟨Wa, hWa⟩ : ∃ Wa, Wa = w.alloc (.cells #[.int .i64 n, .slice a l.length cap] 25) := ⟨_, rfl⟩
  have HWa := Lib.hid hWa
  have hba : Below w.heap.size w Wa := by rw [hWa]; exact (Below.refl _ _).alloc (Nat.le_refl _) _
  have xa : Box Wa w.heap.size 25 (.int .i64 n) (.slice a l.length cap) := by rw [hWa]; exact Box.new _ _ _ _
  have R1 := hrow.below hba (Nat.le_refl _)
  have N1 := hrn.below hba (Nat.le_refl _)
  have HOK := Lib.hid (implOrderOk n a l cap an ns cn Wa R1 hl N1 hn hcn hcm)
  have c0 := xa.c0
  have c1 := xa.c1
  cases hok : renB n l ns
  · have HO := Lib.hid hok
    have HE : Hid (imR n l ns = []) := by show _ = _; unfold imR; rw [hok]; rfl
    clear hl hn hrow hrn hWa hcn hcm hok R1 N1
    go_enter Try.func31, Try.ntmps31
    go_wp2_with fail
    rw [← HWa.out]
    refine HOK.out.mono ?_
    rintro e w1 ⟨rfl, hb1⟩
    rw [HO.out]
    go_wp2
    go_ret
    rw [HE.out]
    exact ⟨⟨none, 0, rfl, World.ownsRow_nil _ _ _ _⟩, hba.trans (hb1.mono hba.size)⟩
  · have HO := Lib.hid hok
    obtain ⟨ok, rfl, hp, hnl, hod, hni⟩ := ren_parts hok
    have HE : Hid (imR l.length l ns = ni (Rv.imp (bt l) (tn ns))) := by show _ = _; unfold imR; rw [hok]; rfl
    obtain ⟨o, ho⟩ : ∃ o, o = tn ns := ⟨_, rfl⟩
    rw [← ho] at hod hni HE
    obtain ⟨m, hm⟩ : ∃ m, m = l.length := ⟨_, rfl⟩
    have h8 : m ≤ 8 := by have := ok.2.1; omega
    have h1m : 1 ≤ m := by have := ok.1; omega
    have HC : Hid (∀ W ax x cx, IntRow W a l → Rv.Od m x → IntRow W ax (ni x) → Calls Try.prog 85 #[.agg #[.int .i64 (m : Int), .slice a m cap], .slice ax m cx] W (BetR m (bt l) x W)) :=
      fun W ax x cx h1 h2 h3 => firstBetter_any m a l cap ax x cx W hm.symm (hm ▸ ok) h1 h2 h3
    have RR := Lib.hid R1
    have NN : Hid (IntRow Wa an (ni o)) := (show IntRow Wa an (ni o) from hni ▸ N1)
    have HOD : Hid (Rv.Od m o) := (show Rv.Od m o from hm ▸ hod)
    have hol := HOD.out.len
    have XA := Lib.hid xa
    have BA := Lib.hid hba
    have hnm : ns.length = m := by omega
    have HEL : Hid ((imR (m : Int) l ns) = ni (Rv.imp (bt l) o)) := by show _ = _; rw [hm]; exact HE.out
    rw [← hm] at HWa HO HOK c0 c1 XA ⊢
    rw [hnm] at HOK ⊢
    obtain ⟨bn, offn, rfl, hbn, _⟩ := ord_at NN.out (show 0 < o.length by omega)
    have hcells : Hid (∀ W, Below Wa.heap.size Wa W → ∀ j, j < m → W.cell? ⟨bn, offn + j, none⟩ = some (iv ((ni o).getD j 0))) := fun W hW j hj => by
      obtain ⟨b2, off2, he, hb2, hc2⟩ := ord_at NN.out (show j < o.length by omega)
      obtain ⟨rfl, rfl⟩ : bn = b2 ∧ offn = off2 := by simpa using he
      rw [ni_at (show j < o.length by omega)]
      exact (hW.cell (p := ⟨bn, offn + j, none⟩) hb2).trans hc2
    clear hl hn hrow hrn hWa hcn hcm hok R1 N1 ok hp hod hni ho HE hba xa hnl NN hbn hm
    go_enter Try.func31, Try.ntmps31
    go_wp2_with fail
    rw [← HWa.out]
    refine HOK.out.mono ?_
    rintro e w1 ⟨rfl, hb1⟩
    rw [HO.out]
    clear c0 c1
    have BB1 := Lib.hid (BA.out.trans (hb1.mono BA.out.size))
    have HB1 := Lib.hid hb1
    clear hb1
    have HCL := Lib.hid (Try.slices_Clone_int bn offn m cn (ni o) w1 (by rw [ni_len]; omega) (by omega) (fun j hj => by rw [ni_len] at hj; exact hcells.out w1 HB1.out j (by omega)))
    go_wp2_with fail
    refine HCL.out.mono ?_
    rintro e w2 ⟨v, rfl, ho2, hnn, hb2⟩
    obtain ⟨g0, c0, rfl⟩ := not_nil_slice ho2 hnn
    rw [List.take_of_length_le (by rw [ni_len]; omega)] at ho2
    have HOW : Hid (w2.ownsRow w.heap.size 3 1 (.slice (some ⟨g0, 0, none⟩) m c0) m ((ni o).map iv)) := (show World.ownsRow _ _ _ _ _ _ _ from ho2).mono BB1.out.size
    have hb5 := HB1.out.trans (hb2.mono HB1.out.size)
    clear ho2 hnn hb2 HCL HOK hcells
    go_wp2
    go_loopw [5] (fun v wr => ∃ x g c, v = .slice (some ⟨g, 0, none⟩) m c ∧ Hid (Rv.Od m x) ∧ Hid (Rv.imp (bt l) x = Rv.imp (bt l) o) ∧ Hid (wr.ownsRow w.heap.size 3 1 (.slice (some ⟨g, 0, none⟩) m c) m ((ni x).map iv)) ∧ Below Wa.heap.size Wa wr) (fun v wr => Rv.rv (bt l) (rdN v wr))
    case atStart => exact ⟨o, g0, c0, rfl, HOD, rfl, HOW, hb5⟩
    case round =>
      clear hb5 HOW
      obtain ⟨x, g, c, rfl, hod, him, how, hb⟩ := hrel
      have xr := XA.out.below hb XA.out.lt
      have d0 := xr.c0
      have d1 := xr.c1
      have hcap := own_cap how.out
      have HCC := Lib.hid (HC.out wr (some ⟨g, 0, none⟩) x c (RR.out.below hb (Nat.le_refl _)) hod.out (ord_own hod.out.len how.out))
      clear xr hcap
      go_wp2_with fail
      refine HCC.out.mono ?_
      clear HCC
      rintro e w3 ⟨⟨hbt, rfl⟩ | ⟨y, g2, c2, hbt, rfl, how2⟩, hb3⟩
      · have HF : Hid (w3.ownsRow w.heap.size 3 1 (.slice (some ⟨g, 0, none⟩) m c) m ((ni (Rv.imp (bt l) o)).map iv)) := by
          have e : Rv.imp (bt l) o = x := by rw [← him.out]; exact Rv.imp_none hbt
          show World.ownsRow _ _ _ _ _ _ _
          rw [e]; exact own_below how.out hb3
        have HL : Hid ((ni (Rv.imp (bt l) o)).length = m) := by show _ = _; rw [ni_len]; exact (Rv.imp_od (bt l) HOD.out).len
        have HB : Hid (Below w.heap.size w w3) := BA.out.trans ((hb.trans (hb3.mono hb.size)).mono BA.out.size)
        clear hbt hb hb3 him how d0 d1
        go_wp2
        go_ret
        rw [HEL.out, HL.out]
        exact ⟨⟨some ⟨g, 0, none⟩, c, rfl, HF.out⟩, HB.out⟩
      · have HY := Lib.hid (Rv.bet_od hod.out hbt)
        have HI : Hid (Rv.imp (bt l) y = Rv.imp (bt l) o) := by show _ = _; rw [← him.out]; exact (Rv.imp_some hbt).symm
        have HLT : Hid (Rv.rv (bt l) (rdN (.slice (some ⟨g2, 0, none⟩) m c2) w3) < Rv.rv (bt l) (rdN (.slice (some ⟨g, 0, none⟩) m c) wr)) := by
          show _ < _
          rw [rdN_own how2, rdN_own how.out]; exact Rv.bet_lt hbt
        have HOW2 : Hid (w3.ownsRow w.heap.size 3 1 (.slice (some ⟨g2, 0, none⟩) m c2) m ((ni y).map iv)) := how2.mono (by have := BA.out.size; have := hb.size; omega)
        have hb4 := hb.trans (hb3.mono hb.size)
        clear hbt hb hb3 him how how2 d0 d1
        go_wp2
        go_roundw
        case rel => exact ⟨y, g2, c2, rfl, HY, HI, HOW2, hb4⟩
        case measure => exact HLT.out

set_option maxRecDepth 100000 in
set_option maxHeartbeats 2000000 in
theorem specImproveOrder (n : Int) (a : Option Addr) (l : List Int) (cap : Nat) (an : Option Addr) (ns : List Int) (cn : Nat) (w : World) (hrow : IntRow w a l) (hl : l.length ≤ maxLen) (hrn : IntRow w an ns) (hn : ns.length ≤ maxLen) (hcn : ns.length ≤ cn) (hcm : cn ≤ maxLen) :
    Calls Try.prog 57 #[.agg #[.int .i64 n, .slice a l.length cap], .slice an ns.length cn] w fun e w' => (∃ a0 c0, e = .returned (.slice a0 (imR n l ns).length c0) ∧ w'.ownsRow w.heap.size 3 1 (.slice a0 (imR n l ns).length c0) (imR n l ns).length ((imR n l ns).map iv)) ∧ Below w.heap.size w w' := by
  obtain ⟨Wa, hWa⟩ : ∃ Wa, Wa = w.alloc (.cells #[.int .i64 n, .slice a l.length cap] 25) := ⟨_, rfl⟩
  have HWa := Lib.hid hWa
  have hba : Below w.heap.size w Wa := by rw [hWa]; exact (Below.refl _ _).alloc (Nat.le_refl _) _
  have xa : Box Wa w.heap.size 25 (.int .i64 n) (.slice a l.length cap) := by rw [hWa]; exact Box.new _ _ _ _
  have R1 := hrow.below hba (Nat.le_refl _)
  have N1 := hrn.below hba (Nat.le_refl _)
  have HOK := Lib.hid (specOrderOk n a l cap an ns cn Wa R1 hl N1 hn hcn hcm)
  have c0 := xa.c0
  have c1 := xa.c1
  cases hok : renB n l ns
  · have HO := Lib.hid hok
    have HE : Hid (imR n l ns = []) := by show _ = _; unfold imR; rw [hok]; rfl
    clear hl hn hrow hrn hWa hcn hcm hok R1 N1
    go_enter Try.func57, Try.ntmps57
    go_wp2_with fail
    rw [← HWa.out]
    refine HOK.out.mono ?_
    rintro e w1 ⟨rfl, hb1⟩
    rw [HO.out]
    go_wp2
    go_ret
    rw [HE.out]
    exact ⟨⟨none, 0, rfl, World.ownsRow_nil _ _ _ _⟩, hba.trans (hb1.mono hba.size)⟩
  · have HO := Lib.hid hok
    obtain ⟨ok, rfl, hp, hnl, hod, hni⟩ := ren_parts hok
    have HE : Hid (imR l.length l ns = ni (Rv.imp (bt l) (tn ns))) := by show _ = _; unfold imR; rw [hok]; rfl
    obtain ⟨o, ho⟩ : ∃ o, o = tn ns := ⟨_, rfl⟩
    rw [← ho] at hod hni HE
    obtain ⟨m, hm⟩ : ∃ m, m = l.length := ⟨_, rfl⟩
    have h8 : m ≤ 8 := by have := ok.2.1; omega
    have h1m : 1 ≤ m := by have := ok.1; omega
    have HC : Hid (∀ W ax x cx, IntRow W a l → Rv.Od m x → IntRow W ax (ni x) → m ≤ cx → cx ≤ maxLen → Calls Try.prog 101 #[.agg #[.int .i64 (m : Int), .slice a m cap], .slice ax m cx] W (BetR m (bt l) x W)) :=
      fun W ax x cx h1 h2 h3 h4 h5 => l08Better_any m a l cap ax x cx W hm.symm (hm ▸ ok) h1 h2 h3 h4 h5
    have RR := Lib.hid R1
    have NN : Hid (IntRow Wa an (ni o)) := (show IntRow Wa an (ni o) from hni ▸ N1)
    have HOD : Hid (Rv.Od m o) := (show Rv.Od m o from hm ▸ hod)
    have hol := HOD.out.len
    have XA := Lib.hid xa
    have BA := Lib.hid hba
    have hnm : ns.length = m := by omega
    have HEL : Hid ((imR (m : Int) l ns) = ni (Rv.imp (bt l) o)) := by show _ = _; rw [hm]; exact HE.out
    rw [← hm] at HWa HO HOK c0 c1 XA ⊢
    rw [hnm] at HOK ⊢
    obtain ⟨bn, offn, rfl, hbn, _⟩ := ord_at NN.out (show 0 < o.length by omega)
    have hcells : Hid (∀ W, Below Wa.heap.size Wa W → ∀ j, j < m → W.cell? ⟨bn, offn + j, none⟩ = some (iv ((ni o).getD j 0))) := fun W hW j hj => by
      obtain ⟨b2, off2, he, hb2, hc2⟩ := ord_at NN.out (show j < o.length by omega)
      obtain ⟨rfl, rfl⟩ : bn = b2 ∧ offn = off2 := by simpa using he
      rw [ni_at (show j < o.length by omega)]
      exact (hW.cell (p := ⟨bn, offn + j, none⟩) hb2).trans hc2
    clear hl hn hrow hrn hWa hcn hcm hok R1 N1 ok hp hod hni ho HE hba xa hnl NN hbn hm
    go_enter Try.func57, Try.ntmps57
    go_wp2_with fail
    rw [← HWa.out]
    refine HOK.out.mono ?_
    rintro e w1 ⟨rfl, hb1⟩
    rw [HO.out]
    clear c0 c1
    have BB1 := Lib.hid (BA.out.trans (hb1.mono BA.out.size))
    have HB1 := Lib.hid hb1
    clear hb1
    have O1 := Lib.hid (own_empty w1 Wa.heap.size w1.heap.size HB1.out.size rfl)
    have B2 := Lib.hid (HB1.out.alloc HB1.out.size (.cells #[] 3))
    have HC1 : Hid (∀ j, j < m → (w1.alloc (.cells #[] 3)).cell? ((⟨bn, offn, none⟩ : Addr).add j) = some (iv ((ni o).getD j 0))) := fun j hj => by rw [Addr.add_lit]; exact hcells.out _ B2.out j hj
    have HL1 : Hid ((ni o).length = m) := by show _ = _; rw [ni_len]; exact hol
    go_wp2_with (at_builtin; refine list_append_int _ rfl _ _ rfl Wa.heap.size w1.heap.size 0 0 [] rfl O1.out ⟨bn, offn, none⟩ m cn (ni o) rfl HL1.out HC1.out (by omega) B2.out.size m (by omega) ?_)
    intro g0 c0 w2 ho2 hg2 hb2
    have HOW : Hid (w2.ownsRow w.heap.size 3 1 (.slice (some ⟨g0, 0, none⟩) m c0) m ((ni o).map iv)) := (show World.ownsRow w2 Wa.heap.size _ _ _ _ _ from (by first | exact ho2 | simpa using ho2)).mono BA.out.size
    have hb5 : Below Wa.heap.size Wa w2 := B2.out.trans hb2
    clear ho2 hb2 hg2 O1 HC1 HL1 B2 HOK hcells
    go_wp2
    go_loopw [5] (fun v wr => ∃ x g c, v = .slice (some ⟨g, 0, none⟩) m c ∧ Hid (Rv.Od m x) ∧ Hid (Rv.imp (bt l) x = Rv.imp (bt l) o) ∧ Hid (wr.ownsRow w.heap.size 3 1 (.slice (some ⟨g, 0, none⟩) m c) m ((ni x).map iv)) ∧ Below Wa.heap.size Wa wr) (fun v wr => Rv.rv (bt l) (rdN v wr))
    case atStart => exact ⟨o, g0, c0, rfl, HOD, rfl, HOW, hb5⟩
    case round =>
      clear hb5 HOW
      obtain ⟨x, g, c, rfl, hod, him, how, hb⟩ := hrel
      have xr := XA.out.below hb XA.out.lt
      have d0 := xr.c0
      have d1 := xr.c1
      have hcap := own_cap how.out
      have HCC := Lib.hid (HC.out wr (some ⟨g, 0, none⟩) x c (RR.out.below hb (Nat.le_refl _)) hod.out (ord_own hod.out.len how.out) hcap.1 hcap.2)
      clear xr hcap
      go_wp2_with fail
      refine HCC.out.mono ?_
      clear HCC
      rintro e w3 ⟨⟨hbt, rfl⟩ | ⟨y, g2, c2, hbt, rfl, how2⟩, hb3⟩
      · have HF : Hid (w3.ownsRow w.heap.size 3 1 (.slice (some ⟨g, 0, none⟩) m c) m ((ni (Rv.imp (bt l) o)).map iv)) := by
          have e : Rv.imp (bt l) o = x := by rw [← him.out]; exact Rv.imp_none hbt
          show World.ownsRow _ _ _ _ _ _ _
          rw [e]; exact own_below how.out hb3
        have HL : Hid ((ni (Rv.imp (bt l) o)).length = m) := by show _ = _; rw [ni_len]; exact (Rv.imp_od (bt l) HOD.out).len
        have HB : Hid (Below w.heap.size w w3) := BA.out.trans ((hb.trans (hb3.mono hb.size)).mono BA.out.size)
        clear hbt hb hb3 him how d0 d1
        go_wp2
        go_ret
        rw [HEL.out, HL.out]
        exact ⟨⟨some ⟨g, 0, none⟩, c, rfl, HF.out⟩, HB.out⟩
      · have HY := Lib.hid (Rv.bet_od hod.out hbt)
        have HI : Hid (Rv.imp (bt l) y = Rv.imp (bt l) o) := by show _ = _; rw [← him.out]; exact (Rv.imp_some hbt).symm
        have HLT : Hid (Rv.rv (bt l) (rdN (.slice (some ⟨g2, 0, none⟩) m c2) w3) < Rv.rv (bt l) (rdN (.slice (some ⟨g, 0, none⟩) m c) wr)) := by
          show _ < _
          rw [rdN_own how2, rdN_own how.out]; exact Rv.bet_lt hbt
        have HOW2 : Hid (w3.ownsRow w.heap.size 3 1 (.slice (some ⟨g2, 0, none⟩) m c2) m ((ni y).map iv)) := how2.mono (by have := BA.out.size; have := hb.size; omega)
        have hb4 := hb.trans (hb3.mono hb.size)
        clear hbt hb hb3 him how how2 d0 d1
        go_wp2
        go_roundw
        case rel => exact ⟨y, g2, c2, rfl, HY, HI, HOW2, hb4⟩
        case measure => exact HLT.out

end Go.Proofs.Yteegbkbphfmooaa
