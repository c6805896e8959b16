/-
  'StraightenBy' of the program. No conditions but the bounds that Go gives a slice.
-/
import Derived.Test.YteegbkbphfmooaaQp
import Derived.Test.YteegbkbphfmooaaQi
namespace Go.Proofs.Yteegbkbphfmooaa
open Go.ChangeShapes Go.WideShapes Go.ChangeAt Go.RowKit Go.Sort
set_option linter.unusedVariables false

set_option maxHeartbeats 400000 in
theorem addWin_grq (B g m cap i j : Nat) (ys : List Nat) (w : World) (hm : m ≤ 64) (hi : i < m) (hj : j ≤ 8) (hy : ∀ y ∈ ys, y < 256) (hB : B ≤ w.heap.size)
    (hown : w.ownsRow B 3 1 (.slice (some ⟨g, 0, none⟩) m cap) m (ys.map nv)) :
    Calls Try.prog 86 #[.agg #[.int .i64 m, .slice (some ⟨g, 0, none⟩) m cap], .int .i64 i, .int .i64 j] w fun e w' => (∃ v, e = .returned v) ∧ w'.ownsRow B 3 1 (.slice (some ⟨g, 0, none⟩) m cap) m ((ys.set i (ys.getD i 0 ||| 2 ^ j)).map nv) ∧ w.grownBy w' (some g) := by
  have hlen : ys.length = m := by simpa using hown.1
  have hgB := (hown.lt g rfl).1
  have hgl := (hown.lt g rfl).2
  have hown1 := hown.alloc (.cells #[.int .i64 m, .slice (some ⟨g, 0, none⟩) m cap] 25)
  obtain ⟨y, hyy⟩ : ∃ y, y = ys.getD i 0 := ⟨_, rfl⟩
  have hy256 : y < 256 := by rw [hyy, List.getD_eq_getElem?_getD, List.getElem?_eq_getElem (by omega)]; exact hy _ (List.getElem_mem _)
  have hc := hown1.cellAt i (by omega)
  rw [List.getElem?_map, show ys[i]? = some y by rw [hyy, List.getD_eq_getElem?_getD, List.getElem?_eq_getElem (by omega)]; rfl] at hc
  have hc' : (w.alloc (.cells #[.int .i64 (m : Int), .slice (some ⟨g, 0, none⟩) m cap] 25)).cell? ⟨g, i, none⟩ = some (.int .i64 (y : Int)) := hc
  have hf := hown1.frozenAt i
  have hp8 := pow_le j hj
  have hor : bits .or .i64 (y : Int) (wrap64 (2 ^ j)) = ((y ||| 2 ^ j : Nat) : Int) := by rw [wrapPow j hj]; exact i64_or _ _ (by omega) (by omega)
  have hst := (hown.stored i (nv (y ||| 2 ^ j))).1
  have hgr0 := (hown.stored i (nv (y ||| 2 ^ j))).2
  rw [show ((ys.map nv).set i (nv (y ||| 2 ^ j))) = (ys.set i (ys.getD i 0 ||| 2 ^ j)).map nv by rw [← hyy, List.map_set]] at hst
  obtain ⟨z, hz⟩ : ∃ z : Int, z = ((y ||| 2 ^ j : Nat) : Int) := ⟨_, rfl⟩
  have hst2 : (w.setCell ⟨g, i, none⟩ (.int .i64 z)).ownsRow B 3 1 (.slice (some ⟨g, 0, none⟩) m cap) m ((ys.set i (ys.getD i 0 ||| 2 ^ j)).map nv) := by rw [hz]; exact hst
  rw [← hz] at hor
  have hgr : w.grownBy (w.setCell ⟨g, i, none⟩ (.int .i64 z)) (some g) := by rw [hz]; exact hgr0
  have HG := Lib.hid hgr
  have HS := Lib.hid hst2
  have him : (i : Int) < (m : Int) := by omega
  clear hst hst2 hc hown hown1 hy hyy hz hgr hgr0
  go_enter Try.func86, Try.ntmps86
  go_wp2
  go_region
  all_goals
    go_wp2
    go_end0
    exact ⟨⟨_, rfl⟩, (HS.out.alloc (.cells #[.int .i64 m, .slice (some ⟨g, 0, none⟩) m cap] 25)).drew, (HG.out.trans (World.grownBy_alloc _ (.cells #[.int .i64 m, .slice (some ⟨g, 0, none⟩) m cap] 25) _)).trans ⟨rfl, rfl, rfl, Nat.le_refl _, fun _ _ _ => rfl⟩⟩

noncomputable def stR (n : Int) (l ns : List Int) : List Int := if renB n l ns then (strN (tn ns) l.length).map Int.ofNat else []
noncomputable def stN (n : Int) (l ns : List Int) : Int := if renB n l ns then n else 0
theorem stR_le (n : Int) (l ns : List Int) : (stR n l ns).length ≤ 8 := by
  unfold stR
  cases h : renB n l ns
  · simp
  · obtain ⟨ok, rfl, _, _, hod, _⟩ := ren_parts h
    simp only [if_true, List.length_map, strN_len]
    have := ok.2.1; omega

set_option maxRecDepth 100000 in
set_option maxHeartbeats 4000000 in
theorem implStraightenBy (n : Int) (a : Option Addr) (l : List Int) (cap : Nat) (an : Option Addr) (ns : List Int) (cn : Nat) (w : World) (hrow : IntRow w a l) (hl : l.length ≤ maxLen) (hrn : IntRow w an ns) (hn : ns.length ≤ maxLen) (hcn : ns.length ≤ cn) (hcm : cn ≤ maxLen) :
    Calls Try.prog 32 #[.agg #[.int .i64 n, .slice a l.length cap], .slice an ns.length cn] w fun e w' => (∃ a0 c0, e = .returned (.tuple #[.agg #[.int .i64 (stN n l ns), .slice a0 (stR n l ns).length c0], .bool (renB n l ns)]) ∧ w'.ownsRow w.heap.size 3 1 (.slice a0 (stR n l ns).length c0) (stR n l ns).length ((stR n l ns).map iv)) ∧ Below w.heap.size w w' := by
  obtain ⟨Wb, hWb⟩ : ∃ Wb, Wb = w.alloc (.cells #[.int .i64 n, .slice a l.length cap] 25) := ⟨_, rfl⟩
  obtain ⟨Wa, hWa⟩ : ∃ Wa, Wa = Wb.alloc (.cells #[.int .i64 0, .slice none 0 0] 25) := ⟨_, rfl⟩
  have sb : Wb.heap.size = w.heap.size + 1 := by rw [hWb]; simp
  have sa : Wa.heap.size = w.heap.size + 1 + 1 := by rw [hWa]; simp [sb]
  have hbb : Below w.heap.size w Wb := by rw [hWb]; exact Below.one _ _
  have hba : Below w.heap.size w Wa := by rw [hWa]; exact hbb.alloc hbb.size _
  have xt : Box Wa w.heap.size 25 (.int .i64 n) (.slice a l.length cap) := by
    rw [hWa]; exact (show Box Wb w.heap.size 25 (.int .i64 n) (.slice a l.length cap) by rw [hWb]; exact Box.new _ _ _ _).more _
  have xr : Box Wa (w.heap.size + 1) 25 (.int .i64 0) (.slice none 0 0) := by rw [hWa, ← sb]; exact Box.new _ _ _ _
  have HWa : Hid (Wa = (w.alloc (.cells #[.int .i64 n, .slice a l.length cap] 25)).alloc (.cells #[.int .i64 0, .slice none 0 0] 25)) := by rw [hWa, hWb]; exact rfl
  have hrowa : IntRow Wa a l := hrow.below hba (Nat.le_refl _)
  have hrna : IntRow Wa an ns := hrn.below hba (Nat.le_refl _)
  have HOK := Lib.hid (implOrderOk n a l cap an ns cn Wa hrowa hl hrna hn hcn hcm)
  have c0 := xt.c0
  have c1 := xt.c1
  rw [HWa.out] at c0 c1
  have HCN := Lib.hid hcn
  have HCM := Lib.hid hcm
  clear hl hrow hrn hWa hWb hbb hn hcn hcm sb
  cases hok : renB n l ns
  · have HO := Lib.hid hok
    have HE0 : Hid (stN n l ns = 0) := by show _ = _; unfold stN; rw [hok]; rfl
    have HE1 : Hid (stR n l ns = []) := by show _ = _; unfold stR; rw [hok]; rfl
    clear hok
    go_enter Try.func32, Try.ntmps32
    go_wp2_with fail
    rw [← HWa.out]
    refine HOK.out.mono ?_
    rintro e w1 ⟨rfl, hb1⟩
    rw [HO.out]
    have B1 := hba.trans (hb1.mono hba.size)
    have xr1 := xr.below hb1 xr.lt
    clear c0 c1
    have c0 := xr1.c0
    have c1 := xr1.c1
    have f0 := xr1.f0
    have f1 := xr1.f1
    have X := Lib.hid xr1
    have BB := Lib.hid (B1)
    clear xr1
    go_wp2
    refine bodyPost_ret (v := .tuple #[.agg #[.int .i64 0, .slice none 0 0], .bool false]) (Box.res2 rfl _ rfl rfl ((X.out.set0 _).set1 _)) rfl ?_
    refine ⟨⟨none, 0, ?_, ?_⟩, ?_⟩
    · rw [HE0.out, HE1.out]; rfl
    · rw [HE1.out]; exact World.ownsRow_nil _ _ _ _
    · exact (BB.out.setCell (p := ⟨w.heap.size + 1, 0, none⟩) (Nat.le_succ _) _).setCell (p := ⟨w.heap.size + 1, 1, none⟩) (Nat.le_succ _) _
  have HO := Lib.hid hok
  obtain ⟨hk, rfl, _, hnsl, hod, hni⟩ := ren_parts hok
  obtain ⟨o, ho⟩ : ∃ o, o = tn ns := ⟨_, rfl⟩
  have HE0 : Hid (stN (l.length : Int) l ns = (l.length : Int)) := by show _ = _; unfold stN; rw [hok]; rfl
  have HE1 : Hid (stR (l.length : Int) l ns = (strN o l.length).map Int.ofNat) := by show _ = _; unfold stR; rw [hok, ho]; rfl
  have hcn2 : l.length ≤ cn := by have := HCN.out; omega
  rw [← ho] at hod hni
  have h8 : l.length ≤ 8 := by have := hk.2.1; omega
  have RN : Hid (IntRow Wa an (ni o)) := (show IntRow Wa an (ni o) from hni ▸ hrna)
  have HOD := Lib.hid hod
  have hol := hod.len
  have h1m : 1 ≤ l.length := by have := hk.1; omega
  rw [hnsl] at HOK ⊢
  obtain ⟨m, hm⟩ : ∃ m, m = l.length := ⟨_, rfl⟩
  have HMM := Lib.hid hm
  rw [← hm] at hcn2 HOD hol h8 h1m HOK HO HWa xt c0 c1 HE0 HE1 ⊢
  obtain ⟨bn, offn, rfl, hbn, _⟩ := ord_at RN.out (show 0 < o.length by omega)
  clear hok hk hod hni ho hnsl hm hrna HCN
  go_enter Try.func32, Try.ntmps32
  go_wp2_with fail
  rw [← HWa.out]
  refine HOK.out.mono ?_
  rintro e w1 ⟨rfl, hb1⟩
  rw [HO.out]
  have B1 := hba.trans (hb1.mono hba.size)
  have xr1 := xr.below hb1 xr.lt
  have xt1 := xt.below hb1 xt.lt
  have N1 := Lib.hid (RN.out.below hb1 (Nat.le_refl _))
  clear c0 c1
  have c0 := xt1.c0
  go_wp2_with fail
  refine (newTour_any m w1 (by omega)).mono ?_
  rintro e w2 ⟨⟨g, rfl, ho2⟩, hb2⟩
  obtain ⟨W3, hW3⟩ : ∃ W3, W3 = w2.alloc (.cells #[.int .i64 (m : Int), .slice (some ⟨g, 0, none⟩) m m] 25) := ⟨_, rfl⟩
  have HW3 := Lib.hid hW3
  have hb3 : Below w2.heap.size w2 W3 := by rw [hW3]; exact Below.one _ _
  have xs : Box W3 w2.heap.size 25 (.int .i64 (m : Int)) (.slice (some ⟨g, 0, none⟩) m m) := by rw [hW3]; exact Box.new _ _ _ _
  have hg := ho2.lt g rfl
  have ho3 : Hid (W3.ownsRow w1.heap.size 3 1 (.slice (some ⟨g, 0, none⟩) m m) m ((List.replicate m 0).map nv)) := own_below ho2 hb3
  have B13 : Hid (Below w1.heap.size w1 W3) := hb2.trans (hb3.mono hb2.size)
  have XS := Lib.hid xs
  have XR := Lib.hid xr1
  have BB1 := Lib.hid B1
  have hxr := xr1.lt
  have s23 := hb3.size
  clear hW3 hb3 xs ho2 hb2 xr1 xt1 B1 hb1 xr xt hba hrowa c0 HOK
  go_wp2
  rw [← HW3.out]
  go_loopw [21] (fun i wr => ∃ (k : Nat) (ys : List Nat), k ≤ m ∧ i = .int .i64 (k : Int) ∧ Hid (Pi o m k 0 ys) ∧ Hid (wr.ownsRow w1.heap.size 3 1 (.slice (some ⟨g, 0, none⟩) m m) m (ys.map nv)) ∧ Hid (W3.grownBy wr (some g)) ∧ Below w1.heap.size w1 wr) (fun i _ => m - (intOf i).toNat)
  case atStart => exact ⟨0, _, Nat.zero_le _, rfl, Pi.zero o m, ho3, ⟨rfl, rfl, rfl, Nat.le_refl _, fun _ _ _ => rfl⟩, B13.out⟩
  case round =>
    obtain ⟨k, ys, hk, rfl, hpi, how, hgr, hb⟩ := hrel
    by_cases hlt : k < m
    · have hko : k < o.length := by omega
      obtain ⟨b2, off2, he2, hbn2, hcx⟩ := ord_at N1.out hko
      obtain ⟨rfl, rfl⟩ : bn = b2 ∧ offn = off2 := by simpa using he2
      have hcnr := (hb.cell (p := ⟨bn, offn + k, none⟩) hbn2).trans hcx
      obtain ⟨x, hx⟩ : ∃ x, x = o.getD k 0 := ⟨_, rfl⟩
      have hxm : x < m := by rw [hx]; exact HOD.out.at hlt
      rw [← hx] at hcnr
      obtain ⟨ad, had, hsl⟩ := slice_rest1 bn offn m cn k (by omega) hcn2 HCM.out
      have HAD := Lib.hid had
      have HX := Lib.hid hx
      have hki : (k : Int) < (m : Int) := by omega
      have hb2 := hb
      have HPI := hpi
      have HOW := how
      have HGR := hgr
      clear hcx hx had hb hpi how hgr
      go_wp2
      go_loopw [31] (fun j wr => ∃ (r : Nat) (ys : List Nat), r ≤ m - (k + 1) ∧ j = .int .i64 (r : Int) ∧ Hid (Pi o m k r ys) ∧ Hid (wr.ownsRow w1.heap.size 3 1 (.slice (some ⟨g, 0, none⟩) m m) m (ys.map nv)) ∧ Hid (W3.grownBy wr (some g)) ∧ Below w1.heap.size w1 wr) (fun j _ => m - (k + 1) - (intOf j).toNat)
      case atStart => exact ⟨0, ys, Nat.zero_le _, rfl, HPI, HOW, HGR, hb2⟩
      case round =>
        clear hb2 HPI HOW HGR hcnr
        obtain ⟨r, ys, hr, rfl, hpi, how, hgr, hb⟩ := hrel
        by_cases hlt2 : r < m - (k + 1)
        · obtain rfl := HAD.out (by omega)
          have hjo : k + 1 + r < o.length := by omega
          obtain ⟨b2, off2, he2, hbn2, hcx⟩ := ord_at N1.out hjo
          obtain ⟨rfl, rfl⟩ : bn = b2 ∧ offn = off2 := by simpa using he2
          rw [show offn + (k + 1 + r) = offn + (k + 1) + r by omega] at hcx
          have hcyr := (hb.cell (p := ⟨bn, offn + (k + 1) + r, none⟩) hbn2).trans hcx
          obtain ⟨y, hy⟩ : ∃ y, y = o.getD (k + 1 + r) 0 := ⟨_, rfl⟩
          have hym : y < m := by rw [hy]; exact HOD.out.at (by omega)
          rw [← hy] at hcyr
          have xsr := XS.out.grown hgr.out (by simp; omega)
          have c0 := xsr.c0
          have c1 := xsr.c1
          have hBw : w1.heap.size ≤ wr.heap.size := hb.size
          have HC := Lib.hid (addWin_grq w1.heap.size g m m x y ys wr (by omega) hxm (by omega) hpi.out.lt hBw how.out)
          have hri : (r : Int) < ((m - (k + 1) : Nat) : Int) := by omega
          have HN : Hid (Pi o m k (r + 1) (ys.set x (ys.getD x 0 ||| 2 ^ y))) := by
            have := hpi.out.step HOD.out h8 hlt (show k + 1 + r < m by omega)
            rw [← HX.out, ← hy] at this
            exact this
          have HGR := hgr
          clear hcx hy xsr hpi how hgr
          go_wp2_with fail
          refine HC.out.mono ?_
          rintro e w5 ⟨⟨v, rfl⟩, ho5, hg5⟩
          have HO5 := Lib.hid ho5
          have HG5 := Lib.hid (HGR.out.trans hg5)
          have hb5 : Below w1.heap.size w1 w5 := hb.grown hg5 hBw (fun k hk => by cases hk; exact hg.1)
          clear ho5 hg5 hb c0 c1
          go_wp2
          go_roundw
          case rel => exact ⟨r + 1, _, by omega, by go_num, HN, HO5, HG5, hb5⟩
          case measure => simp [intOf]; omega
        · obtain rfl : r = m - (k + 1) := by omega
          have HN : Hid (Pi o m (k + 1) 0 ys) := hpi.out.next (by omega)
          clear hpi
          go_wp2
          go_roundw
          case rel => exact ⟨k + 1, ys, by omega, by go_num, HN, how, hgr, hb⟩
          case measure => simp [intOf]; omega
    · obtain rfl : k = m := by omega
      have hys : ys = strN o k := hpi.out.done HOD.out
      subst hys
      have xsr := XS.out.grown hgr.out (by simp; omega)
      have xrr := XR.out.below hb XR.out.lt
      have c0 := xsr.c0
      have c1 := xsr.c1
      have d0 := xrr.c0
      have d1 := xrr.c1
      have d2 := xrr.f0
      have d3 := xrr.f1
      have XF := Lib.hid xrr
      have BF := Lib.hid (BB1.out.trans (hb.mono BB1.out.size))
      have HOW := how
      have hs1 := BB1.out.size
      clear xsr xrr hb how hgr hpi
      go_wp2
      have hlen : ((strN o k).map Int.ofNat).length = k := by simp [strN_len]
      refine bodyPost_ret (v := .tuple #[.agg #[.int .i64 (k : Int), .slice (some ⟨g, 0, none⟩) k k], .bool true]) (Box.res2 rfl _ rfl rfl ((XF.out.set0 _).set1 _)) rfl ?_
      refine ⟨⟨some ⟨g, 0, none⟩, k, ?_, ?_⟩, ?_⟩
      · rw [HE0.out, HE1.out, hlen]
      · rw [HE1.out, hlen, ← nv_iv]
        exact (own_set (own_set HOW.out ⟨w.heap.size + 1, 0, none⟩ _ hxr) ⟨w.heap.size + 1, 1, none⟩ _ hxr).mono hs1
      · exact (BF.out.setCell (p := ⟨w.heap.size + 1, 0, none⟩) (Nat.le_succ _) _).setCell (p := ⟨w.heap.size + 1, 1, none⟩) (Nat.le_succ _) _
end Go.Proofs.Yteegbkbphfmooaa
