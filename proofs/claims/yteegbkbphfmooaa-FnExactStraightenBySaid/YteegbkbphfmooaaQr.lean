/-
  'StraightenBy' of the model. No conditions but the bounds that Go gives a slice.
-/
import Derived.Test.YteegbkbphfmooaaQq
import Derived.Test.YteegbkbphfmooaaI
namespace Go.Proofs.Yteegbkbphfmooaa
open Go.ChangeShapes Go.WideShapes Go.ChangeAt Go.RowKit Go.Sort
set_option linter.unusedVariables false

theorem grownBy_setCell'q (w : World) (p : Addr) (u : Value) : w.grownBy (w.setCell p u) (some p.block) := ⟨rfl, rfl, rfl, by simp [World.setCell], fun k hk hn => heap_setCell_other w p k u (fun e => hn (by rw [e]))⟩
theorem OwnSS.atq {W : World} {B : Nat} {a : Option Addr} {c : Nat} {gs : List (Nat × Nat)} {Ls : List (List Int)} (h : OwnSS W B a c gs Ls) (i j : Nat) (hi : i < Ls.length) (hj : j < (Ls.getD i []).length) : W.cell? ⟨(gs.getD i (0, 0)).1, j, none⟩ = some (.int .i64 ((Ls.getD i []).getD j 0)) := by
  obtain ⟨b, off, e, _, hc⟩ := (h.row i hi).at hj
  simp only [Option.some.injEq, Addr.mk.injEq, and_true] at e
  obtain ⟨rfl, rfl⟩ := e
  rw [Nat.zero_add] at hc; exact hc
set_option maxRecDepth 100000 in
set_option maxHeartbeats 4000000 in
theorem l08Copy_any (m : Nat) (a : Option Addr) (l : List Int) (cap : Nat) (w : World) (hm : l.length = m) (h1 : 1 ≤ m) (h8 : m ≤ 8) (hrow : IntRow w a l) :
    Calls Try.prog 104 #[.agg #[.int .i64 (m : Int), .slice a m cap]] w fun e w' => (∃ g c, e = .returned (.agg #[.int .i64 (m : Int), .slice (some ⟨g, 0, none⟩) m c]) ∧ w'.ownsRow w.heap.size 3 1 (.slice (some ⟨g, 0, none⟩) m c) m (l.map iv)) ∧ Below w.heap.size w w' := by
  obtain ⟨ca, rfl⟩ : ∃ ca, a = some ca := by
    rcases hrow with h | ⟨b, off, h, _⟩
    · exfalso; rw [h] at hm; simp at hm; omega
    · exact ⟨_, h⟩
  have hr3 : IntRow (((w.alloc (.cells #[.int .i64 (m : Int), .slice (some ca) m cap] 25)).alloc (.cells #[.int .i64 0, .slice none 0 0] 25)).alloc (.cells #[] 3)) (some ca) l := ((hrow.more _).more _).more _
  have z2 : ((w.alloc (.cells #[.int .i64 (m : Int), .slice (some ca) m cap] 25)).alloc (.cells #[.int .i64 0, .slice none 0 0] 25)).heap.size = w.heap.size + 1 + 1 := by simp
  have b3 : Below w.heap.size w (((w.alloc (.cells #[.int .i64 (m : Int), .slice (some ca) m cap] 25)).alloc (.cells #[.int .i64 0, .slice none 0 0] 25)).alloc (.cells #[] 3)) := ((Below.one w _).alloc (Below.one w _).size _).alloc ((Below.one w _).alloc (Below.one w _).size _).size _
  have OB := Lib.hid (own_empty ((w.alloc (.cells #[.int .i64 (m : Int), .slice (some ca) m cap] 25)).alloc (.cells #[.int .i64 0, .slice none 0 0] 25)) (w.heap.size + 1 + 1) (w.heap.size + 1 + 1) (by rw [z2]; exact Nat.le_refl _) z2).drew
  have HC : Hid (∀ j, j < m → (((w.alloc (.cells #[.int .i64 (m : Int), .slice (some ca) m cap] 25)).alloc (.cells #[.int .i64 0, .slice none 0 0] 25)).alloc (.cells #[] 3)).drew.cell? (ca.add j) = some (iv (l.getD j 0))) := fun j hj => by
    obtain ⟨b, off, e, _, hc⟩ := hr3.at (show j < l.length by omega)
    obtain rfl := Option.some.inj e
    rw [Addr.add_lit]; exact hc
  have x1 : Box (((w.alloc (.cells #[.int .i64 (m : Int), .slice (some ca) m cap] 25)).alloc (.cells #[.int .i64 0, .slice none 0 0] 25)).alloc (.cells #[] 3)) w.heap.size 25 (.int .i64 (m : Int)) (.slice (some ca) m cap) := ((Box.new w 25 _ _).more _).more _
  have x2 : Box (((w.alloc (.cells #[.int .i64 (m : Int), .slice (some ca) m cap] 25)).alloc (.cells #[.int .i64 0, .slice none 0 0] 25)).alloc (.cells #[] 3)) (w.heap.size + 1) 25 (.int .i64 0) (.slice none 0 0) := by
    have := (Box.new (w.alloc (.cells #[.int .i64 (m : Int), .slice (some ca) m cap] 25)) 25 (.int .i64 0) (.slice none 0 0)).more (.cells #[] 3)
    simpa using this
  have z3 : w.heap.size + 1 + 1 ≤ (((w.alloc (.cells #[.int .i64 (m : Int), .slice (some ca) m cap] 25)).alloc (.cells #[.int .i64 0, .slice none 0 0] 25)).alloc (.cells #[] 3)).heap.size := by simp
  have X1 := Lib.hid x1.drew
  have X2 := Lib.hid x2.drew
  have HM := Lib.hid hm
  have B3 := Lib.hid b3.drew
  have Z3 := Lib.hid z3
  clear hr3 b3 x1 x2 hrow hm z3
  go_enter Try.func104, Try.ntmps104
  go_wp2
  go_region_law (first
    | (refine step_append_int _ (by rfl) (.tmp 5) (.tmp 7) rfl (w.heap.size + 1 + 1) (w.heap.size + 1 + 1) 0 0 [] rfl OB.out ca m cap l rfl HM.out HC.out (by omega) Z3.out m (by omega) ?_
       intro g c w1 hown hg hb1
       have y1 := X1.out.below (B := w.heap.size + 1 + 1) hb1 (by omega)
       have y2 := X2.out.below (B := w.heap.size + 1 + 1) hb1 (by omega)
       have a0 := y1.c0
       have a1 := y1.c1
       have e0 := y2.c0
       have e1 := y2.c1
       have e2 := y2.f0
       have e3 := y2.f1
       have Y2 := Lib.hid y2
       have O1 := Lib.hid hown
       have BB := Lib.hid (B3.out.trans (hb1.mono (by omega)))
       clear hown hg hb1 y1 y2))
  all_goals
    go_wp2
    refine bodyPost_ret (v := .agg #[.int .i64 (m : Int), .slice (some ⟨g, 0, none⟩) m c]) (Box.res1 rfl _ rfl ((Y2.out.set0 _).set1 _)) rfl ⟨⟨g, c, rfl, ?_⟩, ?_⟩
    · have o1 : w1.ownsRow (w.heap.size + 1 + 1) 3 1 (.slice (some ⟨g, 0, none⟩) m c) m (l.map iv) := O1.out
      exact (own_set (own_set o1 ⟨w.heap.size + 1, 0, none⟩ _ (by show w.heap.size + 1 < w.heap.size + 1 + 1; omega)) ⟨w.heap.size + 1, 1, none⟩ _ (by show w.heap.size + 1 < w.heap.size + 1 + 1; omega)).mono (by omega)
    · exact (BB.out.setCell (p := ⟨w.heap.size + 1, 0, none⟩) (Nat.le_succ _) _).setCell (p := ⟨w.heap.size + 1, 1, none⟩) (Nat.le_succ _) _

set_option maxRecDepth 100000 in
set_option maxHeartbeats 4000000 in
theorem specStraightenBy (n : Int) (a : Option Addr) (l : List Int) (cap : Nat) (an : Option Addr) (ns : List Int) (cn : Nat) (w : World) (hrow : IntRow w a l) (hl : l.length ≤ maxLen) (hrn : IntRow w an ns) (hn : ns.length ≤ maxLen) (hcn : ns.length ≤ cn) (hcm : cn ≤ maxLen) :
    Calls Try.prog 63 #[.agg #[.int .i64 n, .slice a l.length cap], .slice an ns.length cn] w fun e w' => (∃ a0 c0, e = .returned (.tuple #[.agg #[.int .i64 (stN n l ns), .slice a0 (stR n l ns).length c0], .bool (renB n l ns)]) ∧ w'.ownsRow w.heap.size 3 1 (.slice a0 (stR n l ns).length c0) (stR n l ns).length ((stR n l ns).map iv)) ∧ Below w.heap.size w w' := by
  obtain ⟨Wb, hWb⟩ : ∃ Wb, Wb = w.alloc (.cells #[.int .i64 n, .slice a l.length cap] 25) := ⟨_, rfl⟩
  obtain ⟨Wa, hWa⟩ : ∃ Wa, Wa = Wb.alloc (.cells #[.int .i64 0, .slice none 0 0] 25) := ⟨_, rfl⟩
  have sb : Wb.heap.size = w.heap.size + 1 := by rw [hWb]; simp
  have sa : Wa.heap.size = w.heap.size + 1 + 1 := by rw [hWa]; simp [sb]
  have hbb : Below w.heap.size w Wb := by rw [hWb]; exact Below.one _ _
  have hba : Below w.heap.size w Wa := by rw [hWa]; exact hbb.alloc hbb.size _
  have xt : Box Wa w.heap.size 25 (.int .i64 n) (.slice a l.length cap) := by
    rw [hWa]; exact (show Box Wb w.heap.size 25 (.int .i64 n) (.slice a l.length cap) by rw [hWb]; exact Box.new _ _ _ _).more _
  have xr : Box Wa (w.heap.size + 1) 25 (.int .i64 0) (.slice none 0 0) := by rw [hWa, ← sb]; exact Box.new _ _ _ _
  have HWa : Hid (Wa = (w.alloc (.cells #[.int .i64 n, .slice a l.length cap] 25)).alloc (.cells #[.int .i64 0, .slice none 0 0] 25)) := by rw [hWa, hWb]; exact rfl
  have hrowa : IntRow Wa a l := hrow.below hba (Nat.le_refl _)
  have hrna : IntRow Wa an ns := hrn.below hba (Nat.le_refl _)
  have HOK := Lib.hid (specOrderOk n a l cap an ns cn Wa hrowa hl hrna hn hcn hcm)
  have c0 := xt.c0
  have c1 := xt.c1
  rw [HWa.out] at c0 c1
  have HCN := Lib.hid hcn
  have HCM := Lib.hid hcm
  clear hl hrow hrn hWa hWb hbb hn hcn hcm sb
  cases hok : renB n l ns
  · have HO := Lib.hid hok
    have HE0 : Hid (stN n l ns = 0) := by show _ = _; unfold stN; rw [hok]; rfl
    have HE1 : Hid (stR n l ns = []) := by show _ = _; unfold stR; rw [hok]; rfl
    clear hok
    go_enter Try.func63, Try.ntmps63
    go_wp2_with fail
    rw [← HWa.out]
    refine HOK.out.mono ?_
    rintro e w1 ⟨rfl, hb1⟩
    rw [HO.out]
    have B1 := hba.trans (hb1.mono hba.size)
    have xr1 := xr.below hb1 xr.lt
    clear c0 c1
    have c0 := xr1.c0
    have c1 := xr1.c1
    have f0 := xr1.f0
    have f1 := xr1.f1
    have X := Lib.hid xr1
    have BB := Lib.hid (B1)
    clear xr1
    go_wp2
    refine bodyPost_ret (v := .tuple #[.agg #[.int .i64 0, .slice none 0 0], .bool false]) (Box.res2 rfl _ rfl rfl ((X.out.set0 _).set1 _)) rfl ?_
    refine ⟨⟨none, 0, ?_, ?_⟩, ?_⟩
    · rw [HE0.out, HE1.out]; rfl
    · rw [HE1.out]; exact World.ownsRow_nil _ _ _ _
    · exact (BB.out.setCell (p := ⟨w.heap.size + 1, 0, none⟩) (Nat.le_succ _) _).setCell (p := ⟨w.heap.size + 1, 1, none⟩) (Nat.le_succ _) _
  have HO := Lib.hid hok
  obtain ⟨hk, rfl, _, hnsl, hod, hni⟩ := ren_parts hok
  obtain ⟨o, ho⟩ : ∃ o, o = tn ns := ⟨_, rfl⟩
  have HE0 : Hid (stN (l.length : Int) l ns = (l.length : Int)) := by show _ = _; unfold stN; rw [hok]; rfl
  have HE1 : Hid (stR (l.length : Int) l ns = (strN o l.length).map Int.ofNat) := by show _ = _; unfold stR; rw [hok, ho]; rfl
  have hcn2 : l.length ≤ cn := by have := HCN.out; omega
  rw [← ho] at hod hni
  have h8 : l.length ≤ 8 := by have := hk.2.1; omega
  have RN : Hid (IntRow Wa an (ni o)) := (show IntRow Wa an (ni o) from hni ▸ hrna)
  have HOD := Lib.hid hod
  have hol := hod.len
  have h1m : 1 ≤ l.length := by have := hk.1; omega
  rw [hnsl] at HOK ⊢
  obtain ⟨m, hm⟩ : ∃ m, m = l.length := ⟨_, rfl⟩
  have HMM := Lib.hid hm
  rw [← hm] at hcn2 HOD hol h8 h1m HOK HO HWa xt c0 c1 HE0 HE1 ⊢
  obtain ⟨bn, offn, rfl, hbn, _⟩ := ord_at RN.out (show 0 < o.length by omega)
  clear hok hk hod hni ho hnsl hm hrna HCN
  have HMK : Hid (Ok m l) := (show Ok m l from (by rw [HMM.out]; exact okB_iff.1 (by have h := HO.out; unfold renB at h; rw [Bool.and_eq_true] at h; rw [← HMM.out]; exact h.1)))
  have RA := Lib.hid hrowa
  have HL := HMM.out.symm
  obtain ⟨L, hL⟩ : ∃ L, L = bkA l o m := ⟨_, rfl⟩
  have HLR : Hid (∀ r ∈ L, BkRow l o r) := fun r hr => by rw [hL, HMM.out] at hr; exact bkA_rows (Nat.le_refl _) hr
  have HALL : Hid (fl l L = (strN o m).map Int.ofNat) := by
    show _ = _
    have := fl_all (l := l) (o := o) (by have := HMK.out; rw [HMM.out] at this; exact this) (by have := HOD.out; rw [HMM.out] at this; exact this)
    rw [hL, HMM.out]; exact this
  have HLL : L.length ≤ 64 := by
    have := bkA_len l o (by omega) m
    rw [hL]; omega
  have HBK : Hid (∀ (W : World) , IntRow W a l → IntRow W (some ⟨bn, offn, none⟩) (ni o) → Calls Try.prog 102 #[.agg #[.int .i64 (m : Int), .slice a m cap], .slice (some ⟨bn, offn, none⟩) m cn] W (RetSS W L)) := fun W h1 h2 => by
    have := l08Back_any m a l cap (some ⟨bn, offn, none⟩) o cn W HL HMK.out h1 HOD.out h2
    rw [← hL] at this; exact this
  clear hL
  go_enter Try.func63, Try.ntmps63
  go_wp2_with fail
  rw [← HWa.out]
  refine HOK.out.mono ?_
  rintro e w1 ⟨rfl, hb1⟩
  rw [HO.out]
  have B1 := hba.trans (hb1.mono hba.size)
  have xr1 := xr.below hb1 xr.lt
  have xt1 := xt.below hb1 xt.lt
  clear c0 c1
  have c0 := xt1.c0
  have c1 := xt1.c1
  have R1 := RA.out.below hb1 (Nat.le_refl _)
  have N1 := RN.out.below hb1 (Nat.le_refl _)
  go_wp2_with fail
  refine (HBK.out w1 R1 N1).mono ?_
  rintro e w2 ⟨⟨ao, co, gs, rfl, hss⟩, hb2⟩
  have XT2 := Lib.hid (xt1.below hb2 xt1.lt)
  have XR2 := Lib.hid (xr1.below hb2 xr1.lt)
  have R2 := R1.below hb2 (Nat.le_refl _)
  have HSS := Lib.hid hss
  have BB := Lib.hid (B1.trans (hb2.mono B1.size))
  have hws : w.heap.size + 1 < w1.heap.size := xr1.lt
  have hs2 := hb2.size
  have hw1 := B1.size
  clear hss hb1 hb2 B1 xr1 xt1 R1 N1 c0 c1 xr xt hba hrowa HOK HBK
  go_wp2
  go_loopw [17] (fun i wr => ∃ (j : Nat) (F : List Int) (ag : Option Addr) (cg : Nat), j ≤ L.length ∧ i = .int .i64 (j : Int) ∧ Hid (F = fl l (L.take j)) ∧ Hid (Box wr w.heap.size 25 (.int .i64 (m : Int)) (.slice ag m cg)) ∧ Hid (IntRow wr ag F) ∧ Hid (Box wr (w.heap.size + 1) 25 (.int .i64 0) (.slice none 0 0)) ∧ Hid (OwnSS wr w1.heap.size ao co gs L) ∧ Below w.heap.size w wr ∧ w2.heap.size ≤ wr.heap.size) (fun i _ => L.length - (intOf i).toNat)
  case atStart => exact ⟨0, l, a, cap, Nat.zero_le _, rfl, rfl, XT2.out, R2, XR2.out, HSS.out, BB.out, Nat.le_refl _⟩
  case round =>
    obtain ⟨j, F, ag, cg, hj, rfl, hF, hxt, hR, hxr, hS, hb, hsz⟩ := hrel
    have c0 := hxt.out.c0
    have c1 := hxt.out.c1
    by_cases hlt : j < L.length
    · have hmem : L.getD j [] ∈ L := by rw [List.getD_eq_getElem?_getD, List.getElem?_eq_getElem hlt]; exact List.getElem_mem _
      obtain ⟨p, q, hpq, hpl, hql, hbk⟩ := HLR.out _ hmem
      have hne := bk_ne hbk
      obtain ⟨go, rfl, hgo⟩ := hS.out.base (show 0 < L.length by omega)
      have hcj := hS.out.cell j hlt
      have hr0 := hS.out.atq j 0 hlt (by rw [hpq]; show 0 < 2; omega)
      have hr1 := hS.out.atq j 1 hlt (by rw [hpq]; show 1 < 2; omega)
      rw [hpq] at hcj hr0 hr1
      obtain ⟨gj, hgj⟩ : ∃ gj, gj = (gs.getD j (0, 0)).1 := ⟨_, rfl⟩
      obtain ⟨cj, hcj2⟩ : ∃ cj, cj = (gs.getD j (0, 0)).2 := ⟨_, rfl⟩
      rw [← hgj] at hcj hr0 hr1
      rw [← hcj2] at hcj
      have e0 : wr.cell? ⟨go, j, none⟩ = some (.slice (some ⟨gj, 0, none⟩) 2 cj) := hcj
      have e1 : wr.cell? ⟨gj, 0, none⟩ = some (.int .i64 (p : Int)) := hr0
      have e2 : wr.cell? ⟨gj, 1, none⟩ = some (.int .i64 (q : Int)) := hr1
      have hFl : F.length = m := by rw [hF.out, fl_len]; exact HL
      have hFo : Ok m F := by
        have h := HMK.out
        rw [HMM.out] at h ⊢
        rw [hF.out]
        exact fl_ok (o := o) h _ (fun r hr => HLR.out r (List.mem_of_mem_take hr))
      have hF2 : Hid (flipL F p q = fl l (L.take (j + 1))) := by
        show _ = _
        have : L.take (j + 1) = L.take j ++ [g2q p q] := take_snoc L j _ (by rw [← hpq, List.getD_eq_getElem?_getD, List.getElem?_eq_getElem hlt]; rfl)
        rw [this, fl_snoc, ← hF.out]
      obtain ⟨F2, hF2d⟩ : ∃ F2, F2 = flipL F p q := ⟨_, rfl⟩
      have hF2l : F2.length = m := by rw [hF2d, flipL_lenq]; exact hFl
      rw [← hF2d] at hF2
      have HFL : Hid (∀ (W : World), Below wr.heap.size wr W → Calls Try.prog 103 #[.agg #[.int .i64 (m : Int), .slice ag m cg], .int .i64 (p : Int), .int .i64 (q : Int)] W fun e w' => (∃ g c0, e = .returned (.agg #[.int .i64 (m : Int), .slice (some ⟨g, 0, none⟩) m c0]) ∧ w'.ownsRow W.heap.size 3 1 (.slice (some ⟨g, 0, none⟩) m c0) m (F2.map iv)) ∧ Below W.heap.size W w') := by
        intro W hW
        have := l02Flip_any m ag F cg p q W (hR.out.below hW (Nat.le_refl _)) hFo (by omega) (by omega) hne
        rw [hFl, ← hF2d] at this
        exact this
      have HBD := Lib.hid (Below.refl wr.heap.size wr).drew
      have HXT := hxt
      have HXR := hxr
      have HS := hS
      have HB := Lib.hid hb
      have hji : (j : Int) < (L.length : Int) := by omega
      have hj64 : L.length ≤ 9223372036854775807 := by omega
      clear hmem hpq hpl hql hbk hne hcj hr0 hr1 hgj hcj2 hFl hFo hF2d hF hR hxt hxr hS hb
      go_wp2
      go_region_with (first
        | (go_at_call 103
           refine (HFL.out _ HBD.out).mono ?_
           rintro e w3 ⟨⟨g, cz, rfl, how⟩, hb3⟩
           have hb4 := HBD.out.trans hb3
           have x3 := HXT.out.below hb4 HXT.out.lt
           have d0 := x3.c0
           have d1 := x3.c1
           have d2 := x3.f0
           have d3 := x3.f1
           have X3 := Lib.hid x3
           have HOW := Lib.hid how
           have B4 := Lib.hid hb4
           have hgw : wr.heap.size ≤ g := (how.lt g rfl).1
           clear how hb3 hb4 x3))
      all_goals
        obtain ⟨W', hW'⟩ : ∃ W', W' = (w3.setCell ⟨w.heap.size, 0, none⟩ (.int .i64 (m : Int))).setCell ⟨w.heap.size, 1, none⟩ (.slice (some ⟨g, 0, none⟩) m cz) := ⟨_, rfl⟩
        rw [← hW']
        have hxt' : Hid (Box W' w.heap.size 25 (.int .i64 (m : Int)) (.slice (some ⟨g, 0, none⟩) m cz)) := (show Box _ _ _ _ _ from (by rw [hW']; exact (X3.out.set0 _).set1 _))
        have hgn : g ≠ w.heap.size := by omega
        have hR' : Hid (IntRow W' (some ⟨g, 0, none⟩) F2) := (show IntRow _ _ _ from (by
          have o1 := own_other (own_other HOW.out ⟨w.heap.size, 0, none⟩ (.int .i64 (m : Int)) hgn) ⟨w.heap.size, 1, none⟩ (.slice (some ⟨g, 0, none⟩) m cz) hgn
          rw [← hW', ← hF2l] at o1
          exact IntRow.of_own o1))
        have hxr' : Hid (Box W' (w.heap.size + 1) 25 (.int .i64 0) (.slice none 0 0)) := (show Box _ _ _ _ _ from (by
          rw [hW']; exact ((HXR.out.below B4.out HXR.out.lt).other ⟨w.heap.size, 0, none⟩ _ (by simp)).other ⟨w.heap.size, 1, none⟩ _ (by simp)))
        have hS' : Hid (OwnSS W' w1.heap.size (some ⟨go, 0, none⟩) co gs L) := (show OwnSS _ _ _ _ _ _ from (by
          have h1 := HS.out.below B4.out
          have hbo : ∀ k, blk (some (⟨go, 0, none⟩ : Addr)) = some k → w1.heap.size ≤ k := fun k hk => (h1.blkO hk).1
          have hbi : ∀ i, i < L.length → w1.heap.size ≤ (gs.getD i (0, 0)).1 := fun i hi => (h1.blkI i hi).1
          have h2 := h1.aside (grownBy_setCell'q w3 ⟨w.heap.size, 0, none⟩ (.int .i64 (m : Int))) (fun k e => by
            cases e
            exact ⟨fun e2 => by have h9 : w1.heap.size ≤ w.heap.size := hbo _ e2; omega, fun i hi e2 => by have h8 := hbi i hi; have h9 : (gs.getD i (0, 0)).1 = w.heap.size := e2; omega⟩)
          have h3 := h2.aside (grownBy_setCell'q _ ⟨w.heap.size, 1, none⟩ (.slice (some ⟨g, 0, none⟩) m cz)) (fun k e => by
            cases e
            exact ⟨fun e2 => by have h9 : w1.heap.size ≤ w.heap.size := hbo _ e2; omega, fun i hi e2 => by have h8 := hbi i hi; have h9 : (gs.getD i (0, 0)).1 = w.heap.size := e2; omega⟩)
          rw [hW']; exact h3))
        have hb' : Below w.heap.size w W' := by
          have h1 := HB.out.trans (B4.out.mono HB.out.size)
          rw [hW']; exact (h1.setCell (p := ⟨w.heap.size, 0, none⟩) (Nat.le_refl _) _).setCell (p := ⟨w.heap.size, 1, none⟩) (Nat.le_refl _) _
        have hsz' : w2.heap.size ≤ W'.heap.size := by
          have h1 := B4.out.size
          have h2 : W'.heap.size = w3.heap.size := by rw [hW']; simp [World.setCell]
          omega
        clear hW' d0 d1 d2 d3 c0 c1 e0 e1 e2 HB HS HXR HXT X3 HOW
        go_wp2
        go_roundw
        case rel => exact ⟨j + 1, F2, _, _, by omega, by go_num, hF2, hxt', hR', hxr', hS', hb', hsz'⟩
        case measure => simp [intOf]; omega
    · obtain rfl : j = L.length := by omega
      have hFF : F = (strN o m).map Int.ofNat := by
        rw [hF.out, List.take_of_length_le (Nat.le_refl _)]; exact HALL.out
      have hFl : F.length = m := by rw [hFF]; simp [strN_len]
      have HC := Lib.hid (l08Copy_any m ag F cg wr hFl h1m h8 hR.out)
      have HFF := Lib.hid hFF
      have HXR := hxr
      have HB := Lib.hid hb
      clear hFF hF hxt hR hS hb hxr hFl
      go_wp2_with fail
      refine HC.out.mono ?_
      rintro e w3 ⟨⟨g, cz, rfl, how⟩, hb3⟩
      have x3 := HXR.out.below hb3 HXR.out.lt
      have d0 := x3.c0
      have d1 := x3.c1
      have d2 := x3.f0
      have d3 := x3.f1
      have X3 := Lib.hid x3
      have HOW := Lib.hid how
      have BF := Lib.hid (HB.out.trans (hb3.mono HB.out.size))
      clear how hb3 x3 c0 c1
      go_wp2
      have hlen : ((strN o m).map Int.ofNat).length = m := by simp [strN_len]
      have hlt : w.heap.size + 1 < wr.heap.size := HXR.out.lt
      refine bodyPost_ret (v := .tuple #[.agg #[.int .i64 (m : Int), .slice (some ⟨g, 0, none⟩) m cz], .bool true]) (Box.res2 rfl _ rfl rfl ((X3.out.set0 _).set1 _)) rfl ?_
      refine ⟨⟨some ⟨g, 0, none⟩, cz, ?_, ?_⟩, ?_⟩
      · rw [HE0.out, HE1.out, hlen]
      · rw [HE1.out, hlen]
        have ho := HOW.out
        rw [HFF.out] at ho
        exact (own_set (own_set ho ⟨w.heap.size + 1, 0, none⟩ _ hlt) ⟨w.heap.size + 1, 1, none⟩ _ hlt).mono HB.out.size
      · exact (BF.out.setCell (p := ⟨w.heap.size + 1, 0, none⟩) (Nat.le_succ _) _).setCell (p := ⟨w.heap.size + 1, 1, none⟩) (Nat.le_succ _) _
end Go.Proofs.Yteegbkbphfmooaa
