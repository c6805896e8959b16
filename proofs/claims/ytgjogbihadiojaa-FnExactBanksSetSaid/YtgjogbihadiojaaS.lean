/-
  'FnExactPartTour': the program's PartTour answers as the model's for every tour and every number, leaves the tour as it was, and shares no memory with it. No conditions.
-/
import Derived.Test.YtgjogbihadiojaaR
namespace Go.Proofs.Ytgjogbihadiojaa
open Go.ChangeShapes Go.WideShapes Go.ChangeAt Go.RowKit
set_option linter.unusedVariables false

theorem elTo_done (x k : Nat) (h : x / 2 ^ k = 0) (hk : k ≤ 8) : elTo x k = elems x := by
  have hx : x < 2 ^ k := by
    rcases Nat.lt_or_ge x (2 ^ k) with h' | h'
    · exact h'
    · have := Nat.div_pos h' (Nat.two_pow_pos k); omega
  unfold elems elTo
  have e : (8 : Nat) = k + (8 - k) := by omega
  rw [e, List.range_add, List.filter_append]
  rw [show (List.map (k + ·) (List.range (8 - k))).filter (fun i => x.testBit i) = [] from by
    rw [List.filter_eq_nil_iff]
    intro b hb
    obtain ⟨c, _, rfl⟩ := List.mem_map.1 hb
    rw [Nat.testBit_lt_two_pow (Nat.lt_of_lt_of_le hx (Nat.pow_le_pow_right (by decide) (by omega)))]
    simp]
  simp

set_option maxHeartbeats 400000 in
theorem l02List_any (x : Nat) (hx : x < 256) (w : World) :
    Calls Try.prog 123 #[.int .i64 x] w fun e w' => (∃ g c, e = .returned (.slice (some ⟨g, 0, none⟩) (elems x).length c) ∧ w'.ownsRow w.heap.size 3 1 (.slice (some ⟨g, 0, none⟩) (elems x).length c) (elems x).length ((elems x).map nv)) ∧ Below w.heap.size w w' := by
  obtain ⟨i0, hi, hz0, hz1, hz2⟩ := info_parts infoInt
  have hO0 : (w.alloc (.cells #[] 3)).ownsRow w.heap.size 3 1 (.slice (some ⟨w.heap.size, 0, none⟩) 0 0) (elTo x 0).length ((elTo x 0).map nv) := own_empty w w.heap.size w.heap.size (Nat.le_refl _) rfl
  have hB0 := Below.one w (.cells #[] 3)
  go_enter Try.func123, Try.ntmps123
  go_wp2
  go_loopw [0, 3, 4] (fun st out i wr => ∃ (k y : Nat) (v : Value), k ≤ 8 ∧ y < 256 ∧ Hid (y = x / 2 ^ k) ∧ st = .int .i64 y ∧ i = .int .i64 k ∧ v = out ∧ wr.ownsRow w.heap.size 3 1 v (elTo x k).length ((elTo x k).map nv) ∧ (∃ g, v.ownBlock = some g) ∧ Below w.heap.size w wr) (fun st _ _ _ => (intOf st).toNat)
  case atStart => exact ⟨0, x, _, Nat.zero_le _, hx, by simp [Hid], rfl, rfl, rfl, hO0, ⟨_, rfl⟩, hB0⟩
  case round =>
    clear hO0 hB0
    obtain ⟨k, y, v, hk, hy8, hy, rfl, rfl, rfl, hown, hnn, hb⟩ := hrel
    by_cases h0 : 0 < y
    · have hi0 : (0 : Int) < (y : Int) := by omega
      have hk7 : k < 8 := by
        rcases Nat.lt_or_ge k 8 with h | h
        · exact h
        · exfalso
          have : k = 8 := by omega
          subst this
          have := hy.out
          omega
      obtain ⟨d, hd⟩ : ∃ d, d = y / 2 := ⟨_, rfl⟩
      have hdd : (y : Int) / 2 = (d : Int) := by omega
      have hdy : Hid (d = x / 2 ^ (k + 1)) := by show _ = _; rw [hd, hy.out, Nat.pow_succ, Nat.div_div_eq_div_mul]
      have hdl : d < y := by omega
      have hd8 : d < 256 := by omega
      have hbit : x.testBit k = decide (y % 2 = 1) := by rw [Nat.testBit_eq_decide_div_mod_eq, ← hy.out]
      have hlen := elTo_len x k
      by_cases hodd : y % 2 = 1
      · have hbb : (bits .and .i64 (y : Int) 1 == 1) = true := by rw [andOne, show (y : Int) % 2 = 1 by omega]; rfl
        have hsn := elTo_yes x k (by rw [hbit]; simpa using hodd)
        have HSN : Hid ((elTo x (k + 1)).length = (elTo x k).length + 1 ∧ (elTo x (k + 1)).map nv = (elTo x k).map nv ++ [.int .i64 k]) := by rw [hsn]; exact ⟨by simp, by rw [List.map_append]; rfl⟩
        obtain ⟨m, hm⟩ : ∃ m, m = (elTo x k).length := ⟨_, rfl⟩
        obtain ⟨cs, hcs⟩ : ∃ cs, cs = (elTo x k).map nv := ⟨_, rfl⟩
        rw [← hm, ← hcs] at hown
        rw [← hm] at hlen
        have HM := Lib.hid hm
        have HC := Lib.hid hcs
        clear hsn hm hcs hnn hd hbit hodd
        go_wp2_with (at_builtin; refine wpList_append_own _ rfl _ _ 23 rfl w.heap.size 3 i0 (.int .i64 0) 1 8 Try.underlying23 hi hz0 hz1 hz2 rfl (by decide) _ _ _ rfl (hown.alloc _) ⟨_, 0, none⟩ 1 1 [.int .i64 k] rfl rfl ?c1 ?c2 ?c3 ?c4 ?c5 ?_)
        case c1 =>
          intro j u hj
          match j, hj with
          | 0, hj => simp at hj; subst hj; simp [Addr.add]
        case c2 => intro u hu; simp at hu; subst hu; rfl
        case c3 => unfold maxLen; omega
        case c4 => omega
        case c5 => have := hb.size; simp; omega
        intro v' w3 hown' hgrow _
        have hb4 : Below w.heap.size w w3 := (hb.alloc hb.size _).grown hgrow (by have := hb.size; simp; omega) (fun k hk => (hown.lt k hk).1)
        have hnn' : ∃ g, v'.ownBlock = some g := by
          rcases hown'.2 with ⟨_, h0⟩ | ⟨g, cap, cur, rfl, _⟩
          · simp at h0
          · exact ⟨g, rfl⟩
        have H3 : Hid (w3.ownsRow w.heap.size 3 1 v' (elTo x (k + 1)).length ((elTo x (k + 1)).map nv)) := by
          show w3.ownsRow _ _ _ _ _ _
          rw [HSN.out.1, HSN.out.2, ← HM.out, ← HC.out]; simpa using hown'
        clear hown' hgrow hown hb
        go_wp2
        go_roundw
        case rel => exact ⟨k + 1, d, _, by omega, hd8, hdy, rfl, by go_num, rfl, H3.out, hnn', hb4⟩
        case measure => simp [intOf]; omega
      · have hbb : (bits .and .i64 (y : Int) 1 == 1) = false := by rw [andOne, show (y : Int) % 2 = 0 by omega]; rfl
        rw [← elTo_no x k (by rw [hbit]; simpa using hodd)] at hown
        have HO := Lib.hid hown
        clear hown hd hbit hodd
        go_wp2
        go_roundw
        case rel => exact ⟨k + 1, d, _, by omega, hd8, hdy, rfl, by go_num, rfl, HO.out, hnn, hb⟩
        case measure => simp [intOf]; omega
    · obtain rfl : y = 0 := by omega
      have hE : Hid (elTo x k = elems x) := elTo_done x k hy.out.symm hk
      rw [hE.out] at hown
      have HO := Lib.hid hown
      obtain ⟨g, hg⟩ := hnn
      have hv : Hid (∃ c, v = .slice (some ⟨g, 0, none⟩) (elems x).length c) := by
        rcases hown.2 with ⟨rfl, _⟩ | ⟨g', cap, cur, rfl, _⟩
        · cases hg
        · cases hg; exact ⟨cap, rfl⟩
      clear hown
      go_wp2
      go_ret
      obtain ⟨c, hc⟩ := hv.out
      exact ⟨⟨g, c, by rw [hc]; rfl, by rw [← hc]; exact HO.out⟩, hb⟩

theorem in_set (p : Int) (m P : Nat) (hP : P = 2 ^ m) : (decide (1 ≤ p) && decide (p ≤ (P : Int) - 1)) = (!(p == 0) && inSet p m) := by
  subst hP
  unfold inSet
  generalize ((2 ^ m : Nat) : Int) = z
  rw [Bool.eq_iff_iff]
  simp
  omega

set_option maxHeartbeats 2000000 in
theorem specPart (n : Int) (a : Option Addr) (l : List Int) (cap : Nat) (p : Int) (w : World) (hrow : IntRow w a l) (hl : l.length ≤ maxLen) :
    Calls Try.prog 100 #[.agg #[.int .i64 n, .slice a l.length cap], .int .i64 p] w fun e w' => (∃ a0 c0, e = .returned (.tuple #[.agg #[.int .i64 (ptN n l p), .slice a0 (ptR n l p).length c0], .bool (ptB n l p)]) ∧ w'.ownsRow w.heap.size 3 1 (.slice a0 (ptR n l p).length c0) (ptR n l p).length ((ptR n l p).map iv)) ∧ Below w.heap.size w w' := by
  obtain ⟨Wb, hWb⟩ : ∃ Wb, Wb = w.alloc (.cells #[.int .i64 n, .slice a l.length cap] 25) := ⟨_, rfl⟩
  obtain ⟨Wa, hWa⟩ : ∃ Wa, Wa = Wb.alloc (.cells #[.int .i64 0, .slice none 0 0] 25) := ⟨_, rfl⟩
  have sb : Wb.heap.size = w.heap.size + 1 := by rw [hWb]; simp
  have sa : Wa.heap.size = w.heap.size + 1 + 1 := by rw [hWa]; simp [sb]
  have hbb : Below w.heap.size w Wb := by rw [hWb]; exact (Below.refl _ _).alloc (Nat.le_refl _) _
  have hba : Below w.heap.size w Wa := by rw [hWa]; exact hbb.alloc hbb.size _
  have xt : Box Wa w.heap.size 25 (.int .i64 n) (.slice a l.length cap) := by
    rw [hWa]; exact (show Box Wb w.heap.size 25 (.int .i64 n) (.slice a l.length cap) by rw [hWb]; exact Box.new _ _ _ _).below ((Below.refl Wb.heap.size Wb).alloc (Nat.le_refl _) _) (by omega)
  have xr : Box Wa (w.heap.size + 1) 25 (.int .i64 0) (.slice none 0 0) := by rw [hWa, ← sb]; exact Box.new _ _ _ _
  have HWa : Hid (Wa = (w.alloc (.cells #[.int .i64 n, .slice a l.length cap] 25)).alloc (.cells #[.int .i64 0, .slice none 0 0] 25)) := by rw [hWa, hWb]; exact rfl
  have hrowa : IntRow Wa a l := hrow.below hba (Nat.le_refl _)
  have HL := Lib.hid hl
  clear hl hrow hWa hWb hbb
  cases hok : okB n l
  · have HO := Lib.hid hok
    have HE : Hid (ptB n l p = false) := by show _ = _; unfold ptB; rw [hok]; rfl
    clear hok
    go_enter Try.func100, Try.ntmps100
    go_wp2_with fail
    rw [← HWa.out]
    refine (specTourOk n a l cap Wa hrowa HL.out).mono ?_
    rintro e w1 ⟨rfl, hb1⟩
    rw [HO.out]
    have B1 := hba.trans (hb1.mono hba.size)
    have xr1 := xr.below hb1 xr.lt
    have xt1 := xt.below hb1 xt.lt
    have hrow1 := hrowa.below hb1 (Nat.le_refl _)
    clear xr xt hrowa
    have c0 := xr1.c0
    have c1 := xr1.c1
    have f0 := xr1.f0
    have f1 := xr1.f1
    have X := Lib.hid xr1
    have BB := Lib.hid (B1)
    clear xr1
    go_wp2
    refine bodyPost_ret (v := .tuple #[.agg #[.int .i64 0, .slice none 0 0], .bool false]) (Box.res2 rfl _ rfl rfl ((X.out.set0 _).set1 _)) rfl ?_
    refine ⟨⟨none, 0, ?_, ?_⟩, ?_⟩
    · unfold ptN ptR; rw [HE.out]; rfl
    · unfold ptR; rw [HE.out]; exact World.ownsRow_nil _ _ _ _
    · exact (BB.out.setCell (p := ⟨w.heap.size + 1, 0, none⟩) (Nat.le_succ _) _).setCell (p := ⟨w.heap.size + 1, 1, none⟩) (Nat.le_succ _) _
  have HO := Lib.hid hok
  have HK : Hid (Ok n l) := okB_iff.1 hok
  have hnl := HK.out.2.2.1
  have hl8 : l.length ≤ 8 := by have := HK.out.2.1; omega
  subst hnl
  obtain ⟨A, hA⟩ : ∃ A : Int, A = ((2 ^ l.length : Nat) : Int) - 1 := ⟨_, rfl⟩
  have CA : Hid (∀ W : World, Calls Try.prog 97 #[.agg #[.int .i64 (l.length : Int), .slice a l.length cap]] W fun e w' => e = .returned (.int .i64 A) ∧ Below W.heap.size W w') := by
    intro W; rw [hA]; exact l02All_any a l.length cap l.length W hl8
  cases hin : (!(p == 0) && inSet p l.length)
  · have HI : Hid ((decide (1 ≤ p) && decide (p ≤ A)) = false) := by show _ = _; rw [hA, in_set p l.length _ rfl]; exact hin
    have HE : Hid (ptB l.length l p = false) := by show _ = _; unfold ptB; rw [hin]; simp
    clear hok hin hA
    go_enter Try.func100, Try.ntmps100
    go_wp2_with fail
    rw [← HWa.out]
    refine (specTourOk _ a l cap Wa hrowa HL.out).mono ?_
    rintro e w1 ⟨rfl, hb1⟩
    rw [HO.out]
    have B1 := hba.trans (hb1.mono hba.size)
    have xr1 := xr.below hb1 xr.lt
    have xt1 := xt.below hb1 xt.lt
    have hrow1 := hrowa.below hb1 (Nat.le_refl _)
    clear xr xt hrowa
    have c0 := xt1.c0
    have c1 := xt1.c1
    go_wp2_with fail
    refine (CA.out w1).mono ?_
    rintro e w2 ⟨rfl, hb2⟩
    have B2 := B1.trans (hb2.mono B1.size)
    have xr2 := xr1.below hb2 xr1.lt
    have xt2 := xt1.below hb2 xt1.lt
    have hrow2 := hrow1.below hb2 (Nat.le_refl _)
    clear c0 c1 xr1 xt1 hrow1
    go_wp2_with fail
    refine (l01In_any p 1 _ w2).mono ?_
    rintro e w' ⟨rfl, rfl⟩
    rw [HI.out]
    have c0 := xr2.c0
    have c1 := xr2.c1
    have f0 := xr2.f0
    have f1 := xr2.f1
    have X := Lib.hid xr2
    have BB := Lib.hid (B2)
    clear xr2
    go_wp2
    refine bodyPost_ret (v := .tuple #[.agg #[.int .i64 0, .slice none 0 0], .bool false]) (Box.res2 rfl _ rfl rfl ((X.out.set0 _).set1 _)) rfl ?_
    refine ⟨⟨none, 0, ?_, ?_⟩, ?_⟩
    · unfold ptN ptR; rw [HE.out]; rfl
    · unfold ptR; rw [HE.out]; exact World.ownsRow_nil _ _ _ _
    · exact (BB.out.setCell (p := ⟨w.heap.size + 1, 0, none⟩) (Nat.le_succ _) _).setCell (p := ⟨w.heap.size + 1, 1, none⟩) (Nat.le_succ _) _
  · have HI : Hid ((decide (1 ≤ p) && decide (p ≤ A)) = true) := by show _ = _; rw [hA, in_set p l.length _ rfl]; exact hin
    have HE : Hid (ptB l.length l p = true) := by show _ = _; unfold ptB; rw [hok, hin]; rfl
    have hin2 := (Bool.and_eq_true_iff.1 hin).2
    obtain ⟨x, rfl⟩ : ∃ x : Nat, p = x := ⟨p.toNat, by simp [inSet] at hin2; omega⟩
    have hx2 : x < 2 ^ l.length := by simp only [inSet, Bool.and_eq_true, decide_eq_true_eq] at hin2; omega
    have hx8 : x < 256 := Nat.lt_of_lt_of_le hx2 (pow_le _ hl8)
    obtain ⟨i0, hi, hz0, hz1, hz2⟩ := info_parts infoInt
    obtain ⟨es, hes⟩ : ∃ es, es = elems x := ⟨_, rfl⟩
    have HES := Lib.hid hes
    have hin' : Hid (∀ i, i < es.length → es.getD i 0 < l.length) := (show ∀ i, i < es.length → es.getD i 0 < l.length by rw [hes]; exact fun i hi => elems_in x i _ hx2 hi)
    have he8 : es.length ≤ 8 := by rw [hes]; exact elTo_len x 8
    clear hok hin hin2 hx2 hes hA
    go_enter Try.func100, Try.ntmps100
    go_wp2_with fail
    rw [← HWa.out]
    refine (specTourOk _ a l cap Wa hrowa HL.out).mono ?_
    rintro e w1 ⟨rfl, hb1⟩
    rw [HO.out]
    have B1 := hba.trans (hb1.mono hba.size)
    have xr1 := xr.below hb1 xr.lt
    have xt1 := xt.below hb1 xt.lt
    have hrow1 := hrowa.below hb1 (Nat.le_refl _)
    clear xr xt hrowa
    have c0 := xt1.c0
    have c1 := xt1.c1
    go_wp2_with fail
    refine (CA.out w1).mono ?_
    rintro e w2 ⟨rfl, hb2⟩
    have B2 := B1.trans (hb2.mono B1.size)
    have xr2 := xr1.below hb2 xr1.lt
    have xt2 := xt1.below hb2 xt1.lt
    have hrow2 := hrow1.below hb2 (Nat.le_refl _)
    clear c0 c1 xr1 xt1 hrow1
    go_wp2_with fail
    refine (l01In_any x 1 _ w2).mono ?_
    rintro e w' ⟨rfl, rfl⟩
    rw [HI.out]
    go_wp2_with fail
    refine (l02List_any x hx8 w2).mono ?_
    rintro e w3 ⟨⟨ge, ce, rfl, hoe⟩, hb3⟩
    rw [← HES.out] at hoe ⊢
    have B3 := B2.trans (hb3.mono B2.size)
    have xr3 := xr2.below hb3 xr2.lt
    have xt3 := xt2.below hb3 xt2.lt
    have hrow3 := hrow2.below hb3 (Nat.le_refl _)
    have hge := (hoe.lt ge rfl).2
    obtain ⟨W4, hW4⟩ : ∃ W4, W4 = w3.alloc (.cells #[.int .i64 es.length, .slice none 0 0] 25) := ⟨_, rfl⟩
    have HW4 := Lib.hid hW4
    have hbW4 : Below w3.heap.size w3 W4 := by rw [hW4]; exact Below.one _ _
    have xf4 : Box W4 w3.heap.size 25 (.int .i64 es.length) (.slice none 0 0) := by rw [hW4]; exact Box.new _ _ _ _
    have s4 : W4.heap.size = w3.heap.size + 1 := by rw [hW4]; simp
    have hbW4' := Lib.hid hbW4
    have BB3 := Lib.hid B3
    have XR3 := Lib.hid xr3
    have XT3 := Lib.hid xt3
    have HR3 := Lib.hid hrow3
    have OE3 := Lib.hid hoe
    have XF4 := Lib.hid xf4
    have hw3 : w.heap.size + 1 < w3.heap.size := xr3.lt
    clear hW4 hbW4 xf4 B1 B2 B3 xr2 xr3 xt2 xt3 hrow2 hrow3 hoe hb1 hb2 hb3 hba
    go_wp2
    rw [← HW4.out]
    go_loopw [31] (fun i wr => ∃ (k : Nat) (av : Option Addr) (cv : Nat), k ≤ es.length ∧ i = .int .i64 k ∧ Hid (Box wr w3.heap.size 25 (.int .i64 es.length) (.slice av k cv)) ∧ Hid (wr.ownsRow W4.heap.size 3 1 (.slice av k cv) k (upTo (partL l es) k)) ∧ Hid (Below w3.heap.size w3 wr) ∧ W4.heap.size ≤ wr.heap.size) (fun i _ => es.length - (intOf i).toNat)
    case atStart => exact ⟨0, none, 0, Nat.zero_le _, rfl, XF4.out, World.ownsRow_nil _ _ _ _, hbW4'.out, Nat.le_refl _⟩
    case round =>
      obtain ⟨i, av, cv, hi', rfl, hbx, how, hbl, hsw⟩ := hrel
      by_cases hlt : i < es.length
      · have hei := (hbl.out.cell (p := ⟨ge, i, none⟩) hge).trans (OE3.out.cellAt i (by omega))
        rw [List.getElem?_map, show es[i]? = some (es.getD i 0) by rw [List.getD_eq_getElem?_getD, List.getElem?_eq_getElem hlt]; rfl] at hei
        obtain ⟨pi, hpi⟩ : ∃ pi, pi = es.getD i 0 := ⟨_, rfl⟩
        rw [← hpi] at hei
        have hei2 : wr.cell? ⟨ge, i, none⟩ = some (.int .i64 pi) := hei
        have hpil : pi < l.length := by rw [hpi]; exact hin'.out i hlt
        have HPI := Lib.hid hpi
        have hib : (i : Int) < (es.length : Int) := by omega
        obtain ⟨wo, rfl⟩ : ∃ wo, wo = wr := ⟨_, rfl⟩
        clear hpi hei
        go_wp2
        go_loopw [10, 37] (fun q j wr2 => ∃ k : Nat, k ≤ es.length ∧ j = .int .i64 k ∧ q = .int .i64 (numb (partF l es i) k) ∧ Hid (Below wo.heap.size wo wr2)) (fun _ j _ => es.length - (intOf j).toNat)
        case atStart => exact ⟨0, Nat.zero_le _, rfl, rfl, Below.refl _ _⟩
        case round =>
          clear hei2
          obtain ⟨k, hk, rfl, rfl, hbo⟩ := hrel
          have hb3r := Lib.hid (hbl.out.trans (hbo.out.mono hbl.out.size))
          by_cases hlt2 : k < es.length
          · have hek := (hb3r.out.cell (p := ⟨ge, k, none⟩) hge).trans (OE3.out.cellAt k (by omega))
            rw [List.getElem?_map, show es[k]? = some (es.getD k 0) by rw [List.getD_eq_getElem?_getD, List.getElem?_eq_getElem hlt2]; rfl] at hek
            obtain ⟨pk, hpk⟩ : ∃ pk, pk = es.getD k 0 := ⟨_, rfl⟩
            rw [← hpk] at hek
            have hek2 : wr.cell? ⟨ge, k, none⟩ = some (.int .i64 pk) := hek
            have hpkl : pk < 64 := by have := hin'.out k hlt2; omega
            have hkb : (k : Int) < (es.length : Int) := by omega
            have hf0 : partF l es i k = bt l pi pk := by unfold partF; rw [HPI.out, hpk]
            have xtz := XT3.out.below hb3r.out (by omega)
            have d0 := xtz.c0
            have d1 := xtz.c1
            have hrr := HR3.out.below hb3r.out (Nat.le_refl _)
            obtain ⟨q, hq⟩ : ∃ q, q = numb (partF l es i) k := ⟨_, rfl⟩
            have hq8 : q < 256 := by rw [hq]; exact numb_le _ _ (by omega)
            have HQ := Lib.hid hq
            obtain ⟨z, hz⟩ : ∃ z, z = 2 ^ k := ⟨_, rfl⟩
            have hzw : wrap64 (2 ^ k) = (z : Int) := by rw [hz]; exact wrapPow k (by omega)
            have hz8 : z ≤ 256 := by rw [hz]; exact pow_le k (by omega)
            have HZ := Lib.hid hz
            rw [← hq]
            clear hpk hek xtz hq hz
            cases hf : bt l pi pk
            · have HF := Lib.hid hf
              have hnn : Hid (numb (partF l es i) (k + 1) = q) := by show _ = _; simp only [numb]; rw [hf0, hf, ← HQ.out]; simp
              clear hf hf0
              go_wp2_with fail
              refine (l02Beats_any _ a l cap pi pk _ hrr HL.out hpil hpkl).mono ?_
              rintro e w5 ⟨rfl, hb5⟩
              rw [HF.out]
              have G1 := Lib.hid (hbo.out.trans (hb5.mono hbo.out.size))
              clear hb5 d0 d1 hek2
              go_wp2
              go_roundw
              case rel => exact ⟨k + 1, by omega, by go_num, by rw [hnn.out], G1⟩
              case measure => simp [intOf]; omega
            · have HF := Lib.hid hf
              have hnn : Hid (numb (partF l es i) (k + 1) = q + z) := by show _ = _; simp only [numb]; rw [hf0, hf, ← HQ.out, HZ.out]; simp
              clear hf hf0
              go_wp2_with fail
              refine (l02Beats_any _ a l cap pi pk _ hrr HL.out hpil hpkl).mono ?_
              rintro e w5 ⟨rfl, hb5⟩
              rw [HF.out]
              have G1 := Lib.hid (hbo.out.trans (hb5.mono hbo.out.size))
              clear hb5 d0 d1 hek2
              go_wp2
              go_roundw
              case rel => exact ⟨k + 1, by omega, by go_num, by rw [hnn.out]; go_num, G1⟩
              case measure => simp [intOf]; omega
          · obtain rfl : k = es.length := by omega
            obtain ⟨z, hz⟩ : ∃ z, z = numb (partF l es i) es.length := ⟨_, rfl⟩
            have HZ := Lib.hid hz
            have y1 := hbx.out.below hbo.out hbx.out.lt
            have o1 := own_below how.out hbo.out
            have d1 := y1.c1
            have hsn : Hid (upTo (partL l es) (i + 1) = upTo (partL l es) i ++ [.int .i64 z]) := by show _ = _; rw [upTo_succ _ _ _ (partL_at l es i hlt), hz]
            have Y1 := Lib.hid (y1.more (.cells #[.int .i64 z] 3))
            have hsz : W4.heap.size ≤ wr.heap.size := Nat.le_trans hsw hbo.out.size
            rw [← hz]
            clear hz y1
            go_wp2_with (at_builtin; refine wpList_append_own _ rfl _ _ 23 rfl W4.heap.size 3 i0 (.int .i64 0) 1 8 Try.underlying23 hi hz0 hz1 hz2 rfl (by decide) _ _ _ rfl (o1.alloc _) ⟨_, 0, none⟩ 1 1 [.int .i64 z] rfl rfl ?c1 ?c2 ?c3 ?c4 ?c5 ?_)
            case c1 =>
              intro j u hj
              match j, hj with
              | 0, hj => simp at hj; subst hj; simp [Addr.add]
            case c2 => intro u hu; simp at hu; subst hu; rfl
            case c3 => unfold maxLen; omega
            case c4 => omega
            case c5 => simp; omega
            intro v' w6 hown' hgrow _
            obtain ⟨g', cv', rfl⟩ : ∃ g' cv', v' = .slice (some ⟨g', 0, none⟩) (i + 1) cv' := by
              rcases hown'.2 with ⟨_, h0⟩ | ⟨g, cap, cur, rfl, _⟩
              · simp at h0
              · exact ⟨g, cap, rfl⟩
            have hgp : Hid (g' ≠ w3.heap.size) := (show g' ≠ _ by have := (hown'.lt g' rfl).1; omega)
            have y6 := Y1.out.grown hgrow (by rw [blk_own]; intro e; have := (own_blk how.out e).1; omega)
            have d6 := y6.c1
            have q6 := y6.f1
            have Z4 : Hid (Box (w6.setCell ⟨w3.heap.size, 1, none⟩ (.slice (some ⟨g', 0, none⟩) (i + 1) cv')) w3.heap.size 25 (.int .i64 es.length) (.slice (some ⟨g', 0, none⟩) (i + 1) cv')) := y6.set1 _
            have W5 : Hid ((w6.setCell ⟨w3.heap.size, 1, none⟩ (.slice (some ⟨g', 0, none⟩) (i + 1) cv')).ownsRow W4.heap.size 3 1 (.slice (some ⟨g', 0, none⟩) (i + 1) cv') (i + 1) (upTo (partL l es) (i + 1))) := by
              show World.ownsRow _ _ _ _ _ _ _
              rw [hsn.out]
              exact own_other (by rw [s4]; exact hown') ⟨w3.heap.size, 1, none⟩ _ (fun e => hgp.out e)
            have G4 : Hid (Below w3.heap.size w3 (w6.setCell ⟨w3.heap.size, 1, none⟩ (.slice (some ⟨g', 0, none⟩) (i + 1) cv'))) := by
              have b3 := hb3r.out.alloc hb3r.out.size (.cells #[.int .i64 z] 3)
              have b4 := b3.grown hgrow b3.size (fun j e => by rw [blk_own] at e; have := (own_blk how.out e).1; omega)
              exact b4.setCell (p := ⟨w3.heap.size, 1, none⟩) (Nat.le_refl _) _
            have S5 : W4.heap.size ≤ (w6.setCell ⟨w3.heap.size, 1, none⟩ (.slice (some ⟨g', 0, none⟩) (i + 1) cv')).heap.size := by
              have := hgrow.size; simp at this ⊢; omega
            clear hown' hgrow d1 o1 y6
            go_wp2
            go_roundw
            case rel => exact ⟨i + 1, some ⟨g', 0, none⟩, cv', by omega, by go_num, Z4, W5, G4, S5⟩
            case measure => simp [intOf]; omega
      · obtain rfl : i = es.length := by omega
        have xrz := XR3.out.below hbl.out hw3
        have d0 := hbx.out.c0
        have d1 := hbx.out.c1
        have e0 := xrz.c0
        have e1 := xrz.c1
        have e2 := xrz.f0
        have e3 := xrz.f1
        have XZ := Lib.hid xrz
        have hlen := partL_len l es
        have H1 : Hid (wr.ownsRow W4.heap.size 3 1 (.slice av es.length cv) es.length ((partL l es).map nv)) := by
          have := how.out
          rw [show upTo (partL l es) es.length = (partL l es).map nv by rw [← hlen]; exact upTo_all _] at this
          exact this
        clear xrz hlen
        go_wp2
        have hn : ptN l.length l x = es.length := by unfold ptN; rw [HE.out, HES.out]; rfl
        have hr : ptR l.length l x = (partL l es).map Int.ofNat := by unfold ptR; rw [HE.out, HES.out]; rfl
        have hlen : ((partL l es).map Int.ofNat).length = es.length := by simp [partL_len]
        refine bodyPost_ret (v := .tuple #[.agg #[.int .i64 es.length, .slice av es.length cv], .bool true]) (Box.res2 rfl _ rfl rfl ((XZ.out.set0 _).set1 _)) rfl ?_
        refine ⟨⟨av, cv, ?_, ?_⟩, ?_⟩
        · rw [hn, hr, hlen, HE.out]
        · rw [hr, hlen, ← nv_iv]
          exact (own_set (own_set H1.out ⟨w.heap.size + 1, 0, none⟩ _ (by show w.heap.size + 1 < W4.heap.size; omega)) ⟨w.heap.size + 1, 1, none⟩ _ (by show w.heap.size + 1 < W4.heap.size; omega)).mono (by omega)
        · exact ((BB3.out.trans (hbl.out.mono BB3.out.size)).setCell (p := ⟨w.heap.size + 1, 0, none⟩) (Nat.le_succ _) _).setCell (p := ⟨w.heap.size + 1, 1, none⟩) (Nat.le_succ _) _

theorem ptR_le (n : Int) (l : List Int) (p : Int) : (ptR n l p).length ≤ 8 := by
  unfold ptR
  cases h : ptB n l p
  · simp
  · simp [partL_len]; exact elTo_len _ 8

end Go.Proofs.Ytgjogbihadiojaa


