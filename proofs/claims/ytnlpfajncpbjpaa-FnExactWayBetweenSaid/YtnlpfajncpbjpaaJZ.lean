/-
  'WayBetween' of the model, and both in the law's words. No conditions but the bounds that Go gives a slice.
-/
import Derived.Test.YtnlpfajncpbjpaaJZb
import Derived.Test.YtnlpfajncpbjpaaJY
import Derived.Test.YtnlpfajncpbjpaaJW
namespace Go.Proofs.Ytnlpfajncpbjpaa
open Go.ChangeShapes Go.WideShapes Go.ChangeAt Go.RowKit
set_option linter.unusedVariables false

theorem find_at {α : Type} (c : α → Bool) : ∀ (E : List α) (j : Nat) (x : α), E[j]? = some x → c x = true → (∀ q y, q < j → E[q]? = some y → c y = false) → E.find? c = some x := by
  intro E
  induction E with
  | nil => intro j x h; simp at h
  | cons z E ih =>
    intro j x h1 h2 h3
    cases j with
    | zero =>
      obtain rfl : z = x := by simpa using h1
      rw [List.find?_cons, h2]
    | succ j =>
      rw [List.find?_cons, h3 0 z (by omega) (by simp)]
      exact ih j x (by simpa using h1) h2 (fun q y hq hy => h3 (q + 1) y (by omega) (by simpa using hy))
/-- Where the greedy way stands. -/
structure Wg (w : World) (a : Option Addr) (l : List Int) (cap k q d g c B : Nat) (cu i : Nat) (p : List Nat) (g9 c9 : Nat) (W : World) : Prop where
  hb : Below w.heap.size w W
  xt : Box W w.heap.size 25 (.int .i64 (l.length : Int)) (.slice a l.length cap)
  lv : W.ownsRow w.heap.size 3 1 (.slice (some ⟨g, 0, none⟩) l.length c) l.length (((List.range l.length).map (Hw.lev (ww l) k l.length)).map iv)
  ow : W.ownsRow B 3 1 (.slice (some ⟨g9, 0, none⟩) p.length c9) p.length (p.map nv)
  gB : g < B
  wB : w.heap.size < B
  Bs : B ≤ W.heap.size
  cl : cu < l.length
  dv : Hw.lev (ww l) k l.length cu = (i : Int)
  le : p.length + i ≤ 9
  eq : Hw.gr (ww l) (Hw.lev (ww l) k l.length) d q = p ++ (Hw.gr (ww l) (Hw.lev (ww l) k l.length) i cu).tail
section
variable {w : World} {a : Option Addr} {l : List Int} {cap k q d g c B cu i : Nat} {p : List Nat} {g9 c9 : Nat} {W W2 : World}
theorem Wg.below (h : Wg w a l cap k q d g c B cu i p g9 c9 W) (hb : Below W.heap.size W W2) : Wg w a l cap k q d g c B cu i p g9 c9 W2 :=
  ⟨h.hb.trans (hb.mono h.hb.size), h.xt.below hb h.xt.lt, own_below h.lv hb, own_below h.ow hb, h.gB, h.wB, Nat.le_trans h.Bs hb.size, h.cl, h.dv, h.le, h.eq⟩
theorem lv_cell {l : List Int} {k g c B : Nat} {W : World} (h : W.ownsRow B 3 1 (.slice (some ⟨g, 0, none⟩) l.length c) l.length (((List.range l.length).map (Hw.lev (ww l) k l.length)).map iv)) {y : Nat} (hy : y < l.length) : W.cell? ⟨g, y, none⟩ = some (.int .i64 (Hw.lev (ww l) k l.length y)) := by
  rw [h.cellAt y (by omega), List.getElem?_map, List.getElem?_map, List.getElem?_range hy]; rfl
end

set_option maxRecDepth 100000 in
set_option maxHeartbeats 2000000 in
theorem specWayBetween (n : Int) (a : Option Addr) (l : List Int) (cap : Nat) (q k : Int) (w : World) (hrow : IntRow w a l) (hl : l.length ≤ maxLen) :
    Calls Try.prog 51 #[.agg #[.int .i64 n, .slice a l.length cap], .int .i64 q, .int .i64 k] w (RetB w (wbR n l q k)) := by
  obtain ⟨i0, hi, hz0, hz1, hz2⟩ := info_parts infoInt
  obtain ⟨Wa, hWa⟩ : ∃ Wa, Wa = w.alloc (.cells #[.int .i64 n, .slice a l.length cap] 25) := ⟨_, rfl⟩
  have HWa := Lib.hid hWa
  have sa : Wa.heap.size = w.heap.size + 1 := by rw [hWa]; simp
  have hba : Below w.heap.size w Wa := by rw [hWa]; exact (Below.refl _ _).alloc (Nat.le_refl _) _
  have xa : Box Wa w.heap.size 25 (.int .i64 n) (.slice a l.length cap) := by rw [hWa]; exact Box.new _ _ _ _
  have hrowa : IntRow Wa a l := hrow.below hba (Nat.le_refl _)
  have HL := Lib.hid hl
  have HRW := Lib.hid hrow
  clear hl hrow hWa
  cases hok : (okB n l && pl n q)
  · have HO := Lib.hid hok
    have HE : Hid (wbR n l q k = none) := wbR_no (by rw [hok]; rfl)
    clear hok
    go_enter Try.func51, Try.ntmps51
    go_wp2_with fail
    rw [← HWa.out]
    refine (specPlayer n a l cap q Wa hrowa HL.out).mono ?_
    rintro e w1 ⟨rfl, hb1⟩
    rw [HO.out]
    have B1 := Lib.hid (hba.trans (hb1.mono hba.size))
    clear hb1
    go_wp2
    go_ret2
    exact ⟨⟨_, by rw [HE.out]; rfl, by rw [HE.out]; exact World.ownsRow_nil _ _ _ _⟩, B1.out⟩
  have HO := Lib.hid hok
  rw [Bool.and_eq_true] at hok
  have hk := okB_iff.1 hok.1
  obtain ⟨qq, rfl, hqq⟩ : ∃ qq : Nat, q = qq ∧ qq < l.length := by have := pl_iff.1 hok.2; have := hk.2.2.1; exact ⟨q.toNat, by omega, by omega⟩
  have HK := Lib.hid hk
  have hnl := hk.2.2.1
  have hl8 : l.length ≤ 8 := by have := hk.2.1; omega
  subst hnl
  have HOK := Lib.hid hok
  clear hok hk
  go_enter Try.func51, Try.ntmps51
  go_wp2_with fail
  rw [← HWa.out]
  refine (specPlayer _ a l cap (qq : Int) Wa hrowa HL.out).mono ?_
  rintro e w1 ⟨rfl, hb1⟩
  rw [HO.out]
  have xa1 := xa.below hb1 xa.lt
  have hrow1 := hrowa.below hb1 (Nat.le_refl _)
  have bw1 := hba.trans (hb1.mono hba.size)
  have c0 := xa1.c0
  have c1 := xa1.c1
  have hs1 : w.heap.size < w1.heap.size := by have := hb1.size; omega
  have BW := Lib.hid bw1
  have HR1 := Lib.hid hrow1
  have XA := Lib.hid xa1
  clear hb1 hba xa hrowa xa1 hrow1 bw1
  go_wp2_with fail
  refine (l01In_any k 0 ((l.length : Int) - 1) w1).mono ?_
  rintro e w2 ⟨rfl, rfl⟩
  cases hp2 : pl (l.length : Int) k
  · have hin : (decide ((0 : Int) ≤ k) && decide (k ≤ (l.length : Int) - 1)) = false := by
      rw [Bool.and_eq_false_iff, decide_eq_false_iff_not, decide_eq_false_iff_not]
      have h : ¬ pl (l.length : Int) k = true := by rw [hp2]; simp
      rw [pl_iff] at h
      omega
    rw [hin]
    have HE : Hid (wbR (l.length : Int) l (qq : Int) k = none) := wbR_no (by rw [hp2]; simp)
    clear hin c0 c1
    go_wp2
    go_ret2
    exact ⟨⟨_, by rw [HE.out]; rfl, by rw [HE.out]; exact World.ownsRow_nil _ _ _ _⟩, BW.out⟩
  have hpk := pl_iff.1 hp2
  have hin : (decide ((0 : Int) ≤ k) && decide (k ≤ (l.length : Int) - 1)) = true := by
    rw [Bool.and_eq_true, decide_eq_true_iff, decide_eq_true_iff]; omega
  rw [hin]
  obtain ⟨kk, rfl, hkk⟩ : ∃ kk : Nat, k = kk ∧ kk < l.length := ⟨k.toNat, by omega, by omega⟩
  have HE := Lib.hid (wbR_yes HOK.out.1 HOK.out.2 hp2)
  clear hin hpk hp2
  go_wp2_with fail
  refine (l06Levels_any a l cap kk w1 HR1.out HK.out hkk).mono ?_
  rintro e w3 ⟨⟨g, c, rfl, hlo⟩, hb3⟩
  have hgB := hlo.lt g rfl
  have hs3 := hb3.size
  have hlo2 := hlo.mono (base' := w.heap.size) (by omega)
  have hq0 := lv_cell hlo2 hqq
  obtain ⟨v0, hv0⟩ : ∃ v0, v0 = Hw.lev (ww l) kk l.length qq := ⟨_, rfl⟩
  rw [← hv0] at hq0
  have hqb : (qq : Int) < (l.length : Int) := by omega
  have HV0 := Lib.hid hv0
  have HLO := Lib.hid hlo2
  have BW3 := Lib.hid (BW.out.trans (hb3.mono BW.out.size))
  have XA3 := Lib.hid (XA.out.below hb3 XA.out.lt)
  clear hlo hlo2 hb3 BW XA hv0 c0 c1
  cases hneg : decide (v0 < 0)
  case true =>
    have HF : Hid (wbR (l.length : Int) l (qq : Int) (kk : Int) = none) := by
      show _ = _
      rw [HE.out]
      exact Hw.wb_none (by omega) (by rw [← HV0.out]; simpa using hneg)
    go_wp2
    go_ret2
    exact ⟨⟨_, by rw [HF.out]; rfl, by rw [HF.out]; exact World.ownsRow_nil _ _ _ _⟩, BW3.out⟩
  have hnn : ¬ v0 < 0 := by simpa using hneg
  obtain ⟨d, hd⟩ : ∃ d : Nat, v0 = (d : Int) := ⟨v0.toNat, by omega⟩
  have hdv : Hw.lev (ww l) kk l.length qq = (d : Int) := by rw [← HV0.out, hd]
  have hsome := Hw.wb_some (b := kk) hl8 hqq (fun w hw x hx => (ways_at HK.out hqq hw).2.2.1 x hx) hdv
  have HF : Hid (wbR (l.length : Int) l (qq : Int) (kk : Int) = some (Hw.gr (ww l) (Hw.lev (ww l) kk l.length) d qq)) := by
    show _ = _
    rw [HE.out]; exact hsome.1
  have hd8 : d < 8 := by omega
  obtain ⟨W5, hW5⟩ : ∃ W5, W5 = w3.alloc (.cells #[.int .i64 (qq : Int)] 3) := ⟨_, rfl⟩
  have hb5 : Below w3.heap.size w3 W5 := by rw [hW5]; exact (Below.refl _ _).alloc (Nat.le_refl _) _
  have hO5 : W5.ownsRow w3.heap.size 3 1 (.slice (some ⟨w3.heap.size, 0, none⟩) 1 1) 1 ([qq].map nv) := by
    rw [hW5]
    exact World.ownsRow_lit (base := w3.heap.size) (e := 3) (size := 1) w3 #[.int .i64 (qq : Int)] 1 (Nat.le_refl _) (by first | rfl | simp | decide) rfl
  obtain ⟨B, hB⟩ : ∃ B, B = w3.heap.size := ⟨_, rfl⟩
  have HWG : Hid (Wg w a l cap kk qq d g c B qq d [qq] w3.heap.size 1 W5) := by
    refine ⟨BW3.out.trans (hb5.mono BW3.out.size), XA3.out.below hb5 XA3.out.lt, own_below HLO.out hb5, by rw [hB]; exact hO5, by omega, by omega, by have := hb5.size; omega, hqq, hdv, by simp; omega, ?_⟩
    obtain ⟨t, ht⟩ := Hw.gr_cons (f := ww l) (Hw.lev (ww l) kk l.length) d qq
    rw [ht]; rfl
  have HW5 := Lib.hid hW5
  have hqb2 : (qq : Int) < (l.length : Int) := by omega
  clear hsome hdv hO5 hb5 hW5 HV0 hB XA3 BW3 HLO
  go_wp2
  rw [← HW5.out]
  go_loopw [1, 9] (fun aa out wr => ∃ (cu i : Nat) (p : List Nat) (m g9 c9 : Nat), aa = .int .i64 (cu : Int) ∧ m = p.length ∧ out = .slice (some ⟨g9, 0, none⟩) m c9 ∧ Wg w a l cap kk qq d g c B cu i p g9 c9 wr) (fun aa _ _ => (Hw.lev (ww l) kk l.length (intOf aa).toNat).toNat)
  case atStart => exact ⟨qq, d, [qq], 1, _, 1, rfl, rfl, rfl, HWG.out⟩
  case round =>
    clear HWG HW5 hq0 hneg
    obtain ⟨cu, i, p, m, g9, c9, rfl, hm, rfl, hw⟩ := hrel
    have hcu := hw.cl
    have hcb : (cu : Int) < (l.length : Int) := by omega
    have hcell := lv_cell hw.lv hcu
    have hle := hw.le
    rw [hw.dv] at hcell
    cases i with
    | succ i =>
      rw [show (((i + 1 : Nat) : Int)) = (i : Int) + 1 from rfl] at hcell
      have hpos : (0 : Int) < (i : Int) + 1 := by omega
      obtain ⟨hz1, hz2, hz3⟩ := HK.out.ww hcu
      obtain ⟨ab, off, rfl, hab, hcx⟩ := (HRW.out.below hw.hb (Nat.le_refl _)).at hcu
      rw [hz1] at hcx
      obtain ⟨z, hz⟩ : ∃ z, z = ww l cu := ⟨_, rfl⟩
      rw [← hz] at hcx hz2 hz3
      obtain ⟨M, hM⟩ : ∃ M, M = (elems z).length := ⟨_, rfl⟩
      have hM8 : M ≤ 8 := by rw [hM]; exact elTo_len z 8
      obtain ⟨wl, hwl⟩ : ∃ wl : Nat, wl = wr.heap.size := ⟨_, rfl⟩
      have hli := l02List_any z hz3 wr
      rw [← hM] at hli
      have c0 := hw.xt.c0
      have c1 := hw.xt.c1
      have HLI := Lib.hid hli
      have HM := Lib.hid hM
      have HZ := Lib.hid hz
      have HZ2 := Lib.hid hz2
      have HWG := Lib.hid hw
      have HMP := Lib.hid hm
      clear hli hM hz hz1 hw hz2 hm
      go_wp2_with fail
      refine HLI.out.mono ?_
      rintro e w4 ⟨⟨ge, ce, rfl, hel⟩, hb4⟩
      rw [← hwl] at hel
      have HEL := Lib.hid hel
      have HWG4 := Lib.hid (HWG.out.below hb4)
      have hgel := (hel.lt ge rfl).2
      clear hel hb4 hcx HLI HWG c0 c1 hcell
      go_wp2
      go_loopw [1, 46] (fun aa x wq => ∃ j : Nat, j ≤ M ∧ x = .int .i64 (j : Int) ∧ aa = .int .i64 (cu : Int) ∧ Hid (∀ q y, q < j → (elems z)[q]? = some y → (Hw.lev (ww l) kk l.length y == (i : Int)) = false) ∧ Below w4.heap.size w4 wq) (fun _ x _ => M - (intOf x).toNat)
      case atStart => exact ⟨0, Nat.zero_le _, rfl, rfl, fun q y h => absurd h (Nat.not_lt_zero _), Below.refl _ _⟩
      case round =>
        obtain ⟨j, hj, rfl, rfl, hno, hbq⟩ := hrel
        by_cases hltj : j < M
        · have hjb : (j : Int) < (M : Int) := by omega
          obtain ⟨x, hx⟩ : ∃ x, (elems z)[j]? = some x := ⟨_, List.getElem?_eq_getElem (by rw [← HM.out]; exact hltj)⟩
          have hxe := List.mem_of_getElem? hx
          have hxl : x < l.length := by
            rcases Nat.lt_or_ge x l.length with h | h
            · exact h
            · have h2 := (Hw.mem_elems.1 hxe).2
              rw [Nat.testBit_lt_two_pow (Nat.lt_of_lt_of_le HZ2.out (Nat.pow_le_pow_right (by decide) h))] at h2
              cases h2
          have hxb : (x : Int) < (l.length : Int) := by omega
          have hw7 := HWG4.out.below hbq
          have hel7 := own_below HEL.out hbq
          have hcd : wr.cell? ⟨ge, j, none⟩ = some (.int .i64 (x : Int)) := by
            rw [hel7.cellAt j (by omega), List.getElem?_map, hx]; rfl
          obtain ⟨vd, hvd⟩ : ∃ vd, vd = Hw.lev (ww l) kk l.length x := ⟨_, rfl⟩
          have hc7 := lv_cell hw7.lv hcu
          rw [hw7.dv] at hc7
          rw [show (((i + 1 : Nat) : Int)) = (i : Int) + 1 from rfl] at hc7
          have hcx7 := lv_cell hw7.lv hxl
          rw [← hvd] at hcx7
          have hwr : IntKind.i64.wrap (i : Int) = (i : Int) := by
            have hall : ∀ i : Fin 9, IntKind.i64.wrap ((i.val : Nat) : Int) = ((i.val : Nat) : Int) := by decide +kernel
            exact hall ⟨i, by omega⟩
          have HX := Lib.hid hx
          have HVD := Lib.hid hvd
          have HW7 := Lib.hid hw7
          have HBQ := Lib.hid hbq
          clear hx hxe hvd hw7 hel7 hbq
          cases h1 : (vd == (i : Int))
          · have HNO : Hid (∀ q y, q < j + 1 → (elems z)[q]? = some y → (Hw.lev (ww l) kk l.length y == (i : Int)) = false) := by
              intro q y hq hy
              by_cases e : q = j
              · rw [e, HX.out] at hy
                obtain rfl := Option.some.inj hy
                rw [← HVD.out]; exact h1
              · exact hno.out q y (by omega) hy
            clear hno
            go_wp2
            go_region
            all_goals
              go_wp2
              go_roundw
              case rel => exact ⟨j + 1, by omega, by go_num, rfl, HNO.out, HBQ.out.trans ((below_drew _).mono HBQ.out.size)⟩
              case measure => simp [intOf]; omega
          · have hdx : Hw.lev (ww l) kk l.length x = (i : Int) := by rw [← HVD.out]; simpa using h1
            have hfind : (elems (ww l cu)).find? (fun x => Hw.lev (ww l) kk l.length x == (i : Int)) = some x :=
              find_at _ _ j x (by rw [← HZ.out]; exact HX.out) (by rw [hdx]; simp) (by rw [← HZ.out]; exact hno.out)
            have HGR := Lib.hid (Hw.gr_step (f := ww l) hfind)
            have hwd := HW7.out.below (below_drew wr)
            have hod : wr.drew.ownsRow B 3 1 (.slice (some ⟨g9, 0, none⟩) m c9) m (p.map nv) := by rw [HMP.out]; exact hwd.ow
            have hgB9 := (hod.lt g9 rfl)
            have HOD := Lib.hid hod
            have HWD := Lib.hid hwd
            have HDX := Lib.hid hdx
            have hBs := hwd.Bs
            have hm9 : m ≤ 9 := by have := HMP.out; omega
            clear hno hod hwd hdx hfind
            go_wp2
            go_region
            all_goals
              go_wp2_with (first | (at_builtin; refine wpList_append_own _ rfl (.tmp 62) (.tmp 64) 23 rfl B 3 i0 (.int .i64 0) 1 8 Try.underlying23 hi hz0 hz1 hz2 rfl (by decide) _ _ _ rfl (HOD.out.alloc _) ⟨wr.heap.size, 0, none⟩ 1 1 [nv x] rfl rfl (cell_one_new _ _ _) (by simp [Value.oneCell', nv]) (by unfold maxLen; omega) (by omega) (by have h := hBs; simp at h ⊢; omega) ?_; intro v2 w2 hown2 hgrow _; obtain ⟨g2, c2, rfl, _, _, _⟩ := own_some hown2 (fun e => by rw [e] at hown2; exact absurd hown2.2 (by simp))) | fail)
              have HWN : Hid (Wg w (some ⟨ab, off, none⟩) l cap kk qq d g c B x i (p ++ [x]) g2 c2 w2) := by
                have hal : Below wr.drew.heap.size wr.drew (wr.drew.alloc (.cells #[.int .i64 (x : Int)] 3)) := (Below.refl _ _).alloc (Nat.le_refl _) _
                have h1 := HWD.out.below hal
                refine ⟨h1.hb.grown hgrow h1.hb.size (fun k e => by have h := (HOD.out.lt k e).1; have := HWD.out.wB; omega), h1.xt.grown hgrow (fun e => by have h := (HOD.out.lt w.heap.size e).1; have := HWD.out.wB; omega), h1.lv.kept hgrow (.inr (fun e => by cases e; have := HWD.out.gB; omega)), ?_, h1.gB, h1.wB, ?_, hxl, HDX.out, by have := HMP.out; simp; omega, ?_⟩
                · have e : m + 1 = (p ++ [x]).length := by rw [HMP.out]; simp
                  rw [← e, List.map_append]; exact hown2
                · exact Nat.le_trans h1.Bs hgrow.size
                · rw [h1.eq, HGR.out]
                  obtain ⟨t, ht⟩ := Hw.gr_cons (f := ww l) (Hw.lev (ww l) kk l.length) i x
                  rw [ht]; simp
              clear hown2 hgrow
              try go_wp2
              go_roundw
              case rel => exact ⟨x, i, p ++ [x], m + 1, g2, c2, rfl, by rw [HMP.out]; simp, rfl, HWN.out⟩
              case measure =>
                have h1 := HDX.out
                have h2 := HWD.out.dv
                simp [intOf, h1, h2]
        · exfalso
          obtain rfl : j = M := by omega
          obtain ⟨x, hx⟩ := Hw.first_some (f := ww l) (b := kk) (r := l.length) (c := cu) (i := i) (by rw [HWG4.out.dv]; rfl)
          rw [← HZ.out] at hx
          obtain ⟨q, hq1, hq2⟩ := List.mem_iff_getElem.1 (List.mem_of_find?_eq_some hx)
          have h1 := List.find?_some hx
          have h2 := hno.out q x (by rw [HM.out]; exact hq1) (by rw [List.getElem?_eq_getElem hq1, hq2])
          simp at h1 h2
          exact h2 h1
    | zero =>
      have HP : Hid (Hw.gr (ww l) (Hw.lev (ww l) kk l.length) d qq = p) := by
        show _ = _
        rw [hw.eq]; simp [Hw.gr]
      have HOW := Lib.hid (hw.ow.mono (base' := w.heap.size) (by have := hw.wB; omega))
      have HBW := Lib.hid hw.hb
      have HMP := Lib.hid hm
      have hz : ((0 : Nat) : Int) = 0 := rfl
      rw [hz] at hcell
      clear hw hm
      go_wp2
      go_ret2
      refine ⟨⟨_, by rw [HF.out]; rfl, ?_⟩, HBW.out⟩
      rw [HF.out, Option.getD_some, HP.out, HMP.out]
      exact HOW.out
theorem wbR_le (n : Int) (l : List Int) (q k : Int) : (ofN ((wbR n l q k).getD [])).length ≤ 8 := by
  rw [ofN_len]
  unfold wbR
  split
  · rename_i hok
    rw [Bool.and_eq_true, Bool.and_eq_true] at hok
    have hk := okB_iff.1 hok.1.1
    have hq := pl_iff.1 hok.1.2
    have h1 := hk.2.1
    have h2 := hk.2.2.1
    cases h : (List.range l.length).findSome? (fun j => (Hw.ways (ww l) ((j + 1 : Nat) : Int) q.toNat).find? (Hw.endB k.toNat)) with
    | none => simp
    | some x =>
      obtain ⟨j, _, hj⟩ := List.exists_of_findSome?_eq_some h
      have := ways_at hk (by omega) (List.mem_of_find?_eq_some hj)
      have := Hw.way_len this.1.1 this.2.2.1
      simp only [Option.getD_some]
      omega
  · simp
theorem implWB (n : Int) (a : Option Addr) (l : List Int) (cap : Nat) (q k : Int) (w : World) (hrow : IntRow w a l) (hl : l.length ≤ maxLen) :
    Calls Try.prog 22 #[.agg #[.int .i64 n, .slice a l.length cap], .int .i64 q, .int .i64 k] w fun e w' => (∃ a0 c0, e = .returned (.tuple #[.slice a0 (ofN ((wbR n l q k).getD [])).length c0, .bool (wbR n l q k).isSome]) ∧ w'.ownsRow w.heap.size 3 1 (.slice a0 (ofN ((wbR n l q k).getD [])).length c0) (ofN ((wbR n l q k).getD [])).length ((ofN ((wbR n l q k).getD [])).map iv)) ∧ Below w.heap.size w w' :=
  (implWayBetween n a l cap q k w hrow hl).mono fun _ _ h => retB_row h
theorem specWB (n : Int) (a : Option Addr) (l : List Int) (cap : Nat) (q k : Int) (w : World) (hrow : IntRow w a l) (hl : l.length ≤ maxLen) :
    Calls Try.prog 51 #[.agg #[.int .i64 n, .slice a l.length cap], .int .i64 q, .int .i64 k] w fun e w' => (∃ a0 c0, e = .returned (.tuple #[.slice a0 (ofN ((wbR n l q k).getD [])).length c0, .bool (wbR n l q k).isSome]) ∧ w'.ownsRow w.heap.size 3 1 (.slice a0 (ofN ((wbR n l q k).getD [])).length c0) (ofN ((wbR n l q k).getD [])).length ((ofN ((wbR n l q k).getD [])).map iv)) ∧ Below w.heap.size w w' :=
  (specWayBetween n a l cap q k w hrow hl).mono fun _ _ h => retB_row h
end Go.Proofs.Ytnlpfajncpbjpaa
