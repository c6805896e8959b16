/-
  'l06Levels': how far all players are from one. No conditions but those named.
-/
import Derived.Test.YtnlpfajncpbjpaaJZa
import Derived.Test.YtnlpfajncpbjpaaJ0
import Derived.Test.YtnlpfajncpbjpaaJR
import Derived.Test.Ytnlpfajncpbjpaa3Ux
import Derived.Maps.AppendAt
namespace Go.Proofs.Ytnlpfajncpbjpaa
open Go.ChangeShapes Go.WideShapes Go.ChangeAt Go.RowKit
set_option linter.unusedVariables false

/-- Where the rounds stand. -/
structure Lv (w : World) (a : Option Addr) (l : List Int) (cap b g c r x j : Nat) (W : World) : Prop where
  hb : Below w.heap.size w W
  xt : Box W w.heap.size 25 (.int .i64 (l.length : Int)) (.slice a l.length cap)
  ow : W.ownsRow (w.heap.size + 1) 3 1 (.slice (some ⟨g, 0, none⟩) l.length c) l.length ((Hw.mid (ww l) b l.length r x j).map iv)
section
variable {w : World} {a : Option Addr} {l : List Int} {cap b g c r x j : Nat} {W W2 : World}
theorem Lv.below (h : Lv w a l cap b g c r x j W) (hb : Below W.heap.size W W2) : Lv w a l cap b g c r x j W2 :=
  ⟨h.hb.trans (hb.mono h.hb.size), h.xt.below hb h.xt.lt, own_below h.ow hb⟩
theorem Lv.cell (h : Lv w a l cap b g c r x j W) {y : Nat} (hy : y < l.length) : W.cell? ⟨g, y, none⟩ = some (.int .i64 (Hw.midv (ww l) b r x j y)) := by
  rw [h.ow.cellAt y (by omega), List.getElem?_map, Hw.mid_get hy]; rfl
theorem Lv.gw (h : Lv w a l cap b g c r x j W) : w.heap.size + 1 ≤ g ∧ g < W.heap.size := h.ow.lt g rfl
theorem Lv.cast (h : Lv w a l cap b g c r x j W) {r2 x2 j2 : Nat} (e : Hw.mid (ww l) b l.length r2 x2 j2 = Hw.mid (ww l) b l.length r x j) : Lv w a l cap b g c r2 x2 j2 W :=
  ⟨h.hb, h.xt, by rw [e]; exact h.ow⟩
theorem Lv.set (h : Lv w a l cap b g c r x j W) {d : Nat} (hx : x < l.length) (hj : (elems (ww l x))[j]? = some d) (h1 : Hw.midv (ww l) b r x j x < 0) (h2 : Hw.midv (ww l) b r x j d = (r : Int)) : Lv w a l cap b g c r x (j + 1) (W.setCell ⟨g, x, none⟩ (.int .i64 ((r : Int) + 1))) := by
  refine ⟨h.hb.setCell (p := ⟨g, x, none⟩) (by have := h.gw; simp only; omega) _, h.xt.other ⟨g, x, none⟩ _ (by have := h.gw; simp only; omega), ?_⟩
  have := (h.ow.stored x (iv ((r : Int) + 1))).1
  rw [← List.map_set, Hw.mid_yes hx hj h1 h2] at this
  exact this
end

set_option maxRecDepth 100000 in
set_option maxHeartbeats 2000000 in
theorem l06Levels_any (a : Option Addr) (l : List Int) (cap b : Nat) (w : World) (hrow : IntRow w a l) (hok : Ok (l.length : Int) l) (hbl : b < l.length) :
    Calls Try.prog 81 #[.agg #[.int .i64 (l.length : Int), .slice a l.length cap], .int .i64 (b : Int)] w fun e w' => (∃ g c, e = .returned (.slice (some ⟨g, 0, none⟩) l.length c) ∧ w'.ownsRow w.heap.size 3 1 (.slice (some ⟨g, 0, none⟩) l.length c) l.length (((List.range l.length).map (Hw.lev (ww l) b l.length)).map iv)) ∧ Below w.heap.size w w' := by
  obtain ⟨i0, hi, hz0, hz1, hz2⟩ := info_parts infoInt
  have hl8 : l.length ≤ 8 := by have := hok.2.1; omega
  obtain ⟨ab, off, rfl, hab0, _⟩ := hrow.at hbl
  obtain ⟨Wa, hWa⟩ : ∃ Wa, Wa = w.alloc (.cells #[.int .i64 (l.length : Int), .slice (some ⟨ab, off, none⟩) l.length cap] 25) := ⟨_, rfl⟩
  have sa : Wa.heap.size = w.heap.size + 1 := by rw [hWa]; simp
  have hba : Below w.heap.size w Wa := by rw [hWa]; exact (Below.refl _ _).alloc (Nat.le_refl _) _
  have xa : Box Wa w.heap.size 25 (.int .i64 (l.length : Int)) (.slice (some ⟨ab, off, none⟩) l.length cap) := by rw [hWa]; exact Box.new _ _ _ _
  obtain ⟨W2, hW2⟩ : ∃ W2, W2 = Wa.alloc (.cells #[] 3) := ⟨_, rfl⟩
  have hb2 : Below Wa.heap.size Wa W2 := by rw [hW2]; exact (Below.refl _ _).alloc (Nat.le_refl _) _
  have xa2 := xa.below hb2 xa.lt
  have hba2 := hba.trans (hb2.mono hba.size)
  have hO0 : W2.ownsRow (w.heap.size + 1) 3 1 (.slice (some ⟨w.heap.size + 1, 0, none⟩) 0 0) 0 ((List.replicate 0 (-1 : Int)).map iv) := by
    rw [hW2, ← sa]; exact World.ownsRow_lit (base := Wa.heap.size) (e := 3) (size := 1) Wa #[] 0 (Nat.le_refl _) (by simp) rfl
  have HW2 : Hid (W2 = (w.alloc (.cells #[.int .i64 (l.length : Int), .slice (some ⟨ab, off, none⟩) l.length cap] 25)).alloc (.cells #[] 3)) := by show _ = _; rw [hW2, hWa]
  have HRW := Lib.hid hrow
  have HOK := Lib.hid hok
  have XA := Lib.hid xa2
  have BA := Lib.hid hba2
  have HO0 := Lib.hid hO0
  have c0 := xa2.c0
  have c1 := xa2.c1
  clear hrow hok hWa hW2 hb2 xa xa2 hba hba2 hO0 sa
  go_enter Try.func81, Try.ntmps81
  go_wp2
  rw [← HW2.out]
  clear c0 c1
  go_loopw [5, 15] (fun out i wr => ∃ (k g c : Nat), k ≤ l.length ∧ i = .int .i64 (k : Int) ∧ Value.slice (some ⟨g, 0, none⟩) k c = out ∧ wr.ownsRow (w.heap.size + 1) 3 1 (.slice (some ⟨g, 0, none⟩) k c) k ((List.replicate k (-1 : Int)).map iv) ∧ Box wr w.heap.size 25 (.int .i64 (l.length : Int)) (.slice (some ⟨ab, off, none⟩) l.length cap) ∧ Below w.heap.size w wr) (fun _ i _ => l.length - (intOf i).toNat)
  case atStart => exact ⟨0, _, 0, Nat.zero_le _, rfl, rfl, HO0.out, XA.out, BA.out⟩
  case round =>
    clear HO0 XA BA HW2
    obtain ⟨k, g, c, hk, rfl, rfl, hown, hxa, hb⟩ := hrel
    have HOWN := Lib.hid hown
    have HXA := Lib.hid hxa
    have HB := Lib.hid hb
    by_cases hlt : k < l.length
    · have hkb : (k : Int) < (l.length : Int) := by omega
      clear hown hxa hb
      go_wp2_with (first | (at_builtin; refine wpList_append_own _ rfl (.tmp 17) (.tmp 18) 23 rfl (w.heap.size + 1) 3 i0 (.int .i64 0) 1 8 Try.underlying23 hi hz0 hz1 hz2 rfl (by decide) _ _ _ rfl (HOWN.out.alloc _) ⟨wr.heap.size, 0, none⟩ 1 1 [iv (-1)] rfl rfl (cell_one_new _ _ _) (by simp [Value.oneCell', iv]) (by unfold maxLen; omega) (by omega) (by have := (HOWN.out.lt g rfl); simp; omega) ?_; intro v2 w2 hown2 hgrow _; obtain ⟨g2, c2, rfl, _, _, _⟩ := own_some hown2 (fun e => by rw [e] at hown2; exact absurd hown2.2 (by simp))) | fail)
      have hlow2 := HOWN.out.lt
      have HO2 : Hid (w2.ownsRow (w.heap.size + 1) 3 1 (.slice (some ⟨g2, 0, none⟩) (k + 1) c2) (k + 1) ((List.replicate (k + 1) (-1 : Int)).map iv)) := by
        show World.ownsRow _ _ _ _ _ _ _
        rw [List.replicate_succ', List.map_append]
        exact hown2
      have HB2 := Lib.hid ((HB.out.alloc HB.out.size (.cells #[.int .i64 (-1)] 3)).grown hgrow (by have := HB.out.size; simp; omega) (fun k e => by have := (hlow2 k e).1; omega))
      have HX2 : Hid (Box w2 w.heap.size 25 (.int .i64 (l.length : Int)) (.slice (some ⟨ab, off, none⟩) l.length cap)) := by
        have h1 := HXA.out.below ((Below.refl _ wr).alloc (Nat.le_refl _) (.cells #[.int .i64 (-1)] 3)) HXA.out.lt
        exact h1.grown hgrow (fun e => by have := (hlow2 w.heap.size e).1; omega)
      clear hown2 hgrow hlow2
      try go_wp2
      go_roundw
      case rel => exact ⟨k + 1, g2, c2, by omega, by go_num, rfl, HO2.out, HX2.out, HB2.out⟩
      case measure => simp [intOf]; omega
    · obtain rfl : k = l.length := by omega
      have hlow := hown.lt g rfl
      have hcell := hown.cellAt b (by omega)
      have hcell2 : wr.cell? ⟨g, b, none⟩ = some (.int .i64 (-1)) := by rw [hcell]; simp [hbl, iv]
      have hfr := hown.frozenAt b
      have hst := (hown.stored b (iv 0)).1
      rw [← List.map_set, ← Hw.mid_first (f := ww l) hbl] at hst
      have hbN : (b : Int) < (l.length : Int) := by omega
      obtain ⟨W6, hW6⟩ : ∃ W6, W6 = wr.setCell ⟨g, b, none⟩ (.int .i64 0) := ⟨_, rfl⟩
      have HLV : Hid (Lv w (some ⟨ab, off, none⟩) l cap b g c 0 0 0 W6) := by
        show Lv _ _ _ _ _ _ _ _ _ _ _
        rw [hW6]
        exact ⟨hb.setCell (p := ⟨g, b, none⟩) (by simp only; omega) _, hxa.other ⟨g, b, none⟩ _ (by simp only; omega), hst⟩
      have HW6 := Lib.hid hW6
      clear hown hxa hb hst hW6 hcell HOWN HXA HB
      go_wp2
      rw [← HW6.out]
      go_loopw [6] (fun rr w6 => ∃ r : Nat, r ≤ l.length ∧ rr = .int .i64 (r : Int) ∧ Lv w (some ⟨ab, off, none⟩) l cap b g c r 0 0 w6) (fun rr _ => l.length - (intOf rr).toNat)
      case atStart => exact ⟨0, Nat.zero_le _, rfl, HLV.out⟩
      case round =>
        clear HLV HW6 hcell2 hfr
        obtain ⟨r, hr, rfl, hlv⟩ := hrel
        have c0 := hlv.xt.c0
        have c1 := hlv.xt.c1
        have HLV := Lib.hid hlv
        by_cases hltr : r < l.length
        · have hrb : (r : Int) < (l.length : Int) := by omega
          clear hlv
          go_wp2
          clear c0 c1
          go_loopw [33] (fun i w6 => ∃ x : Nat, x ≤ l.length ∧ i = .int .i64 (x : Int) ∧ Lv w (some ⟨ab, off, none⟩) l cap b g c r x 0 w6) (fun i _ => l.length - (intOf i).toNat)
          case atStart => exact ⟨0, Nat.zero_le _, rfl, HLV.out⟩
          case round =>
            clear HLV
            obtain ⟨x, hx, rfl, hlv⟩ := hrel
            by_cases hltx : x < l.length
            · have hxb : (x : Int) < (l.length : Int) := by omega
              obtain ⟨hz1, hz2, hz3⟩ := HOK.out.ww hltx
              obtain ⟨_, _, hae, _, hcx⟩ := (HRW.out.below hlv.hb (Nat.le_refl _)).at hltx
              cases hae
              rw [hz1] at hcx
              obtain ⟨z, hz⟩ : ∃ z, z = ww l x := ⟨_, rfl⟩
              rw [← hz] at hcx hz2 hz3
              obtain ⟨M, hM⟩ : ∃ M, M = (elems z).length := ⟨_, rfl⟩
              have hM8 : M ≤ 8 := by rw [hM]; exact elTo_len z 8
              obtain ⟨wl, hwl⟩ : ∃ wl : Nat, wl = wr.heap.size := ⟨_, rfl⟩
              have hli := l02List_any z hz3 wr
              rw [← hM] at hli
              have hgw := hlv.gw
              rw [← hwl] at hgw
              have HLI := Lib.hid hli
              have HM := Lib.hid hM
              have HZ := Lib.hid hz
              have HZ2 := Lib.hid hz2
              have HLV := Lib.hid hlv
              clear hli hM hz hz1 hlv hz2
              go_wp2_with fail
              refine HLI.out.mono ?_
              rintro e w4 ⟨⟨ge, ce, rfl, hel⟩, hb4⟩
              rw [← hwl] at hel
              have HEL := Lib.hid hel
              have HLV4 := Lib.hid (HLV.out.below hb4)
              clear hel hb4 hcx HLI HLV
              go_wp2
              go_loopw [41] (fun i w7 => ∃ j : Nat, j ≤ M ∧ i = .int .i64 (j : Int) ∧ Lv w (some ⟨ab, off, none⟩) l cap b g c r x j w7 ∧ w7.ownsRow wl 3 1 (.slice (some ⟨ge, 0, none⟩) M ce) M ((elems z).map nv)) (fun i _ => M - (intOf i).toNat)
              case atStart => exact ⟨0, Nat.zero_le _, rfl, HLV4.out, HEL.out⟩
              case round =>
                clear HLV4 HEL
                obtain ⟨j, hj, rfl, hlv, hel⟩ := hrel
                by_cases hltj : j < M
                · have hjb : (j : Int) < (M : Int) := by omega
                  obtain ⟨d, hd⟩ : ∃ d, (elems z)[j]? = some d := ⟨_, List.getElem?_eq_getElem (by rw [← HM.out]; exact hltj)⟩
                  have hde := List.mem_of_getElem? hd
                  have hdl : d < l.length := by
                    rcases Nat.lt_or_ge d l.length with h | h
                    · exact h
                    · have h2 := (Hw.mem_elems.1 hde).2
                      rw [Nat.testBit_lt_two_pow (Nat.lt_of_lt_of_le HZ2.out (Nat.pow_le_pow_right (by decide) h))] at h2
                      cases h2
                  have hdb : (d : Int) < (l.length : Int) := by omega
                  have hcd : wr.cell? ⟨ge, j, none⟩ = some (.int .i64 (d : Int)) := by
                    rw [hel.cellAt j (by omega), List.getElem?_map, hd]; rfl
                  obtain ⟨v0, hv0⟩ : ∃ v0, v0 = Hw.midv (ww l) b r x j x := ⟨_, rfl⟩
                  obtain ⟨vd, hvd⟩ : ∃ vd, vd = Hw.midv (ww l) b r x j d := ⟨_, rfl⟩
                  have hc0 := hlv.cell hltx
                  have hc1 := hlv.cell hdl
                  rw [← hv0] at hc0
                  rw [← hvd] at hc1
                  have hfr := hlv.ow.frozenAt x
                  have HDZ : Hid ((elems (ww l x))[j]? = some d) := by show _ = _; rw [← HZ.out]; exact hd
                  have HV0 := Lib.hid hv0
                  have HVD := Lib.hid hvd
                  have HLV := Lib.hid hlv
                  have HEL := Lib.hid hel
                  have hne : g ≠ ge := by have := (hel.lt ge rfl).1; omega
                  clear hd hde hv0 hvd hlv hel
                  cases h0 : decide (v0 < 0)
                  · have hno : Hid (¬ v0 < 0) := Lib.hid (by simpa using h0)
                    have HL2 := Lib.hid (HLV.out.cast (r2 := r) (x2 := x) (j2 := j + 1) (Hw.mid_no1 (by rw [← HV0.out]; exact hno.out)))
                    clear hno
                    go_wp2
                    go_roundw
                    case rel => exact ⟨j + 1, by omega, by go_num, HL2.out, HEL.out⟩
                    case measure => simp [intOf]; omega
                  · have hneg : Hid (v0 < 0) := Lib.hid (by simpa using h0)
                    cases h1 : (vd == (r : Int))
                    · have hno : Hid (¬ vd = (r : Int)) := Lib.hid (by simpa using h1)
                      have HL2 := Lib.hid (HLV.out.cast (r2 := r) (x2 := x) (j2 := j + 1) (Hw.mid_no2 HDZ.out (by rw [← HV0.out]; exact hneg.out) (by rw [← HVD.out]; exact hno.out)))
                      clear hno hneg
                      go_wp2
                      go_roundw
                      case rel => exact ⟨j + 1, by omega, by go_num, HL2.out, HEL.out⟩
                      case measure => simp [intOf]; omega
                    · have hyes : Hid (vd = (r : Int)) := Lib.hid (by simpa using h1)
                      have HL2 := Lib.hid (HLV.out.set hltx HDZ.out (by rw [← HV0.out]; exact hneg.out) (by rw [← HVD.out]; exact hyes.out))
                      have HE2 : Hid ((wr.setCell ⟨g, x, none⟩ (.int .i64 ((r : Int) + 1))).ownsRow wl 3 1 (.slice (some ⟨ge, 0, none⟩) M ce) M ((elems z).map nv)) := own_set HEL.out ⟨g, x, none⟩ _ (by simp only; omega)
                      clear hyes hneg
                      go_wp2
                      go_roundw
                      case rel => exact ⟨j + 1, by omega, by go_num, HL2.out, HE2.out⟩
                      case measure => simp [intOf]; omega
                · obtain rfl : j = M := by omega
                  have HL2 : Hid (Lv w (some ⟨ab, off, none⟩) l cap b g c r (x + 1) 0 wr) := by
                    rw [HM.out, HZ.out] at hlv
                    exact hlv.cast (Hw.mid_player r x).symm
                  clear hlv hel
                  go_wp2
                  go_roundw
                  case rel => exact ⟨x + 1, by omega, by go_num, HL2.out⟩
                  case measure => simp [intOf]; omega
            · obtain rfl : x = l.length := by omega
              have HL2 := Lib.hid (hlv.cast (r2 := r + 1) (x2 := 0) (j2 := 0) (Hw.mid_round r).symm)
              clear hlv
              go_wp2
              go_roundw
              case rel => exact ⟨r + 1, by omega, by go_num, HL2.out⟩
              case measure => simp [intOf]; omega
        · obtain rfl : r = l.length := by omega
          have HL2 := Lib.hid (hlv.ow.mono (base' := w.heap.size) (Nat.le_succ _))
          have HB2 := Lib.hid hlv.hb
          clear hlv HLV
          go_wp2
          go_ret
          refine ⟨⟨g, c, rfl, ?_⟩, HB2.out⟩
          rw [← Hw.mid_start]; exact HL2.out
end Go.Proofs.Ytnlpfajncpbjpaa
