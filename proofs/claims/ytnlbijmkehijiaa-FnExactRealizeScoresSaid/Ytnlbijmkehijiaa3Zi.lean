/-
  'RealizeScores' of the model. No conditions but the bounds that Go gives a slice, and at most 2^20 numbers.
-/
import Derived.Test.Ytnlbijmkehijiaa3Zf
import Derived.Test.Ytnlbijmkehijiaa3Zh
namespace Go.Proofs.Ytnlbijmkehijiaa
open Go.ChangeShapes Go.WideShapes Go.ChangeAt Go.RowKit
set_option linter.unusedVariables false

theorem landau_sorted_spec (B : Nat) (l : List Int) (hl : l.length ≤ 1048576) (W : World) (a2 : Option Addr) (c2 : Nat) (ho : W.ownsRow B 3 1 (.slice a2 l.length c2) l.length ((Tmpm.srt l).map iv)) :
    Calls Try.prog 21 #[.slice a2 l.length c2] W fun e w' => e = .returned (.bool (reB l)) ∧ Below W.heap.size W w' := by
  have hls := Tmpm.srt_len l
  obtain ⟨a', c', he, hi, _⟩ := own_read (l := Tmpm.srt l) (by rw [hls]; exact ho)
  simp only [Value.slice.injEq] at he
  obtain ⟨rfl, _, rfl⟩ := he
  have h := specLandau a2 (Tmpm.srt l) c2 W hi (by unfold maxLen; omega)
  rw [hls] at h
  exact h

theorem pow_cast (b : Nat) (hb : b ≤ 8) : 0 ≤ ((2 ^ b : Nat) : Int) ∧ ((2 ^ b : Nat) : Int) ≤ 256 := by
  have hp := pow_le b hb
  generalize 2 ^ b = p at hp ⊢
  omega

set_option maxRecDepth 100000 in
set_option maxHeartbeats 4000000 in
theorem specRealize (a : Option Addr) (l : List Int) (cap : Nat) (w : World) (hrow : IntRow w a l) (hl : l.length ≤ 1048576) :
    Calls Try.prog 24 #[.slice a l.length cap] w fun e w' => (∃ a0 c0, e = .returned (.tuple #[.agg #[.int .i64 (reN l), .slice a0 (reR l).length c0], .bool (reB l)]) ∧ w'.ownsRow w.heap.size 3 1 (.slice a0 (reR l).length c0) (reR l).length ((reR l).map iv)) ∧ Below w.heap.size w w' := by
  obtain ⟨Wa, hWa⟩ : ∃ Wa, Wa = w.alloc (.cells #[.int .i64 0, .slice none 0 0] 27) := ⟨_, rfl⟩
  have hba : Below w.heap.size w Wa := by rw [hWa]; exact (Below.refl _ _).alloc (Nat.le_refl _) _
  have xr : Box Wa w.heap.size 27 (.int .i64 0) (.slice none 0 0) := by rw [hWa]; exact Box.new _ _ _ _
  have hrowa : IntRow Wa a l := hrow.below hba (Nat.le_refl _)
  have HWa := Lib.hid hWa
  have HLan2 : Hid (∀ (W : World) (B : Nat) (a2 : Option Addr) (c2 : Nat), W.ownsRow B 3 1 (.slice a2 l.length c2) l.length ((Tmpm.srt l).map iv) → Calls Try.prog 21 #[.slice a2 l.length c2] W fun e w' => e = .returned (.bool (reB l)) ∧ Below W.heap.size W w') := fun W B a2 c2 h => landau_sorted_spec B l hl W a2 c2 h
  clear hWa hrow
  cases h12 : (decide ((1 : Int) ≤ (l.length : Int)) && decide ((l.length : Int) ≤ 8))
  · have HB : Hid (reB l = false) := by
      refine Tmpm.landB_false (fun h => ?_)
      have h1 := h.h1
      have h8 := h.h8
      rw [Tmpm.srt_len] at h1 h8
      simp at h12
      omega
    have H12 := Lib.hid h12
    have HN : Hid (reN l = 0) := by show _ = _; unfold reN; rw [HB.out]; rfl
    have HR : Hid (reR l = []) := by show _ = _; unfold reR; rw [HB.out]; rfl
    clear h12
    go_enter Try.func24, Try.ntmps24
    go_wp2_with fail
    rw [← HWa.out]
    refine (l01In_any _ 1 8 _).mono ?_
    rintro e w' ⟨rfl, rfl⟩
    rw [H12.out]
    have c0 := xr.c0
    have c1 := xr.c1
    have f0 := xr.f0
    have f1 := xr.f1
    have X := Lib.hid xr
    clear xr
    go_wp2
    refine bodyPost_ret (v := .tuple #[.agg #[.int .i64 0, .slice none 0 0], .bool false]) (Box.res2 rfl _ rfl rfl ((X.out.set0 _).set1 _)) rfl ?_
    refine ⟨⟨none, 0, ?_, ?_⟩, ?_⟩
    · rw [HN.out, HR.out, HB.out]; rfl
    · rw [HR.out]; exact World.ownsRow_nil _ _ _ _
    · exact (hba.setCell (p := ⟨w.heap.size, 0, none⟩) (Nat.le_refl _) _).setCell (p := ⟨w.heap.size, 1, none⟩) (Nat.le_refl _) _
  have H12 := Lib.hid h12
  have h1 : 0 < l.length := by simp at h12; omega
  have h8 : l.length ≤ 8 := by simp at h12; omega
  have HSO := Lib.hid (l03Sort_any a cap l Wa hrowa (by omega))
  clear h12 hl
  cases hB : reB l
  · have HB := Lib.hid hB
    have HN : Hid (reN l = 0) := by show _ = _; unfold reN; rw [hB]; rfl
    have HR : Hid (reR l = []) := by show _ = _; unfold reR; rw [hB]; rfl
    clear hB
    go_enter Try.func24, Try.ntmps24
    go_wp2_with fail
    rw [← HWa.out]
    refine (l01In_any _ 1 8 _).mono ?_
    rintro e w' ⟨rfl, rfl⟩
    rw [H12.out]
    go_wp2_with fail
    refine HSO.out.mono ?_
    rintro e W2 ⟨⟨g2, c2, rfl, ho2⟩, hb2⟩
    have HL2 := Lib.hid (HLan2.out W2 _ _ c2 ho2)
    have x2 := xr.below hb2 xr.lt
    have B2 := Lib.hid (hba.trans (hb2.mono hba.size))
    clear ho2 hb2 xr
    go_wp2_with fail
    refine HL2.out.mono ?_
    rintro e W3 ⟨rfl, hb3⟩
    rw [HB.out]
    have x3 := x2.below hb3 x2.lt
    have B3 := Lib.hid (B2.out.trans (hb3.mono B2.out.size))
    have c0 := x3.c0
    have c1 := x3.c1
    have f0 := x3.f0
    have f1 := x3.f1
    have X := Lib.hid x3
    clear x3 x2 hb3
    go_wp2
    refine bodyPost_ret (v := .tuple #[.agg #[.int .i64 0, .slice none 0 0], .bool false]) (Box.res2 rfl _ rfl rfl ((X.out.set0 _).set1 _)) rfl ?_
    refine ⟨⟨none, 0, ?_, ?_⟩, ?_⟩
    · rw [HN.out, HR.out]; rfl
    · rw [HR.out]; exact World.ownsRow_nil _ _ _ _
    · exact (B3.out.setCell (p := ⟨w.heap.size, 0, none⟩) (Nat.le_refl _) _).setCell (p := ⟨w.heap.size, 1, none⟩) (Nat.le_refl _) _
  · have HB := Lib.hid hB
    have hland := (Tmpm.landB_iff _).1 (show Tmpm.landB (Tmpm.srt l) = true from hB)
    have HN : Hid (reN l = l.length) := by show _ = _; unfold reN; rw [hB]; rfl
    have HR : Hid (reR l = (reW l).map Int.ofNat) := by show _ = _; unfold reR; rw [hB]; rfl
    have HINV := Lib.hid (Tmpm.Inv.start hland)
    obtain ⟨i0, hi, hz0, hz1, hz2⟩ := info_parts infoInt
    obtain ⟨j0, ki, kz0, kz1, kz2⟩ := info_parts infoBool
    obtain ⟨ca, rfl⟩ : ∃ ca, a = some ca := by
      obtain ⟨b, off, e, _⟩ := hrowa.at h1
      exact ⟨_, e⟩
    have HRA := Lib.hid hrowa
    clear hB hland hrowa
    go_enter Try.func24, Try.ntmps24
    go_wp2_with fail
    rw [← HWa.out]
    refine (l01In_any _ 1 8 _).mono ?_
    rintro e w' ⟨rfl, rfl⟩
    rw [H12.out]
    go_wp2_with fail
    refine HSO.out.mono ?_
    rintro e W2 ⟨⟨g2, c2, rfl, ho2⟩, hb2⟩
    have HL2 := Lib.hid (HLan2.out W2 _ _ c2 ho2)
    have X2 := Lib.hid (xr.below hb2 xr.lt)
    have B2 := Lib.hid (hba.trans (hb2.mono hba.size))
    have R2 := Lib.hid (HRA.out.below hb2 (Nat.le_refl _))
    clear ho2 hb2 xr
    go_wp2_with fail
    refine HL2.out.mono ?_
    rintro e W3 ⟨rfl, hb3⟩
    rw [HB.out]
    have X3 := Lib.hid (X2.out.below hb3 X2.out.lt)
    have B3 := Lib.hid (B2.out.trans (hb3.mono B2.out.size))
    have R3 := Lib.hid (R2.out.below hb3 (Nat.le_refl _))
    clear hb3
    go_wp2_with (refine wpList_make_full _ rfl _ _ 22 rfl W3.heap.size 3 i0 (.int .i64 0) 1 Try.underlying22 hi hz0 hz1 .i64 .i64 _ _ l.length rfl rfl rfl rfl ?c1 ?c2 ?c3 ?_)
    case c1 => rw [hz2]; omega
    case c2 => unfold maxLen; omega
    case c3 => exact Nat.le_refl _
    intro W4 ho4 hg4
    have hb4 : Below W3.heap.size W3 W4 := (Below.refl _ W3).grown hg4 (Nat.le_refl _) (fun k hk => by cases hk)
    rw [zeros] at ho4
    have hg4l := (ho4.lt _ rfl).2
    have hx3 := X3.out.lt
    obtain ⟨W5, hW5⟩ : ∃ W5, W5 = W4.alloc (.cells #[.int .i64 l.length, .slice (some ⟨W3.heap.size, 0, none⟩) l.length l.length] 27) := ⟨_, rfl⟩
    have hb5 : Below W4.heap.size W4 W5 := by rw [hW5]; exact (Below.refl _ _).alloc (Nat.le_refl _) _
    have T5 : Hid (Box W5 W4.heap.size 27 (.int .i64 l.length) (.slice (some ⟨W3.heap.size, 0, none⟩) l.length l.length)) := by rw [hW5]; exact Box.new _ _ _ _
    have hb35 := hb4.trans (hb5.mono hb4.size)
    have O5 := Lib.hid (own_below ho4 hb5)
    have B5 := Lib.hid (B3.out.trans (hb35.mono B3.out.size))
    have X5 := Lib.hid (X3.out.below hb35 X3.out.lt)
    have R5 := Lib.hid (R3.out.below hb35 (Nat.le_refl _))
    have HW5 := Lib.hid hW5
    clear hW5 ho4 hg4 hb4 hb5 hb35
    have ht5 := T5.out.lt
    have s5 : W5.heap.size = W4.heap.size + 1 := by rw [HW5.out]; simp
    have hbE : Below W5.heap.size W5 (W5.alloc (.cells #[] 3)) := (Below.refl _ _).alloc (Nat.le_refl _) _
    have HE0 : Hid (((W4.alloc (.cells #[.int .i64 l.length, .slice (some ⟨W3.heap.size, 0, none⟩) l.length l.length] 27)).alloc (.cells #[] 3)).ownsRow (W4.heap.size + 1) 3 1 (.slice (some ⟨W4.heap.size + 1, 0, none⟩) 0 0) 0 []) := by
      show World.ownsRow _ _ _ _ _ _ _
      rw [← HW5.out, ← s5]
      exact World.ownsRow_lit (base := W5.heap.size) (e := 3) (size := 1) W5 #[] 0 (Nat.le_refl _) (by simp) rfl
    have HSRC : Hid (∀ j v, (l.map iv)[j]? = some v → ((W4.alloc (.cells #[.int .i64 l.length, .slice (some ⟨W3.heap.size, 0, none⟩) l.length l.length] 27)).alloc (.cells #[] 3)).cell? (ca.add j) = some v) := by
      rw [← HW5.out]; exact (R5.out.below hbE (Nat.le_refl _)).src
    have HBE := Lib.hid hbE
    have HS5 := Lib.hid s5
    clear hbE s5
    go_wp2_with (first | (at_builtin; refine wpList_append_own _ rfl (.tmp 31) (.tmp 32) 22 rfl (W4.heap.size + 1) 3 i0 (.int .i64 0) 1 8 Try.underlying22 hi hz0 hz1 hz2 rfl (by decide) _ 0 [] rfl HE0.out ca l.length cap (l.map iv) rfl (by rw [List.length_map, Nat.mul_one]) HSRC.out (by intro u hu; obtain ⟨z, _, rfl⟩ := List.mem_map.1 hu; rfl) (by unfold maxLen; omega) (by omega) (by simp) ?_; intro v6 W6 ho6 hg6 hn6; simp only [Nat.zero_add, List.nil_append] at ho6; obtain ⟨gl, cl, rfl, hgl, hgl2, hcl⟩ := own_some ho6 (fun e => slice_ne (hn6.1 e).1); rw [← HW5.out] at hg6; have HO6 := Lib.hid ho6; have HG6 := Lib.hid hg6; clear ho6 hg6 hn6) | (refine wpList_make_full _ rfl (.tmp 34) (.tmp 34) 45 rfl W6.heap.size 4 j0 (.bool false) 1 Try.underlying45 ki kz0 kz1 .i64 .i64 _ _ l.length rfl rfl rfl rfl (by rw [kz2]; omega) (by unfold maxLen; omega) (Nat.le_refl _) ?_; intro W7 ho7 hg7) | fail)
    have hb7 : Below W6.heap.size W6 W7 := (Below.refl _ W6).grown hg7 (Nat.le_refl _) (fun k hk => by cases hk)
    have ho7' : W7.ownsRow W6.heap.size 4 1 (.slice (some ⟨W6.heap.size, 0, none⟩) l.length l.length) l.length ((Tmpm.dnL l.length (List.range l.length)).map bv) := by
      have e : (madeCells (Value.bool false).cells (l.length * 1)).toList = List.replicate l.length (Value.bool false) := by rw [Nat.mul_one]; exact toList_madeCells_one _ _
      rw [e] at ho7
      rw [Tmpm.dnL_all, List.map_replicate]
      exact ho7
    have hb6 : Below W5.heap.size W5 W6 := HBE.out.grown HG6.out HBE.out.size (fun k e => by
      have e' : some (W4.heap.size + 1) = some k := e
      cases e'
      exact Nat.le_of_eq HS5.out)
    have hb57 := hb6.trans (hb7.mono hb6.size)
    have Z7 : Hid (Sz w W7 W4.heap.size W3.heap.size gl W6.heap.size l.length cl l.length l (List.replicate l.length 0) (List.range l.length)) := by
      refine ⟨⟨by omega, by omega, by omega, by omega, by omega, by omega, by omega, by omega, by omega, by omega⟩, B5.out.trans (hb57.mono B5.out.size), T5.out.below hb57 T5.out.lt, X5.out.below hb57 X5.out.lt, (own_below O5.out hb57).mono (Nat.le_of_lt hx3), (own_below HO6.out hb7).mono (by omega), ho7'.mono (by omega)⟩
    have HLR : Hid (0 + (List.range l.length).length = l.length) := by show _ = _; rw [Nat.zero_add, List.length_range]
    have hcl2 : cl ≤ maxLen := by
      rcases HO6.out.2 with ⟨h, _⟩ | ⟨g', cap', cur, h, _, _, q1, q2, _⟩
      · cases h
      · cases h; exact q2
    clear ho7 hg7 hb7 ho7' hb6 hb57 hg4l hx3 ht5 hgl hgl2
    go_wp2
    go_loopw [8] (fun i wr => ∃ (r : Nat) (L : List Int) (ys P : List Nat), r + P.length = l.length ∧ i = .int .i64 r ∧ Hid (Sz w wr W4.heap.size W3.heap.size gl W6.heap.size l.length cl l.length L ys P) ∧ Hid (Tmpm.Inv l.length L ys P) ∧ Hid (Tmpm.runR P.length L ys P = reW l)) (fun i _ => l.length - (intOf i).toNat)
    case atStart => exact ⟨0, l, _, List.range l.length, HLR.out, rfl, Z7.out, HINV.out, rfl⟩
    case round =>
      clear Z7 HLR HINV
      obtain ⟨r, L, ys, P, hrP, rfl, hz, hinv, hrun⟩ := hrel
      cases hQ : Tmpm.sortP L P with
      | nil =>
        have hP0 : P.length = 0 := by have := (Tmpm.sortP_perm L P).length_eq; rw [hQ] at this; exact this.symm
        rw [hP0] at hrun hrP
        obtain rfl : r = l.length := by omega
        have hys : Hid (ys = reW l) := hrun.out
        have hyl := hinv.out.hW
        have d0 := hz.out.xt.c0
        have d1 := hz.out.xt.c1
        have e0 := hz.out.xr.c0
        have e1 := hz.out.xr.c1
        have e2 := hz.out.xr.f0
        have e3 := hz.out.xr.f1
        have hgw : W3.heap.size ≠ w.heap.size := by have := hz.out.d.g0; omega
        have HGW := Lib.hid hgw
        have HYL := Lib.hid hyl
        have hrr : ¬ (l.length : Int) < (l.length : Int) := by omega
        clear hQ hP0 hrP hinv hrun hgw hyl
        go_wp2
        have hlen : (reR l).length = l.length := by rw [HR.out, List.length_map, ← hys.out, HYL.out]
        refine bodyPost_ret (v := .tuple #[.agg #[.int .i64 l.length, .slice (some ⟨W3.heap.size, 0, none⟩) l.length l.length], .bool true]) (Box.res2 rfl _ rfl rfl ((hz.out.xr.set0 _).set1 _)) rfl ⟨⟨some ⟨W3.heap.size, 0, none⟩, l.length, ?_, ?_⟩, ?_⟩
        · rw [HN.out, hlen]
        · rw [hlen, HR.out, ← nv_iv, ← hys.out]
          exact own_aside (own_aside hz.out.ow ⟨w.heap.size, 0, none⟩ _ HGW.out) ⟨w.heap.size, 1, none⟩ _ HGW.out
        · exact (hz.out.hb.setCell (p := ⟨w.heap.size, 0, none⟩) (Nat.le_refl _) _).setCell (p := ⟨w.heap.size, 1, none⟩) (Nat.le_refl _) _
      | cons a T =>
        have hpq := Tmpm.sortP_perm L P
        have hsq := Tmpm.sortP_sorted L P
        rw [hQ] at hpq hsq
        have hPl : P.length = T.length + 1 := hpq.length_eq.symm
        have hrl : r < l.length := by omega
        have hhead := hinv.out.head hpq hsq
        have hnext := hinv.out.next hpq hsq
        have hrs := Tmpm.runR_step (W := ys) hQ
        have hLl := hinv.out.hL
        obtain ⟨s, hs⟩ : ∃ s, s = (L.getD a 0).toNat := ⟨_, rfl⟩
        rw [← hs] at hhead hnext hrs
        have HH := Lib.hid hhead.1
        have HNX := Lib.hid hnext
        have HRUN : Hid (Tmpm.runR T.length (Tmpm.innr a s T L ys T.length).1 (Tmpm.innr a s T L ys T.length).2 T = reW l) := hrs.symm.trans hrun.out
        have HRT : Hid (r + 1 + T.length = l.length) := (show r + 1 + T.length = l.length by omega)
        have hal := hhead.1.an
        have ha8 : a < 8 := by omega
        have HLL := Lib.hid hLl
        have HSQ := Lib.hid hsq
        have hltA : ∀ x ∈ a :: T, x < l.length := by
          intro x hx
          rcases List.mem_cons.1 hx with rfl | hx
          · exact hal
          · exact hhead.1.lt x hx
        have Z1 := hz.out.perm hpq
        have hC1 := least_any _ _ gl W6.heap.size l.length cl l.length L (Tmpm.dnL l.length (a :: T)) wr (by omega) Z1.ol Z1.od
        rw [least_head L l.length a T hltA hsq] at hC1
        have HC1 := Lib.hid hC1
        have hcd := Z1.dcell a hal
        have hfd := Z1.od.frozenAt a
        have Z2 := Lib.hid (Z1.mark hhead.1.aT)
        have hri : (r : Int) < (l.length : Int) := by omega
        have hai : (a : Int) < (l.length : Int) := by omega
        have HHE : Hid (((wr.setCell ⟨W6.heap.size, a, none⟩ (.bool true)).alloc (.cells #[] 4)).ownsRow wr.heap.size 4 1 (.slice (some ⟨wr.heap.size, 0, none⟩) 0 0) 0 []) := by
          have e : (wr.setCell ⟨W6.heap.size, a, none⟩ (.bool true)).heap.size = wr.heap.size := by simp [World.setCell]
          have := World.ownsRow_lit (base := wr.heap.size) (e := 4) (size := 1) (wr.setCell ⟨W6.heap.size, a, none⟩ (.bool true)) #[] 0 (by rw [e]; exact Nat.le_refl _) (by simp) rfl
          rw [e] at this
          exact this
        have hgE : (wr.setCell ⟨W6.heap.size, a, none⟩ (.bool true)).grownBy ((wr.setCell ⟨W6.heap.size, a, none⟩ (.bool true)).alloc (.cells #[] 4)) none := World.grownBy_alloc _ _ _
        have Z3 := Lib.hid (Z2.out.quiet hgE)
        have HSB : Hid (∀ j v, ((Tmpm.dnL l.length T).map bv)[j]? = some v → ((wr.setCell ⟨W6.heap.size, a, none⟩ (.bool true)).alloc (.cells #[] 4)).cell? ((⟨W6.heap.size, 0, none⟩ : Addr).add j) = some v) := by
          intro j v hj
          have hjl : j < l.length := by
            rcases Nat.lt_or_ge j l.length with h | h
            · exact h
            · rw [List.getElem?_eq_none (by rw [List.length_map, Tmpm.dnL_len]; exact h)] at hj; cases hj
          have e : (⟨W6.heap.size, 0, none⟩ : Addr).add j = ⟨W6.heap.size, j, none⟩ := by unfold Addr.add; split <;> simp_all
          rw [e, Z3.out.od.cellAt j (by omega)]; exact hj
        have HDL : Hid (((Tmpm.dnL l.length T).map bv).length = l.length * 1) := by show _ = _; rw [List.length_map, Tmpm.dnL_len, Nat.mul_one]
        have hWsz : w.heap.size < wr.heap.size := by
          have h1 := Z1.xr.lt
          exact h1
        have hD := Z1.d
        have hgs : W3.heap.size < wr.heap.size := (Z1.ow.lt _ rfl).2
        have hls : gl < wr.heap.size := (Z1.ol.lt _ rfl).2
        have hds : W6.heap.size < wr.heap.size := (Z1.od.lt _ rfl).2
        have hts : W4.heap.size < wr.heap.size := Z1.xt.lt
        have HSZ : Hid (w.heap.size < wr.heap.size ∧ W4.heap.size < wr.heap.size ∧ W3.heap.size < wr.heap.size ∧ gl < wr.heap.size ∧ W6.heap.size < wr.heap.size) := ⟨hWsz, hts, hgs, hls, hds⟩
        have HAS : Hid (∀ W' : World, ((wr.setCell ⟨W6.heap.size, a, none⟩ (.bool true)).alloc (.cells #[] 4)).grownBy W' (some wr.heap.size) → Sz w W' W4.heap.size W3.heap.size gl W6.heap.size l.length cl l.length L ys T) := fun W' hg => Z3.out.aside hg (fun k e => by
          cases e
          have := HSZ.out
          exact ⟨by omega, by omega, by omega, by omega, by omega⟩)
        have HAH : Hid (∀ (W' : World) (gh ch : Nat), wr.heap.size ≤ gh → W'.ownsRow wr.heap.size 4 1 (.slice (some ⟨gh, 0, none⟩) l.length ch) l.length ((Tmpm.dnL l.length T).map bv) → Hw w W' W4.heap.size W3.heap.size gl W6.heap.size gh l.length ch T) := fun W' gh ch hgh ho => by
          have := HSZ.out
          exact ⟨ho.mono (by omega), by omega, by omega, by omega, by omega, by omega⟩
        have HCL : Hid (∀ W' : World, Sz w W' W4.heap.size W3.heap.size gl W6.heap.size l.length cl l.length L ys T → W'.cell? ⟨gl, a, none⟩ = some (.int .i64 (s : Nat))) := fun W' hz => by
          have h := hz.lcell HLL.out a hal
          rw [HH.out.hs] at h
          exact h
        clear hpq hsq hPl hrl hhead hnext hrs hLl hs hQ hrun hltA Z1 hC1 hrP hz hgE hD hgs hls hds hts hWsz
        go_wp2_with fail
        refine HC1.out.mono ?_
        rintro e w' ⟨rfl, rfl⟩
        go_wp2_with (first | (at_builtin; refine wpList_append_own _ rfl (.tmp 47) (.tmp 48) 45 rfl wr.heap.size 4 j0 (.bool false) 1 1 Try.underlying45 ki kz0 kz1 kz2 rfl (by decide) _ 0 [] rfl HHE.out ⟨W6.heap.size, 0, none⟩ l.length l.length ((Tmpm.dnL l.length T).map bv) rfl HDL.out HSB.out (by intro u hu; obtain ⟨z, _, rfl⟩ := List.mem_map.1 hu; rfl) (by unfold maxLen; omega) (by omega) (by simp) ?_; intro v9 W9 ho9 hg9 hn9; simp only [Nat.zero_add, List.nil_append] at ho9; obtain ⟨gh, ch, rfl, hgh, hgh2, hch⟩ := own_someE ho9 (fun e => slice_ne (hn9.1 e).1); have Z9 := Lib.hid (HAS.out _ hg9); have H9 := Lib.hid (HAH.out _ _ _ hgh ho9); have hcl9 := HCL.out _ Z9.out; clear ho9 hg9 hn9 hcd hfd) | fail)
        have HHT : Hid (Tmpm.innr a s T L ys 0 = (L, ys)) := rfl
        have hs8 := HH.out.s8
        go_loopw [11] (fun k wr2 => ∃ q j : Nat, q + j = s ∧ k = .int .i64 q ∧ Hid (Sz w wr2 W4.heap.size W3.heap.size gl W6.heap.size l.length cl l.length L (Tmpm.innr a s T L ys j).2 T) ∧ Hid (Hw w wr2 W4.heap.size W3.heap.size gl W6.heap.size gh l.length ch (T.drop j))) (fun k _ => (intOf k).toNat)
        case atStart => exact ⟨s, 0, rfl, rfl, Z9.out, H9.out⟩
        case round =>
          clear Z9 H9 hcl9 hch hgh hgh2
          obtain ⟨q, j, hqj, rfl, hzj, hhj⟩ := hrel
          by_cases hq0 : 0 < q
          · have hjT : j < T.length := by have := HH.out.sT; omega
            obtain ⟨b, hb⟩ : ∃ b, b = T.getD j 0 := ⟨_, rfl⟩
            have hbj : T[j] = b := by rw [hb, List.getD_eq_getElem?_getD, List.getElem?_eq_getElem hjT]; rfl
            have hdrop : T.drop j = b :: T.drop (j + 1) := by rw [List.drop_eq_getElem_cons hjT, hbj]
            have hbT : b ∈ T := by rw [← hbj]; exact List.getElem_mem hjT
            have hbl := HH.out.lt b hbT
            have hb8 : b < 8 := by omega
            have hsqd : (b :: T.drop (j + 1)).Pairwise fun a b => Tmpm.leK L a b = true := by
              rw [← hdrop]
              exact ((List.pairwise_cons.1 HSQ.out).2).sublist (List.drop_sublist _ _)
            have hltd : ∀ x ∈ b :: T.drop (j + 1), x < l.length := by
              intro x hx
              rw [← hdrop] at hx
              exact HH.out.lt x (List.mem_of_mem_drop hx)
            have hbn : b ∉ T.drop (j + 1) := by
              have h2 : (T.drop j).Nodup := HH.out.nT.sublist (List.drop_sublist _ _)
              rw [hdrop] at h2
              exact (List.nodup_cons.1 h2).1
            rw [hdrop] at hhj
            have hC2 := least_any _ _ gl gh l.length cl ch L (Tmpm.dnL l.length (b :: T.drop (j + 1))) wr (by omega) hzj.out.ol hhj.out.oh
            rw [least_head L l.length b _ hltd hsqd] at hC2
            have HC2 := Lib.hid hC2
            have hch := hhj.out.cell b hbl
            have hfh := hhj.out.oh.frozenAt b
            obtain ⟨hm1, hm2⟩ := hhj.out.mark hbn
            have Z10 := hzj.out.aside hm2 hhj.out.row
            have hyL : (Tmpm.innr a s T L ys j).2.length = l.length := by rw [Tmpm.innr_len2]; exact hinv.out.hW
            obtain ⟨y, hy⟩ : ∃ y, y = (Tmpm.innr a s T L ys j).2.getD a 0 := ⟨_, rfl⟩
            have hy8 : y < 256 := by
              rw [hy, List.getD_eq_getElem?_getD, List.getElem?_eq_getElem (by omega)]
              exact Tmpm.innr_lt (s := s) (L := L) hal h8 HH.out.lt hinv.out.hW hinv.out.bd j (by omega) _ (List.getElem_mem _)
            have hyb : y.testBit b = false := by
              rw [hy, Tmpm.innr_ata (s := s) (L := L) HH.out.aT hal HH.out.lt hinv.out.hW b j (by omega) ?_]
              · exact HH.out.fr a (.inl rfl) b (.inr hbT)
              · intro h
                obtain ⟨i, hi, e⟩ := List.getElem_of_mem h
                rw [List.length_take] at hi
                rw [List.getElem_take] at e
                have h5 : T[i]'(by omega) = T[j]'hjT := e.trans hbj.symm
                have h6 := (List.getElem_inj HH.out.nT).1 h5
                omega
            have hcy := Z10.ycell hyL a hal
            rw [← hy] at hcy
            have hfy := Z10.ow.frozenAt a
            have d1 := Z10.xt.c1
            have hsum := add_pow y b hy8 hb8 hyb
            obtain ⟨pw, hpw⟩ : ∃ pw : Int, pw = ((2 ^ b : Nat) : Int) := ⟨_, rfl⟩
            obtain ⟨z, hz⟩ : ∃ z : Int, z = ((y ||| 2 ^ b : Nat) : Int) := ⟨_, rfl⟩
            have hwp : wrap64 (2 ^ b) = pw := by rw [hpw]; exact wrapPow b (by omega)
            rw [← hpw, ← hz] at hsum
            have hst : (Tmpm.innr a s T L ys (j + 1)).2 = (Tmpm.innr a s T L ys j).2.set a (y ||| 2 ^ b) := by
              rw [Tmpm.innr, if_pos (by omega), ← hb, ← hy]
            have Z11 : Hid (Sz w ((wr.setCell ⟨gh, b, none⟩ (.bool true)).setCell ⟨W3.heap.size, a, none⟩ (.int .i64 z)).drew W4.heap.size W3.heap.size gl W6.heap.size l.length cl l.length L (Tmpm.innr a s T L ys (j + 1)).2 T) := by
              rw [hst, hz]
              exact (Z10.win a (y ||| 2 ^ b)).quiet (grown_drew _)
            have H11 : Hid (Hw w ((wr.setCell ⟨gh, b, none⟩ (.bool true)).setCell ⟨W3.heap.size, a, none⟩ (.int .i64 z)).drew W4.heap.size W3.heap.size gl W6.heap.size gh l.length ch (T.drop (j + 1))) :=
              (hm1.set1 ⟨W3.heap.size, a, none⟩ (.int .i64 z) hhj.out.hg).aside (grown_drew _) (by simp)
            have hq0' : (0 : Int) < (q : Int) := by omega
            have hqb : (q : Int) ≤ 8 := by omega
            have hbi : (b : Int) < (l.length : Int) := by omega
            have hpw0 : 0 ≤ pw := by rw [hpw]; exact (pow_cast b (Nat.le_of_lt hb8)).1
            have hpwb : pw ≤ 256 := by rw [hpw]; exact (pow_cast b (Nat.le_of_lt hb8)).2
            have hqj1 : q - 1 + (j + 1) = s := by omega
            clear hC2 hm1 hm2 Z10 hyL hy hyb hst hz hpw hsqd hltd hbn hdrop hbj hb hhj hqj
            go_wp2_with fail
            refine HC2.out.mono ?_
            rintro e w' ⟨rfl, rfl⟩
            go_wp2
            go_region
            all_goals
              obtain ⟨w8, hw8⟩ : ∃ w8, w8 = ((wr.setCell ⟨gh, b, none⟩ (.bool true)).setCell ⟨W3.heap.size, a, none⟩ (.int .i64 z)).drew := ⟨_, rfl⟩
              rw [← hw8]
              have Z12 := Z11
              have H12b := H11
              rw [← hw8] at Z12 H12b
              clear Z11 H11 hw8 hch hfh hcy hfy d1 hsum hwp
              go_wp2
              go_roundw
              case rel => exact ⟨q - 1, j + 1, hqj1, by go_num, Z12.out, H12b.out⟩
              case measure => simp [intOf]; omega
          · obtain rfl : q = 0 := by omega
            obtain rfl : j = s := by omega
            have hq0' : ¬ (0 : Int) < ((0 : Nat) : Int) := by omega
            have hLn := HLL.out
            have hYn : (Tmpm.innr a j T L ys j).2.length = l.length := by rw [Tmpm.innr_len2]; exact hinv.out.hW
            have Z13 : Hid (Sz w wr W4.heap.size W3.heap.size gl W6.heap.size l.length cl l.length (Tmpm.mid 0 (· - 1) (T.drop j) L 0) (Tmpm.mid 0 (· ||| 2 ^ a) (T.drop j) (Tmpm.innr a j T L ys j).2 0) T) := by
              rw [Tmpm.mid_zero, Tmpm.mid_zero]; exact hzj.out
            have HYN := Lib.hid hYn
            clear hqj hLn hYn
            go_wp2
            go_loopw [78] (fun i wr3 => ∃ x : Nat, x ≤ l.length ∧ i = .int .i64 x ∧ Hid (Sz w wr3 W4.heap.size W3.heap.size gl W6.heap.size l.length cl l.length (Tmpm.mid 0 (· - 1) (T.drop j) L x) (Tmpm.mid 0 (· ||| 2 ^ a) (T.drop j) (Tmpm.innr a j T L ys j).2 x) T) ∧ Hid (Hw w wr3 W4.heap.size W3.heap.size gl W6.heap.size gh l.length ch (T.drop j))) (fun i _ => l.length - (intOf i).toNat)
            case atStart => exact ⟨0, Nat.zero_le _, rfl, Z13.out, hhj.out⟩
            case round =>
              clear Z13 hzj hhj
              obtain ⟨x, hx, rfl, hzx, hhx⟩ := hrel
              by_cases hlt : x < l.length
              · have hxi : (x : Int) < (l.length : Int) := by omega
                have hx8 : x < 8 := by omega
                have hch := hhx.out.cell x hlt
                cases hc : (T.drop j).contains x
                · rw [hc] at hch
                  have hxn : x ∉ T.drop j := by intro h; rw [List.contains_iff_mem.2 h] at hc; cases hc
                  have Z14 : Hid (Sz w wr W4.heap.size W3.heap.size gl W6.heap.size l.length cl l.length (Tmpm.mid 0 (· - 1) (T.drop j) L (x + 1)) (Tmpm.mid 0 (· ||| 2 ^ a) (T.drop j) (Tmpm.innr a j T L ys j).2 (x + 1)) T) := by
                    rw [← Tmpm.mid_no x hxn, ← Tmpm.mid_no x hxn]; exact hzx.out
                  clear hc hxn hzx
                  go_wp2
                  go_roundw
                  case rel => exact ⟨x + 1, by omega, by go_num, Z14.out, hhx.out⟩
                  case measure => simp [intOf]; omega
                · rw [hc] at hch
                  have hxd : x ∈ T.drop j := List.contains_iff_mem.1 hc
                  have hxT := List.mem_of_mem_drop hxd
                  obtain ⟨y, hy⟩ : ∃ y, y = (Tmpm.innr a j T L ys j).2.getD x 0 := ⟨_, rfl⟩
                  have hy8 : y < 256 := by
                    rw [hy, List.getD_eq_getElem?_getD, List.getElem?_eq_getElem (by rw [HYN.out]; exact hlt)]
                    exact Tmpm.innr_lt (s := j) (L := L) hal h8 HH.out.lt hinv.out.hW hinv.out.bd j HH.out.sT _ (List.getElem_mem _)
                  have hyb : y.testBit a = false := by
                    rcases Tmpm.innr_lo2 (s := j) (L := L) HH.out.nT HH.out.aT hal HH.out.lt hinv.out.hW x hxT with h | h
                    · rw [hy, h]; exact HH.out.fr x (.inr hxT) a (.inl rfl)
                    · have := HH.out.sT; omega
                  have hcy := hzx.out.ycell (by rw [Tmpm.mid_len]; exact HYN.out) x hlt
                  rw [Tmpm.mid_here x (by rw [HYN.out]; exact hlt), ← hy] at hcy
                  have hfy := hzx.out.ow.frozenAt x
                  have d1 := hzx.out.xt.c1
                  have hsum := add_pow y a hy8 ha8 hyb
                  obtain ⟨pw, hpw⟩ : ∃ pw : Int, pw = ((2 ^ a : Nat) : Int) := ⟨_, rfl⟩
                  obtain ⟨z, hz⟩ : ∃ z : Int, z = ((y ||| 2 ^ a : Nat) : Int) := ⟨_, rfl⟩
                  have hwp : wrap64 (2 ^ a) = pw := by rw [hpw]; exact wrapPow a (by omega)
                  rw [← hpw, ← hz] at hsum
                  have hyst : (Tmpm.mid 0 (· ||| 2 ^ a) (T.drop j) (Tmpm.innr a j T L ys j).2 x).set x (y ||| 2 ^ a) = Tmpm.mid 0 (· ||| 2 ^ a) (T.drop j) (Tmpm.innr a j T L ys j).2 (x + 1) := by
                    rw [hy]; exact Tmpm.mid_yes (f := (· ||| 2 ^ a)) x (by rw [HYN.out]; exact hlt) hxd
                  obtain ⟨v, hv⟩ : ∃ v, v = L.getD x 0 := ⟨_, rfl⟩
                  have hlst : (Tmpm.mid 0 (· - 1) (T.drop j) L x).set x (v - 1) = Tmpm.mid 0 (· - 1) (T.drop j) L (x + 1) := by
                    rw [hv]; exact Tmpm.mid_yes (f := (· - 1)) x (by rw [HLL.out]; exact hlt) hxd
                  have hvb := HH.out.lo x hxT
                  rw [← hv] at hvb
                  have hv0 := hvb.1
                  have hv8 := hvb.2
                  have Z14 : Hid (Sz w (wr.setCell ⟨W3.heap.size, x, none⟩ (.int .i64 z)).drew W4.heap.size W3.heap.size gl W6.heap.size l.length cl l.length (Tmpm.mid 0 (· - 1) (T.drop j) L x) (Tmpm.mid 0 (· ||| 2 ^ a) (T.drop j) (Tmpm.innr a j T L ys j).2 (x + 1)) T) := by
                    rw [← hyst, hz]; exact (hzx.out.win x (y ||| 2 ^ a)).quiet (grown_drew _)
                  have H14 : Hid (Hw w (wr.setCell ⟨W3.heap.size, x, none⟩ (.int .i64 z)).drew W4.heap.size W3.heap.size gl W6.heap.size gh l.length ch (T.drop j)) :=
                    (hhx.out.set1 ⟨W3.heap.size, x, none⟩ (.int .i64 z) hhx.out.hg).aside (grown_drew _) (by simp)
                  have HVL : Hid ((Tmpm.mid 0 (· - 1) (T.drop j) L x).getD x 0 = v) := by show _ = _; rw [Tmpm.mid_here x (by rw [HLL.out]; exact hlt), hv]
                  have HLM : Hid ((Tmpm.mid 0 (· - 1) (T.drop j) L x).length = l.length) := by show _ = _; rw [Tmpm.mid_len]; exact HLL.out
                  have HLS := Lib.hid hlst
                  have hpw0 : 0 ≤ pw := by rw [hpw]; exact (pow_cast a (Nat.le_of_lt ha8)).1
                  have hpwb : pw ≤ 256 := by rw [hpw]; exact (pow_cast a (Nat.le_of_lt ha8)).2
                  clear hc hxd hxT hy hyb hpw hz hyst hv hlst hvb hzx hhx
                  go_wp2
                  go_region
                  all_goals
                    obtain ⟨w8, hw8⟩ : ∃ w8, w8 = (wr.setCell ⟨W3.heap.size, x, none⟩ (.int .i64 z)).drew := ⟨_, rfl⟩
                    rw [← hw8]
                    have Z15 := Z14
                    have H15 := H14
                    rw [← hw8] at Z15 H15
                    have hcl := Z15.out.lcell HLM.out x hlt
                    rw [HVL.out] at hcl
                    have hfl := Z15.out.ol.frozenAt x
                    have Z16 : Hid (Sz w (w8.setCell ⟨gl, x, none⟩ (.int .i64 (v - 1))) W4.heap.size W3.heap.size gl W6.heap.size l.length cl l.length (Tmpm.mid 0 (· - 1) (T.drop j) L (x + 1)) (Tmpm.mid 0 (· ||| 2 ^ a) (T.drop j) (Tmpm.innr a j T L ys j).2 (x + 1)) T) := by
                      rw [← HLS.out]; exact Z15.out.left x (v - 1)
                    have H16 := Lib.hid (H15.out.set1 ⟨gl, x, none⟩ (.int .i64 (v - 1)) H15.out.hl)
                    clear Z14 H14 hw8 hch hcy hfy d1 hsum hwp
                    go_wp2
                    go_roundw
                    case rel => exact ⟨x + 1, by omega, by go_num, Z16.out, H16.out⟩
                    case measure => simp [intOf]; omega
              · obtain rfl : x = l.length := by omega
                have hxi : ¬ (l.length : Int) < (l.length : Int) := by omega
                have Z17 : Hid (Sz w wr W4.heap.size W3.heap.size gl W6.heap.size l.length cl l.length (Tmpm.innr a j T L ys T.length).1 (Tmpm.innr a j T L ys T.length).2 T) := by
                  rw [← Tmpm.midL_all (W := ys) HH.out.nT HH.out.lt HLL.out, ← Tmpm.midY_all (L := L) HH.out.nT HH.out.aT hal HH.out.lt hinv.out.hW HH.out.sT]
                  exact hzx.out
                clear hzx hhx
                go_wp2
                go_roundw
                case rel => exact ⟨r + 1, _, _, T, HRT.out, by go_num, Z17.out, HNX.out, HRUN.out⟩
                case measure => simp [intOf]; omega
end Go.Proofs.Ytnlbijmkehijiaa
