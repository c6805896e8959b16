/-
  'DefeatScores' of the program. No conditions but the bounds that Go gives a slice.
-/
import Derived.Test.YtpndfmlkceplcaaGl
namespace Go.Proofs.Ytpndfmlkceplcaa
open Go.ChangeShapes Go.WideShapes Go.ChangeAt Go.RowKit
set_option linter.unusedVariables false

/-- A row that turns from one into another. -/
def fill2 (f h : Nat → Int) (n k : Nat) : List Int := (List.range n).map fun i => if i < k then f i else h i
theorem fill2_len (f h : Nat → Int) (n k : Nat) : (fill2 f h n k).length = n := by simp [fill2]
theorem fill2_set (f h : Nat → Int) (n k : Nat) (hk : k < n) : (fill2 f h n k).set k (f k) = fill2 f h n (k + 1) := by
  apply List.ext_getElem (by simp [fill2])
  intro i h1 h2
  rw [List.getElem_set]
  simp only [fill2, List.getElem_map, List.getElem_range]
  by_cases e : k = i
  · subst e; rw [if_pos rfl, if_pos (Nat.lt_succ_self k)]
  · rw [if_neg e]
    by_cases c : i < k
    · rw [if_pos c, if_pos (by omega)]
    · rw [if_neg c, if_neg (by omega)]
theorem fill2_at (f h : Nat → Int) (n k : Nat) (hk : k < n) : (fill2 f h n k).getD k 0 = h k := by
  rw [List.getD_eq_getElem?_getD, List.getElem?_eq_getElem (by rw [fill2_len]; exact hk)]
  simp [fill2]
theorem fill2_all (f h : Nat → Int) (n : Nat) : fill2 f h n n = (List.range n).map f := by
  apply List.ext_getElem (by simp [fill2])
  intro i h1 h2
  simp only [fill2, List.getElem_map, List.getElem_range]
  rw [if_pos (by simpa using h2)]
theorem fill2_zero (f : Nat → Int) (L : List Int) : fill2 f (fun i => L.getD i 0) L.length 0 = L := by
  apply List.ext_getElem (by simp [fill2])
  intro i h1 h2
  simp only [fill2, List.getElem_map, List.getElem_range]
  rw [if_neg (by omega), List.getD_eq_getElem?_getD, List.getElem?_eq_getElem h2]; rfl
theorem own_someD {w : World} {B m c : Nat} {a : Option Addr} {xs : List Value} (h : w.ownsRow B 3 1 (.slice a m c) m xs) (h1 : 1 ≤ m) : ∃ g, a = some ⟨g, 0, none⟩ := by
  rcases h.2 with ⟨_, hn⟩ | ⟨g, c2, cur, he, _⟩
  · omega
  · simp only [Value.slice.injEq] at he
    exact ⟨g, he.1⟩

set_option maxHeartbeats 400000 in
theorem implTurn_no (n : Int) (a : Option Addr) (l : List Int) (cap : Nat) (w : World) (hrow : IntRow w a l) (hl : l.length ≤ maxLen) (hok : okB n l = false) :
    Calls Try.prog 100 #[.agg #[.int .i64 n, .slice a l.length cap]] w fun e w' => e = .returned (.tuple #[.agg #[.int .i64 0, .slice none 0 0], .bool false]) ∧ Below w.heap.size w w' := by
  have HE := Lib.hid hok
  clear hok
  obtain ⟨Wb, hWb⟩ : ∃ Wb, Wb = w.alloc (.cells #[.int .i64 n, .slice a l.length cap] 27) := ⟨_, rfl⟩
  obtain ⟨Wa, hWa⟩ : ∃ Wa, Wa = Wb.alloc (.cells #[.int .i64 0, .slice none 0 0] 27) := ⟨_, rfl⟩
  have sb : Wb.heap.size = w.heap.size + 1 := by rw [hWb]; simp
  have sa : Wa.heap.size = w.heap.size + 1 + 1 := by rw [hWa]; simp [sb]
  have hbb : Below w.heap.size w Wb := by rw [hWb]; exact (Below.refl _ _).alloc (Nat.le_refl _) _
  have hba : Below w.heap.size w Wa := by rw [hWa]; exact hbb.alloc hbb.size _
  have xt : Box Wa w.heap.size 27 (.int .i64 n) (.slice a l.length cap) := by
    rw [hWa]; exact (show Box Wb w.heap.size 27 (.int .i64 n) (.slice a l.length cap) by rw [hWb]; exact Box.new _ _ _ _).below ((Below.refl Wb.heap.size Wb).alloc (Nat.le_refl _) _) (by omega)
  have xr : Box Wa (w.heap.size + 1) 27 (.int .i64 0) (.slice none 0 0) := by rw [hWa, ← sb]; exact Box.new _ _ _ _
  have HWa : Hid (Wa = (w.alloc (.cells #[.int .i64 n, .slice a l.length cap] 27)).alloc (.cells #[.int .i64 0, .slice none 0 0] 27)) := by rw [hWa, hWb]; exact rfl
  have hrowa : IntRow Wa a l := hrow.below hba (Nat.le_refl _)
  have HL := Lib.hid hl
  clear hl hrow hWa hWb hbb
  go_enter Try.func100, Try.ntmps100
  go_wp2_with fail
  rw [← HWa.out]
  refine (implTourOk n a l cap Wa hrowa HL.out).mono ?_
  rintro e w1 ⟨rfl, hb1⟩
  rw [HE.out]
  have B1 := hba.trans (hb1.mono hba.size)
  have xr1 := xr.below hb1 xr.lt
  clear xr xt hrowa
  have c0 := xr1.c0
  have c1 := xr1.c1
  have f0 := xr1.f0
  have f1 := xr1.f1
  have X := Lib.hid xr1
  have BB := Lib.hid (B1)
  clear xr1
  go_wp2
  refine bodyPost_ret (v := .tuple #[.agg #[.int .i64 0, .slice none 0 0], .bool false]) (Box.res2 rfl _ rfl rfl ((X.out.set0 _).set1 _)) rfl ?_
  exact ⟨rfl, (BB.out.setCell (p := ⟨w.heap.size + 1, 0, none⟩) (Nat.le_succ _) _).setCell (p := ⟨w.heap.size + 1, 1, none⟩) (Nat.le_succ _) _⟩

set_option maxRecDepth 100000 in
set_option maxHeartbeats 2000000 in
theorem implDefeats (n : Int) (a : Option Addr) (l : List Int) (cap : Nat) (w : World) (hrow : IntRow w a l) (hl : l.length ≤ maxLen) :
    Calls Try.prog 36 #[.agg #[.int .i64 n, .slice a l.length cap]] w fun e w' => (∃ a0 c0, e = .returned (.slice a0 (defR n l).length c0) ∧ w'.ownsRow w.heap.size 3 1 (.slice a0 (defR n l).length c0) (defR n l).length ((defR n l).map iv)) ∧ Below w.heap.size w w' := by
  obtain ⟨Wa, hWa⟩ : ∃ Wa, Wa = w.alloc (.cells #[.int .i64 n, .slice a l.length cap] 27) := ⟨_, rfl⟩
  have HWa := Lib.hid hWa
  have hba : Below w.heap.size w Wa := by rw [hWa]; exact (Below.refl _ _).alloc (Nat.le_refl _) _
  have xa : Box Wa w.heap.size 27 (.int .i64 n) (.slice a l.length cap) := by rw [hWa]; exact Box.new _ _ _ _
  have hrowa : IntRow Wa a l := hrow.below hba (Nat.le_refl _)
  have HL := Lib.hid hl
  have HC := Lib.hid (implSeconds n a l cap Wa hrowa hl)
  have XA := Lib.hid xa
  have BA := Lib.hid hba
  have RA := Lib.hid hrowa
  clear hl hrow hWa xa hba hrowa
  cases hok : okB n l
  · have HE : Hid (defR n l = []) := by show _ = _; unfold defR; rw [hok]; rfl
    have HP : Hid (powR n l 2 = []) := by show _ = _; unfold powR; rw [hok]; simp
    have HO := Lib.hid hok
    have HZ : Hid (powR 0 [] 2 = []) := by
      show _ = _
      have : okB 0 [] = false := okB_false (fun h => by have := h.1; omega)
      unfold powR; rw [this]; simp
    rw [HE.out]
    rw [HP.out] at HC
    clear hok
    go_enter Try.func36, Try.ntmps36
    go_wp2_with fail
    rw [← HWa.out]
    refine HC.out.mono ?_
    rintro e w1 ⟨⟨a0, c0, rfl, ho⟩, hb1⟩
    have xa1 := XA.out.below hb1 XA.out.lt
    have c2 := xa1.c0
    have c3 := xa1.c1
    have HT := Lib.hid (implTurn_no n a l cap w1 (RA.out.below hb1 (Nat.le_refl _)) HL.out HO.out)
    have O1 := Lib.hid (ho.mono BA.out.size)
    have B1 := Lib.hid (BA.out.trans (hb1.mono BA.out.size))
    clear ho hb1 xa1
    go_wp2_with fail
    refine HT.out.mono ?_
    rintro e w2 ⟨rfl, hb2⟩
    have O2 := Lib.hid (own_below O1.out hb2)
    have B2 := Lib.hid (B1.out.trans (hb2.mono B1.out.size))
    have hZ := fun (W : World) => implSeconds 0 none [] 0 W (.inl rfl) (by unfold maxLen; simp)
    rw [HZ.out] at hZ
    have HZC := Lib.hid hZ
    clear c2 c3 hb2 hZ
    go_wp2_with fail
    refine (HZC.out _).mono ?_
    rintro e w3 ⟨⟨a3, c3, rfl, ho3⟩, hb3⟩
    have hbz : Below w2.heap.size w2 w3 := by
      first
        | exact hb3
        | exact ((Below.refl _ _).alloc (Nat.le_refl _) _).trans (hb3.mono (by simp))
    have B3 := Lib.hid (B2.out.trans (hbz.mono B2.out.size))
    have HBZ := Lib.hid hbz
    clear ho3 hb3 hbz
    rw [show ([] : List Int).length = 0 from rfl]
    go_wp2
    refine wp_loop_rounds 1 ?_
    rw [rounds_succ]
    go_wp2
    go_ret
    exact ⟨⟨a0, c0, rfl, own_below O2.out HBZ.out⟩, B3.out⟩
  · have hok' := okB_iff.1 hok
    have h8 : l.length ≤ 8 := by have := hok'.2.1; have := hok'.2.2.1; omega
    have h1 : 1 ≤ l.length := by have := hok'.1; have := hok'.2.2.1; omega
    obtain rfl : n = (l.length : Int) := hok'.2.2.1.symm
    have HK := Lib.hid hok'
    have HO := Lib.hid hok
    have HE : Hid (defR l.length l = defL l) := by show _ = _; unfold defR; rw [hok]; rfl
    have HEl : Hid ((defR l.length l).length = l.length) := by show _ = _; rw [HE.out]; simp [defL]
    have HP : Hid (powR l.length l 2 = nI (powTo l 2)) := by show _ = _; unfold powR; rw [if_pos ⟨hok, by omega, by omega⟩]; rfl
    have htl := turnL_len l
    have HKt : Hid (Ok l.length (turnD l)) := turnL_ok hok'
    have HPt : Hid (powR l.length (turnD l) 2 = nI (powTo (turnD l) 2)) := by
      show _ = _
      unfold powR
      rw [if_pos ⟨okB_true (turnL_ok hok'), by omega, by omega⟩]; rfl
    have HTL : Hid ((turnD l).length = l.length) := htl
    have hTr : turnR l.length l = turnD l := by unfold turnR; rw [hok]; rfl
    have hTn : turnN l.length l = (l.length : Int) := by unfold turnN; rw [hok]; rfl
    have hpl : (nI (powTo l 2)).length = l.length := by rw [nI_len, powTo_len]
    have hptl : (nI (powTo (turnD l) 2)).length = l.length := by rw [nI_len, powTo_len, htl]
    rw [HP.out, hpl] at HC
    have HTC := Lib.hid fun (W : World) (hr : IntRow W a l) => implTurn_ok (l.length : Int) a l cap W hr HL.out HO.out
    rw [hTr, hTn, htl] at HTC
    have HSC : Hid (∀ (W : World) (at0 : Option Addr) (ct : Nat), IntRow W at0 (turnD l) → Calls Try.prog 34 #[.agg #[.int .i64 (l.length : Int), .slice at0 l.length ct]] W fun e w' => (∃ a0 c0, e = .returned (.slice a0 l.length c0) ∧ w'.ownsRow W.heap.size 3 1 (.slice a0 l.length c0) l.length ((nI (powTo (turnD l) 2)).map iv)) ∧ Below W.heap.size W w') := by
      intro W at0 ct hr
      have := implSeconds (l.length : Int) at0 (turnD l) ct W hr (by rw [HTL.out]; exact HL.out)
      rw [HPt.out, hptl, HTL.out] at this
      exact this
    obtain ⟨m, hm⟩ : ∃ m, m = l.length := ⟨_, rfl⟩
    have HM := Lib.hid hm
    have HDA : Hid (∀ i, i < m → (((powTo l 2).getD i 0 : Nat) : Int) - (((powTo (turnD l) 2).getD i 0 : Nat) : Int) = defTo l i l.length) := fun i hi => defeat_at hok' (by omega)
    have HB2 : Hid (∀ i, (powTo l 2).getD i 0 ≤ 64 ∧ (powTo (turnD l) 2).getD i 0 ≤ 64) := fun i => ⟨getD_le _ _ (powTo_le l 2) i, getD_le _ _ (powTo_le (turnD l) 2) i⟩
    rw [← hm] at HC HTC HSC XA HWa HEl h1 h8 ⊢
    rw [HEl.out]
    clear hm hok hok' htl hTr hTn hpl hptl
    go_enter Try.func36, Try.ntmps36
    go_wp2_with fail
    rw [← HWa.out]
    refine HC.out.mono ?_
    rintro e w1 ⟨⟨a0, c0, rfl, ho⟩, hb1⟩
    obtain ⟨g, rfl⟩ := own_someD ho h1
    have xa1 := XA.out.below hb1 XA.out.lt
    have c2 := xa1.c0
    have c3 := xa1.c1
    have O1 := Lib.hid (ho.mono BA.out.size)
    have B1 := Lib.hid (BA.out.trans (hb1.mono BA.out.size))
    have R1 := Lib.hid (RA.out.below hb1 (Nat.le_refl _))
    clear ho hb1 xa1
    go_wp2_with fail
    refine (HTC.out w1 R1.out).mono ?_
    rintro e w2 ⟨⟨at0, ct, rfl, hot⟩, hb2⟩
    obtain ⟨W3, hW3⟩ : ∃ W3, W3 = w2.alloc (.cells #[.int .i64 (m : Int), .slice at0 m ct] 27) := ⟨_, rfl⟩
    have HW3 := Lib.hid hW3
    have hb3 : Below w2.heap.size w2 W3 := by rw [hW3]; exact (Below.refl _ _).alloc (Nat.le_refl _) _
    have O3 := Lib.hid (own_below (own_below O1.out hb2) hb3)
    have B3 := Lib.hid ((B1.out.trans (hb2.mono B1.out.size)).trans (hb3.mono (Nat.le_trans B1.out.size hb2.size)))
    have hRt : IntRow W3 at0 (turnD l) := by
      have hl2 : (turnD l).length = m := by rw [HTL.out]; exact HM.out.symm
      have h2 := own_below hot hb3
      rw [← hl2] at h2
      exact own_int h2
    have HS := Lib.hid (HSC.out W3 at0 ct hRt)
    clear c2 c3 hot hW3 hb2 hb3 hRt HTC HC
    go_wp2_with fail
    rw [← HW3.out]
    refine HS.out.mono ?_
    rintro e w4 ⟨⟨as0, cs, rfl, hos⟩, hb4⟩
    obtain ⟨gs, rfl⟩ := own_someD hos h1
    have hgs : W3.heap.size ≤ gs := (hos.lt gs rfl).1
    have hgl : g < W3.heap.size := (O3.out.lt g rfl).2
    have hne : gs ≠ g := by omega
    have hwg := (O3.out.lt g rfl).1
    have O4 := Lib.hid (own_below O3.out hb4)
    have B4 := Lib.hid (B3.out.trans (hb4.mono B3.out.size))
    have HF0 : Hid (nI (powTo l 2) = fill2 (fun i => defTo l i l.length) (fun i => (nI (powTo l 2)).getD i 0) m 0) := by
      show _ = _
      have e : (nI (powTo l 2)).length = m := by rw [nI_len, powTo_len]; exact HM.out.symm
      rw [← e, fill2_zero]
    have S4 := Lib.hid hos
    have O4f : Hid (w4.ownsRow w.heap.size 3 1 (.slice (some ⟨g, 0, none⟩) m c0) m ((fill2 (fun i => defTo l i l.length) (fun i => (nI (powTo l 2)).getD i 0) m 0).map iv)) := by
      show World.ownsRow _ _ _ _ _ _ _
      rw [← HF0.out]; exact O4.out
    have hms : m ≤ 8 := h8
    clear hos hb4 hgs hgl HS HSC XA RA BA HWa O1 O3 B1 B3 R1 O4 HF0
    go_wp2
    go_loopw [18] (fun i wr => ∃ k : Nat, k ≤ m ∧ i = .int .i64 (k : Int) ∧ Hid (wr.ownsRow w.heap.size 3 1 (.slice (some ⟨g, 0, none⟩) m c0) m ((fill2 (fun i => defTo l i l.length) (fun i => (nI (powTo l 2)).getD i 0) m k).map iv)) ∧ Hid (wr.ownsRow W3.heap.size 3 1 (.slice (some ⟨gs, 0, none⟩) m cs) m ((nI (powTo (turnD l) 2)).map iv)) ∧ Hid (Below w.heap.size w wr)) (fun i _ => m - (intOf i).toNat)
    case atStart => exact ⟨0, Nat.zero_le _, rfl, O4f, S4, B4⟩
    case round =>
      clear O4f S4 B4
      obtain ⟨k, hk, rfl, O1, S1, B1⟩ := hrel
      by_cases hlt : k < m
      · have hki : (k : Int) < (m : Int) := by omega
        obtain ⟨p, hp⟩ : ∃ p, p = (powTo l 2).getD k 0 := ⟨_, rfl⟩
        obtain ⟨t, ht⟩ : ∃ t, t = (powTo (turnD l) 2).getD k 0 := ⟨_, rfl⟩
        have hpt := HB2.out k
        rw [← hp, ← ht] at hpt
        have f1 : wr.cell? ⟨gs, k, none⟩ = some (.int .i64 (t : Int)) := by rw [cell_own S1.out hlt, nI_at, ← ht]; rfl
        have f2 : wr.cell? ⟨g, k, none⟩ = some (.int .i64 (p : Int)) := by rw [cell_own O1.out hlt, fill2_at _ _ _ _ hlt, nI_at, ← hp]; rfl
        have f3 := O1.out.frozenAt k
        have hwr : IntKind.i64.wrap ((p : Int) - (t : Int)) = (p : Int) - (t : Int) := by rw [IntKind.wrap_i64]; omega
        have hst := O1.out.stored k (iv ((p : Int) - (t : Int)))
        have hd : (p : Int) - (t : Int) = defTo l k l.length := by rw [hp, ht]; exact HDA.out k hlt
        have O5 : Hid ((wr.setCell ⟨g, k, none⟩ (.int .i64 ((p : Int) - (t : Int)))).ownsRow w.heap.size 3 1 (.slice (some ⟨g, 0, none⟩) m c0) m ((fill2 (fun i => defTo l i l.length) (fun i => (nI (powTo l 2)).getD i 0) m (k + 1)).map iv)) := by
          have h := hst.1
          rw [← List.map_set, hd, fill2_set (fun i => defTo l i l.length) _ _ _ hlt] at h
          rw [hd]; exact h
        have S5 := Lib.hid (own_grown S1.out hst.2 (fun k hk e => by simp [blk] at hk; cases e; omega))
        have B5 : Hid (Below w.heap.size w (wr.setCell ⟨g, k, none⟩ (.int .i64 ((p : Int) - (t : Int))))) := B1.out.setCell (p := ⟨g, k, none⟩) hwg _
        clear hst hd hp ht O1 S1 B1
        go_wp2
        go_roundw
        case rel => exact ⟨k + 1, by omega, by go_num, O5, S5, B5⟩
        case measure => simp [intOf]; omega
      · obtain rfl : k = m := by omega
        have O5 := O1
        rw [fill2_all] at O5
        clear O1
        go_wp2
        go_ret
        refine ⟨⟨some ⟨g, 0, none⟩, c0, rfl, ?_⟩, B1.out⟩
        have hE := HE.out
        rw [← HM.out] at hE
        rw [hE, defL, ← HM.out]
        have := O5.out
        rw [← HM.out] at this
        exact this
end Go.Proofs.Ytpndfmlkceplcaa
