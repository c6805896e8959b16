/-
  'FirstFullWay' of the model. No conditions but the bounds that Go gives a slice.
-/
import Derived.Test.YtnlpfajncpbjpaaJR
namespace Go.Proofs.Ytnlpfajncpbjpaa
open Go.ChangeShapes Go.WideShapes Go.ChangeAt Go.RowKit
set_option linter.unusedVariables false

/-- Where the search of the first way stands. -/
structure Gd (l : List Int) (p : List Nat) (s : Nat) : Prop where
  way : Hw.Way (ww l) p
  low : ∀ x ∈ p, x < l.length
  set : Hw.Lf l.length p s
  ne : Hw.gx (ww l) l.length p ≠ []
  hd : (Hw.full (ww l) l.length).head? = (Hw.gx (ww l) l.length p).head?
theorem Gd.start {n : Int} {l : List Int} (hok : Ok n l) : Gd l [] (2 ^ l.length - 1) :=
  ⟨Hw.Way.nil _, by simp, Hw.Lf.all _, by unfold Hw.gx; rw [if_pos rfl]; exact Hw.full_ne (tot_of hok) (by have := hok.1; have := hok.2.2.1; omega) (by have := hok.2.1; have := hok.2.2.1; omega), by unfold Hw.gx; rw [if_pos rfl]⟩
theorem Gd.len {l : List Int} {p : List Nat} {s : Nat} (h : Gd l p s) : p.length ≤ l.length := Hw.way_len h.way.1 h.low
theorem Gd.last {l : List Int} {p : List Nat} {s : Nat} (h : Gd l p s) (hp : p ≠ []) : p.getLastD 0 < l.length := by
  rw [Hw.last_getD p hp]; exact h.low _ (getD_mem (by have := List.length_pos_iff.2 hp; omega))
theorem Gd.flat {n : Int} {l : List Int} {p : List Nat} {s : Nat} (h : Gd l p s) (hok : Ok n l) (hs : s ≠ 0) : Hw.gx (ww l) l.length p = (elems s).flatMap (Hw.gn (ww l) l.length p) := by
  have hl8 : l.length ≤ 8 := by have := hok.2.1; have := hok.2.2.1; omega
  have hlt : p.length < l.length := by
    have h1 := h.len
    have h2 : p.length ≠ l.length := fun e => hs ((h.set.zero h.way.1 h.low).2 e)
    omega
  exact Hw.gx_flat hl8 hlt (fun hp => (hok.ww (h.last hp)).2.1) h.set
theorem Gd.next {n : Int} {l : List Int} {p : List Nat} {s x : Nat} (h : Gd l p s) (hok : Ok n l) (hx : x ∈ elems s) (hg : p = [] ∨ (ww l (p.getLastD 0)).testBit x = true) : ∃ s2, s = s2 + 2 ^ x ∧ Lw l (8 - (p.length + 1)) (p ++ [x]) s2 := by
  have hl8 : l.length ≤ 8 := by have := hok.2.1; have := hok.2.2.1; omega
  obtain ⟨hxm, hxp⟩ := h.set.has.1 (Hw.mem_elems.1 hx).2
  obtain ⟨h1, h2⟩ := h.set.snoc hl8 hxm hxp
  have h3 := h.len
  have hlen : (p ++ [x]).length ≤ l.length := by
    refine Hw.way_len (h.way.snoc hxp hg).1 (fun y hy => ?_)
    rcases List.mem_append.1 hy with h4 | h4
    · exact h.low y h4
    · obtain rfl : y = x := by simpa using h4
      exact hxm
  simp at hlen
  refine ⟨s - 2 ^ x, by omega, by simp; omega, h.way.snoc hxp hg, by simp, fun y hy => ?_, h1⟩
  rcases List.mem_append.1 hy with h4 | h4
  · exact h.low y h4
  · obtain rfl : y = x := by simpa using h4
    exact hxm
theorem Gd.take {n : Int} {l : List Int} {p : List Nat} {s x s2 i : Nat} (h : Gd l p s) (hok : Ok n l) (hs : s ≠ 0) (hx : (elems s)[i]? = some x) (hg : p = [] ∨ (ww l (p.getLastD 0)).testBit x = true) (hs2 : s = s2 + 2 ^ x)
    (hl : Lw l (8 - (p.length + 1)) (p ++ [x]) s2) (hc : Hw.gx (ww l) l.length (p ++ [x]) ≠ []) (hno : ∀ j y, j < i → (elems s)[j]? = some y → Hw.gn (ww l) l.length p y = []) : Gd l (p ++ [x]) s2 := by
  have e : Hw.gn (ww l) l.length p x = Hw.gx (ww l) l.length (p ++ [x]) := by unfold Hw.gn; rw [if_pos hg]
  refine ⟨hl.way, hl.low, hl.set, hc, ?_⟩
  rw [h.hd, h.flat hok hs, Hw.head_flat (by rw [e]; exact hc) (elems s) i hx hno, e]

set_option maxRecDepth 100000 in
set_option maxHeartbeats 4000000 in
theorem specFirstFullWay (n : Int) (a : Option Addr) (l : List Int) (cap : Nat) (w : World) (hrow : IntRow w a l) (hl : l.length ≤ maxLen) :
    Calls Try.prog 48 #[.agg #[.int .i64 n, .slice a l.length cap]] w (RetR w (ffR n l)) := by
  obtain ⟨i0, hi, hz0, hz1, hz2⟩ := info_parts infoInt
  obtain ⟨Wa, hWa⟩ : ∃ Wa, Wa = w.alloc (.cells #[.int .i64 n, .slice a l.length cap] 25) := ⟨_, rfl⟩
  have HWa := Lib.hid hWa
  have hba : Below w.heap.size w Wa := by rw [hWa]; exact (Below.refl _ _).alloc (Nat.le_refl _) _
  have xa : Box Wa w.heap.size 25 (.int .i64 n) (.slice a l.length cap) := by rw [hWa]; exact Box.new _ _ _ _
  have hrowa : IntRow Wa a l := hrow.below hba (Nat.le_refl _)
  have HL := Lib.hid hl
  have HRW := Lib.hid hrow
  clear hl hrow hWa
  cases hok : okB n l
  · have HO := Lib.hid hok
    have HE : Hid (ffR n l = []) := by show _ = _; unfold ffR; rw [hok]; rfl
    clear hok
    go_enter Try.func48, Try.ntmps48
    go_wp2_with fail
    rw [← HWa.out]
    refine (specTourOk n a l cap Wa hrowa HL.out).mono ?_
    rintro e w1 ⟨rfl, hb1⟩
    rw [HO.out]
    have B1 := Lib.hid (hba.trans (hb1.mono hba.size))
    clear hb1
    go_wp2
    go_ret
    exact ⟨⟨_, rfl, by rw [HE.out]; exact World.ownsRow_nil _ _ _ _⟩, B1.out⟩
  have HO := Lib.hid hok
  have hk := okB_iff.1 hok
  have HE : Hid (ffR n l = (Hw.full (ww l) l.length).head?.getD []) := by show _ = _; unfold ffR; rw [hok]; rfl
  have HK := Lib.hid hk
  have hnl := hk.2.2.1
  have hl8 : l.length ≤ 8 := by have := hk.2.1; omega
  have hl1 : 1 ≤ l.length := by have := hk.1; omega
  subst hnl
  clear hok hk
  go_enter Try.func48, Try.ntmps48
  go_wp2_with fail
  rw [← HWa.out]
  refine (specTourOk _ a l cap Wa hrowa HL.out).mono ?_
  rintro e w1 ⟨rfl, hb1⟩
  rw [HO.out]
  have xa1 := xa.below hb1 xa.lt
  have bw1 := hba.trans (hb1.mono hba.size)
  obtain ⟨W2, hW2⟩ : ∃ W2, W2 = w1.alloc (.cells #[] 3) := ⟨_, rfl⟩
  have hb2 : Below w1.heap.size w1 W2 := by rw [hW2]; exact (Below.refl _ _).alloc (Nat.le_refl _) _
  have xa2 := xa1.below hb2 xa1.lt
  have bw2 := bw1.trans (hb2.mono bw1.size)
  have hO0 : W2.ownsRow w.heap.size 3 1 (.slice (some ⟨w1.heap.size, 0, none⟩) 0 0) 0 [] := by rw [hW2]; exact own_empty w1 w.heap.size w1.heap.size bw1.size rfl
  have c0 := xa2.c0
  have c1 := xa2.c1
  rw [hW2] at c0 c1
  have HW2 := Lib.hid hW2
  have XA := Lib.hid xa2
  have BW := Lib.hid bw2
  have HO0 := Lib.hid hO0
  clear hW2 hb2 xa2 bw2 bw1 hb1 xa1 xa hba hrowa hO0
  go_wp2_with fail
  rw [← HW2.out]
  refine (l02All_any a l.length cap l.length W2 hl8).mono ?_
  rintro e w3 ⟨rfl, hb3⟩
  have hl1o := (HO0.out.lt w1.heap.size rfl).2
  have XA3 := Lib.hid (XA.out.below hb3 XA.out.lt)
  have BW3 := Lib.hid (BW.out.trans (hb3.mono BW.out.size))
  have HO3 : Hid (w3.ownsRow w.heap.size 3 1 (.slice (some ⟨w1.heap.size, 0, none⟩) 0 0) 0 []) := own_below HO0.out (hb3.mono (Nat.le_refl _))
  obtain ⟨AA, hAA⟩ : ∃ AA : Nat, AA = 2 ^ l.length - 1 := ⟨_, rfl⟩
  have hAI : ((2 ^ l.length : Nat) : Int) - 1 = (AA : Int) := by have := Nat.two_pow_pos l.length; omega
  rw [hAI]
  have HG0 : Hid (Gd l [] AA) := by show Gd _ _ _; rw [hAA]; exact Gd.start HK.out
  clear hAA hAI hb3 XA BW HO0 c0 c1 hl1o
  go_wp2
  go_loopw [3, 4] (fun out lf wr => ∃ (p : List Nat) (s g c k : Nat), k = p.length ∧ out = .slice (some ⟨g, 0, none⟩) k c ∧ lf = .int .i64 (s : Int) ∧ Hid (Gd l p s) ∧ wr.ownsRow w.heap.size 3 1 (.slice (some ⟨g, 0, none⟩) k c) k (p.map nv) ∧ Box wr w.heap.size 25 (.int .i64 (l.length : Int)) (.slice a l.length cap) ∧ Below w.heap.size w wr) (fun _ lf _ => (intOf lf).toNat)
  case atStart => exact ⟨[], AA, _, _, 0, rfl, rfl, rfl, HG0.out, HO3.out, XA3.out, BW3.out⟩
  case round =>
    clear HG0 HO3 XA3 BW3 HW2
    obtain ⟨p, s, g, c, k, hkp, rfl, rfl, hgd, hown, hxa, hb⟩ := hrel
    have hs8 : s < 256 := hgd.out.set.lt hl8
    have hk8 : k ≤ 8 := by have := hgd.out.len; omega
    by_cases hs0 : 0 < s
    · have hsi : (0 : Int) < (s : Int) := by omega
      have hli := l02List_any s hs8 wr
      obtain ⟨M, hM⟩ : ∃ M, M = (elems s).length := ⟨_, rfl⟩
      rw [← hM] at hli
      have hM8 : M ≤ 8 := by rw [hM]; exact elTo_len s 8
      have HLI := Lib.hid hli
      have HM := Lib.hid hM
      have HKP := Lib.hid hkp
      have HOWN := Lib.hid hown
      have HXA := Lib.hid hxa
      have HB := Lib.hid hb
      clear hli hM hkp hown hxa hb
      go_wp2_with fail
      refine HLI.out.mono ?_
      rintro e w4 ⟨⟨ge, ce, rfl, hel⟩, hb4⟩
      have HEL := Lib.hid hel
      have hgel := (hel.lt ge rfl).2
      have HXA4 := Lib.hid (HXA.out.below hb4 HXA.out.lt)
      have HB4 := Lib.hid (HB.out.trans (hb4.mono HB.out.size))
      have HOW4 : Hid (w4.ownsRow w.heap.size 3 1 (.slice (some ⟨g, 0, none⟩) k c) k (p.map nv)) := own_below HOWN.out hb4
      clear hel hb4 HLI HXA HB HOWN
      go_wp2
      go_loopw [3, 4, 18] (fun out lf i wr => ∃ j : Nat, j ≤ M ∧ i = .int .i64 (j : Int) ∧ out = .slice (some ⟨g, 0, none⟩) k c ∧ lf = .int .i64 (s : Int) ∧ Hid (∀ q y, q < j → (elems s)[q]? = some y → Hw.gn (ww l) l.length p y = []) ∧ Below w4.heap.size w4 wr) (fun _ _ i _ => M - (intOf i).toNat)
      case atStart => exact ⟨0, Nat.zero_le _, rfl, rfl, rfl, fun q y h => absurd h (Nat.not_lt_zero _), Below.refl _ _⟩
      case round =>
        obtain ⟨j, hj, rfl, rfl, rfl, hno, hb⟩ := hrel
        by_cases hlt : j < M
        · obtain ⟨x, hx⟩ : ∃ x, (elems s)[j]? = some x := ⟨_, List.getElem?_eq_getElem (by rw [← HM.out]; exact hlt)⟩
          have hxe := List.mem_of_getElem? hx
          have hx8 := (Hw.mem_elems.1 hxe).1
          have hcr : wr.cell? ⟨ge, j, none⟩ = some (.int .i64 (x : Int)) := by
            rw [hb.cell (p := ⟨ge, j, none⟩) hgel, HEL.out.cellAt j (by omega), List.getElem?_map, hx]; rfl
          have xr := HXA4.out.below hb HXA4.out.lt
          have c0 := xr.c0
          have c1 := xr.c1
          have hq0 := fun d os => cell_regrown c0 d os
          have hq1 := fun d os => cell_regrown c1 d os
          have hwr := HB4.out.trans (hb.mono HB4.out.size)
          have hrr := HRW.out.below hwr (Nat.le_refl _)
          have hrq : ∀ d os, IntRow (Go.Sort.grow (redrawn wr d) os) a l := fun d os => hrr.below (below_regrown wr d os) (Nat.le_refl _)
          have hor : wr.ownsRow w.heap.size 3 1 (.slice (some ⟨g, 0, none⟩) k c) k (p.map nv) := own_below HOW4.out hb
          have hjb : (j : Int) < (M : Int) := by omega
          have HNO := Lib.hid hno
          have HX := Lib.hid hx
          have HOR := Lib.hid hor
          have HB := Lib.hid hb
          have HXR := Lib.hid xr
          have HWR := Lib.hid hwr
          -- the count, where it is asked
          have hcnt : Hid ((p = [] ∨ (ww l (p.getLastD 0)).testBit x = true) → ∃ (s2 cn : Nat), s = s2 + 2 ^ x ∧ Lw l (8 - (p.length + 1)) (p ++ [x]) s2 ∧ cn = (Hw.gx (ww l) l.length (p ++ [x])).length ∧ ∀ d os, Calls Try.prog 75 #[.agg #[.int .i64 (l.length : Int), .slice a l.length cap], .int .i64 (s : Int), .int .i64 (x : Int)] (Go.Sort.grow (redrawn wr d) os) fun e w'' => e = .returned (.int .i64 (cn : Int)) ∧ ∃ p : Regrown, w'' = Go.Sort.grow (redrawn wr p.d) p.os) := by
            intro hg
            obtain ⟨s2, h1, h2⟩ := hgd.out.next HK.out hxe hg
            refine ⟨s2, _, h1, h2, rfl, fun d os => ?_⟩
            have := l06Count_any (l.length : Int) a l cap HK.out (8 - (p.length + 1)) (p ++ [x]) s2 s x _ (hrq d os) h2 (by rw [List.getLastD_concat]) h1
            rw [Hw.gx_cons (by simp), List.length_append, List.length_singleton]
            exact Calls.regrown_of this
          clear hno hx hor hb xr hwr
          by_cases hp : p = []
          · have hk0 : k = 0 := by rw [HKP.out, hp]; rfl
            have hkb : ((k : Int) == 0) = true := by rw [hk0]; rfl
            have hgu : Hid (p = [] ∨ (ww l (p.getLastD 0)).testBit x = true) := .inl hp
            obtain ⟨s2, cn, hs2, hlw, hcn, cC⟩ := hcnt.out (.inl hp)
            have HS2 := Lib.hid hs2
            have HLW := Lib.hid hlw
            have HCN := Lib.hid hcn
            clear hcnt hrq hrr hs2 hlw hcn hk0 hp
            by_cases hc0 : 0 < cn
            · have hcd : decide ((0 : Int) < (cn : Int)) = true := by rw [decide_eq_true_iff]; omega
              go_wp2
              refine wp_region_quiet_below (by kernel_rfl) (by kernel_rfl) ?_
              repeat (go_big_quiet_step (exact cC _ _))
              refine wpQuiet_nil ?_
              intro wq hw'
              have hbq : Below wr.heap.size wr wq := by obtain ⟨⟨dq, osq⟩, hw''⟩ := hw'; rw [hw'']; exact below_regrown wr dq osq
              have hown2 : wq.ownsRow w.heap.size 3 1 (.slice (some ⟨g, 0, none⟩) k c) k (p.map nv) := own_below HOR.out hbq
              have hbw := HWR.out.trans (hbq.mono HWR.out.size)
              have hxq := HXR.out.below hbq HXR.out.lt
              have hpw := wrapPow x (by omega)
              have hs2x := HS2.out
              obtain ⟨P, hP⟩ : ∃ P : Nat, P = 2 ^ x := ⟨_, rfl⟩
              rw [← hP] at hpw hs2x
              have hP8 : P ≤ 256 := by rw [hP]; exact pow_le x (by omega)
              have hP1 : 1 ≤ P := by rw [hP]; exact Nat.two_pow_pos x
              have hsub : (s : Int) - (P : Int) = (s2 : Int) := by omega
              have HBW := Lib.hid hbw
              have HXQ := Lib.hid hxq
              have hgq := (hown2.lt g rfl)
              clear hw' hbq hbw hxq hP hs2x cC hq0 hq1 hcr c0 c1 hcd
              go_wp2_with (at_builtin; refine wpList_append_own _ rfl _ _ 23 rfl w.heap.size 3 i0 (.int .i64 0) 1 8 Try.underlying23 hi hz0 hz1 hz2 rfl (by decide) _ _ _ rfl (hown2.alloc _) ⟨_, 0, none⟩ 1 1 [.int .i64 (x : Int)] rfl rfl ?c1 ?c2 ?c3 ?c4 ?c5 ?_)
              case c1 =>
                intro j u hj
                match j, hj with
                | 0, hj => simp at hj; subst hj; simp [Addr.add]
              case c2 => intro u hu; simp at hu; subst hu; rfl
              case c3 => unfold maxLen; omega
              case c4 => omega
              case c5 => have := HBW.out.size; simp; omega
              intro v' w5 hown' hgrow _
              have hb5 : Below w.heap.size w w5 := (HBW.out.alloc HBW.out.size _).grown hgrow (by have := HBW.out.size; simp; omega) (fun k hk => (hown2.lt k hk).1)
              have hx5 : Box w5 w.heap.size 25 (.int .i64 (l.length : Int)) (.slice a l.length cap) := (HXQ.out.below ((Below.refl _ wq).alloc (Nat.le_refl _) (.cells #[.int .i64 (x : Int)] 3)) HXQ.out.lt).grown hgrow (fun e => by
                have e2 : g = w.heap.size := by simpa [Value.ownBlock] using e
                have h2 := HXQ.out
                rcases hown2.2 with ⟨hn, _⟩ | ⟨g9, cap9, cur9, he9, _, hc9, _⟩
                · simp at hn
                · simp only [Value.slice.injEq, Option.some.injEq, Addr.mk.injEq] at he9
                  rw [← he9.1.1, e2, show wq.heap[w.heap.size]? = _ from h2] at hc9
                  simp at hc9)
              obtain ⟨g5, c5, rfl⟩ : ∃ g5 c5, v' = .slice (some ⟨g5, 0, none⟩) (k + 1) c5 := by
                rcases hown'.2 with ⟨_, h0⟩ | ⟨g5, cap5, cur5, rfl, _⟩
                · simp at h0
                · exact ⟨g5, cap5, rfl⟩
              have HO5 : Hid (w5.ownsRow w.heap.size 3 1 (.slice (some ⟨g5, 0, none⟩) (k + 1) c5) (k + 1) ((p ++ [x]).map nv)) := by
                show w5.ownsRow _ _ _ _ _ _
                rw [List.map_append]; exact hown'
              have HX5 := Lib.hid hx5
              have HB5 := Lib.hid hb5
              have HG5 : Hid (Gd l (p ++ [x]) s2) := hgd.out.take HK.out (by omega) HX.out hgu.out HS2.out HLW.out (fun e => by have := HCN.out; rw [e] at this; simp at this; omega) HNO.out
              clear hown' hgrow hown2 hx5 hb5 hgq
              go_wp2
              go_roundw
              case rel => exact ⟨p ++ [x], s2, g5, c5, k + 1, by rw [HKP.out]; simp, rfl, rfl, HG5.out, HO5.out, HX5.out, HB5.out⟩
              case measure => simp [intOf]; omega
            · have hcd : decide ((0 : Int) < (cn : Int)) = false := by rw [decide_eq_false_iff_not]; omega
              have HNN : Hid (∀ q y, q < j + 1 → (elems s)[q]? = some y → Hw.gn (ww l) l.length p y = []) := by
                intro q y hq hy
                by_cases e : q = j
                · subst e
                  rw [HX.out] at hy
                  cases hy
                  unfold Hw.gn
                  rw [if_pos hgu.out]
                  exact List.eq_nil_of_length_eq_zero (by rw [← HCN.out]; omega)
                · exact HNO.out q y (by omega) hy
              go_wp2
              refine wp_region_quiet_below (by kernel_rfl) (by kernel_rfl) ?_
              repeat (go_big_quiet_step (exact cC _ _))
              refine wpQuiet_nil ?_
              intro wq hw'
              have hbq : Below wr.heap.size wr wq := by obtain ⟨⟨dq, osq⟩, hw''⟩ := hw'; rw [hw'']; exact below_regrown wr dq osq
              have HB2 := Lib.hid (HB.out.trans (hbq.mono HB.out.size))
              clear hw' hbq cC hq0 hq1 hcr c0 c1 hcd
              go_wp2
              go_roundw
              case rel => exact ⟨j + 1, by omega, by go_num, rfl, rfl, HNN.out, HB2.out⟩
              case measure => simp [intOf]; omega
          · have hkp : 0 < k := by rw [HKP.out]; exact List.length_pos_iff.2 hp
            have hkb : ((k : Int) == 0) = false := by rw [beq_eq_false_iff_ne]; omega
            have hk1 : (1 : Int) ≤ (k : Int) := by omega
            have hk3 : ((k : Int) - 1).toNat = k - 1 := by omega
            obtain ⟨u, hu⟩ : ∃ u, u = p.getLastD 0 := ⟨_, rfl⟩
            have hul : u < l.length := by rw [hu]; exact hgd.out.last hp
            have hcu : wr.cell? ⟨g, k - 1, none⟩ = some (.int .i64 (u : Int)) := by
              rw [HOR.out.cellAt (k - 1) (by omega), List.getElem?_map, hu, Hw.last_getD p hp, ← HKP.out, List.getD_eq_getElem?_getD, List.getElem?_eq_getElem (by rw [← HKP.out]; omega)]; rfl
            have hqu := fun d os => cell_regrown hcu d os
            have cB : ∀ (b : Bool), (ww l u).testBit x = b → ∀ d os, Calls Try.prog 74 #[.agg #[.int .i64 (l.length : Int), .slice a l.length cap], .int .i64 (u : Int), .int .i64 (x : Int)] (Go.Sort.grow (redrawn wr d) os) fun e w'' => e = .returned (.bool b) ∧ ∃ p : Regrown, w'' = Go.Sort.grow (redrawn wr p.d) p.os :=
              fun b hb2 d os => Calls.regrown_of ((l02Beats_any _ _ l cap u x _ (hrq d os) HL.out hul (by omega)).mono fun e w' ⟨he, hw⟩ => ⟨by rw [he, wwBit HK.out hul, hb2], hw⟩)
            cases hbe : (ww l u).testBit x
            · have cB0 := cB false hbe
              have HNN : Hid (∀ q y, q < j + 1 → (elems s)[q]? = some y → Hw.gn (ww l) l.length p y = []) := by
                intro q y hq hy
                by_cases e : q = j
                · subst e
                  rw [HX.out] at hy
                  cases hy
                  unfold Hw.gn
                  rw [if_neg (fun h => h.elim hp (fun h => by rw [← hu, hbe] at h; cases h))]
                · exact HNO.out q y (by omega) hy
              clear hcnt hrq hrr cB hbe hu hp
              go_wp2
              refine wp_region_quiet_below (by kernel_rfl) (by kernel_rfl) ?_
              repeat (go_big_quiet_step (exact cB0 _ _))
              refine wpQuiet_nil ?_
              intro wq hw'
              have hbq : Below wr.heap.size wr wq := by obtain ⟨⟨dq, osq⟩, hw''⟩ := hw'; rw [hw'']; exact below_regrown wr dq osq
              have HB2 := Lib.hid (HB.out.trans (hbq.mono HB.out.size))
              clear hw' hbq cB0 hq0 hq1 hqu hcu hcr c0 c1
              go_wp2
              go_roundw
              case rel => exact ⟨j + 1, by omega, by go_num, rfl, rfl, HNN.out, HB2.out⟩
              case measure => simp [intOf]; omega
            · have cB0 := cB true hbe
              have hgu : Hid (p = [] ∨ (ww l (p.getLastD 0)).testBit x = true) := .inr (by rw [← hu]; exact hbe)
              obtain ⟨s2, cn, hs2, hlw, hcn, cC⟩ := hcnt.out hgu.out
              have HS2 := Lib.hid hs2
              have HLW := Lib.hid hlw
              have HCN := Lib.hid hcn
              clear hcnt hrq hrr hs2 hlw hcn cB hbe hu hp
              by_cases hc0 : 0 < cn
              · have hcd : decide ((0 : Int) < (cn : Int)) = true := by rw [decide_eq_true_iff]; omega
                go_wp2
                refine wp_region_quiet_below (by kernel_rfl) (by kernel_rfl) ?_
                repeat (go_big_quiet_step (first | exact cB0 _ _ | exact cC _ _))
                refine wpQuiet_nil ?_
                intro wq hw'
                have hbq : Below wr.heap.size wr wq := by obtain ⟨⟨dq, osq⟩, hw''⟩ := hw'; rw [hw'']; exact below_regrown wr dq osq
                have hown2 : wq.ownsRow w.heap.size 3 1 (.slice (some ⟨g, 0, none⟩) k c) k (p.map nv) := own_below HOR.out hbq
                have hbw := HWR.out.trans (hbq.mono HWR.out.size)
                have hxq := HXR.out.below hbq HXR.out.lt
                have hpw := wrapPow x (by omega)
                have hs2x := HS2.out
                obtain ⟨P, hP⟩ : ∃ P : Nat, P = 2 ^ x := ⟨_, rfl⟩
                rw [← hP] at hpw hs2x
                have hP8 : P ≤ 256 := by rw [hP]; exact pow_le x (by omega)
                have hP1 : 1 ≤ P := by rw [hP]; exact Nat.two_pow_pos x
                have hsub : (s : Int) - (P : Int) = (s2 : Int) := by omega
                have HBW := Lib.hid hbw
                have HXQ := Lib.hid hxq
                have hgq := (hown2.lt g rfl)
                clear hw' hbq hbw hxq hP hs2x cB0 cC hq0 hq1 hqu hcu hcr c0 c1 hcd
                go_wp2_with (at_builtin; refine wpList_append_own _ rfl _ _ 23 rfl w.heap.size 3 i0 (.int .i64 0) 1 8 Try.underlying23 hi hz0 hz1 hz2 rfl (by decide) _ _ _ rfl (hown2.alloc _) ⟨_, 0, none⟩ 1 1 [.int .i64 (x : Int)] rfl rfl ?c1 ?c2 ?c3 ?c4 ?c5 ?_)
                case c1 =>
                  intro j u hj
                  match j, hj with
                  | 0, hj => simp at hj; subst hj; simp [Addr.add]
                case c2 => intro u hu; simp at hu; subst hu; rfl
                case c3 => unfold maxLen; omega
                case c4 => omega
                case c5 => have := HBW.out.size; simp; omega
                intro v' w5 hown' hgrow _
                have hb5 : Below w.heap.size w w5 := (HBW.out.alloc HBW.out.size _).grown hgrow (by have := HBW.out.size; simp; omega) (fun k hk => (hown2.lt k hk).1)
                have hx5 : Box w5 w.heap.size 25 (.int .i64 (l.length : Int)) (.slice a l.length cap) := (HXQ.out.below ((Below.refl _ wq).alloc (Nat.le_refl _) (.cells #[.int .i64 (x : Int)] 3)) HXQ.out.lt).grown hgrow (fun e => by
                  have e2 : g = w.heap.size := by simpa [Value.ownBlock] using e
                  have h2 := HXQ.out
                  rcases hown2.2 with ⟨hn, _⟩ | ⟨g9, cap9, cur9, he9, _, hc9, _⟩
                  · simp at hn
                  · simp only [Value.slice.injEq, Option.some.injEq, Addr.mk.injEq] at he9
                    rw [← he9.1.1, e2, show wq.heap[w.heap.size]? = _ from h2] at hc9
                    simp at hc9)
                obtain ⟨g5, c5, rfl⟩ : ∃ g5 c5, v' = .slice (some ⟨g5, 0, none⟩) (k + 1) c5 := by
                  rcases hown'.2 with ⟨_, h0⟩ | ⟨g5, cap5, cur5, rfl, _⟩
                  · simp at h0
                  · exact ⟨g5, cap5, rfl⟩
                have HO5 : Hid (w5.ownsRow w.heap.size 3 1 (.slice (some ⟨g5, 0, none⟩) (k + 1) c5) (k + 1) ((p ++ [x]).map nv)) := by
                  show w5.ownsRow _ _ _ _ _ _
                  rw [List.map_append]; exact hown'
                have HX5 := Lib.hid hx5
                have HB5 := Lib.hid hb5
                have HG5 : Hid (Gd l (p ++ [x]) s2) := hgd.out.take HK.out (by omega) HX.out hgu.out HS2.out HLW.out (fun e => by have := HCN.out; rw [e] at this; simp at this; omega) HNO.out
                clear hown' hgrow hown2 hx5 hb5 hgq
                go_wp2
                go_roundw
                case rel => exact ⟨p ++ [x], s2, g5, c5, k + 1, by rw [HKP.out]; simp, rfl, rfl, HG5.out, HO5.out, HX5.out, HB5.out⟩
                case measure => simp [intOf]; omega
              · have hcd : decide ((0 : Int) < (cn : Int)) = false := by rw [decide_eq_false_iff_not]; omega
                have HNN : Hid (∀ q y, q < j + 1 → (elems s)[q]? = some y → Hw.gn (ww l) l.length p y = []) := by
                  intro q y hq hy
                  by_cases e : q = j
                  · subst e
                    rw [HX.out] at hy
                    cases hy
                    unfold Hw.gn
                    rw [if_pos hgu.out]
                    exact List.eq_nil_of_length_eq_zero (by rw [← HCN.out]; omega)
                  · exact HNO.out q y (by omega) hy
                go_wp2
                refine wp_region_quiet_below (by kernel_rfl) (by kernel_rfl) ?_
                repeat (go_big_quiet_step (first | exact cB0 _ _ | exact cC _ _))
                refine wpQuiet_nil ?_
                intro wq hw'
                have hbq : Below wr.heap.size wr wq := by obtain ⟨⟨dq, osq⟩, hw''⟩ := hw'; rw [hw'']; exact below_regrown wr dq osq
                have HB2 := Lib.hid (HB.out.trans (hbq.mono HB.out.size))
                clear hw' hbq cB0 cC hq0 hq1 hqu hcu hcr c0 c1 hcd
                go_wp2
                go_roundw
                case rel => exact ⟨j + 1, by omega, by go_num, rfl, rfl, HNN.out, HB2.out⟩
                case measure => simp [intOf]; omega
        · exfalso
          obtain rfl : j = M := by omega
          refine hgd.out.ne ?_
          rw [hgd.out.flat HK.out (by omega), List.flatMap_eq_nil_iff]
          intro y hy
          obtain ⟨q, hq, hqy⟩ := List.mem_iff_getElem.1 hy
          exact hno.out q y (by rw [HM.out]; exact hq) (by rw [List.getElem?_eq_getElem hq, hqy])
    · obtain rfl : s = 0 := by omega
      have hpl := (hgd.out.set.zero hgd.out.way.1 hgd.out.low).1 rfl
      have HF : Hid (ffR (l.length : Int) l = p) := by
        show _ = _
        rw [HE.out, hgd.out.hd]
        have hp : p ≠ [] := by intro e; rw [e] at hpl; simp at hpl; omega
        rw [Hw.gx_cons hp, Hw.ext_at (by omega)]; rfl
      have HOWN := Lib.hid hown
      have HKP := Lib.hid hkp
      have HB := Lib.hid hb
      clear hown hkp hb hgd hpl hxa
      go_wp2
      go_ret
      exact ⟨⟨_, rfl, by rw [HF.out, ← HKP.out]; exact HOWN.out⟩, HB.out⟩
end Go.Proofs.Ytnlpfajncpbjpaa
