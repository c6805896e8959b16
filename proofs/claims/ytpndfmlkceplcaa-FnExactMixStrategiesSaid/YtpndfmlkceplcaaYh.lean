/-
  'MixStrategies' of the program and of the model, whole. No conditions but the bounds that Go gives a slice.
-/
import Derived.Test.YtpndfmlkceplcaaYf
import Derived.Test.YtpndfmlkceplcaaGh
namespace Go.Proofs.Ytpndfmlkceplcaa
open Go.ChangeShapes Go.WideShapes Go.ChangeAt Go.RowKit
set_option linter.unusedVariables false

theorem one_cellY (wr : World) (x : Int) : ∀ j, j < 1 → (wr.alloc (.cells #[.int .i64 x] 3)).cell? ((⟨wr.heap.size, 0, none⟩ : Addr).add j) = some (iv ([x].getD j 0)) := fun j hj => by
  obtain rfl : j = 0 := by omega
  rw [Addr.add_lit]
  simp [iv]
theorem own_oneY {wr : World} {B g n c : Nat} {L : List Value} (x : Int) (h : wr.ownsRow B 3 1 (.slice (some ⟨g, 0, none⟩) n c) n L) : (wr.alloc (.cells #[.int .i64 x] 3)).ownsRow B 3 1 (.slice (some ⟨g, 0, none⟩) n c) n L := by
  have hgn : wr.grownBy (wr.alloc (.cells #[.int .i64 x] 3)) none := World.grownBy_alloc _ _ _
  exact own_grown h hgn (fun k _ e => by cases e)
theorem mx_no {m n : Int} {xs ys : List Int} (h : mxB m n xs ys = false) : mxK m n xs ys = false ∧ mxL m n xs ys = [] := by
  have h1 : mxK m n xs ys = false := by unfold mxK; rw [h]; rfl
  exact ⟨h1, by unfold mxL; rw [h1]; rfl⟩
theorem mx_yes {m n : Int} {xs ys : List Int} (h : mxB m n xs ys = true) : mxK m n xs ys = lowOk (mxU m n xs ys) xs.length ∧ mxL m n xs ys = lowR (mxU m n xs ys) xs.length := by
  have h1 : mxK m n xs ys = lowOk (mxU m n xs ys) xs.length := by unfold mxK lowOk; rw [h, Bool.true_and]
  exact ⟨h1, by unfold mxL lowR; rw [h1]⟩
theorem mx_parts {m n : Int} {xs ys : List Int} (h : mxB m n xs ys = true) : xs.length = ys.length ∧ (1 ≤ xs.length ∧ xs.length ≤ 8) ∧ xs.all wOk = true ∧ ys.all wOk = true ∧ (0 ≤ m ∧ m ≤ 1000) ∧ (0 ≤ n ∧ n ≤ 1000) := by
  simp only [mxB, isz, Bool.and_eq_true, decide_eq_true_eq] at h
  exact ⟨h.1, ⟨by omega, by omega⟩, h.2.2.1, h.2.2.2.1, h.2.2.2.2.1, h.2.2.2.2.2⟩
theorem mx_at {m n : Int} {xs ys : List Int} {i : Nat} (hm : 0 ≤ m ∧ m ≤ 1000) (hn : 0 ≤ n ∧ n ≤ 1000) (hx : 0 ≤ xs.getD i 0 ∧ xs.getD i 0 ≤ 100000) (hy : 0 ≤ ys.getD i 0 ∧ ys.getD i 0 ≤ 100000) :
    (0 ≤ m * xs.getD i 0 ∧ m * xs.getD i 0 ≤ 100000000) ∧ (0 ≤ n * ys.getD i 0 ∧ n * ys.getD i 0 ≤ 100000000) ∧ m * xs.getD i 0 + n * ys.getD i 0 = ((mxU m n xs ys i : Nat) : Int) ∧ mxU m n xs ys i ≤ 200000000 := by
  have h1 := prod_bd hm.1 hm.2 hx.1 hx.2
  have h2 := prod_bd hn.1 hn.2 hy.1 hy.2
  have e : m * xs.getD i 0 + n * ys.getD i 0 = ((mxU m n xs ys i : Nat) : Int) := by unfold mxU mxI; omega
  exact ⟨h1, h2, e, by omega⟩
theorem fillQ_one (u : Nat → Nat) (k : Nat) : fillQ u 1 k k = (List.range k).map fun i => (u i : Int) := by
  apply List.ext_getElem (by simp [fillQ])
  intro i h1 h2
  simp only [fillQ, List.getElem_map, List.getElem_range, Nat.div_one]
  rw [if_pos (by simpa using h2)]

/-- A row of numbers whose first ones are divided. -/
def fillH (u : Nat → Nat) (g n k : Nat) : List Int := (List.range n).map fun i => if i < k then ((u i / g : Nat) : Int) else (u i : Int)
theorem fillH_set (u : Nat → Nat) (g n k : Nat) (h : k < n) : (fillH u g n k).set k ((u k / g : Nat) : Int) = fillH u g n (k + 1) := by
  apply List.ext_getElem (by simp [fillH])
  intro i h1 h2
  rw [List.getElem_set]
  simp only [fillH, List.getElem_map, List.getElem_range]
  by_cases e : k = i
  · subst e; rw [if_pos rfl, if_pos (Nat.lt_succ_self k)]
  · rw [if_neg e]
    by_cases c : i < k
    · rw [if_pos c, if_pos (by omega)]
    · rw [if_neg c, if_neg (by omega)]
theorem fillH_zero (u : Nat → Nat) (g n : Nat) : fillH u g n 0 = (List.range n).map fun i => (u i : Int) := by
  apply List.ext_getElem (by simp [fillH])
  intro i h1 h2
  simp [fillH]
theorem fillH_all (u : Nat → Nat) (n : Nat) : fillH u (gq u n) n n = lowL u n := by
  apply List.ext_getElem (by simp [fillH, lowL])
  intro i h1 h2
  simp only [fillH, lowL, List.getElem_map, List.getElem_range]
  rw [if_pos (by simpa [lowL] using h2)]
theorem fillH_at (u : Nat → Nat) (g n k : Nat) (h : k < n) : (fillH u g n k).getD k 0 = (u k : Int) := by
  rw [List.getD_eq_getElem?_getD, List.getElem?_eq_getElem (by simpa [fillH] using h)]
  simp [fillH]
theorem l01In_ofY (x lo hi : Int) (w : World) (q : Bool) (h : (decide (lo ≤ x) && decide (x ≤ hi)) = q) : Calls Try.prog 80 #[.int .i64 x, .int .i64 lo, .int .i64 hi] w fun e w' => e = .returned (.bool q) ∧ w = w' := by
  rw [← h]; exact l01In_any x lo hi w

set_option maxRecDepth 100000 in
set_option maxHeartbeats 4000000 in
theorem implMix (a : Option Addr) (ca : Nat) (xs : List Int) (b : Option Addr) (cb : Nat) (ys : List Int) (m n : Int) (w : World) (hra : IntRow w a xs) (hla : xs.length ≤ maxLen) (hrb : IntRow w b ys) (hlb : ys.length ≤ maxLen) :
    Calls Try.prog 26 #[.slice a xs.length ca, .slice b ys.length cb, .int .i64 m, .int .i64 n] w fun e w' => (∃ a0 c0, e = .returned (.tuple #[.slice a0 (mxL m n xs ys).length c0, .bool (mxK m n xs ys)]) ∧ w'.ownsRow w.heap.size 3 1 (.slice a0 (mxL m n xs ys).length c0) (mxL m n xs ys).length ((mxL m n xs ys).map iv)) ∧ Below w.heap.size w w' := by
  have HLB := Lib.hid hlb
  by_cases hlen : xs.length = ys.length
  · have hq : mxB m n xs ys = (isz xs.length && (xs.all wOk && (ys.all wOk && ((decide (0 ≤ m) && decide (m ≤ 1000)) && (decide (0 ≤ n) && decide (n ≤ 1000)))))) := by unfold mxB; rw [decide_eq_true hlen, Bool.true_and]
    have HQ := Lib.hid hq
    have hc2 := isSize_any (xs.length : Int) w
    have hc3 := areWeights_any a xs ca w hra hla
    have hc4 := areWeights_any b ys cb w hrb hlb
    have hc5 := isFactor_any m w
    have hc6 := isFactor_any n w
    have HRA : Hid (∀ (i : Nat) (W : World), Below w.heap.size w W → i < xs.length → ∃ bb off, a = some ⟨bb, off, none⟩ ∧ W.cell? ⟨bb, off + i, none⟩ = some (.int .i64 (xs.getD i 0))) := fun i W hW hi => by
      obtain ⟨bb, off, e, _, hc⟩ := (hra.below hW (Nat.le_refl _)).at hi
      exact ⟨bb, off, e, hc⟩
    have HRB : Hid (∀ (i : Nat) (W : World), Below w.heap.size w W → i < xs.length → ∃ bb off, b = some ⟨bb, off, none⟩ ∧ W.cell? ⟨bb, off + i, none⟩ = some (.int .i64 (ys.getD i 0))) := fun i W hW hi => by
      obtain ⟨bb, off, e, _, hc⟩ := (hrb.below hW (Nat.le_refl _)).at (show i < ys.length by omega)
      exact ⟨bb, off, e, hc⟩
    rw [← hlen] at hc4 ⊢
    obtain ⟨q2, hq2⟩ : ∃ q, q = isz xs.length := ⟨_, rfl⟩
    obtain ⟨q3, hq3⟩ : ∃ q, q = xs.all wOk := ⟨_, rfl⟩
    obtain ⟨q4, hq4⟩ : ∃ q, q = ys.all wOk := ⟨_, rfl⟩
    obtain ⟨q5, hq5⟩ : ∃ q, q = (decide (0 ≤ m) && decide (m ≤ 1000)) := ⟨_, rfl⟩
    obtain ⟨q6, hq6⟩ : ∃ q, q = (decide (0 ≤ n) && decide (n ≤ 1000)) := ⟨_, rfl⟩
    rw [← hq2, ← hq3, ← hq4, ← hq5, ← hq6] at HQ
    rw [← hq2] at hc2
    rw [← hq3] at hc3
    rw [← hq4] at hc4
    rw [← hq5] at hc5
    rw [← hq6] at hc6
    have HC2 := Lib.hid hc2
    have HC3 := Lib.hid hc3
    have HC4 := Lib.hid hc4
    have HC5 := Lib.hid hc5
    have HC6 := Lib.hid hc6
    have HXL := Lib.hid hlen
    obtain ⟨k, hk⟩ : ∃ k, k = xs.length := ⟨_, rfl⟩
    have HK := Lib.hid hk
    rw [← hk] at HC2 HC3 HC4 HRA HRB hla ⊢
    unfold maxLen at hla
    clear hq hc2 hc3 hc4 hc5 hc6 hlen hq2 hq3 hq4 hq5 hq6 hk hra hrb hlb
    cases q2
    · have HN := Lib.hid (mx_no (show mxB m n xs ys = false by rw [HQ.out]; simp))
      go_enter Try.func26, Try.ntmps26
      go_wp2_with fail
      refine HC2.out.mono ?_
      rintro e w' ⟨rfl, rfl⟩
      go_wp2
      go_ret2
      refine ⟨⟨none, 0, by rw [HN.out.1, HN.out.2]; rfl, ?_⟩, Below.refl _ _⟩
      rw [HN.out.2]; exact own_nilF _ _
    · skip
      cases q3
      · have HN := Lib.hid (mx_no (show mxB m n xs ys = false by rw [HQ.out]; simp))
        go_enter Try.func26, Try.ntmps26
        go_wp2_with fail
        refine HC2.out.mono ?_
        rintro e w' ⟨rfl, rfl⟩
        go_wp2_with fail
        refine HC3.out.mono ?_
        rintro e w' ⟨rfl, rfl⟩
        go_wp2
        go_ret2
        refine ⟨⟨none, 0, by rw [HN.out.1, HN.out.2]; rfl, ?_⟩, Below.refl _ _⟩
        rw [HN.out.2]; exact own_nilF _ _
      · skip
        cases q4
        · have HN := Lib.hid (mx_no (show mxB m n xs ys = false by rw [HQ.out]; simp))
          go_enter Try.func26, Try.ntmps26
          go_wp2_with fail
          refine HC2.out.mono ?_
          rintro e w' ⟨rfl, rfl⟩
          go_wp2_with fail
          refine HC3.out.mono ?_
          rintro e w' ⟨rfl, rfl⟩
          go_wp2_with fail
          refine HC4.out.mono ?_
          rintro e w' ⟨rfl, rfl⟩
          go_wp2
          go_ret2
          refine ⟨⟨none, 0, by rw [HN.out.1, HN.out.2]; rfl, ?_⟩, Below.refl _ _⟩
          rw [HN.out.2]; exact own_nilF _ _
        · skip
          cases q5
          · have HN := Lib.hid (mx_no (show mxB m n xs ys = false by rw [HQ.out]; simp))
            go_enter Try.func26, Try.ntmps26
            go_wp2_with fail
            refine HC2.out.mono ?_
            rintro e w' ⟨rfl, rfl⟩
            go_wp2_with fail
            refine HC3.out.mono ?_
            rintro e w' ⟨rfl, rfl⟩
            go_wp2_with fail
            refine HC4.out.mono ?_
            rintro e w' ⟨rfl, rfl⟩
            go_wp2_with fail
            refine HC5.out.mono ?_
            rintro e w' ⟨rfl, rfl⟩
            go_wp2
            go_ret2
            refine ⟨⟨none, 0, by rw [HN.out.1, HN.out.2]; rfl, ?_⟩, Below.refl _ _⟩
            rw [HN.out.2]; exact own_nilF _ _
          · skip
            cases q6
            · have HN := Lib.hid (mx_no (show mxB m n xs ys = false by rw [HQ.out]; simp))
              go_enter Try.func26, Try.ntmps26
              go_wp2_with fail
              refine HC2.out.mono ?_
              rintro e w' ⟨rfl, rfl⟩
              go_wp2_with fail
              refine HC3.out.mono ?_
              rintro e w' ⟨rfl, rfl⟩
              go_wp2_with fail
              refine HC4.out.mono ?_
              rintro e w' ⟨rfl, rfl⟩
              go_wp2_with fail
              refine HC5.out.mono ?_
              rintro e w' ⟨rfl, rfl⟩
              go_wp2_with fail
              refine HC6.out.mono ?_
              rintro e w' ⟨rfl, rfl⟩
              go_wp2
              go_ret2
              refine ⟨⟨none, 0, by rw [HN.out.1, HN.out.2]; rfl, ?_⟩, Below.refl _ _⟩
              rw [HN.out.2]; exact own_nilF _ _
            · skip
              have hB : mxB m n xs ys = true := by rw [HQ.out]; rfl
              obtain ⟨_, hkk, hax, hay, hm, hn⟩ := mx_parts hB
              have HY := Lib.hid (mx_yes hB)
              rw [← HK.out] at HY hkk
              have hk8 := hkk.2
              have HAT : Hid (∀ i, i < k → (0 ≤ m * xs.getD i 0 ∧ m * xs.getD i 0 ≤ 100000000) ∧ (0 ≤ n * ys.getD i 0 ∧ n * ys.getD i 0 ≤ 100000000) ∧ m * xs.getD i 0 + n * ys.getD i 0 = ((mxU m n xs ys i : Nat) : Int) ∧ mxU m n xs ys i ≤ 200000000) := fun i hi => by
                have e1 := HK.out
                have e2 := HXL.out
                exact mx_at hm hn (all_at hax i (by omega)) (all_at hay i (by omega))
              obtain ⟨u, hu⟩ : ∃ u, u = mxU m n xs ys := ⟨_, rfl⟩
              rw [← hu] at HY HAT
              obtain ⟨i0, hi, hz0, hz1, hz2⟩ := info_parts infoInt
              obtain ⟨cs, hcs⟩ : ∃ cs, cs = madeCells #[.int .i64 0] k := ⟨_, rfl⟩
              have hmk : ∀ W : World, (Instr.makeSlice 22 (.int .i64 (k : Int)) (.int .i64 (k : Int))).run Try.prog W = .ok (.slice (some ⟨W.heap.size, 0, none⟩) k k) (W.alloc (.cells cs 3)) := fun W => by
                rw [hcs]
                have := run_makeSlice (P := Try.prog) (w := W) 22 3 i0 (.int .i64 0) Try.underlying22 hi hz0 .i64 .i64 (k : Int) (k : Int) (by omega) (Int.le_refl _) (by rw [hz1]; simp; omega) (by rw [hz2]; omega) (by omega)
                rw [hz1] at this
                have e : (Value.int IntKind.i64 0).cells = #[.int .i64 0] := rfl
                simpa [e] using this
              obtain ⟨W2, hW2⟩ : ∃ W2, W2 = w.alloc (.cells cs 3) := ⟨_, rfl⟩
              obtain ⟨q, hq⟩ : ∃ q, q = w.heap.size := ⟨_, rfl⟩
              have hb2 : Below w.heap.size w W2 := by rw [hW2]; exact (Below.refl _ _).alloc (Nat.le_refl _) _
              have hwq : w.heap.size ≤ q := by omega
              have hcz : cs.toList = (fillQ u 1 k 0).map iv := by rw [hcs, zerosF, fillQ_zero]
              have hcsz : cs.size = k := by have := congrArg List.length hcz; simpa [fillQ] using this
              have ho2 : W2.ownsRow w.heap.size 3 1 (.slice (some ⟨q, 0, none⟩) k k) k ((fillQ u 1 k 0).map iv) := by
                refine ⟨by simp [fillQ], .inr ⟨q, k, cs, rfl, hwq, ?_, Nat.le_refl _, by unfold maxLen; omega, by omega, ?_⟩⟩
                · rw [hW2, hq]; exact World.alloc_heap_new w _
                · rw [Nat.mul_one, List.take_of_length_le (by rw [Array.length_toList, hcsz]; exact Nat.le_refl _)]; exact hcz
              have HW2 := Lib.hid hW2
              have O2 := Lib.hid ho2
              have B2 := Lib.hid hb2
              have HQ1 := Lib.hid hq
              clear hW2 hcz hcsz ho2 hb2 hcs hB hkk hax hay hm hn hu HQ hq
              go_enter Try.func26, Try.ntmps26
              go_wp2_with fail
              refine HC2.out.mono ?_
              rintro e w' ⟨rfl, rfl⟩
              go_wp2_with fail
              refine HC3.out.mono ?_
              rintro e w' ⟨rfl, rfl⟩
              go_wp2_with fail
              refine HC4.out.mono ?_
              rintro e w' ⟨rfl, rfl⟩
              go_wp2_with fail
              refine HC5.out.mono ?_
              rintro e w' ⟨rfl, rfl⟩
              go_wp2_with fail
              refine HC6.out.mono ?_
              rintro e w' ⟨rfl, rfl⟩
              go_wp2
              rw [← HW2.out, ← HQ1.out]
              clear hmk
              go_loopw [48] (fun i wr => ∃ x : Nat, x ≤ k ∧ i = .int .i64 x ∧ Hid (wr.ownsRow w.heap.size 3 1 (.slice (some ⟨q, 0, none⟩) k k) k ((fillQ u 1 k x).map iv)) ∧ Hid (Below w.heap.size w wr)) (fun i _ => k - (intOf i).toNat)
              case atStart => exact ⟨0, Nat.zero_le _, rfl, O2, B2⟩
              case round =>
                clear O2 B2
                obtain ⟨x, hx, rfl, O1, B1⟩ := hrel
                by_cases hltx : x < k
                · have hxi : (x : Int) < (k : Int) := by omega
                  obtain ⟨b1, off1, rfl, hc1⟩ := HRA.out x wr B1.out hltx
                  obtain ⟨b2, off2, rfl, hc2⟩ := HRB.out x wr B1.out hltx
                  have hst := O1.out.stored x (iv ((u x / 1 : Nat) : Int))
                  rw [← List.map_set, fillQ_set u 1 k x hltx, Nat.div_one] at hst
                  have hat := HAT.out x hltx
                  obtain ⟨p1, hp1⟩ : ∃ p, p = xs.getD x 0 := ⟨_, rfl⟩
                  obtain ⟨p2, hp2⟩ : ∃ p, p = ys.getD x 0 := ⟨_, rfl⟩
                  rw [← hp1] at hc1 hat
                  rw [← hp2] at hc2 hat
                  obtain ⟨⟨g1, g2⟩, ⟨g3, g4⟩, g5, g6⟩ := hat
                  have wr1 : IntKind.i64.wrap (m * p1) = m * p1 := by rw [IntKind.wrap_i64]; omega
                  have wr2 : IntKind.i64.wrap (n * p2) = n * p2 := by rw [IntKind.wrap_i64]; omega
                  obtain ⟨v, hv⟩ : ∃ v, v = u x := ⟨_, rfl⟩
                  rw [← hv] at hst g5 g6
                  have wr3 : IntKind.i64.wrap (m * p1 + n * p2) = (v : Int) := by rw [IntKind.wrap_i64, g5]; omega
                  have O3 : Hid (∀ nq, (wr.setCell ⟨q, x, none⟩ (.int .i64 (v : Int))).drewN nq |>.ownsRow w.heap.size 3 1 (.slice (some ⟨q, 0, none⟩) k k) k ((fillQ u 1 k (x + 1)).map iv)) := fun nq => own_below hst.1 (below_drewN (Below.refl _ _) nq)
                  have O3a := Lib.hid hst.1.drew
                  have B3 : Hid (Below w.heap.size w (wr.setCell ⟨q, x, none⟩ (.int .i64 (v : Int))).drew) := (B1.out.setCell (p := ⟨q, x, none⟩) hwq _).drew
                  have hcy := own_atF O1.out hltx
                  have hfy := O1.out.frozenAt x
                  clear hst hp1 hp2 hv g1 g2 g3 g4 g5 O1 B1
                  go_wp2
                  go_region
                  go_wp2
                  go_roundw
                  case rel => exact ⟨x + 1, by omega, by go_num, O3a, B3⟩
                  case measure => simp [intOf]; omega
                · obtain rfl : x = k := by omega
                  have hrow : IntRow wr (some ⟨q, 0, none⟩) ((List.range x).map fun i => (u i : Int)) := by
                    have h := O1.out
                    rw [fillQ_one] at h
                    have e : ((List.range x).map fun i => (u i : Int)).length = x := by simp
                    refine own_int (B := w.heap.size) (c := x) ?_
                    rw [e]; exact h
                  have HCL := Lib.hid (lowest_any (some ⟨q, 0, none⟩) x u x wr hk8 (fun i hi => by have := (HAT.out i hi).2.2.2; omega) hrow)
                  clear hrow
                  go_wp2_with fail
                  refine HCL.out.mono ?_
                  rintro e w3 ⟨⟨a0, c0, rfl, ho⟩, hb3⟩
                  have O3 := Lib.hid (ho.mono B1.out.size)
                  have B3 := Lib.hid (B1.out.trans (hb3.mono B1.out.size))
                  clear ho hb3
                  go_wp2
                  go_ret2
                  rw [HY.out.1, HY.out.2]
                  exact ⟨⟨a0, c0, rfl, O3.out⟩, B3.out⟩
  · have HN := Lib.hid (mx_no (show mxB m n xs ys = false by unfold mxB; rw [decide_eq_false hlen]; rfl))
    have hne : ((xs.length : Int) == (ys.length : Int)) = false := by simpa using fun h => hlen (by omega)
    have hne2 : ((xs.length : Int) != (ys.length : Int)) = true := by unfold bne; rw [hne]; rfl
    clear hlen
    go_enter Try.func26, Try.ntmps26
    go_wp2
    go_ret2
    refine ⟨⟨none, 0, by rw [HN.out.1, HN.out.2]; rfl, ?_⟩, Below.refl _ _⟩
    rw [HN.out.2]; exact own_nilF _ _

set_option maxRecDepth 100000 in
set_option maxHeartbeats 4000000 in
theorem specMix (a : Option Addr) (ca : Nat) (xs : List Int) (b : Option Addr) (cb : Nat) (ys : List Int) (m n : Int) (w : World) (hra : IntRow w a xs) (hla : xs.length ≤ maxLen) (hrb : IntRow w b ys) (hlb : ys.length ≤ maxLen) :
    Calls Try.prog 25 #[.slice a xs.length ca, .slice b ys.length cb, .int .i64 m, .int .i64 n] w fun e w' => (∃ a0 c0, e = .returned (.tuple #[.slice a0 (mxL m n xs ys).length c0, .bool (mxK m n xs ys)]) ∧ w'.ownsRow w.heap.size 3 1 (.slice a0 (mxL m n xs ys).length c0) (mxL m n xs ys).length ((mxL m n xs ys).map iv)) ∧ Below w.heap.size w w' := by
  by_cases hlen : xs.length = ys.length
  · have hq : mxB m n xs ys = (isz xs.length && (xs.all wOk && (ys.all wOk && ((decide (0 ≤ m) && decide (m ≤ 1000)) && (decide (0 ≤ n) && decide (n ≤ 1000)))))) := by unfold mxB; rw [decide_eq_true hlen, Bool.true_and]
    have HQ := Lib.hid hq
    have hc2 := l01In_any (xs.length : Int) 1 8 w
    have hc5 := l01In_any m 0 1000 w
    have hc6 := l01In_any n 0 1000 w
    have HRA : Hid (∀ (i : Nat) (W : World), Below w.heap.size w W → i < xs.length → ∃ bb off, a = some ⟨bb, off, none⟩ ∧ W.cell? ⟨bb, off + i, none⟩ = some (.int .i64 (xs.getD i 0))) := fun i W hW hi => by
      obtain ⟨bb, off, e, _, hc⟩ := (hra.below hW (Nat.le_refl _)).at hi
      exact ⟨bb, off, e, hc⟩
    have HRB : Hid (∀ (i : Nat) (W : World), Below w.heap.size w W → i < xs.length → ∃ bb off, b = some ⟨bb, off, none⟩ ∧ W.cell? ⟨bb, off + i, none⟩ = some (.int .i64 (ys.getD i 0))) := fun i W hW hi => by
      obtain ⟨bb, off, e, _, hc⟩ := (hrb.below hW (Nat.le_refl _)).at (show i < ys.length by omega)
      exact ⟨bb, off, e, hc⟩
    rw [← hlen]
    obtain ⟨q2, hq2⟩ : ∃ q, q = isz xs.length := ⟨_, rfl⟩
    obtain ⟨q5, hq5⟩ : ∃ q, q = (decide (0 ≤ m) && decide (m ≤ 1000)) := ⟨_, rfl⟩
    obtain ⟨q6, hq6⟩ : ∃ q, q = (decide (0 ≤ n) && decide (n ≤ 1000)) := ⟨_, rfl⟩
    rw [← hq2, ← hq5, ← hq6] at HQ
    rw [show (decide ((1 : Int) ≤ (xs.length : Int)) && decide ((xs.length : Int) ≤ 8)) = q2 from hq2.symm] at hc2
    rw [← hq5] at hc5
    rw [← hq6] at hc6
    have HC2 := Lib.hid hc2
    have HC5 := Lib.hid hc5
    have HC6 := Lib.hid hc6
    have HXL := Lib.hid hlen
    have H2 := Lib.hid hq2
    have H5 := Lib.hid hq5
    have H6 := Lib.hid hq6
    obtain ⟨k, hk⟩ : ∃ k, k = xs.length := ⟨_, rfl⟩
    have HK := Lib.hid hk
    rw [← hk] at HC2 HRA HRB hla H2 ⊢
    unfold maxLen at hla
    clear hq hc2 hc5 hc6 hlen hq2 hq5 hq6 hk hra hrb hlb
    cases q2
    · have HN := Lib.hid (mx_no (show mxB m n xs ys = false by rw [HQ.out]; simp))
      go_enter Try.func25, Try.ntmps25
      go_wp2_with fail
      refine HC2.out.mono ?_
      rintro e w' ⟨rfl, rfl⟩
      go_wp2
      go_ret2
      refine ⟨⟨none, 0, by rw [HN.out.1, HN.out.2]; rfl, ?_⟩, Below.refl _ _⟩
      rw [HN.out.2]; exact own_nilF _ _
    · skip
      cases q5
      · have HN := Lib.hid (mx_no (show mxB m n xs ys = false by rw [HQ.out]; simp))
        go_enter Try.func25, Try.ntmps25
        go_wp2_with fail
        refine HC2.out.mono ?_
        rintro e w' ⟨rfl, rfl⟩
        go_wp2_with fail
        refine HC5.out.mono ?_
        rintro e w' ⟨rfl, rfl⟩
        go_wp2
        go_ret2
        refine ⟨⟨none, 0, by rw [HN.out.1, HN.out.2]; rfl, ?_⟩, Below.refl _ _⟩
        rw [HN.out.2]; exact own_nilF _ _
      · skip
        cases q6
        · have HN := Lib.hid (mx_no (show mxB m n xs ys = false by rw [HQ.out]; simp))
          go_enter Try.func25, Try.ntmps25
          go_wp2_with fail
          refine HC2.out.mono ?_
          rintro e w' ⟨rfl, rfl⟩
          go_wp2_with fail
          refine HC5.out.mono ?_
          rintro e w' ⟨rfl, rfl⟩
          go_wp2_with fail
          refine HC6.out.mono ?_
          rintro e w' ⟨rfl, rfl⟩
          go_wp2
          go_ret2
          refine ⟨⟨none, 0, by rw [HN.out.1, HN.out.2]; rfl, ?_⟩, Below.refl _ _⟩
          rw [HN.out.2]; exact own_nilF _ _
        · skip
          have hk8 : k ≤ 8 := by have := H2.out; simp [isz] at this; omega
          have hm : 0 ≤ m ∧ m ≤ 1000 := by have := H5.out; simpa using this.symm
          have hn : 0 ≤ n ∧ n ≤ 1000 := by have := H6.out; simpa using this.symm
          have HNO : Hid ((xs.all wOk = false ∨ ys.all wOk = false) → mxK m n xs ys = false ∧ mxL m n xs ys = []) := fun h => mx_no (by
            rw [HQ.out]
            rcases h with h | h <;> rw [h] <;> simp)
          have HYES : Hid (xs.all wOk = true → ys.all wOk = true → mxK m n xs ys = lowOk (mxU m n xs ys) k ∧ mxL m n xs ys = lowR (mxU m n xs ys) k) := fun h1 h2 => by
            rw [HK.out]
            exact mx_yes (by rw [HQ.out, h1, h2]; rfl)
          have HAT : Hid (∀ i, wOk (xs.getD i 0) = true → wOk (ys.getD i 0) = true → (0 ≤ m * xs.getD i 0 ∧ m * xs.getD i 0 ≤ 100000000) ∧ (0 ≤ n * ys.getD i 0 ∧ n * ys.getD i 0 ≤ 100000000) ∧ m * xs.getD i 0 + n * ys.getD i 0 = ((mxU m n xs ys i : Nat) : Int) ∧ mxU m n xs ys i ≤ 200000000) := fun i h1 h2 => mx_at hm hn (wOk_iff.1 h1) (wOk_iff.1 h2)
          obtain ⟨u, hu⟩ : ∃ u, u = mxU m n xs ys := ⟨_, rfl⟩
          rw [← hu] at HYES HAT
          obtain ⟨Q, hQ⟩ : ∃ Q, Q = w.heap.size := ⟨_, rfl⟩
          have O2 : Hid ((w.alloc (.cells #[] 3)).ownsRow Q 3 1 (.slice (some ⟨Q, 0, none⟩) 0 0) 0 (((List.range 0).map fun i => (u i : Int)).map iv)) := own_empty w Q Q (by omega) hQ.symm
          have B2 : Hid (Below Q w (w.alloc (.cells #[] 3))) := by rw [hQ]; exact Below.one w _
          have HQQ := Lib.hid hQ
          have HRAQ : Hid (∀ (i : Nat) (W : World), Below Q w W → i < k → ∃ bb off, a = some ⟨bb, off, none⟩ ∧ W.cell? ⟨bb, off + i, none⟩ = some (.int .i64 (xs.getD i 0))) := fun i W hW hi => HRA.out i W (hQ ▸ hW) hi
          have HRBQ : Hid (∀ (i : Nat) (W : World), Below Q w W → i < k → ∃ bb off, b = some ⟨bb, off, none⟩ ∧ W.cell? ⟨bb, off + i, none⟩ = some (.int .i64 (ys.getD i 0))) := fun i W hW hi => HRB.out i W (hQ ▸ hW) hi
          clear hm hn hu HQ hQ HRA HRB H5 H6
          go_enter Try.func25, Try.ntmps25
          go_wp2_with fail
          refine HC2.out.mono ?_
          rintro e w' ⟨rfl, rfl⟩
          go_wp2_with fail
          refine HC5.out.mono ?_
          rintro e w' ⟨rfl, rfl⟩
          go_wp2_with fail
          refine HC6.out.mono ?_
          rintro e w' ⟨rfl, rfl⟩
          go_wp2
          rw [← HQQ.out]
          go_loopw [10, 11, 39] (fun o s i wr => ∃ (x g c : Nat), x ≤ k ∧ i = .int .i64 (x : Int) ∧ o = .slice (some ⟨g, 0, none⟩) x c ∧ s = .int .i64 (gq u x : Nat) ∧ Hid (∀ j, j < x → wOk (xs.getD j 0) = true ∧ wOk (ys.getD j 0) = true) ∧ Hid (wr.ownsRow Q 3 1 (.slice (some ⟨g, 0, none⟩) x c) x (((List.range x).map fun i => (u i : Int)).map iv)) ∧ Hid (Below Q w wr)) (fun _ _ i _ => k - (intOf i).toNat)
          case atStart => exact ⟨0, Q, 0, Nat.zero_le _, rfl, rfl, rfl, fun j h => absurd h (by omega), O2, B2⟩
          case round =>
            clear O2 B2
            obtain ⟨x, g, c, hx, rfl, rfl, rfl, HJ, O1, B1⟩ := hrel
            have hQs : Q ≤ wr.heap.size := by have := B1.out.size; have := HQQ.out; omega
            have hul : ∀ j, j < x → u j ≤ 200000000 := fun j hj => (HAT.out j (HJ.out j hj).1 (HJ.out j hj).2).2.2.2
            have hgl := gq_le u 200000000 x hul
            have HUL := Lib.hid hul
            clear hul
            by_cases hltx : x < k
            · have hxi : (x : Int) < (k : Int) := by omega
              obtain ⟨b1, off1, rfl, hc1⟩ := HRAQ.out x wr B1.out hltx
              obtain ⟨b2, off2, rfl, hc2⟩ := HRBQ.out x wr B1.out hltx
              have HAX := Lib.hid (HAT.out x)
              have HBX : Hid (wOk (xs.getD x 0) = false ∨ wOk (ys.getD x 0) = false → mxK m n xs ys = false ∧ mxL m n xs ys = []) := fun h => HNO.out (by
                rcases h with h | h
                · left
                  refine Bool.eq_false_iff.2 fun hc => ?_
                  rw [wOk_iff.2 (all_at hc x (by have := HK.out; omega))] at h
                  cases h
                · right
                  refine Bool.eq_false_iff.2 fun hc => ?_
                  rw [wOk_iff.2 (all_at hc x (by have := HK.out; have := HXL.out; omega))] at h
                  cases h)
              have HS : Hid (gq u (x + 1) = Nat.gcd (gq u x) (u x)) := rfl
              obtain ⟨p1, hp1⟩ : ∃ p, p = xs.getD x 0 := ⟨_, rfl⟩
              obtain ⟨p2, hp2⟩ : ∃ p, p = ys.getD x 0 := ⟨_, rfl⟩
              rw [← hp1] at hc1 HAX HBX
              rw [← hp2] at hc2 HAX HBX
              have HP1 := Lib.hid hp1
              have HP2 := Lib.hid hp2
              have HW1 := Lib.hid (l01In_ofY p1 0 100000 wr (wOk p1) rfl)
              have HW2 := Lib.hid (l01In_ofY p2 0 100000 wr (wOk p2) rfl)
              clear hp1 hp2
              cases ho1 : wOk p1
              · have HN := Lib.hid (HBX.out (.inl ho1))
                have HO1 := Lib.hid ho1
                have B9 : Hid (Below w.heap.size w wr) := by have := B1.out; rw [HQQ.out] at this; exact this
                clear ho1
                go_wp2_with fail
                refine HW1.out.mono ?_
                rintro e w2 ⟨rfl, rfl⟩
                rw [HO1.out]
                go_wp2
                go_ret2
                refine ⟨⟨none, 0, by rw [HN.out.1, HN.out.2]; rfl, ?_⟩, B9.out⟩
                rw [HN.out.2]; exact own_nilF _ _
              · have HO1 := Lib.hid ho1
                cases ho2 : wOk p2
                · have HN := Lib.hid (HBX.out (.inr ho2))
                  have HO2 := Lib.hid ho2
                  have B9 : Hid (Below w.heap.size w wr) := by have := B1.out; rw [HQQ.out] at this; exact this
                  clear ho1 ho2
                  go_wp2_with fail
                  refine HW1.out.mono ?_
                  rintro e w2 ⟨rfl, rfl⟩
                  rw [HO1.out]
                  go_wp2_with fail
                  refine HW2.out.mono ?_
                  rintro e w2 ⟨rfl, rfl⟩
                  rw [HO2.out]
                  go_wp2
                  go_ret2
                  refine ⟨⟨none, 0, by rw [HN.out.1, HN.out.2]; rfl, ?_⟩, B9.out⟩
                  rw [HN.out.2]; exact own_nilF _ _
                · have HO2 := Lib.hid ho2
                  obtain ⟨⟨g1, g2⟩, ⟨g3, g4⟩, g5, g6⟩ := HAX.out ho1 ho2
                  have HJ2 : Hid (∀ j, j < x + 1 → wOk (xs.getD j 0) = true ∧ wOk (ys.getD j 0) = true) := fun j hj => by
                    rcases Nat.lt_or_ge j x with h | h
                    · exact HJ.out j h
                    · obtain rfl : j = x := by omega
                      exact ⟨by rw [← HP1.out]; exact HO1.out, by rw [← HP2.out]; exact HO2.out⟩
                  have wr1 : IntKind.i64.wrap (m * p1) = m * p1 := by rw [IntKind.wrap_i64]; omega
                  have wr2 : IntKind.i64.wrap (n * p2) = n * p2 := by rw [IntKind.wrap_i64]; omega
                  have HRan : Hid (((List.range x).map fun i => (u i : Int)) ++ [(u x : Int)] = (List.range (x + 1)).map fun i => (u i : Int)) := by
                    show _ = _
                    rw [List.range_succ, List.map_append]; rfl
                  obtain ⟨v, hv⟩ : ∃ v, v = u x := ⟨_, rfl⟩
                  have HV := Lib.hid hv
                  rw [← hv] at g5 g6 HS HRan
                  have wr3 : IntKind.i64.wrap (m * p1 + n * p2) = (v : Int) := by rw [IntKind.wrap_i64, g5]; omega
                  have O4 := Lib.hid (own_oneY (v : Int) O1.out)
                  have B4 := Lib.hid (B1.out.alloc hQs (.cells #[.int .i64 (v : Int)] 3))
                  have HC4 := Lib.hid (one_cellY wr (v : Int))
                  have hQ4 : Q ≤ (wr.alloc (.cells #[.int .i64 (v : Int)] 3)).heap.size := by simp; omega
                  obtain ⟨gg, hgg⟩ : ∃ gg, gg = gq u x := ⟨_, rfl⟩
                  rw [← hgg] at hgl HS ⊢
                  clear ho1 ho2 hv hgg O1 B1
                  go_wp2_with fail
                  refine HW1.out.mono ?_
                  rintro e w2 ⟨rfl, rfl⟩
                  rw [HO1.out]
                  go_wp2_with fail
                  refine HW2.out.mono ?_
                  rintro e w2 ⟨rfl, rfl⟩
                  rw [HO2.out]
                  clear g1 g2 g3 g4
                  go_wp2_with (at_builtin; refine list_append_int _ rfl _ _ rfl Q g x c ((List.range x).map fun i => (u i : Int)) rfl O4.out ⟨wr.heap.size, 0, none⟩ 1 1 [(v : Int)] rfl rfl HC4.out (by omega) hQ4 (x + 1) rfl ?_)
                  intro g7 c7 w7 hown7 hg7 hb7
                  have OO7 : Hid (w7.ownsRow Q 3 1 (.slice (some ⟨g7, 0, none⟩) (x + 1) c7) (x + 1) (((List.range (x + 1)).map fun i => (u i : Int)).map iv)) := by
                    show World.ownsRow _ _ _ _ _ _ _
                    rw [← HRan.out]
                    first | exact hown7 | simpa using hown7
                  have BB7 := Lib.hid (B4.out.trans hb7)
                  have hc7 : w7.cell? ⟨g7, x, none⟩ = some (.int .i64 (v : Int)) := by
                    rw [own_atF OO7.out (Nat.lt_succ_self x), List.getD_eq_getElem?_getD, List.getElem?_map, List.getElem?_range (Nat.lt_succ_self x), HV.out]; rfl
                  have HCG := Lib.hid (l10Gcd_any gg v w7 (by omega) (by omega))
                  have hx1 : (x : Int) < ((x + 1 : Nat) : Int) := by omega
                  clear hown7 hg7 hb7 O4 HC4 B4 hQ4 hQs
                  go_wp2_with fail
                  refine HCG.out.mono ?_
                  rintro e w8 ⟨rfl, rfl⟩
                  rw [← HS.out]
                  go_wp2
                  go_roundw
                  case rel => exact ⟨x + 1, g7, c7, by omega, by go_num, rfl, rfl, HJ2, OO7, BB7⟩
                  case measure => simp [intOf]; omega
            · obtain rfl : x = k := by omega
              have hax : xs.all wOk = true := by
                rw [List.all_eq_true]
                intro y hy
                obtain ⟨i, hi, rfl⟩ := List.mem_iff_getElem.1 hy
                have := (HJ.out i (by have := HK.out; omega)).1
                rw [List.getD_eq_getElem?_getD, List.getElem?_eq_getElem hi] at this
                exact this
              have hay : ys.all wOk = true := by
                rw [List.all_eq_true]
                intro y hy
                obtain ⟨i, hi, rfl⟩ := List.mem_iff_getElem.1 hy
                have := (HJ.out i (by have := HK.out; have := HXL.out; omega)).2
                rw [List.getD_eq_getElem?_getD, List.getElem?_eq_getElem hi] at this
                exact this
              have HY := Lib.hid (HYES.out hax hay)
              clear hax hay
              rcases Nat.eq_zero_or_pos (gq u x) with h0 | h0
              · have HO : Hid (lowOk u x = false) := by show _ = _; simp [lowOk, h0]
                have HE : Hid (lowR u x = []) := by show _ = _; unfold lowR; rw [HO.out]; rfl
                have B9 : Hid (Below w.heap.size w wr) := by have := B1.out; rw [HQQ.out] at this; exact this
                rw [h0]
                clear h0
                go_wp2
                go_ret2
                rw [HY.out.1, HY.out.2]
                refine ⟨⟨none, 0, by rw [HE.out, HO.out]; rfl, ?_⟩, B9.out⟩
                rw [HE.out]; exact own_nilF _ _
              · have HO : Hid (lowOk u x = true) := by show _ = _; unfold lowOk; exact decide_eq_true (by omega)
                have HE : Hid (lowR u x = lowL u x) := by show _ = _; unfold lowR; rw [if_pos HO.out]
                have HEl : Hid ((lowR u x).length = x) := by show _ = _; rw [HE.out]; simp [lowL]
                have HF : Hid (fillH u (gq u x) x x = lowL u x) := fillH_all u x
                have O2 : Hid (wr.ownsRow Q 3 1 (.slice (some ⟨g, 0, none⟩) x c) x ((fillH u (gq u x) x 0).map iv)) := by
                  show World.ownsRow _ _ _ _ _ _ _
                  rw [fillH_zero]; exact O1.out
                obtain ⟨d0, hd0⟩ : ∃ d, d = gq u x := ⟨_, rfl⟩
                rw [← hd0] at h0 HF hgl O2 ⊢
                have hg0 : ((d0 : Int) == 0) = false := by simpa using (by omega : ¬ d0 = 0)
                have hgp : (0 : Int) < (d0 : Int) := by omega
                have hQg : Q ≤ g := (O1.out.lt g rfl).1
                clear hd0 O1
                go_wp2
                go_loopw [79] (fun i wr2 => ∃ z : Nat, z ≤ x ∧ i = .int .i64 z ∧ Hid (wr2.ownsRow Q 3 1 (.slice (some ⟨g, 0, none⟩) x c) x ((fillH u d0 x z).map iv)) ∧ Hid (Below Q w wr2)) (fun i _ => x - (intOf i).toNat)
                case atStart => exact ⟨0, Nat.zero_le _, rfl, O2, B1⟩
                case round =>
                  clear O2 B1
                  obtain ⟨z, hz, rfl, O1, B1⟩ := hrel
                  by_cases hltz : z < x
                  · have hzi : (z : Int) < (x : Int) := by omega
                    have hst := O1.out.stored z (iv ((u z / d0 : Nat) : Int))
                    rw [← List.map_set, fillH_set u d0 x z hltz] at hst
                    have O3 := Lib.hid hst.1
                    have B3 : Hid (Below Q w (wr.setCell ⟨g, z, none⟩ (.int .i64 ((u z / d0 : Nat) : Int)))) := B1.out.setCell (p := ⟨g, z, none⟩) hQg _
                    have hcy := own_atF O1.out hltz
                    rw [fillH_at u d0 x z hltz] at hcy
                    have hfy := O1.out.frozenAt z
                    have hux := HUL.out z hltz
                    obtain ⟨v, hv⟩ : ∃ v, v = u z := ⟨_, rfl⟩
                    obtain ⟨d, hd⟩ : ∃ d, d = u z / d0 := ⟨_, rfl⟩
                    have hdv : Int.tdiv (v : Int) (d0 : Int) = (d : Int) := by rw [quo_nat, hd, hv]
                    have hdl : d ≤ 1000000000 := by rw [hd]; exact Nat.le_trans (Nat.div_le_self _ _) (by omega)
                    rw [← hd] at O3 B3
                    rw [← hv] at hcy hux
                    clear hst hd hv O1 B1
                    go_wp2
                    go_roundw
                    case rel => exact ⟨z + 1, by omega, by go_num, O3, B3⟩
                    case measure => simp [intOf]; omega
                  · obtain rfl : z = x := by omega
                    rw [HF.out] at O1
                    have B9 : Hid (Below w.heap.size w wr) := by have := B1.out; rw [HQQ.out] at this; exact this
                    have O9 := O1.out
                    rw [HQQ.out] at O9
                    have OO9 := Lib.hid O9
                    clear O9
                    go_wp2
                    go_ret2
                    rw [HY.out.1, HY.out.2]
                    refine ⟨⟨some ⟨g, 0, none⟩, c, by rw [HEl.out, HO.out]; rfl, ?_⟩, B9.out⟩
                    rw [HEl.out, HE.out]; exact OO9.out
  · have HN := Lib.hid (mx_no (show mxB m n xs ys = false by unfold mxB; rw [decide_eq_false hlen]; rfl))
    have hne : ((xs.length : Int) == (ys.length : Int)) = false := by simpa using fun h => hlen (by omega)
    have hne2 : ((xs.length : Int) != (ys.length : Int)) = true := by unfold bne; rw [hne]; rfl
    clear hlen
    go_enter Try.func25, Try.ntmps25
    go_wp2
    go_ret2
    refine ⟨⟨none, 0, by rw [HN.out.1, HN.out.2]; rfl, ?_⟩, Below.refl _ _⟩
    rw [HN.out.2]; exact own_nilF _ _
end Go.Proofs.Ytpndfmlkceplcaa
