/-
  The model's sort by insertion: a new sorted row. No conditions but a bound on the length.
-/
import Derived.Test.Ytnlbijmkehijiaa3F
import Derived.Test.Ytnlbijmkehijiaa3T
import Derived.Maps.AppendAt
namespace Go.Proofs.Ytnlbijmkehijiaa
open Go.ChangeShapes Go.WideShapes Go.ChangeAt Go.RowKit
set_option linter.unusedVariables false

theorem own_some {w : World} {B n : Nat} {v : Value} {xs : List Value} (h : w.ownsRow B 3 1 v n xs) (hne : v ≠ .slice none 0 0) : ∃ g cap, v = .slice (some ⟨g, 0, none⟩) n cap ∧ B ≤ g ∧ g < w.heap.size ∧ n ≤ cap := by
  have h0 := h
  rcases h.2 with ⟨hn, _⟩ | ⟨g, cap, cur, rfl, hb, hg, hnc, _⟩
  · exact absurd hn hne
  · exact ⟨g, cap, rfl, hb, (h0.lt g rfl).2, hnc⟩

theorem slice_ne {a : Addr} {n c : Nat} : Value.slice (some a) n c ≠ .slice none 0 0 := by
  intro h
  injection h with h
  cases h
/-- What the round holds of the row that it reads: its block lies below n0, and has not turned. -/
structure Xs (n0 g k : Nat) (O : List Int) (wr W : World) : Prop where
  sz : n0 ≤ W.heap.size
  lo : g < n0
  gr : wr.grownBy W none
  rd : ∀ j, j < k → wr.cell? ⟨g, j, none⟩ = some (.int .i64 (O.getD j 0))
  ol : O.length = k
  z0 : wr.heap.size = n0
theorem Xs.grown1 {n0 g k : Nat} {O : List Int} {wr W W' : World} (h : Xs n0 g k O wr W) {row : Option Nat} (hg : W.grownBy W' row) (hr : ∀ b, row = some b → n0 ≤ b) : Xs n0 g k O wr W' := by
  refine ⟨Nat.le_trans h.sz hg.size, h.lo, ⟨hg.os.trans h.gr.os, hg.tape.trans h.gr.tape, hg.output.trans h.gr.output, Nat.le_trans h.gr.size hg.size, fun b hb _ => ?_⟩, h.rd, h.ol, h.z0⟩
  have h1 := h.gr.block b hb (by simp)
  have h2 := hg.block b (Nat.lt_of_lt_of_le hb h.gr.size) (fun e => by have := hr b e.symm; have := h.z0; omega)
  exact h2.trans h1
theorem Xs.alloc1 {n0 g k : Nat} {O : List Int} {wr W : World} (h : Xs n0 g k O wr W) (o : Obj) : Xs n0 g k O wr (W.alloc o) := h.grown1 (World.grownBy_alloc W o none) (by simp)
theorem Xs.cell {n0 g k : Nat} {O : List Int} {wr W : World} (h : Xs n0 g k O wr W) (j : Nat) (hj : j < k) : W.cell? ⟨g, j, none⟩ = some (.int .i64 (O.getD j 0)) := by
  rw [← h.rd j hj]
  exact World.cell?_of_block (h.gr.block g (by rw [h.z0]; exact h.lo) (by simp))
theorem Xs.cells {n0 g k : Nat} {O : List Int} {wr W : World} (h : Xs n0 g k O wr W) (j : Nat) (hj : j ≤ k) {ad : Addr} (ha : j < k → ad = ⟨g, j, none⟩) : ∀ i u, ((O.drop j).map iv)[i]? = some u → W.cell? (ad.add i) = some u := by
  intro i u hu
  have hi : i < (O.drop j).length := by
    rcases Nat.lt_or_ge i (O.drop j).length with h' | h'
    · exact h'
    · rw [List.getElem?_eq_none (by rw [List.length_map]; exact h')] at hu; cases hu
  rw [List.length_drop, h.ol] at hi
  rw [ha (by omega)]
  have e : (⟨g, j, none⟩ : Addr).add i = ⟨g, j + i, none⟩ := by unfold Addr.add; split <;> simp_all
  rw [e, h.cell (j + i) (by omega)]
  rw [List.getElem?_map, List.getElem?_drop, List.getElem?_eq_getElem (by rw [h.ol]; omega)] at hu
  rw [List.getD_eq_getElem?_getD, List.getElem?_eq_getElem (by rw [h.ol]; omega)]
  simpa [iv] using hu
theorem Xs.below {n0 g k : Nat} {O : List Int} {wr W w : World} (h : Xs n0 g k O wr W) (hb : Below w.heap.size w wr) (hs : w.heap.size ≤ wr.heap.size) : Below w.heap.size w W :=
  hb.grown h.gr hs (fun k hk => by cases hk)

set_option maxRecDepth 100000 in
set_option maxHeartbeats 1000000 in
theorem l03Sort_any (a : Option Addr) (cap0 : Nat) (l : List Int) (w : World) (hrow : IntRow w a l) (hl : l.length ≤ 1000) :
    Calls Try.prog 41 #[.slice a l.length cap0] w fun e w' => (∃ g c, e = .returned (.slice (some ⟨g, 0, none⟩) l.length c) ∧ w'.ownsRow w.heap.size 3 1 (.slice (some ⟨g, 0, none⟩) l.length c) l.length ((Tmpm.srt l).map iv)) ∧ Below w.heap.size w w' := by
  obtain ⟨i0, hi, hz0, hz1, hz2⟩ := info_parts infoInt
  obtain ⟨Wa, hWa⟩ : ∃ Wa, Wa = w.alloc (.cells #[] 3) := ⟨_, rfl⟩
  have hba : Below w.heap.size w Wa := by rw [hWa]; exact (Below.refl _ _).alloc (Nat.le_refl _) _
  have hO0 : Wa.ownsRow w.heap.size 3 1 (.slice (some ⟨w.heap.size, 0, none⟩) 0 0) 0 ((Tmpm.sortI (l.take 0)).map iv) := by
    rw [hWa]; exact World.ownsRow_lit (base := w.heap.size) (e := 3) (size := 1) w #[] 0 (Nat.le_refl _) (by simp) rfl
  have HW := Lib.hid hWa
  clear hWa
  go_enter Try.func41, Try.ntmps41
  go_wp2
  rw [← HW.out]
  go_loopw [3, 11] (fun out i wr => ∃ (k g cap : Nat), k ≤ l.length ∧ i = .int .i64 k ∧ Value.slice (some ⟨g, 0, none⟩) k cap = out ∧ wr.ownsRow w.heap.size 3 1 (.slice (some ⟨g, 0, none⟩) k cap) k ((Tmpm.sortI (l.take k)).map iv) ∧ Below w.heap.size w wr) (fun _ i _ => l.length - (intOf i).toNat)
  case atStart => exact ⟨0, w.heap.size, 0, Nat.zero_le _, rfl, rfl, hO0, hba⟩
  case round =>
    obtain ⟨k, g, cap, hk, rfl, rfl, hown, hb⟩ := hrel
    by_cases hlt : k < l.length
    · obtain ⟨b, off, rfl, hbb, hcx⟩ := hrow.at hlt
      have hcr := (hb.cell (p := ⟨b, off + k, none⟩) hbb).trans hcx
      have hin := Tmpm.sortI_take l k hlt
      have hol := Tmpm.sortI_len (l.take k)
      rw [List.length_take, Nat.min_eq_left hk] at hol
      obtain ⟨x, hx⟩ : ∃ x, x = l.getD k 0 := ⟨_, rfl⟩
      rw [← hx] at hcr hin
      obtain ⟨O, hO⟩ : ∃ O, O = Tmpm.sortI (l.take k) := ⟨_, rfl⟩
      rw [← hO] at hin hol hown
      have HIn : Hid (Tmpm.sortI (l.take (k + 1)) = O.take (Tmpm.posI O x k) ++ x :: O.drop (Tmpm.posI O x k)) := by
        show _ = _; rw [hin]; unfold Tmpm.insI; rw [hol]
      have hpk := Tmpm.posI_le O x k
      obtain ⟨_, _, he, _, hgl, hkc⟩ := own_some hown (by simp)
      simp only [Value.slice.injEq, Option.some.injEq, Addr.mk.injEq, and_true, true_and] at he
      obtain ⟨rfl, rfl⟩ := he
      have hrd : ∀ j, j < k → wr.cell? ⟨g, j, none⟩ = some (.int .i64 (O.getD j 0)) := by
        intro j hj
        rw [hown.cellAt j (by omega)]
        simp [List.getElem?_eq_getElem (show j < O.length by omega), iv]
      have hbs : Hid (w.heap.size ≤ wr.heap.size) := hb.size
      have hbelow := Lib.hid hb
      have HX : Hid (Xs wr.heap.size g k O wr (wr.alloc (.cells #[] 3))) := ⟨by simp, hgl, World.grownBy_alloc wr _ none, hrd, hol, rfl⟩
      have HE0 : Hid ((wr.alloc (.cells #[] 3)).ownsRow wr.heap.size 3 1 (.slice (some ⟨wr.heap.size, 0, none⟩) 0 0) 0 []) := World.ownsRow_lit (base := wr.heap.size) (e := 3) (size := 1) wr #[] 0 (Nat.le_refl _) (by simp) rfl
      have HT : Hid (∀ j, j ≤ k → ((O.take j).map iv).length = j * 1) := by intro j hj; rw [List.length_map, List.length_take]; omega
      have HD : Hid (∀ j, j ≤ k → ((O.drop j).map iv).length = (k - j) * 1) := by intro j hj; rw [List.length_map, List.length_drop, hol]; omega
      have HC1 : Hid (∀ j, j ≤ k → ∀ i u, ((O.take j).map iv)[i]? = some u → (wr.alloc (.cells #[] 3)).cell? ((⟨g, 0, none⟩ : Addr).add i) = some u) := by
        intro j hj i u hu
        have hil : i < j := by
          rcases Nat.lt_or_ge i j with h' | h'
          · exact h'
          · rw [List.getElem?_eq_none (by rw [List.length_map, List.length_take]; omega)] at hu; cases hu
        have e : (⟨g, 0, none⟩ : Addr).add i = ⟨g, i, none⟩ := by unfold Addr.add; split <;> simp_all
        rw [e, HX.out.cell i (by omega)]
        rw [List.getElem?_map, List.getElem?_take_of_lt hil, List.getElem?_eq_getElem (by omega)] at hu
        rw [List.getD_eq_getElem?_getD, List.getElem?_eq_getElem (by omega)]
        simpa [iv] using hu
      have HRD : Hid (∀ j, j < k → wr.cell? ⟨g, j, none⟩ = some (.int .i64 (O.getD j 0))) := hrd
      have hib : (k : Int) < (l.length : Int) := by omega
      have hmx : l.length ≤ 9223372036854775807 := by omega
      clear hcx hin hol hO hx hown hb hrd
      go_wp2
      go_loopw [6] (fun q W => ∃ j : Nat, j ≤ k ∧ q = .int .i64 j ∧ Hid (Tmpm.posI O x j = Tmpm.posI O x k) ∧ W = wr) (fun q _ => (intOf q).toNat)
      case atStart => exact ⟨k, Nat.le_refl _, rfl, rfl, rfl⟩
      case round =>
        obtain ⟨j, hj, rfl, hpos, rfl⟩ := hrel
        have hjc : j ≤ cap := by omega
        by_cases hj0 : 0 < j
        · have hj0' : (0 : Int) < (j : Int) := by omega
          have hcj := HRD.out (j - 1) (by omega)
          obtain ⟨y, hy⟩ : ∃ y, y = O.getD (j - 1) 0 := ⟨_, rfl⟩
          rw [← hy] at hcj
          by_cases hgt : x < y
          · have hp2 : Hid (Tmpm.posI O x (j - 1) = Tmpm.posI O x k) := by
              show _ = _
              rw [← hpos.out]
              obtain ⟨i, rfl⟩ : ∃ i, j = i + 1 := ⟨j - 1, by omega⟩
              rw [Nat.add_sub_cancel] at hy ⊢
              rw [Tmpm.posI, ← hy, if_pos hgt]
            clear hpos hy
            go_wp2
            go_roundw
            case rel => exact ⟨j - 1, by omega, by go_num, hp2, trivial⟩
            case measure => simp [intOf]; omega
          · have hP : Hid (j = Tmpm.posI O x k) := by
              show _ = _
              rw [← hpos.out]
              obtain ⟨i, rfl⟩ : ∃ i, j = i + 1 := ⟨j - 1, by omega⟩
              rw [Nat.add_sub_cancel] at hy
              rw [Tmpm.posI, ← hy, if_neg hgt]
            clear hy
            by_cases hcap : cap = j
            · subst hcap
              have hjP : Hid (cap = Tmpm.posI O x k) := hP.out
              have hjk : cap ≤ k := hj
              clear hpos hP
              go_wp2_with (first
                | (at_builtin; refine wpList_append_own _ rfl (.tmp 30) (.tmp 33) 22 rfl wr.heap.size 3 i0 (.int .i64 0) 1 8 Try.underlying22 hi hz0 hz1 hz2 rfl (by decide) _ 0 [] rfl HE0.out ⟨g, 0, none⟩ cap cap ((O.take cap).map iv) rfl (HT.out cap hjk) (HC1.out cap hjk) (by intro u hu; obtain ⟨z, _, rfl⟩ := List.mem_map.1 hu; rfl) (by unfold maxLen; omega) (by omega) (by simp) ?_; intro v1 w1 ho1 hg1 hn1; simp only [Nat.zero_add, List.nil_append] at ho1; obtain ⟨g1, cap1, rfl, hB1, hl1, hc1⟩ := own_some ho1 (fun e => slice_ne (hn1.1 e).1); have hX1 := Lib.hid (HX.out.grown1 hg1 (fun b hb => Nat.le_of_eq (Option.some.inj hb))); have HO1 := Lib.hid ho1; clear ho1 hg1 hn1)
                | (at_builtin; refine wpList_append_own _ rfl (.tmp 35) (.tmp 37) 22 rfl wr.heap.size 3 i0 (.int .i64 0) 1 8 Try.underlying22 hi hz0 hz1 hz2 rfl (by decide) _ cap _ rfl (HO1.out.alloc _) ⟨w1.heap.size, 0, none⟩ 1 1 [.int .i64 x] rfl rfl (cell_one_new _ _ _) (by intro u hu; simp at hu; subst hu; rfl) (by unfold maxLen; omega) (by omega) (by have := hX1.out.sz; simp; omega) ?_; intro v2 w2 ho2 hg2 hn2; obtain ⟨g2, cap2, rfl, hB2, hl2, hc2⟩ := own_some ho2 (fun e => slice_ne (hn2.1 e).1); have hX2 := Lib.hid ((hX1.out.alloc1 _).grown1 hg2 (fun b hb => Nat.le_trans hB1 (Nat.le_of_eq (Option.some.inj hb)))); have HO2 := Lib.hid ho2; clear ho2 hg2 hn2)
                | (at_builtin; refine wpList_append_own _ rfl (.tmp 39) (.tmp 42) 22 rfl wr.heap.size 3 i0 (.int .i64 0) 1 8 Try.underlying22 hi hz0 hz1 hz2 rfl (by decide) _ (cap + 1) _ rfl HO2.out ⟨g, 0, none⟩ 0 0 [] rfl rfl (fun i u h => by simp at h) (by intro u hu; cases hu) (by unfold maxLen; omega) (by omega) hX2.out.sz ?_; intro v3 w3 ho3 hg3 hn3; rw [show cap + 1 + 0 = k + 1 by omega] at ho3; obtain ⟨g3, cap3, rfl, hB3, hl3, hc3⟩ := own_some ho3 (fun e => slice_ne (hn3.1 e).1); have hX3 := Lib.hid (hX2.out.grown1 hg3 (fun b hb => Nat.le_trans hB2 (Nat.le_of_eq (Option.some.inj hb)))); have HO3 := Lib.hid ho3; clear ho3 hg3 hn3))
              have hfin : Hid (w3.ownsRow w.heap.size 3 1 (.slice (some ⟨g3, 0, none⟩) (k + 1) cap3) (k + 1) ((Tmpm.sortI (l.take (k + 1))).map iv)) := by
                have e := HO3.out.mono hbs.out
                show World.ownsRow _ _ _ _ _ _ _
                rw [HIn.out, ← hjP.out, show O.drop cap = [] from List.drop_eq_nil_of_le (by rw [HX.out.ol]; omega)]
                simpa [iv] using e
              have hbf : Below w.heap.size w w3 := hX3.out.below hbelow.out hbs.out
              go_roundw
              case rel => exact ⟨k + 1, g3, cap3, by omega, by go_num, rfl, hfin.out, hbf⟩
              case measure => simp [intOf]; omega
            · have hjP : Hid (j = Tmpm.posI O x k) := hP.out
              have hjk : j ≤ k := hj
              clear hpos hP
              go_wp2_with (first
                | (at_builtin; refine wpList_append_own _ rfl (.tmp 30) (.tmp 33) 22 rfl wr.heap.size 3 i0 (.int .i64 0) 1 8 Try.underlying22 hi hz0 hz1 hz2 rfl (by decide) _ 0 [] rfl HE0.out ⟨g, 0, none⟩ j cap ((O.take j).map iv) rfl (HT.out j hjk) (HC1.out j hjk) (by intro u hu; obtain ⟨z, _, rfl⟩ := List.mem_map.1 hu; rfl) (by unfold maxLen; omega) (by omega) (by simp) ?_; intro v1 w1 ho1 hg1 hn1; simp only [Nat.zero_add, List.nil_append] at ho1; obtain ⟨g1, cap1, rfl, hB1, hl1, hc1⟩ := own_some ho1 (fun e => slice_ne (hn1.1 e).1); have hX1 := Lib.hid (HX.out.grown1 hg1 (fun b hb => Nat.le_of_eq (Option.some.inj hb))); have HO1 := Lib.hid ho1; clear ho1 hg1 hn1)
                | (at_builtin; refine wpList_append_own _ rfl (.tmp 35) (.tmp 37) 22 rfl wr.heap.size 3 i0 (.int .i64 0) 1 8 Try.underlying22 hi hz0 hz1 hz2 rfl (by decide) _ j _ rfl (HO1.out.alloc _) ⟨w1.heap.size, 0, none⟩ 1 1 [.int .i64 x] rfl rfl (cell_one_new _ _ _) (by intro u hu; simp at hu; subst hu; rfl) (by unfold maxLen; omega) (by omega) (by have := hX1.out.sz; simp; omega) ?_; intro v2 w2 ho2 hg2 hn2; obtain ⟨g2, cap2, rfl, hB2, hl2, hc2⟩ := own_some ho2 (fun e => slice_ne (hn2.1 e).1); have hX2 := Lib.hid ((hX1.out.alloc1 _).grown1 hg2 (fun b hb => Nat.le_trans hB1 (Nat.le_of_eq (Option.some.inj hb)))); have HO2 := Lib.hid ho2; clear ho2 hg2 hn2)
                | (at_builtin; refine wpList_append_own _ rfl (.tmp 39) (.tmp 42) 22 rfl wr.heap.size 3 i0 (.int .i64 0) 1 8 Try.underlying22 hi hz0 hz1 hz2 rfl (by decide) _ (j + 1) _ rfl HO2.out ⟨g, j, none⟩ (k - j) (cap - j) ((O.drop j).map iv) rfl (HD.out j hjk) (hX2.out.cells j hjk (fun _ => rfl)) (by intro u hu; obtain ⟨z, _, rfl⟩ := List.mem_map.1 hu; rfl) (by unfold maxLen; omega) (by omega) hX2.out.sz ?_; intro v3 w3 ho3 hg3 hn3; rw [show j + 1 + (k - j) = k + 1 by omega] at ho3; obtain ⟨g3, cap3, rfl, hB3, hl3, hc3⟩ := own_some ho3 (fun e => slice_ne (hn3.1 e).1); have hX3 := Lib.hid (hX2.out.grown1 hg3 (fun b hb => Nat.le_trans hB2 (Nat.le_of_eq (Option.some.inj hb)))); have HO3 := Lib.hid ho3; clear ho3 hg3 hn3))
              have hfin : Hid (w3.ownsRow w.heap.size 3 1 (.slice (some ⟨g3, 0, none⟩) (k + 1) cap3) (k + 1) ((Tmpm.sortI (l.take (k + 1))).map iv)) := by
                have e := HO3.out.mono hbs.out
                show World.ownsRow _ _ _ _ _ _ _
                rw [HIn.out, ← hjP.out]
                simpa [iv] using e
              have hbf : Below w.heap.size w w3 := hX3.out.below hbelow.out hbs.out
              go_roundw
              case rel => exact ⟨k + 1, g3, cap3, by omega, by go_num, rfl, hfin.out, hbf⟩
              case measure => simp [intOf]; omega
        · have hj0' : ¬ (0 : Int) < (j : Int) := by omega
          have hP : Hid (j = Tmpm.posI O x k) := by
            show _ = _
            rw [← hpos.out]
            have : j = 0 := by omega
            rw [this]; rfl
          by_cases hcap : cap = j
          · subst hcap
            have hjP : Hid (cap = Tmpm.posI O x k) := hP.out
            have hjk : cap ≤ k := hj
            clear hpos hP
            go_wp2_with (first
              | (at_builtin; refine wpList_append_own _ rfl (.tmp 30) (.tmp 33) 22 rfl wr.heap.size 3 i0 (.int .i64 0) 1 8 Try.underlying22 hi hz0 hz1 hz2 rfl (by decide) _ 0 [] rfl HE0.out ⟨g, 0, none⟩ cap cap ((O.take cap).map iv) rfl (HT.out cap hjk) (HC1.out cap hjk) (by intro u hu; obtain ⟨z, _, rfl⟩ := List.mem_map.1 hu; rfl) (by unfold maxLen; omega) (by omega) (by simp) ?_; intro v1 w1 ho1 hg1 hn1; simp only [Nat.zero_add, List.nil_append] at ho1; obtain ⟨g1, cap1, rfl, hB1, hl1, hc1⟩ := own_some ho1 (fun e => slice_ne (hn1.1 e).1); have hX1 := Lib.hid (HX.out.grown1 hg1 (fun b hb => Nat.le_of_eq (Option.some.inj hb))); have HO1 := Lib.hid ho1; clear ho1 hg1 hn1)
              | (at_builtin; refine wpList_append_own _ rfl (.tmp 35) (.tmp 37) 22 rfl wr.heap.size 3 i0 (.int .i64 0) 1 8 Try.underlying22 hi hz0 hz1 hz2 rfl (by decide) _ cap _ rfl (HO1.out.alloc _) ⟨w1.heap.size, 0, none⟩ 1 1 [.int .i64 x] rfl rfl (cell_one_new _ _ _) (by intro u hu; simp at hu; subst hu; rfl) (by unfold maxLen; omega) (by omega) (by have := hX1.out.sz; simp; omega) ?_; intro v2 w2 ho2 hg2 hn2; obtain ⟨g2, cap2, rfl, hB2, hl2, hc2⟩ := own_some ho2 (fun e => slice_ne (hn2.1 e).1); have hX2 := Lib.hid ((hX1.out.alloc1 _).grown1 hg2 (fun b hb => Nat.le_trans hB1 (Nat.le_of_eq (Option.some.inj hb)))); have HO2 := Lib.hid ho2; clear ho2 hg2 hn2)
              | (at_builtin; refine wpList_append_own _ rfl (.tmp 39) (.tmp 42) 22 rfl wr.heap.size 3 i0 (.int .i64 0) 1 8 Try.underlying22 hi hz0 hz1 hz2 rfl (by decide) _ (cap + 1) _ rfl HO2.out ⟨g, 0, none⟩ 0 0 [] rfl rfl (fun i u h => by simp at h) (by intro u hu; cases hu) (by unfold maxLen; omega) (by omega) hX2.out.sz ?_; intro v3 w3 ho3 hg3 hn3; rw [show cap + 1 + 0 = k + 1 by omega] at ho3; obtain ⟨g3, cap3, rfl, hB3, hl3, hc3⟩ := own_some ho3 (fun e => slice_ne (hn3.1 e).1); have hX3 := Lib.hid (hX2.out.grown1 hg3 (fun b hb => Nat.le_trans hB2 (Nat.le_of_eq (Option.some.inj hb)))); have HO3 := Lib.hid ho3; clear ho3 hg3 hn3))
            have hfin : Hid (w3.ownsRow w.heap.size 3 1 (.slice (some ⟨g3, 0, none⟩) (k + 1) cap3) (k + 1) ((Tmpm.sortI (l.take (k + 1))).map iv)) := by
              have e := HO3.out.mono hbs.out
              show World.ownsRow _ _ _ _ _ _ _
              rw [HIn.out, ← hjP.out, show O.drop cap = [] from List.drop_eq_nil_of_le (by rw [HX.out.ol]; omega)]
              simpa [iv] using e
            have hbf : Below w.heap.size w w3 := hX3.out.below hbelow.out hbs.out
            go_roundw
            case rel => exact ⟨k + 1, g3, cap3, by omega, by go_num, rfl, hfin.out, hbf⟩
            case measure => simp [intOf]; omega
          · have hjP : Hid (j = Tmpm.posI O x k) := hP.out
            have hjk : j ≤ k := hj
            clear hpos hP
            go_wp2_with (first
              | (at_builtin; refine wpList_append_own _ rfl (.tmp 30) (.tmp 33) 22 rfl wr.heap.size 3 i0 (.int .i64 0) 1 8 Try.underlying22 hi hz0 hz1 hz2 rfl (by decide) _ 0 [] rfl HE0.out ⟨g, 0, none⟩ j cap ((O.take j).map iv) rfl (HT.out j hjk) (HC1.out j hjk) (by intro u hu; obtain ⟨z, _, rfl⟩ := List.mem_map.1 hu; rfl) (by unfold maxLen; omega) (by omega) (by simp) ?_; intro v1 w1 ho1 hg1 hn1; simp only [Nat.zero_add, List.nil_append] at ho1; obtain ⟨g1, cap1, rfl, hB1, hl1, hc1⟩ := own_some ho1 (fun e => slice_ne (hn1.1 e).1); have hX1 := Lib.hid (HX.out.grown1 hg1 (fun b hb => Nat.le_of_eq (Option.some.inj hb))); have HO1 := Lib.hid ho1; clear ho1 hg1 hn1)
              | (at_builtin; refine wpList_append_own _ rfl (.tmp 35) (.tmp 37) 22 rfl wr.heap.size 3 i0 (.int .i64 0) 1 8 Try.underlying22 hi hz0 hz1 hz2 rfl (by decide) _ j _ rfl (HO1.out.alloc _) ⟨w1.heap.size, 0, none⟩ 1 1 [.int .i64 x] rfl rfl (cell_one_new _ _ _) (by intro u hu; simp at hu; subst hu; rfl) (by unfold maxLen; omega) (by omega) (by have := hX1.out.sz; simp; omega) ?_; intro v2 w2 ho2 hg2 hn2; obtain ⟨g2, cap2, rfl, hB2, hl2, hc2⟩ := own_some ho2 (fun e => slice_ne (hn2.1 e).1); have hX2 := Lib.hid ((hX1.out.alloc1 _).grown1 hg2 (fun b hb => Nat.le_trans hB1 (Nat.le_of_eq (Option.some.inj hb)))); have HO2 := Lib.hid ho2; clear ho2 hg2 hn2)
              | (at_builtin; refine wpList_append_own _ rfl (.tmp 39) (.tmp 42) 22 rfl wr.heap.size 3 i0 (.int .i64 0) 1 8 Try.underlying22 hi hz0 hz1 hz2 rfl (by decide) _ (j + 1) _ rfl HO2.out ⟨g, j, none⟩ (k - j) (cap - j) ((O.drop j).map iv) rfl (HD.out j hjk) (hX2.out.cells j hjk (fun _ => rfl)) (by intro u hu; obtain ⟨z, _, rfl⟩ := List.mem_map.1 hu; rfl) (by unfold maxLen; omega) (by omega) hX2.out.sz ?_; intro v3 w3 ho3 hg3 hn3; rw [show j + 1 + (k - j) = k + 1 by omega] at ho3; obtain ⟨g3, cap3, rfl, hB3, hl3, hc3⟩ := own_some ho3 (fun e => slice_ne (hn3.1 e).1); have hX3 := Lib.hid (hX2.out.grown1 hg3 (fun b hb => Nat.le_trans hB2 (Nat.le_of_eq (Option.some.inj hb)))); have HO3 := Lib.hid ho3; clear ho3 hg3 hn3))
            have hfin : Hid (w3.ownsRow w.heap.size 3 1 (.slice (some ⟨g3, 0, none⟩) (k + 1) cap3) (k + 1) ((Tmpm.sortI (l.take (k + 1))).map iv)) := by
              have e := HO3.out.mono hbs.out
              show World.ownsRow _ _ _ _ _ _ _
              rw [HIn.out, ← hjP.out]
              simpa [iv] using e
            have hbf : Below w.heap.size w w3 := hX3.out.below hbelow.out hbs.out
            go_roundw
            case rel => exact ⟨k + 1, g3, cap3, by omega, by go_num, rfl, hfin.out, hbf⟩
            case measure => simp [intOf]; omega
    · obtain rfl : k = l.length := by omega
      have hs : Hid ((Tmpm.sortI (l.take l.length)) = Tmpm.srt l) := by show _ = _; rw [List.take_length, Tmpm.sortI_eq]
      rw [hs.out] at hown
      go_wp2
      go_ret
      exact ⟨⟨g, cap, rfl, hown⟩, hb⟩
end Go.Proofs.Ytnlbijmkehijiaa
