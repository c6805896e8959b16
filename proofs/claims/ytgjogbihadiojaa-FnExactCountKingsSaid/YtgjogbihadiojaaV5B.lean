/-
  Contracts for the model's draws, on: orders out of a list of bytes: each names every player once. Conditions: the bounds of the calls.
-/
import Derived.Test.YtgjogbihadiojaaV5A
import Derived.Test.Ytgjogbihadiojaa3Ux
namespace Go.Proofs.Ytgjogbihadiojaa
open Go.ChangeShapes Go.WideShapes Go.ChangeAt Go.RowKit
set_option linter.unusedVariables false

def OnceP (B : Nat) (w : World) (p : Nat) (a : Option Addr) (len cap : Nat) (e : Ending) (w' : World) : Prop :=
  ∃ b : Bool, e = .returned (.bool b) ∧ Cur B w' p a len cap ∧ w.grownBy w' (some p)
set_option maxHeartbeats 1000000 in
theorem once_any (B n : Nat) (w : World) (p : Nat) (a : Option Addr) (len cap : Nat) (h1 : 1 ≤ n) (h8 : n ≤ 256) (hl : len ≤ 1048576) (hB : B ≤ w.heap.size) (h : Cur B w p a len cap) :
    Calls Try.prog 106 #[.pointer (some ⟨p, 0, none⟩), .int .i64 n] w (OnceP B w p a len cap) := by
  go_enter Try.func106, Try.ntmps106
  go_wp2_with fail
  refine (below_any B n w p a len cap h1 h8 hl hB h).mono ?_
  rintro e w1 ⟨x, hx, rfl, c1, hb1, hu1⟩
  have P : Hid (∀ b, OnceP B w p a len cap (.returned (.bool b)) w1) := fun b => ⟨b, rfl, c1, gr_low hb1 hu1⟩
  clear h c1 hb1 hu1 hx
  go_wp2
  go_ret
  exact P.out _

/-- An order that a draw answers. -/
def OrderP (B n : Nat) (w : World) (p : Nat) (a : Option Addr) (len cap : Nat) (e : Ending) (w' : World) : Prop :=
  ∃ (L : List Int) (g c : Nat), Names n L ∧ e = .returned (.slice (some ⟨g, 0, none⟩) n c) ∧ w'.ownsRow w.heap.size 3 1 (.slice (some ⟨g, 0, none⟩) n c) n (L.map iv) ∧ Cur B w' p a len cap ∧ w.grownBy w' (some p)

set_option maxRecDepth 100000 in
set_option maxHeartbeats 2000000 in
theorem order_any (B n : Nat) (w : World) (p : Nat) (a : Option Addr) (len cap : Nat) (hn : n ≤ 8) (hl : len ≤ 1048576) (hB : B ≤ w.heap.size) (h : Cur B w p a len cap) :
    Calls Try.prog 65 #[.pointer (some ⟨p, 0, none⟩), .int .i64 n] w (OrderP B n w p a len cap) := by
  obtain ⟨i0, hi, hz0, hz1, hz2⟩ := info_parts infoInt
  obtain ⟨Wa, hWa⟩ : ∃ Wa, Wa = w.alloc (.cells #[] 3) := ⟨_, rfl⟩
  have hba : Below w.heap.size w Wa := by rw [hWa]; exact (Below.refl _ _).alloc (Nat.le_refl _) _
  have hO0 : Wa.ownsRow w.heap.size 3 1 (.slice (some ⟨w.heap.size, 0, none⟩) 0 0) 0 (([] : List Int).map iv) := by
    rw [hWa]; exact World.ownsRow_lit (base := w.heap.size) (e := 3) (size := 1) w #[] 0 (Nat.le_refl _) (by simp) rfl
  have hc0 := h.kept hB hba
  have hpw := Lib.hid h.lt
  have hg0 := gr_below p hba
  have HW := Lib.hid hWa
  clear hWa h hba
  go_enter Try.func65, Try.ntmps65
  go_wp2
  rw [← HW.out]
  go_loopw [5, 6] (fun out i wr => ∃ (k g c : Nat) (O : List Int), k ≤ n ∧ i = .int .i64 k ∧ Value.slice (some ⟨g, 0, none⟩) k c = out ∧ Hid (Names k O) ∧ wr.ownsRow w.heap.size 3 1 (.slice (some ⟨g, 0, none⟩) k c) k (O.map iv) ∧ Cur B wr p a len cap ∧ w.grownBy wr (some p)) (fun _ i _ => n - (intOf i).toNat)
  case atStart => exact ⟨0, w.heap.size, 0, [], Nat.zero_le _, rfl, rfl, Names.nil, hO0, hc0, hg0⟩
  case round =>
    clear hO0 hc0 hg0
    obtain ⟨k, g, c, O, hk, rfl, rfl, hnm, hown, hcur, hgr⟩ := hrel
    by_cases hlt : k < n
    · have hib : (k : Int) < (n : Int) := by omega
      have hk1 : Hid ((k : Int) + 1 = ((k + 1 : Nat) : Int)) := by show _ = _; omega
      have hBr : B ≤ wr.heap.size := Nat.le_trans hB hgr.size
      have hgp : blk (some (⟨g, 0, none⟩ : Addr)) = some g := rfl
      have hgl := hown.lt g rfl
      have HO := Lib.hid hown
      have HG := Lib.hid hgr
      clear hown hgr
      go_wp2_with fail
      rw [hk1.out]
      refine (below_any B (k + 1) wr p a len cap (by omega) (by omega) hl hBr hcur).mono ?_
      rintro e w2 ⟨j, hj, rfl, hcur2, hb2, hu2⟩
      have hjk : j ≤ k := by omega
      have hown := own_grown HO.out (gr_low hb2 hu2) (fun k' hk' e => by rw [hgp] at hk'; cases hk'; have := hgl.1; have := hpw.out; have := Option.some.inj e; omega)
      have HG2 := Lib.hid (HG.out.trans (gr_low hb2 hu2))
      have hol : Hid (O.length = k) := hnm.out.1
      have hput : Hid (Names (k + 1) (O.take j ++ [(k : Int)] ++ O.drop j)) := hnm.out.put j
      obtain ⟨_, _, he, _, hgl2, hkc⟩ := own_some hown (by simp)
      simp only [Value.slice.injEq, Option.some.injEq, Addr.mk.injEq, and_true, true_and] at he
      obtain ⟨rfl, rfl⟩ := he
      have hrd : ∀ j, j < k → w2.cell? ⟨g, j, none⟩ = some (.int .i64 (O.getD j 0)) := by
        intro j hj
        have := hol.out
        rw [hown.cellAt j (by omega)]
        simp [List.getElem?_eq_getElem (show j < O.length by omega), iv]
      have hbs : Hid (w.heap.size ≤ w2.heap.size) := HG2.out.size
      have HX : Hid (Xs w2.heap.size g k O w2 (w2.alloc (.cells #[] 3))) := ⟨by simp, hgl2, World.grownBy_alloc w2 _ none, hrd, hol.out, rfl⟩
      have HE0 : Hid ((w2.alloc (.cells #[] 3)).ownsRow w2.heap.size 3 1 (.slice (some ⟨w2.heap.size, 0, none⟩) 0 0) 0 []) := World.ownsRow_lit (base := w2.heap.size) (e := 3) (size := 1) w2 #[] 0 (Nat.le_refl _) (by simp) rfl
      have HT : Hid (∀ j, j ≤ k → ((O.take j).map iv).length = j * 1) := by intro j hj; have := hol.out; rw [List.length_map, List.length_take]; omega
      have HD : Hid (∀ j, j ≤ k → ((O.drop j).map iv).length = (k - j) * 1) := by intro j hj; rw [List.length_map, List.length_drop, hol.out]; omega
      have HC1 : Hid (∀ j, j ≤ k → ∀ i u, ((O.take j).map iv)[i]? = some u → (w2.alloc (.cells #[] 3)).cell? ((⟨g, 0, none⟩ : Addr).add i) = some u) := by
        intro j hj i u hu
        have hol' := hol.out
        have hil : i < j := by
          rcases Nat.lt_or_ge i j with h' | h'
          · exact h'
          · rw [List.getElem?_eq_none (by rw [List.length_map, List.length_take]; omega)] at hu; cases hu
        have e : (⟨g, 0, none⟩ : Addr).add i = ⟨g, i, none⟩ := by unfold Addr.add; split <;> simp_all
        rw [e, HX.out.cell i (by omega)]
        rw [List.getElem?_map, List.getElem?_take_of_lt hil, List.getElem?_eq_getElem (by omega)] at hu
        rw [List.getD_eq_getElem?_getD, List.getElem?_eq_getElem (by omega)]
        simpa [iv] using hu
      have HCU := Lib.hid hcur2
      have hB2r : B ≤ w2.heap.size := Nat.le_trans hBr hb2.size
      have hmx : k ≤ 9223372036854775807 := by omega
      have hjc : j ≤ c := by omega
      clear hown hrd hb2 hu2 hcur hcur2 hgl hnm
      by_cases hcap : c = j
      · obtain rfl : j = c := hcap.symm
        go_wp2_with (first
          | (at_builtin; refine wpList_append_own _ rfl (.tmp 19) (.tmp 22) 23 rfl w2.heap.size 3 i0 (.int .i64 0) 1 8 Try.underlying23 hi hz0 hz1 hz2 rfl (by decide) _ 0 [] rfl HE0.out ⟨g, 0, none⟩ j j ((O.take j).map iv) rfl (HT.out j hjk) (HC1.out j hjk) (by intro u hu; obtain ⟨z, _, rfl⟩ := List.mem_map.1 hu; rfl) (by unfold maxLen; omega) (by omega) (by simp) ?_; intro v1 w1 ho1 hg1 hn1; simp only [Nat.zero_add, List.nil_append] at ho1; obtain ⟨g1, cap1, rfl, hB1, hl1, hc1⟩ := own_some ho1 (fun e => slice_ne (hn1.1 e).1); have hX1 := Lib.hid (HX.out.grown1 hg1 (fun b hb => Nat.le_of_eq (Option.some.inj hb))); have HO1 := Lib.hid ho1; clear ho1 hg1 hn1)
          | (at_builtin; refine wpList_append_own _ rfl (.tmp 24) (.tmp 26) 23 rfl w2.heap.size 3 i0 (.int .i64 0) 1 8 Try.underlying23 hi hz0 hz1 hz2 rfl (by decide) _ j _ rfl (HO1.out.alloc _) ⟨w1.heap.size, 0, none⟩ 1 1 [.int .i64 k] rfl rfl (cell_one_new _ _ _) (by intro u hu; simp at hu; subst hu; rfl) (by unfold maxLen; omega) (by omega) (by have := hX1.out.sz; simp; omega) ?_; intro v2 w3 ho2 hg2 hn2; obtain ⟨g2, cap2, rfl, hB2, hl2, hc2⟩ := own_some ho2 (fun e => slice_ne (hn2.1 e).1); have hX2 := Lib.hid ((hX1.out.alloc1 _).grown1 hg2 (fun b hb => Nat.le_trans hB1 (Nat.le_of_eq (Option.some.inj hb)))); have HO2 := Lib.hid ho2; clear ho2 hg2 hn2)
          | (at_builtin; refine wpList_append_own _ rfl (.tmp 28) (.tmp 31) 23 rfl w2.heap.size 3 i0 (.int .i64 0) 1 8 Try.underlying23 hi hz0 hz1 hz2 rfl (by decide) _ (j + 1) _ rfl HO2.out ⟨g, 0, none⟩ 0 0 [] rfl rfl (fun i u h => by simp at h) (by intro u hu; cases hu) (by unfold maxLen; omega) (by omega) hX2.out.sz ?_; intro v3 w4 ho3 hg3 hn3; rw [show j + 1 + 0 = k + 1 by omega] at ho3; obtain ⟨g3, cap3, rfl, hB3, hl3, hc3⟩ := own_some ho3 (fun e => slice_ne (hn3.1 e).1); have hX3 := Lib.hid (hX2.out.grown1 hg3 (fun b hb => Nat.le_trans hB2 (Nat.le_of_eq (Option.some.inj hb)))); have HO3 := Lib.hid ho3; clear ho3 hg3 hn3))
        have hfin : Hid (w4.ownsRow w.heap.size 3 1 (.slice (some ⟨g3, 0, none⟩) (k + 1) cap3) (k + 1) ((O.take j ++ [(k : Int)] ++ O.drop j).map iv)) := by
          have e := HO3.out.mono hbs.out
          show World.ownsRow _ _ _ _ _ _ _
          rw [show O.drop j = [] from List.drop_eq_nil_of_le (by rw [hol.out]; omega)]
          simpa [iv] using e
        have hb4 : Below w2.heap.size w2 w4 := hX3.out.below (Below.refl _ _) (Nat.le_refl _)
        have hc4 := HCU.out.kept hB2r hb4
        have hg4 := HG2.out.trans (gr_below p hb4)
        go_roundw
        case rel => exact ⟨k + 1, g3, cap3, _, by omega, by go_num, rfl, hput, hfin.out, hc4, hg4⟩
        case measure => simp [intOf]; omega
      · go_wp2_with (first
          | (at_builtin; refine wpList_append_own _ rfl (.tmp 19) (.tmp 22) 23 rfl w2.heap.size 3 i0 (.int .i64 0) 1 8 Try.underlying23 hi hz0 hz1 hz2 rfl (by decide) _ 0 [] rfl HE0.out ⟨g, 0, none⟩ j c ((O.take j).map iv) rfl (HT.out j hjk) (HC1.out j hjk) (by intro u hu; obtain ⟨z, _, rfl⟩ := List.mem_map.1 hu; rfl) (by unfold maxLen; omega) (by omega) (by simp) ?_; intro v1 w1 ho1 hg1 hn1; simp only [Nat.zero_add, List.nil_append] at ho1; obtain ⟨g1, cap1, rfl, hB1, hl1, hc1⟩ := own_some ho1 (fun e => slice_ne (hn1.1 e).1); have hX1 := Lib.hid (HX.out.grown1 hg1 (fun b hb => Nat.le_of_eq (Option.some.inj hb))); have HO1 := Lib.hid ho1; clear ho1 hg1 hn1)
          | (at_builtin; refine wpList_append_own _ rfl (.tmp 24) (.tmp 26) 23 rfl w2.heap.size 3 i0 (.int .i64 0) 1 8 Try.underlying23 hi hz0 hz1 hz2 rfl (by decide) _ j _ rfl (HO1.out.alloc _) ⟨w1.heap.size, 0, none⟩ 1 1 [.int .i64 k] rfl rfl (cell_one_new _ _ _) (by intro u hu; simp at hu; subst hu; rfl) (by unfold maxLen; omega) (by omega) (by have := hX1.out.sz; simp; omega) ?_; intro v2 w3 ho2 hg2 hn2; obtain ⟨g2, cap2, rfl, hB2, hl2, hc2⟩ := own_some ho2 (fun e => slice_ne (hn2.1 e).1); have hX2 := Lib.hid ((hX1.out.alloc1 _).grown1 hg2 (fun b hb => Nat.le_trans hB1 (Nat.le_of_eq (Option.some.inj hb)))); have HO2 := Lib.hid ho2; clear ho2 hg2 hn2)
          | (at_builtin; refine wpList_append_own _ rfl (.tmp 28) (.tmp 31) 23 rfl w2.heap.size 3 i0 (.int .i64 0) 1 8 Try.underlying23 hi hz0 hz1 hz2 rfl (by decide) _ (j + 1) _ rfl HO2.out ⟨g, j, none⟩ (k - j) (c - j) ((O.drop j).map iv) rfl (HD.out j hjk) (hX2.out.cells j hjk (fun _ => rfl)) (by intro u hu; obtain ⟨z, _, rfl⟩ := List.mem_map.1 hu; rfl) (by unfold maxLen; omega) (by omega) hX2.out.sz ?_; intro v3 w4 ho3 hg3 hn3; rw [show j + 1 + (k - j) = k + 1 by omega] at ho3; obtain ⟨g3, cap3, rfl, hB3, hl3, hc3⟩ := own_some ho3 (fun e => slice_ne (hn3.1 e).1); have hX3 := Lib.hid (hX2.out.grown1 hg3 (fun b hb => Nat.le_trans hB2 (Nat.le_of_eq (Option.some.inj hb)))); have HO3 := Lib.hid ho3; clear ho3 hg3 hn3))
        have hfin : Hid (w4.ownsRow w.heap.size 3 1 (.slice (some ⟨g3, 0, none⟩) (k + 1) cap3) (k + 1) ((O.take j ++ [(k : Int)] ++ O.drop j).map iv)) := by
          have e := HO3.out.mono hbs.out
          show World.ownsRow _ _ _ _ _ _ _
          simpa [iv] using e
        have hb4 : Below w2.heap.size w2 w4 := hX3.out.below (Below.refl _ _) (Nat.le_refl _)
        have hc4 := HCU.out.kept hB2r hb4
        have hg4 := HG2.out.trans (gr_below p hb4)
        go_roundw
        case rel => exact ⟨k + 1, g3, cap3, _, by omega, by go_num, rfl, hput, hfin.out, hc4, hg4⟩
        case measure => simp [intOf]; omega
    · obtain rfl : k = n := by omega
      have hib : ¬ (k : Int) < (k : Int) := by omega
      have P : Hid (OrderP B k w p a len cap (.returned (.slice (some ⟨g, 0, none⟩) k c)) wr) := ⟨O, g, c, hnm.out, rfl, hown, hcur, hgr⟩
      clear hown hcur hgr
      go_wp2
      go_ret
      exact P.out
end Go.Proofs.Ytgjogbihadiojaa
