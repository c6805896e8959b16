/-
  The model's 'ParseTour'. No conditions but a bound on the text's length.
-/
import Derived.Test.YtnlbijmkehijiaaDoor4F
namespace Go.Proofs.YtnlbijmkehijiaaDoor
open Go.ChangeShapes Go.WideShapes Go.ChangeAt Go.RowKit
set_option linter.unusedVariables false

/-- The number that the first k digits after the second character tell. -/
def bitsTo (S : List UInt8) : Nat → Nat
  | 0 => 0
  | k + 1 => if S[2 + k]? = some 49 then bitsTo S k ||| 2 ^ k else bitsTo S k
theorem bitsTo_lt (S : List UInt8) (k : Nat) : bitsTo S k < 2 ^ k := by
  induction k with
  | zero => exact Nat.one_pos
  | succ k ih =>
    unfold bitsTo
    have h1 : 2 ^ k < 2 ^ (k + 1) := Nat.pow_lt_pow_right (by decide) (Nat.lt_succ_self _)
    split
    · exact Nat.or_lt_two_pow (Nat.lt_trans ih h1) h1
    · exact Nat.lt_trans ih h1
theorem bitsTo_bit (S : List UInt8) (K k : Nat) (h : k < K) : (bitsTo S K).testBit k = decide (S[2 + k]? = some 49) := by
  induction K with
  | zero => omega
  | succ K ih =>
    unfold bitsTo
    rcases Nat.lt_or_ge k K with h1 | h1
    · split
      · rw [Nat.testBit_or, ih h1, Nat.testBit_two_pow]
        simp
        intro e; omega
      · exact ih h1
    · obtain rfl : k = K := by omega
      have h2 : (bitsTo S k).testBit k = false := Nat.testBit_lt_two_pow (bitsTo_lt S k)
      split
      · rename_i h3
        rw [Nat.testBit_or, h2, Nat.testBit_two_pow]
        simp [h3]
      · rename_i h3
        rw [h2]; simp [h3]
theorem rows28 (l : List Int) (h1 : 1 ≤ l.length) (h8 : l.length ≤ 8) : (rowsTo l l.length).length ≤ 28 := by
  have r : ∀ m, (rowsTo l (m + 1)).length = (rowsTo l m).length + (l.length - (m + 1)) := by
    intro m; rw [rowsTo_succ, List.length_append, rowBits_len]
  have r0 : (rowsTo l 0).length = 0 := by rw [rowsTo_zero]; rfl
  have r1 : (rowsTo l 1).length = (rowsTo l 0).length + (l.length - 1) := r 0
  have r2 : (rowsTo l 2).length = (rowsTo l 1).length + (l.length - 2) := r 1
  have r3 : (rowsTo l 3).length = (rowsTo l 2).length + (l.length - 3) := r 2
  have r4 : (rowsTo l 4).length = (rowsTo l 3).length + (l.length - 4) := r 3
  have r5 : (rowsTo l 5).length = (rowsTo l 4).length + (l.length - 5) := r 4
  have r6 : (rowsTo l 6).length = (rowsTo l 5).length + (l.length - 6) := r 5
  have r7 : (rowsTo l 7).length = (rowsTo l 6).length + (l.length - 7) := r 6
  have r8 : (rowsTo l 8).length = (rowsTo l 7).length + (l.length - 8) := r 7
  clear r
  have : l.length = 1 ∨ l.length = 2 ∨ l.length = 3 ∨ l.length = 4 ∨ l.length = 5 ∨ l.length = 6 ∨ l.length = 7 ∨ l.length = 8 := by omega
  rcases this with h | h | h | h | h | h | h | h <;> (rw [h] at r1 r2 r3 r4 r5 r6 r7 r8 ⊢; omega)
theorem text_len2 {S : List UInt8} {l : List Int} (h : IsText S l) : S.length = 2 + (rowsTo l l.length).length ∧ (rowsTo l l.length).length ≤ 28 ∧ (∀ c, S[0]? = some c → c.toNat = 48 + l.length) ∧ ∀ k, S[2 + k]? = (rowsTo l l.length)[k]? := by
  have h1 := h.1.1
  have h8 := h.1.2.1
  have h28 := rows28 l (by omega) (by omega)
  have e := text_eq h
  obtain ⟨R, hR⟩ : ∃ R, R = rowsTo l l.length := ⟨_, rfl⟩
  rw [← hR] at e h28 ⊢
  refine ⟨by rw [e]; simp; omega, h28, ?_, ?_⟩
  · intro c hc
    rw [e] at hc
    have hc2 : some (UInt8.ofNat (48 + l.length)) = some c := hc
    rw [← Option.some.inj hc2, UInt8.toNat_ofNat_of_lt' (by show _ < 256; omega)]
  · intro k
    rw [e, show 2 + k = (k + 1) + 1 by omega]
    rfl
/-- What the number tells of a tour's text, if all digits have been read. -/
theorem bits_text {S : List UInt8} {K : Nat} (hK : K + 2 = S.length ∨ 28 ≤ K) {l : List Int} (h : IsText S l) {i j : Nat} (hij : i + 1 ≤ j) (hj : j < l.length) :
    (bitsTo S K).testBit (pre2 l i j).length = bt l i j := by
  obtain ⟨h1, h2, _, h4⟩ := text_len2 h
  obtain ⟨h5, h6⟩ := pre2_at l i j hij hj
  rw [bitsTo_bit S K _ (by omega), h4, h6]
  cases bt l i j <;> decide

theorem wrapP (k : Nat) (h : k ≤ 60) : wrap64 (2 ^ k) = ((2 ^ k : Nat) : Int) := by
  have : ∀ k : Fin 61, wrap64 (2 ^ k.val) = ((2 ^ k.val : Nat) : Int) := by decide +kernel
  exact this ⟨k, by omega⟩

set_option maxRecDepth 100000 in
set_option maxHeartbeats 1000000 in
theorem specParse (s : ByteArray) (w : World) (hs : s.size ≤ 1048576) :
    Calls Tryd.prog 26 #[.string s] w fun e w' => (∃ a0 c0, e = .returned (.tuple #[.agg #[.int .i64 (parseL s.data.toList).length, .slice a0 (parseL s.data.toList).length c0], .bool (parseB s.data.toList)]) ∧ w'.ownsRow w.heap.size 3 1 (.slice a0 (parseL s.data.toList).length c0) (parseL s.data.toList).length ((parseL s.data.toList).map iv)) ∧ Below w.heap.size w w' := by
  obtain ⟨S, hS⟩ : ∃ S, S = s.data.toList := ⟨_, rfl⟩
  have hsl : S.length = s.size := by rw [hS, Lib.size_eq]
  rw [← hS]
  obtain ⟨W0, hW0⟩ : ∃ W0, W0 = w.alloc (.cells #[.int .i64 0, .slice none 0 0] 25) := ⟨_, rfl⟩
  have hb0 : Below w.heap.size w W0 := by rw [hW0]; exact (Below.refl _ _).alloc (Nat.le_refl _) _
  have xr0 : Box W0 w.heap.size 25 (.int .i64 0) (.slice none 0 0) := by rw [hW0]; exact Box.new _ _ _ _
  have HW0 := Lib.hid hW0
  have HS := Lib.hid hS
  have XR0 := Lib.hid xr0
  have HB0 := Lib.hid hb0
  clear hW0 hS
  by_cases h2 : s.size < 2
  · have hno : ∀ l, ¬ IsText S l := by
      intro l hl
      obtain ⟨h1, _⟩ := text_len2 hl
      omega
    have HL : Hid (parseL S = []) := (parse_no hno).1
    have HB : Hid (parseB S = false) := (parse_no hno).2
    clear hno hsl xr0 hb0
    have hi2 : (s.size : Int) < 2 := by omega
    go_enter Tryd.func26, Tryd.ntmps26
    go_wp2
    rw [← HW0.out]
    refine bodyPost_ret (v := .tuple #[.agg #[.int .i64 0, .slice none 0 0], .bool false]) (Box.res2 rfl _ rfl rfl XR0.out) rfl ⟨⟨none, 0, ?_, ?_⟩, HB0.out⟩
    · rw [HL.out, HB.out]; rfl
    · rw [HL.out]; exact World.ownsRow_nil _ _ _ _
  have hi0 : (0 : Int) < (s.size : Int) := by omega
  have hi2 : ¬ (s.size : Int) < 2 := by omega
  have h0s : 0 < s.size := by omega
  obtain ⟨c, hc⟩ : ∃ c : Nat, c = (s[0]).toNat := ⟨_, rfl⟩
  have hc256 : c < 256 := by rw [hc]; exact UInt8.toNat_lt _
  have hcS : ∀ l, IsText S l → c = 48 + l.length := by
    intro l hl
    obtain ⟨_, _, h3, _⟩ := text_len2 hl
    rw [hc]
    apply h3
    rw [HS.out, List.getElem?_eq_getElem (by rw [← Lib.size_eq]; exact h0s)]; rfl
  by_cases hz : 49 ≤ c ∧ c ≤ 56
  · obtain ⟨N, hN⟩ : ∃ N : Nat, (c : Int) - 48 = (N : Int) := ⟨c - 48, by omega⟩
    have hN1 : 1 ≤ N := by omega
    have hN8 : N ≤ 8 := by omega
    have HN : Hid (∀ l, IsText S l → N = l.length) := by
      intro l hl
      have := hcS l hl
      omega
    have hne : Hid (S ≠ []) := by
      show S ≠ []
      rintro rfl
      simp at hsl
      omega
    have hslen := Lib.hid hsl
    clear hcS hsl
    go_enter Tryd.func26, Tryd.ntmps26
    go_wp2_with fail
    rw [← hc, ← HW0.out, hN]
    refine (l01In_any _ 1 8 W0).mono ?_
    rintro e w1 ⟨rfl, rfl⟩
    rw [show (decide ((1 : Int) ≤ (N : Int)) && decide ((N : Int) ≤ 8)) = true by simp; omega]
    clear hb0 xr0 hN hz hc256 hc
    go_wp2
    go_loopw [5, 6] (fun bv iv wr => ∃ (b i k : Nat), Hid (i = k + 2 ∧ b = bitsTo S k) ∧ k ≤ 38 ∧ 2 ≤ i ∧ i ≤ 40 ∧ i ≤ s.size ∧ iv = .int .i64 i ∧ bv = .int .i64 b ∧ wr = W0) (fun _ i _ => 40 - (intOf i).toNat)
    case atStart => exact ⟨0, 2, 0, ⟨rfl, rfl⟩, by omega, by omega, by omega, by omega, rfl, rfl, rfl⟩
    case round =>
      obtain ⟨b, i, k, hik, hk, hi, hi40, his, rfl, rfl, rfl⟩ := hrel
      by_cases hgo : i < s.size ∧ i < 40
      · obtain ⟨hlt, h40⟩ := hgo
        have hib : (i : Int) < (s.size : Int) := by omega
        have hi4 : (i : Int) < 40 := by omega
        have hsub : (i : Int) - 2 = (k : Int) := by have := hik.out.1; omega
        have hSi : Hid (S[2 + k]? = some s[i]) := by
          show _ = _
          rw [HS.out, show 2 + k = i by have := hik.out.1; omega, List.getElem?_eq_getElem (by rw [← Lib.size_eq]; exact hlt)]; rfl
        by_cases hone : s[i] = 49
        · obtain ⟨z, hz⟩ : ∃ z, z = bitsTo S (k + 1) := ⟨_, rfl⟩
          have hor : Go.bits .or .i64 (b : Int) (wrap64 (2 ^ k)) = (z : Int) := by
            rw [wrapP k (by omega), hz]
            have h1 := bitsTo_lt S k
            have h2 : 2 ^ k ≤ 2 ^ 38 := pow_le_of hk
            rw [hik.out.2, i64_or _ _ (by omega) (by omega)]
            unfold bitsTo
            rw [if_pos (by rw [hSi.out, hone])]
            cases k <;> rfl
          have hcc : (((s[i]).toNat : Int) == 49) = true := by rw [hone]; rfl
          have hz2 := Lib.hid hz
          clear hz hone
          go_wp2
          go_roundw
          case rel => exact ⟨z, i + 1, k + 1, ⟨by have := hik.out.1; omega, hz2.out⟩, by have := hik.out.1; omega, by omega, by omega, by omega, by go_num, rfl, trivial⟩
          case measure => simp [intOf]; omega
        · have hcc : (((s[i]).toNat : Int) == 49) = false := by
            simp only [beq_eq_false_iff_ne]
            intro e
            apply hone
            apply UInt8.toNat_inj.1
            show _ = 49
            omega
          have hz2 : Hid (b = bitsTo S (k + 1)) := by
            show _ = _
            rw [hik.out.2]
            show _ = if S[2 + k]? = some 49 then bitsTo S k ||| 2 ^ k else bitsTo S k
            rw [if_neg (by rw [hSi.out]; intro e; exact hone (Option.some.inj e))]
          clear hone
          go_wp2
          go_roundw
          case rel => exact ⟨b, i + 1, k + 1, ⟨by have := hik.out.1; omega, hz2.out⟩, by have := hik.out.1; omega, by omega, by omega, by omega, by go_num, rfl, trivial⟩
          case measure => simp [intOf]; omega
      · have HK : Hid (k + 2 = S.length ∨ 28 ≤ k) := by
          have h1 := hik.out.1
          have h2 := hslen.out
          show _ ∨ _
          omega
        have hb62 : b < 2 ^ 62 := by
          rw [hik.out.2]
          exact Nat.lt_of_lt_of_le (bitsTo_lt S k) (pow_le_of (by omega))
        have HGK : Hid (∀ l, IsText S l → N = l.length ∧ ∀ i j, i + 1 ≤ j → j < l.length → b.testBit (pre2 l i j).length = bt l i j) := by
          intro l hl
          refine ⟨HN.out l hl, fun i j hij hj => ?_⟩
          rw [hik.out.2]
          exact bits_text HK.out hl hij hj
        clear hik HK
        have hcase : (¬ (i : Int) < (s.size : Int)) ∨ ((i : Int) < (s.size : Int) ∧ ¬ (i : Int) < 40) := by omega
        clear hgo
        rcases hcase with hib | ⟨hib, hi4⟩
        all_goals
          go_wp2_with fail
          refine (l02Of_text S N b wr hN8 hb62 HGK.out).mono ?_
          rintro e w1 ⟨⟨g, ys, rfl, htl, ho1⟩, hb1⟩
          have hgl := ho1.lt g rfl
          have hylen : ys.length = N := by have := ho1.1; simpa using this
          have hmap : (ys.map Int.ofNat).length = N := by rw [List.length_map]; exact hylen
          obtain ⟨W2, hW2⟩ : ∃ W2, W2 = w1.alloc (.cells #[.int .i64 N, .slice (some ⟨g, 0, none⟩) N N] 25) := ⟨_, rfl⟩
          have HW2 := Lib.hid hW2
          have hbW2 : Below w1.heap.size w1 W2 := by rw [hW2]; exact Below.one _ _
          have xf2 : Box W2 w1.heap.size 25 (.int .i64 N) (.slice (some ⟨g, 0, none⟩) N N) := by rw [hW2]; exact Box.new _ _ _ _
          have x2 := (XR0.out.below hb1 XR0.out.lt).below hbW2 (Nat.lt_of_lt_of_le XR0.out.lt hb1.size)
          have b2 := (HB0.out.trans (hb1.mono HB0.out.size)).trans (hbW2.mono (Nat.le_trans HB0.out.size hb1.size))
          have o2 := (own_below ho1 hbW2).mono HB0.out.size
          have hrg : Hid (w.heap.size ≠ g) := (show _ ≠ g by have := XR0.out.lt; omega)
          rw [show ys.map nv = (ys.map Int.ofNat).map iv from nv_iv ys] at o2
          have hird := IntRow.of_own (l := ys.map Int.ofNat) (cap := N) (by rw [hmap]; exact o2)
          have hfc := specFormat (N : Int) (some ⟨g, 0, none⟩) (ys.map Int.ofNat) N W2 hird (by rw [hmap]; unfold maxLen; omega)
          rw [hmap] at hfc
          obtain ⟨F, hF⟩ : ∃ F : ByteArray, F = ⟨(fmtR (N : Int) (ys.map Int.ofNat)).toArray⟩ := ⟨_, rfl⟩
          rw [← hF] at hfc
          have HFC := Lib.hid hfc
          have hcand : ∀ l, IsText S l → l = ys.map Int.ofNat := by
            intro l hl
            have h4 := htl l hl
            rw [h4, HN.out l hl, tellL_end hl.1]
          have O2 := Lib.hid o2
          have X2 := Lib.hid x2
          have XF2 := Lib.hid xf2
          have BB2 := Lib.hid b2
          clear htl ho1 hb1 hW2 hbW2 xf2 x2 b2 o2 hird hfc hgl
          by_cases hgood : ∃ l, IsText S l
          · obtain ⟨l, hl⟩ := hgood
            have hle := hcand l hl
            subst hle
            obtain ⟨hp1, hp2⟩ := parse_yes hl
            have hFs : F = s := by
              rw [hF]
              apply str_eq_of
              rw [← HS.out]
              have := text_fmt hl
              rw [hmap] at this
              exact this
            subst hFs
            have HL : Hid (parseL S = ys.map Int.ofNat) := hp1
            have HB : Hid (parseB S = true) := hp2
            have HM := Lib.hid hmap
            clear hp1 hp2 hF hcand hl hmap hylen HGK HN hne hslen
            go_wp2_with fail
            rw [← HW2.out]
            refine HFC.out.mono ?_
            rintro e w5 ⟨rfl, hb5⟩
            have x5 := X2.out.below hb5 X2.out.lt
            have xf5 := XF2.out.below hb5 XF2.out.lt
            have O5 := Lib.hid (own_below O2.out hb5)
            have X5 := Lib.hid x5
            have B5 := Lib.hid (BB2.out.trans (hb5.mono BB2.out.size))
            have hd0 := xf5.c0
            have hd1 := xf5.c1
            have e0 := x5.c0
            have e1 := x5.c1
            have e2 := x5.f0
            have e3 := x5.f1
            clear x5 xf5 hb5
            go_wp2
            refine bodyPost_ret (v := .tuple #[.agg #[.int .i64 N, .slice (some ⟨g, 0, none⟩) N N], .bool true]) (Box.res2 rfl _ rfl rfl ((X5.out.set0 _).set1 _)) rfl ?_
            refine ⟨⟨some ⟨g, 0, none⟩, N, ?_, ?_⟩, ?_⟩
            · rw [HL.out, HB.out, HM.out]
            · rw [HL.out, HM.out]
              exact own_other (own_other O5.out ⟨w.heap.size, 0, none⟩ _ (fun e => hrg.out e.symm)) ⟨w.heap.size, 1, none⟩ _ (fun e => hrg.out e.symm)
            · exact (B5.out.setCell (p := ⟨w.heap.size, 0, none⟩) (Nat.le_refl _) _).setCell (p := ⟨w.heap.size, 1, none⟩) (Nat.le_refl _) _
          · have hno : ∀ l, ¬ IsText S l := fun l hl => hgood ⟨l, hl⟩
            have HL : Hid (parseL S = []) := (parse_no hno).1
            have HB : Hid (parseB S = false) := (parse_no hno).2
            have hFne : (F.toList == s.toList) = false := by
              apply bne_str
              intro e
              have e2 : fmtR (N : Int) (ys.map Int.ofNat) = S := by
                have := congrArg (fun b : ByteArray => b.data.toList) e
                rw [hF] at this
                rw [HS.out]; exact this
              rw [← hmap] at e2
              exact hno _ (fmt_text hne.out e2)
            clear hno hgood hF hcand hmap hylen HGK HN hne hslen
            go_wp2_with fail
            rw [← HW2.out]
            refine HFC.out.mono ?_
            rintro e w5 ⟨rfl, hb5⟩
            have x5 := X2.out.below hb5 X2.out.lt
            have X5 := Lib.hid x5
            have B5 := Lib.hid (BB2.out.trans (hb5.mono BB2.out.size))
            have e0 := x5.c0
            have e1 := x5.c1
            have e2 := x5.f0
            have e3 := x5.f1
            clear x5 hb5
            go_wp2
            refine bodyPost_ret (v := .tuple #[.agg #[.int .i64 0, .slice none 0 0], .bool false]) (Box.res2 rfl _ rfl rfl ((X5.out.set0 _).set1 _)) rfl ⟨⟨none, 0, ?_, ?_⟩, ?_⟩
            · rw [HL.out, HB.out]; rfl
            · rw [HL.out]; exact World.ownsRow_nil _ _ _ _
            · exact (B5.out.setCell (p := ⟨w.heap.size, 0, none⟩) (Nat.le_refl _) _).setCell (p := ⟨w.heap.size, 1, none⟩) (Nat.le_refl _) _
  · have hno : ∀ l, ¬ IsText S l := by
      intro l hl
      have := hcS l hl
      have := hl.1.1
      have := hl.1.2.1
      omega
    have HL : Hid (parseL S = []) := (parse_no hno).1
    have HB : Hid (parseB S = false) := (parse_no hno).2
    clear hno hsl hcS
    go_enter Tryd.func26, Tryd.ntmps26
    go_wp2_with fail
    rw [← hc, ← HW0.out]
    refine (l01In_any _ 1 8 W0).mono ?_
    rintro e w1 ⟨rfl, rfl⟩
    rw [show (decide ((1 : Int) ≤ (c : Int) - 48) && decide ((c : Int) - 48 ≤ 8)) = false by simp; omega]
    have c0 := xr0.c0
    have c1 := xr0.c1
    have f0 := xr0.f0
    have f1 := xr0.f1
    clear xr0
    go_wp2
    refine bodyPost_ret (v := .tuple #[.agg #[.int .i64 0, .slice none 0 0], .bool false]) (Box.res2 rfl _ rfl rfl ((XR0.out.set0 _).set1 _)) rfl ⟨⟨none, 0, ?_, ?_⟩, ?_⟩
    · rw [HL.out, HB.out]; rfl
    · rw [HL.out]; exact World.ownsRow_nil _ _ _ _
    · exact (HB0.out.setCell (p := ⟨w.heap.size, 0, none⟩) (Nat.le_refl _) _).setCell (p := ⟨w.heap.size, 1, none⟩) (Nat.le_refl _) _
end Go.Proofs.YtnlbijmkehijiaaDoor
