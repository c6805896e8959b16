/-
  'PowerScores' and 'SecondScores' of the program. No conditions but the bounds that Go gives a slice.
-/
import Derived.Test.YtpndfmlkceplcaaGe
import Derived.Test.YtpndfmlkceplcaaGf
namespace Go.Proofs.Ytpndfmlkceplcaa
open Go.ChangeShapes Go.WideShapes Go.ChangeAt Go.RowKit
set_option linter.unusedVariables false

/-- How many lists of k + 1 players begin with each one. -/
def powTo (l : List Int) : Nat → List Nat
  | 0 => List.replicate l.length 1
  | k + 1 => sumsL l (powTo l k)
theorem powTo_len (l : List Int) (k : Nat) : (powTo l k).length = l.length := by
  cases k with
  | zero => simp [powTo]
  | succ k => simp [powTo, sumsL]
theorem sum_le_of (L : List Nat) (M : Nat) (h : ∀ x ∈ L, x ≤ M) : L.sum ≤ L.length * M := by
  induction L with
  | nil => simp
  | cons x L ih =>
    have h1 := ih (fun y hy => h y (List.mem_cons_of_mem _ hy))
    have h2 := h x List.mem_cons_self
    rw [List.sum_cons, List.length_cons, Nat.add_mul]
    omega
theorem powTo_le (l : List Int) : ∀ k, ∀ x ∈ powTo l k, x ≤ 8 ^ k
  | 0 => by
    intro x hx
    rw [powTo] at hx
    rw [List.eq_of_mem_replicate hx]
    exact Nat.le_refl _
  | k + 1 => by
    intro x hx
    rw [powTo, sumsL] at hx
    obtain ⟨w, _, rfl⟩ := List.mem_map.1 hx
    have h1 : ∀ y ∈ (elems w.toNat).map (fun b => (powTo l k).getD b 0), y ≤ 8 ^ k := by
      intro y hy
      obtain ⟨b, _, rfl⟩ := List.mem_map.1 hy
      exact getD_le _ _ (powTo_le l k) b
    have h2 := sum_le_of _ _ h1
    have h3 : (elems w.toNat).length ≤ 8 := elTo_len _ _
    rw [List.length_map] at h2
    have h4 : (elems w.toNat).length * 8 ^ k ≤ 8 * 8 ^ k := Nat.mul_le_mul_right _ h3
    rw [Nat.pow_succ, Nat.mul_comm (8 ^ k) 8]
    exact Nat.le_trans h2 h4
theorem powTo_le45 (l : List Int) {k : Nat} (hk : k ≤ 15) : ∀ x ∈ powTo l k, x ≤ 2 ^ 45 := by
  intro x hx
  have h1 := powTo_le l k x hx
  have h2 : 8 ^ k ≤ 8 ^ 15 := Nat.pow_le_pow_right (by decide) hk
  have h3 : (8 : Nat) ^ 15 = 2 ^ 45 := by decide
  omega
/-- What both 'PowerScores' answer. -/
noncomputable def powR (n : Int) (l : List Int) (k : Int) : List Int := if okB n l = true ∧ 0 ≤ k ∧ k ≤ 12 then (powTo l k.toNat).map Int.ofNat else []
theorem powR_le (n : Int) (l : List Int) (k : Int) : (powR n l k).length ≤ 8 := by
  unfold powR
  split
  · rename_i h
    have hk := okB_iff.1 h.1
    have := hk.2.1; have := hk.2.2.1
    rw [List.length_map, powTo_len]; omega
  · simp

set_option maxRecDepth 100000 in
set_option maxHeartbeats 2000000 in
theorem implPowers (n : Int) (a : Option Addr) (l : List Int) (cap : Nat) (k : Int) (w : World) (hrow : IntRow w a l) (hl : l.length ≤ maxLen) :
    Calls Try.prog 31 #[.agg #[.int .i64 n, .slice a l.length cap], .int .i64 k] w fun e w' => (∃ a0 c0, e = .returned (.slice a0 (powR n l k).length c0) ∧ w'.ownsRow w.heap.size 3 1 (.slice a0 (powR n l k).length c0) (powR n l k).length ((powR n l k).map iv)) ∧ Below w.heap.size w w' := by
  obtain ⟨Wa, hWa⟩ : ∃ Wa, Wa = w.alloc (.cells #[.int .i64 n, .slice a l.length cap] 27) := ⟨_, rfl⟩
  have HWa := Lib.hid hWa
  have hba : Below w.heap.size w Wa := by rw [hWa]; exact (Below.refl _ _).alloc (Nat.le_refl _) _
  have xa : Box Wa w.heap.size 27 (.int .i64 n) (.slice a l.length cap) := by rw [hWa]; exact Box.new _ _ _ _
  have hrowa : IntRow Wa a l := hrow.below hba (Nat.le_refl _)
  have HL := Lib.hid hl
  have HCT := Lib.hid (implTourOk n a l cap Wa hrowa hl)
  have XA := Lib.hid xa
  have c0 := xa.c0
  have c1 := xa.c1
  have BA := Lib.hid hba
  have RA := Lib.hid hrowa
  clear hl hrow hWa xa hba hrowa
  cases hok : okB n l
  · have HE : Hid (powR n l k = []) := by show _ = _; unfold powR; rw [hok]; simp
    have HO := Lib.hid hok
    clear hok
    go_enter Try.func31, Try.ntmps31
    go_wp2_with fail
    rw [← HWa.out]
    refine HCT.out.mono ?_
    rintro e w1 ⟨rfl, hb1⟩
    rw [HO.out]
    go_wp2
    go_ret
    rw [HE.out]
    exact ⟨⟨none, 0, rfl, own_nil _ _⟩, BA.out.trans (hb1.mono BA.out.size)⟩
  · by_cases hk0 : k < 0
    · have HE : Hid (powR n l k = []) := by show _ = _; unfold powR; rw [if_neg (by omega)]
      have HO := Lib.hid hok
      clear hok
      go_enter Try.func31, Try.ntmps31
      go_wp2_with fail
      rw [← HWa.out]
      refine HCT.out.mono ?_
      rintro e w1 ⟨rfl, hb1⟩
      rw [HO.out]
      go_wp2
      go_ret
      rw [HE.out]
      exact ⟨⟨none, 0, rfl, own_nil _ _⟩, BA.out.trans (hb1.mono BA.out.size)⟩
    · by_cases hk12 : 12 < k
      · have HE : Hid (powR n l k = []) := by show _ = _; unfold powR; rw [if_neg (by omega)]
        have HO := Lib.hid hok
        clear hok
        go_enter Try.func31, Try.ntmps31
        go_wp2_with fail
        rw [← HWa.out]
        refine HCT.out.mono ?_
        rintro e w1 ⟨rfl, hb1⟩
        rw [HO.out]
        go_wp2
        go_ret
        rw [HE.out]
        exact ⟨⟨none, 0, rfl, own_nil _ _⟩, BA.out.trans (hb1.mono BA.out.size)⟩
      · have hok' := okB_iff.1 hok
        have h8 : l.length ≤ 8 := by have := hok'.2.1; have := hok'.2.2.1; omega
        have h1 : 1 ≤ l.length := by have := hok'.1; have := hok'.2.2.1; omega
        obtain rfl : n = (l.length : Int) := hok'.2.2.1.symm
        have HK := Lib.hid hok'
        have HO := Lib.hid hok
        obtain ⟨K, rfl⟩ : ∃ K : Nat, k = (K : Int) := ⟨k.toNat, by omega⟩
        have hK : K ≤ 12 := by omega
        have HE : Hid (powR l.length l K = (powTo l K).map Int.ofNat) := by show _ = _; unfold powR; rw [if_pos ⟨hok, by omega, by omega⟩]; rfl
        have HEl : Hid ((powR l.length l K).length = l.length) := by show _ = _; rw [HE.out, List.length_map, powTo_len]
        obtain ⟨m, hm⟩ : ∃ m, m = l.length := ⟨_, rfl⟩
        have HMl := Lib.hid hm
        rw [← hm] at h8 h1
        have HREP := Lib.hid (fun (p : Nat) (W : World) hp hpl => repeat_any m h1 h8 p W hp hpl)
        clear hok hok'
        rw [← hm] at c0 c1 HWa HCT XA HE HEl HO HK ⊢
        clear hm
        go_enter Try.func31, Try.ntmps31
        go_wp2_with fail
        rw [← HWa.out]
        refine HCT.out.mono ?_
        rintro e w1 ⟨rfl, hb1⟩
        rw [HO.out]
        have xa1 := XA.out.below hb1 XA.out.lt
        have B1 := Lib.hid (BA.out.trans (hb1.mono BA.out.size))
        obtain ⟨W2, hW2⟩ : ∃ W2, W2 = w1.alloc (.cells #[.int .i64 1] 3) := ⟨_, rfl⟩
        have HW2 := Lib.hid hW2
        have hb2 : Below w1.heap.size w1 W2 := by rw [hW2]; exact (Below.refl _ _).alloc (Nat.le_refl _) _
        have xa2 := xa1.below hb2 xa1.lt
        have hR := HREP.out w1.heap.size W2 (by rw [hW2]; simp) (by rw [hW2]; simp)
        have HR := Lib.hid hR
        have B2 := Lib.hid (B1.out.trans (hb2.mono B1.out.size))
        have XA2 := Lib.hid xa2
        have c2 := xa2.c0
        have c3 := xa2.c1
        rw [hW2] at c2 c3
        have RA2 := Lib.hid ((RA.out.below hb1 (Nat.le_refl _)).below hb2 (Nat.le_refl _))
        clear hR hW2 hb2 xa2 xa1 hb1 HCT c0 c1 HREP
        go_wp2_with fail
        rw [← HW2.out]
        refine HR.out.mono ?_
        rintro e w3 ⟨⟨g, rfl, ho3⟩, hb3⟩
        have O3 : Hid (w3.ownsRow w.heap.size 3 1 (.slice (some ⟨g, 0, none⟩) m m) m ((powTo l 0).map nv)) := by
          have := ho3.mono B2.out.size
          rw [powTo, ← HMl.out]
          have e : (List.replicate m 1).map nv = (List.replicate m (1 : Int)).map iv := by simp [nv, iv]
          rw [e]; exact this
        have B3 := Lib.hid (B2.out.trans (hb3.mono B2.out.size))
        have XA3 := Lib.hid (XA2.out.below hb3 XA2.out.lt)
        have RA3 := Lib.hid (RA2.out.below hb3 (Nat.le_refl _))
        have xa3 := XA2.out.below hb3 XA2.out.lt
        have c4 := xa3.c0
        have c5 := xa3.c1
        clear ho3 hb3 c2 c3 XA2 RA2 B1 B2 HR HW2 HWa BA RA XA xa3
        go_wp2
        go_loopw [5, 22] (fun v i wr => ∃ (x g : Nat), x ≤ K ∧ i = .int .i64 (x : Int) ∧ v = .slice (some ⟨g, 0, none⟩) m m ∧ Hid (wr.ownsRow w.heap.size 3 1 (.slice (some ⟨g, 0, none⟩) m m) m ((powTo l x).map nv)) ∧ Hid (Box wr w.heap.size 27 (.int .i64 (m : Int)) (.slice a m cap)) ∧ Hid (IntRow wr a l) ∧ Hid (Below w.heap.size w wr)) (fun _ i _ => K - (intOf i).toNat)
        case atStart => exact ⟨0, g, Nat.zero_le _, rfl, rfl, O3, XA3, RA3, B3⟩
        case round =>
          clear O3 XA3 RA3 B3 c4 c5
          obtain ⟨x, g, hx, rfl, rfl, O1, X1, R1, B1⟩ := hrel
          by_cases hlt : x < K
          · have hxi : (x : Int) < (K : Int) := by omega
            have c0 := X1.out.c0
            have c1 := X1.out.c1
            have hrb : IntRow wr (some ⟨g, 0, none⟩) ((powTo l x).map Int.ofNat) := by
              have := O1.out
              rw [nv_iv] at this
              have hl : ((powTo l x).map Int.ofNat).length = m := by rw [List.length_map, powTo_len]; exact HMl.out.symm
              rw [← hl] at this
              exact IntRow.of_own this
            have hC := sumsOfBeaten_any (m : Int) a l cap (some ⟨g, 0, none⟩) (powTo l x) m (2 ^ 45) wr R1.out HK.out hrb (powTo_len l x) (powTo_le45 l (by omega)) (Nat.le_refl _)
            rw [← HMl.out] at hC
            have HC := Lib.hid hC
            clear hC hrb O1
            go_wp2_with fail
            refine HC.out.mono ?_
            rintro e w4 ⟨⟨g4, rfl, ho4⟩, hb4⟩
            have O4 : Hid (w4.ownsRow w.heap.size 3 1 (.slice (some ⟨g4, 0, none⟩) m m) m ((powTo l (x + 1)).map nv)) := ho4.mono B1.out.size
            have X4 := Lib.hid (X1.out.below hb4 X1.out.lt)
            have R4 := Lib.hid (R1.out.below hb4 (Nat.le_refl _))
            have B4 := Lib.hid (B1.out.trans (hb4.mono B1.out.size))
            clear ho4 hb4 c0 c1 X1 R1 B1 HC
            go_wp2
            go_roundw
            case rel => exact ⟨x + 1, g4, by omega, by go_num, rfl, O4, X4, R4, B4⟩
            case measure => simp [intOf]; omega
          · obtain rfl : x = K := by omega
            have O2 := O1
            rw [nv_iv] at O2
            clear O1
            go_wp2
            go_ret
            refine ⟨⟨some ⟨g, 0, none⟩, m, by rw [HEl.out]; rfl, ?_⟩, B1.out⟩
            rw [HEl.out, HE.out]; exact O2.out

set_option maxHeartbeats 400000 in
theorem implSeconds (n : Int) (a : Option Addr) (l : List Int) (cap : Nat) (w : World) (hrow : IntRow w a l) (hl : l.length ≤ maxLen) :
    Calls Try.prog 34 #[.agg #[.int .i64 n, .slice a l.length cap]] w fun e w' => (∃ a0 c0, e = .returned (.slice a0 (powR n l 2).length c0) ∧ w'.ownsRow w.heap.size 3 1 (.slice a0 (powR n l 2).length c0) (powR n l 2).length ((powR n l 2).map iv)) ∧ Below w.heap.size w w' := by
  obtain ⟨Wa, hWa⟩ : ∃ Wa, Wa = w.alloc (.cells #[.int .i64 n, .slice a l.length cap] 27) := ⟨_, rfl⟩
  have HWa := Lib.hid hWa
  have hba : Below w.heap.size w Wa := by rw [hWa]; exact (Below.refl _ _).alloc (Nat.le_refl _) _
  have HC := Lib.hid (implPowers n a l cap 2 Wa (hrow.below hba (Nat.le_refl _)) hl)
  have BA := Lib.hid hba
  clear hrow hl hWa hba
  go_enter Try.func34, Try.ntmps34
  go_wp2_with fail
  rw [← HWa.out]
  refine HC.out.mono ?_
  rintro e w1 ⟨⟨a0, c0, rfl, ho⟩, hb⟩
  have HO := Lib.hid (ho.mono BA.out.size)
  have HB := Lib.hid (BA.out.trans (hb.mono BA.out.size))
  clear ho hb
  go_wp2
  go_ret
  exact ⟨⟨a0, c0, rfl, HO.out⟩, HB.out⟩
end Go.Proofs.Ytpndfmlkceplcaa
