/-
  'SovereignOf' of the program and of the model. No conditions but the bounds that Go gives a slice.
-/
import Derived.Test.YtgjogbihadiojaaU2
namespace Go.Proofs.Ytgjogbihadiojaa
open Go.ChangeShapes Go.WideShapes Go.ChangeAt Go.RowKit
set_option linter.unusedVariables false

/-- The first place of a number in a list, counted from s, or -1. -/
def fxL : List Int → Int → Nat → Int
  | [], _, _ => -1
  | y :: L, x, s => if y = x then (s : Int) else fxL L x (s + 1)
theorem fx_yes : ∀ (L : List Int) (x : Int) (s k : Nat), k < L.length → L.getD k 0 = x → (∀ j, j < k → L.getD j 0 ≠ x) → fxL L x s = ((s + k : Nat) : Int)
  | [], x, s, k, hk, _, _ => absurd hk (Nat.not_lt_zero _)
  | y :: L, x, s, 0, _, hx, _ => by
    have : y = x := by simpa using hx
    simp [fxL, this]
  | y :: L, x, s, k + 1, hk, hx, hn => by
    have h0 : y ≠ x := by simpa using hn 0 (by omega)
    have ih := fx_yes L x (s + 1) k (by simpa using hk) (by simpa using hx) (fun j hj => by simpa using hn (j + 1) (by omega))
    rw [fxL, if_neg h0, ih]
    congr 1; omega
theorem fx_no : ∀ (L : List Int) (x : Int) (s : Nat), (∀ j, j < L.length → L.getD j 0 ≠ x) → fxL L x s = -1
  | [], x, s, _ => rfl
  | y :: L, x, s, hn => by
    have h0 : y ≠ x := by simpa using hn 0 (by simp)
    rw [fxL, if_neg h0]
    exact fx_no L x (s + 1) (fun j hj => by simpa using hn (j + 1) (by simpa using hj))

set_option maxHeartbeats 400000 in
theorem index_fx (a : Option Addr) (l : List Int) (cap : Nat) (x : Int) (w : World) (hrow : IntRow w a l) (hl : l.length ≤ maxLen) :
    Calls Try.prog 70 #[.slice a l.length cap, .int .i64 x] w fun e w' => e = .returned (.int .i64 (fxL l x 0)) ∧ w = w' := by
  have HR := Lib.hid hrow
  clear hrow
  unfold maxLen at hl
  go_enter Try.func70, Try.ntmps70
  go_wp2
  go_loop [8] (fun i => ∃ k : Nat, k ≤ l.length ∧ i = .int .i64 k ∧ ∀ j, j < k → l.getD j 0 ≠ x) (fun i => l.length - (intOf i).toNat)
  case atStart => exact ⟨0, Nat.zero_le _, rfl, fun j h => absurd h (by omega)⟩
  case round =>
    obtain ⟨k, hk, rfl, hno⟩ := hrel
    have HN := Lib.hid hno
    clear hno
    by_cases hlt : k < l.length
    · obtain ⟨b, off, rfl, hb, hc⟩ := HR.out.at hlt
      obtain ⟨y, hy⟩ : ∃ y, y = l.getD k 0 := ⟨_, rfl⟩
      rw [← hy] at hc
      have HY := Lib.hid hy
      have hkb : (k : Int) < (l.length : Int) := by omega
      clear hy
      by_cases hxy : x = y
      · have hq : (x == y) = true := by simp [hxy]
        have HE : Hid (fxL l x 0 = (k : Int)) := by
          show _ = _
          rw [fx_yes l x 0 k hlt (by rw [← HY.out, hxy]) HN.out, Nat.zero_add]
        clear hxy
        go_wp2
        go_ret
        exact ⟨by rw [HE.out]; rfl, rfl⟩
      · have hq : (x == y) = false := by simp [hxy]
        have HE : Hid (x ≠ y) := hxy
        clear hxy
        go_wp2
        go_round
        case rel =>
          refine ⟨k + 1, by omega, by go_num, fun j hj => ?_⟩
          rcases Nat.lt_or_ge j k with h | h
          · exact HN.out j h
          · obtain rfl : j = k := by omega
            rw [← HY.out]; exact fun e => HE.out e.symm
        case measure => simp [intOf]; omega
    · obtain rfl : k = l.length := by omega
      have HE : Hid (fxL l x 0 = -1) := fx_no l x 0 HN.out
      go_wp2
      go_ret
      exact ⟨by rw [HE.out]; rfl, rfl⟩

/-- What both 'SovereignOf' answer. -/
noncomputable def sovR (n : Int) (l : List Int) : Int := fxL ((resS n l).map Int.ofNat) (n - 1) 0
theorem scoresRow (n : Int) (a : Option Addr) (l : List Int) (cap : Nat) (w : World) (hrow : IntRow w a l) (hl : l.length ≤ maxLen) :
    Calls Try.prog 71 #[.agg #[.int .i64 n, .slice a l.length cap]] w fun e w' => (∃ a1 c1, e = .returned (.slice a1 ((resS n l).map Int.ofNat).length c1) ∧ IntRow w' a1 ((resS n l).map Int.ofNat)) ∧ Below w.heap.size w w' := by
  refine (implScoresOf n a l cap w hrow hl).mono ?_
  rintro e w' ⟨⟨v, rfl, ho⟩, hb⟩
  have ho2 := ho
  rw [nv_iv, show (resS n l).length = ((resS n l).map Int.ofNat).length by rw [List.length_map]] at ho2
  obtain ⟨a1, c1, rfl, hi, _⟩ := own_read ho2
  exact ⟨⟨a1, c1, rfl, hi⟩, hb⟩
theorem resS_len (n : Int) (l : List Int) (hl : l.length ≤ maxLen) : ((resS n l).map Int.ofNat).length ≤ maxLen := by
  rw [List.length_map]
  unfold resS
  split
  · rw [scoresL_len]; exact hl
  · exact Nat.zero_le _

set_option maxHeartbeats 1000000 in
theorem implSovereign (n : Int) (a : Option Addr) (l : List Int) (cap : Nat) (w : World) (hrow : IntRow w a l) (hl : l.length ≤ maxLen) :
    Calls Try.prog 28 #[.agg #[.int .i64 n, .slice a l.length cap]] w fun e w' => e = .returned (.int .i64 (sovR n l)) ∧ Below w.heap.size w w' := by
  obtain ⟨Wa, hWa⟩ : ∃ Wa, Wa = w.alloc (.cells #[.int .i64 n, .slice a l.length cap] 25) := ⟨_, rfl⟩
  have HWa := Lib.hid hWa
  have hba : Below w.heap.size w Wa := by rw [hWa]; exact (Below.refl _ _).alloc (Nat.le_refl _) _
  have xa : Box Wa w.heap.size 25 (.int .i64 n) (.slice a l.length cap) := by rw [hWa]; exact Box.new _ _ _ _
  have hrowa : IntRow Wa a l := hrow.below hba (Nat.le_refl _)
  have HL := Lib.hid hl
  clear hl hrow hWa
  obtain ⟨L, hLL⟩ : ∃ L, L = (resS n l).map Int.ofNat := ⟨_, rfl⟩
  have hLm : L.length ≤ maxLen := by rw [hLL]; exact resS_len n l HL.out
  have HLM := Lib.hid hLm
  have HSC : Hid (∀ W, IntRow W a l → Calls Try.prog 71 #[.agg #[.int .i64 n, .slice a l.length cap]] W fun e w' => (∃ a1 c1, e = .returned (.slice a1 L.length c1) ∧ IntRow w' a1 L) ∧ Below W.heap.size W w') := by
    intro W hW; rw [hLL]; exact scoresRow n a l cap W hW HL.out
  have HE : Hid (∀ x, (okB n l = true → x = n - 1) → sovR n l = fxL L x 0) := by
    intro x hx
    unfold sovR
    rw [← hLL]
    cases h : okB n l
    · have : L = [] := by rw [hLL]; unfold resS; rw [h]; rfl
      rw [this]; rfl
    · rw [hx h]
  have HWR : Hid (okB n l = true → IntKind.i64.wrap (n - 1) = n - 1) := by
    intro h
    have h1 := (okB_iff.1 h).1
    have h2 := (okB_iff.1 h).2.1
    rw [IntKind.wrap_i64]
    omega
  have c0 := xa.c0
  have c1 := xa.c1
  have XA := Lib.hid xa
  have HRA := Lib.hid hrowa
  clear hLL hLm xa hrowa
  go_enter Try.func28, Try.ntmps28
  go_wp2
  rw [← HWa.out]
  go_region_with (first
    | (go_at_call 71; refine (HSC.out Wa.drew HRA.out).mono ?_; rintro e w2 ⟨⟨a1, cp1, rfl, hr2⟩, hbq⟩; have hb2 : Below Wa.heap.size Wa w2 := (Below.refl _ Wa).drew.trans hbq; have d0 := (XA.out.below hb2 XA.out.lt).c0; clear hbq)
    | (go_at_call 70; refine (index_fx a1 L cp1 _ _ hr2 HLM.out).mono ?_; rintro e w3 ⟨rfl, rfl⟩))
  all_goals
    go_wp2
    go_ret
    exact ⟨by rw [HE.out (IntKind.i64.wrap (n - 1)) HWR.out]; rfl, hba.trans (hb2.mono hba.size)⟩

set_option maxHeartbeats 1000000 in
theorem specSovereign (n : Int) (a : Option Addr) (l : List Int) (cap : Nat) (w : World) (hrow : IntRow w a l) (hl : l.length ≤ maxLen) :
    Calls Try.prog 50 #[.agg #[.int .i64 n, .slice a l.length cap]] w fun e w' => e = .returned (.int .i64 (sovR n l)) ∧ Below w.heap.size w w' := by
  obtain ⟨Wa, hWa⟩ : ∃ Wa, Wa = w.alloc (.cells #[.int .i64 n, .slice a l.length cap] 25) := ⟨_, rfl⟩
  have HWa := Lib.hid hWa
  have hba : Below w.heap.size w Wa := by rw [hWa]; exact (Below.refl _ _).alloc (Nat.le_refl _) _
  have xa : Box Wa w.heap.size 25 (.int .i64 n) (.slice a l.length cap) := by rw [hWa]; exact Box.new _ _ _ _
  have hrowa : IntRow Wa a l := hrow.below hba (Nat.le_refl _)
  have HL := Lib.hid hl
  clear hl hrow hWa
  cases hok : okB n l
  · have HO := Lib.hid hok
    have HE : Hid (sovR n l = -1) := by show _ = _; unfold sovR resS; rw [hok]; rfl
    clear hok
    go_enter Try.func50, Try.ntmps50
    go_wp2_with fail
    rw [← HWa.out]
    refine (specTourOk n a l cap Wa hrowa HL.out).mono ?_
    rintro e w1 ⟨rfl, hb1⟩
    rw [HO.out]
    go_wp2
    go_ret
    exact ⟨by rw [HE.out]; rfl, hba.trans (hb1.mono hba.size)⟩
  have HO := Lib.hid hok
  have hk := okB_iff.1 hok
  have HK := Lib.hid hk
  obtain rfl : n = (l.length : Int) := hk.2.2.1.symm
  have hl8 : l.length ≤ 8 := by have := hk.2.1; omega
  have hl1 : 1 ≤ l.length := by have := hk.1; omega
  obtain ⟨S, hS⟩ : ∃ S, S = scoresL l := ⟨_, rfl⟩
  have hSl : S.length = l.length := by rw [hS]; exact scoresL_len l
  have HSL := Lib.hid hSl
  have HE : Hid (sovR l.length l = fxL (S.map Int.ofNat) ((l.length : Int) - 1) 0) := by show _ = _; unfold sovR resS; rw [hok, hS]; rfl
  have HSC : Hid (∀ W, IntRow W a l → Calls Try.prog 102 #[.agg #[.int .i64 (l.length : Int), .slice a l.length cap]] W fun e w' => (∃ a1 c1, e = .returned (.slice a1 l.length c1) ∧ IntRow w' a1 (S.map Int.ofNat)) ∧ Below W.heap.size W w') := by
    intro W hW
    refine (l02Scores_any _ a l cap W hW HL.out hk).mono ?_
    rintro e w' ⟨⟨v, rfl, ho⟩, hb⟩
    rw [nv_iv, show (scoresL l).length = ((scoresL l).map Int.ofNat).length by rw [List.length_map]] at ho
    obtain ⟨a1, c1, rfl, hi, _⟩ := own_read ho
    refine ⟨⟨a1, c1, by rw [List.length_map, scoresL_len], by rw [hS]; exact hi⟩, hb⟩
  clear hok hk hS hSl
  go_enter Try.func50, Try.ntmps50
  go_wp2_with fail
  rw [← HWa.out]
  refine (specTourOk _ a l cap Wa hrowa HL.out).mono ?_
  rintro e w1 ⟨rfl, hb1⟩
  rw [HO.out]
  have xa1 := xa.below hb1 xa.lt
  have c0 := xa1.c0
  have c1 := xa1.c1
  have b1 := hba.trans (hb1.mono hba.size)
  go_wp2_with fail
  refine (HSC.out w1 (hrowa.below hb1 (Nat.le_refl _))).mono ?_
  rintro e w2 ⟨⟨a1, cp1, rfl, hr2⟩, hb2⟩
  have xa2 := xa1.below hb2 xa1.lt
  have HR2 := Lib.hid hr2
  have B2 := Lib.hid (b1.trans (hb2.mono b1.size))
  clear c0 c1
  have c0 := xa2.c0
  clear hr2 hb1 hb2 hba b1 xa xa1 hrowa
  go_wp2
  go_loopw [11] (fun i wr => ∃ k : Nat, k ≤ l.length ∧ i = .int .i64 (k : Int) ∧ Hid (∀ j, j < k → (S.map Int.ofNat).getD j 0 ≠ (l.length : Int) - 1) ∧ Hid (wr = w2)) (fun i _ => l.length - (intOf i).toNat)
  case atStart => exact ⟨0, Nat.zero_le _, rfl, fun j h => absurd h (Nat.not_lt_zero _), rfl⟩
  case round =>
    obtain ⟨k, hk, rfl, hno, hwr⟩ := hrel
    obtain rfl : wr = w2 := hwr.out
    by_cases hlt : k < l.length
    · have hks : k < (S.map Int.ofNat).length := by rw [List.length_map, HSL.out]; exact hlt
      obtain ⟨b, off, rfl, hb, hc⟩ := HR2.out.at hks
      obtain ⟨y, hy⟩ : ∃ y, y = (S.map Int.ofNat).getD k 0 := ⟨_, rfl⟩
      rw [← hy] at hc
      have HY := Lib.hid hy
      have HKS := Lib.hid hks
      have hkb : (k : Int) < (l.length : Int) := by omega
      clear hy hks
      by_cases hxy : y = (l.length : Int) - 1
      · have hq : (y == (l.length : Int) - 1) = true := by simp [hxy]
        have HF : Hid (fxL (S.map Int.ofNat) ((l.length : Int) - 1) 0 = (k : Int)) := by
          show _ = _
          rw [fx_yes _ _ 0 k HKS.out (by rw [← HY.out, hxy]) hno.out, Nat.zero_add]
        clear hxy
        go_wp2
        go_ret
        exact ⟨by rw [HE.out, HF.out]; rfl, B2.out⟩
      · have hq : (y == (l.length : Int) - 1) = false := by simp [hxy]
        have HF : Hid (∀ j, j < k + 1 → (S.map Int.ofNat).getD j 0 ≠ (l.length : Int) - 1) := fun j hj => by
          rcases Nat.lt_or_ge j k with h | h
          · exact hno.out j h
          · obtain rfl : j = k := by omega
            rw [← HY.out]; exact hxy
        clear hxy
        go_wp2
        go_roundw
        case rel => exact ⟨k + 1, by omega, by go_num, HF, by first | rfl | trivial⟩
        case measure => simp [intOf]; omega
    · obtain rfl : k = l.length := by omega
      have HF : Hid (fxL (S.map Int.ofNat) ((l.length : Int) - 1) 0 = -1) := fx_no _ _ 0 (fun j hj => hno.out j (by rw [List.length_map, HSL.out] at hj; exact hj))
      go_wp2
      go_ret
      exact ⟨by rw [HE.out, HF.out]; rfl, B2.out⟩
end Go.Proofs.Ytgjogbihadiojaa
