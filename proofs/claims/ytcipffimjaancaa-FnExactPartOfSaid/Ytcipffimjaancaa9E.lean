/-
  'PartOf' of the program and of the model. No conditions but the bounds that Go gives a slice.
-/
import Derived.Test.Ytcipffimjaancaa9C
namespace Go.Proofs.Ytcipffimjaancaa
open Go.ChangeShapes Go.WideShapes Go.ChangeAt Go.RowKit
set_option linter.unusedVariables false

/-- The place of the first set that has the player. -/
def ixAt : List Nat → Nat → Nat → Int
  | [], _, _ => -1
  | x :: xs, a, i => if x.testBit a then (i : Int) else ixAt xs a (i + 1)
/-- What both 'PartOf' answer. -/
noncomputable def poR (n : Int) (l : List Int) (p : Int) : Int := if okB n l && pl n p then ixAt (Rc.dfs (dsL l)) p.toNat 0 else -1
theorem part_list {n : Int} {l : List Int} (h : Ok n l) : (Rc.dfs (dsL l)).length ≤ 8 ∧ ∀ x ∈ Rc.dfs (dsL l), x < 256 := by
  refine ⟨by rw [Rc.dfs_len]; exact ds_len h, fun x hx => ?_⟩
  obtain ⟨i, hi, rfl⟩ := List.mem_map.1 hx
  have h1 : (dsL l).getD i 0 < 2 ^ 8 := ds_lt h i
  exact Nat.xor_lt_two_pow h1 (Nat.lt_of_le_of_lt Nat.and_le_left h1)
theorem row_at {W : World} {a : Option Addr} {P : List Nat} (h : IntRow W a (P.map Int.ofNat)) {k : Nat} (hk : k < P.length) :
    ∃ x, x = P.getD k 0 ∧ (∃ b off, a = some ⟨b, off, none⟩ ∧ W.cell? ⟨b, off + k, none⟩ = some (.int .i64 (x : Int))) ∧ P.drop k = x :: P.drop (k + 1) := by
  obtain ⟨b, off, rfl, _, hc⟩ := h.at (k := k) (by rw [List.length_map]; exact hk)
  refine ⟨P.getD k 0, rfl, ⟨b, off, rfl, ?_⟩, ?_⟩
  · rw [hc]
    congr 2
    rw [List.getD_eq_getElem?_getD, List.getD_eq_getElem?_getD, List.getElem?_map, List.getElem?_eq_getElem hk]
    rfl
  · rw [List.drop_eq_getElem_cons hk, List.getD_eq_getElem?_getD, List.getElem?_eq_getElem hk]; rfl

set_option maxRecDepth 100000 in
set_option maxHeartbeats 1000000 in
theorem indexF_any (a0 : Option Addr) (c0 : Nat) (P : List Nat) (i pb : Nat) (w : World) (hl : P.length ≤ 8) (hi : i < 64) (hrow : IntRow w a0 (P.map Int.ofNat)) (hbx : Boxed w pb 3 (.int .i64 (i : Int))) :
    Calls Try.prog 82 #[.slice a0 P.length c0, .func (.func 83) #[] #[.pointer (some ⟨pb, 0, none⟩)]] w fun e w' => e = .returned (.int .i64 (ixAt P i 0)) ∧ w = w' := by
  have hcl : Hid (∀ x : Nat, Calls Try.prog 83 #[.int .i64 (x : Int), .pointer (some ⟨pb, 0, none⟩)] w fun e w' => e = .returned (.bool (x.testBit i)) ∧ w = w') := by
    intro x
    have c0 := hbx.cell
    rw [← bi_nat]
    clear hbx hrow
    go_enter Try.func83, Try.ntmps83
    go_wp2_with fail
    refine (hasElement_any x i _ hi).mono ?_
    rintro e w' ⟨rfl, rfl⟩
    go_wp2
    go_ret
    exact ⟨rfl, rfl⟩
  have HIR := Lib.hid hrow
  clear hrow hbx
  go_enter Try.func82, Try.ntmps82
  go_wp2
  go_loopw [8] (fun i' wr => ∃ k : Nat, k ≤ P.length ∧ i' = .int .i64 (k : Int) ∧ Hid (ixAt P i 0 = ixAt (P.drop k) i k) ∧ wr = w) (fun i' _ => P.length - (intOf i').toNat)
  case atStart => exact ⟨0, Nat.zero_le _, rfl, by rw [List.drop_zero]; exact rfl, rfl⟩
  case round =>
    obtain ⟨k, hk, rfl, hix, rfl⟩ := hrel
    by_cases hlt : k < P.length
    · obtain ⟨x, hx, hc, hxs⟩ := row_at HIR.out hlt
      obtain ⟨b, off, rfl, hc⟩ := hc
      have hkl : (k : Int) < (P.length : Int) := by omega
      have HX : Hid (ixAt P i 0 = if x.testBit i then (k : Int) else ixAt (P.drop (k + 1)) i (k + 1)) := by
        show _ = _
        rw [hix.out, hxs]; rfl
      have HCL := Lib.hid (hcl.out x)
      clear hix hxs hx
      go_wp2_with fail
      refine HCL.out.mono ?_
      rintro e w' ⟨rfl, rfl⟩
      cases hbit : x.testBit i
      · have HN : Hid (ixAt P i 0 = ixAt (P.drop (k + 1)) i (k + 1)) := by show _ = _; rw [HX.out, hbit]; rfl
        clear hbit
        go_wp2
        go_roundw
        case rel => exact ⟨k + 1, by omega, by go_num, HN.out, trivial⟩
        case measure => simp [intOf]; omega
      · have HN : Hid (ixAt P i 0 = (k : Int)) := by show _ = _; rw [HX.out, hbit]; rfl
        clear hbit
        go_wp2
        go_ret
        exact ⟨by rw [HN.out]; rfl, rfl⟩
    · obtain rfl : k = P.length := by omega
      have HN : Hid (ixAt P i 0 = -1) := by show _ = _; rw [hix.out, List.drop_length]; rfl
      clear hix
      go_wp2
      go_ret
      exact ⟨by rw [HN.out]; rfl, rfl⟩

set_option maxRecDepth 100000 in
set_option maxHeartbeats 2000000 in
theorem specPartOf (n : Int) (a : Option Addr) (l : List Int) (cap : Nat) (p : Int) (w : World) (hrow : IntRow w a l) (hl : l.length ≤ maxLen) :
    Calls Try.prog 38 #[.agg #[.int .i64 n, .slice a l.length cap], .int .i64 p] w fun e w' => e = .returned (.int .i64 (poR n l p)) ∧ Below w.heap.size w w' := by
  obtain ⟨Wa, hWa⟩ : ∃ Wa, Wa = w.alloc (.cells #[.int .i64 n, .slice a l.length cap] 25) := ⟨_, rfl⟩
  have HWa := Lib.hid hWa
  have hba : Below w.heap.size w Wa := by rw [hWa]; exact (Below.refl _ _).alloc (Nat.le_refl _) _
  have xa : Box Wa w.heap.size 25 (.int .i64 n) (.slice a l.length cap) := by rw [hWa]; exact Box.new _ _ _ _
  have hrowa : IntRow Wa a l := hrow.below hba (Nat.le_refl _)
  have HL := Lib.hid hl
  clear hl hrow hWa
  cases hok : (okB n l && pl n p)
  · have HO := Lib.hid hok
    have HE : Hid (poR n l p = -1) := by show _ = _; unfold poR; rw [hok]; rfl
    clear hok
    go_enter Try.func38, Try.ntmps38
    go_wp2_with fail
    rw [← HWa.out]
    refine (specPlayer n a l cap p Wa hrowa HL.out).mono ?_
    rintro e w1 ⟨rfl, hb1⟩
    rw [HO.out]
    go_wp2
    go_ret
    exact ⟨by rw [HE.out]; rfl, hba.trans (hb1.mono hba.size)⟩
  · have HO := Lib.hid hok
    have hk := okB_iff.1 (Bool.and_eq_true_iff.1 hok).1
    have hp := pl_iff.1 (Bool.and_eq_true_iff.1 hok).2
    have hnl := hk.2.2.1
    have hn8 := hk.2.1
    obtain ⟨i, rfl⟩ : ∃ i : Nat, p = i := ⟨p.toNat, by omega⟩
    have hil : i < l.length := by omega
    have hlp := part_list hk
    obtain ⟨P, hP⟩ : ∃ P, P = Rc.dfs (dsL l) := ⟨_, rfl⟩
    rw [← hP] at hlp
    have HE : Hid (poR n l i = ixAt P i 0) := by show _ = _; unfold poR; rw [hok, hP]; rfl
    have hi64 : i < 64 := by omega
    have hsp : spR n l = P.map Int.ofNat := by unfold spR; rw [(Bool.and_eq_true_iff.1 hok).1, hP]; rfl
    have hcall := fun (W : World) (hR : IntRow W a l) => specParts n a l cap W hR HL.out
    rw [hsp, List.length_map] at hcall
    have HC := Lib.hid hcall
    have HP8 := Lib.hid hlp.2
    have hpl : P.length ≤ 8 := hlp.1
    clear hok hk hp hlp hP hsp hcall
    go_enter Try.func38, Try.ntmps38
    go_wp2_with fail
    rw [← HWa.out]
    refine (specPlayer n a l cap i Wa hrowa HL.out).mono ?_
    rintro e w1 ⟨rfl, hb1⟩
    rw [HO.out]
    have c0 := (xa.below hb1 xa.lt).c0
    have c1 := (xa.below hb1 xa.lt).c1
    have hr1 := Lib.hid (hrowa.below hb1 (Nat.le_refl _))
    clear hrowa
    go_wp2_with fail
    refine (HC.out w1 hr1.out).mono ?_
    rintro e w2 ⟨⟨a0, cp0, rfl, ho⟩, hb2⟩
    have b1 := hba.trans (hb1.mono hba.size)
    have HB2 := Lib.hid (b1.trans (hb2.mono b1.size))
    have hir : IntRow w2 a0 (P.map Int.ofNat) := own_int (by rw [List.length_map]; exact ho)
    have HIR := Lib.hid hir
    clear ho hb2 hir b1 c0 c1
    go_wp2
    go_loopw [14] (fun i' wr => ∃ k : Nat, k ≤ P.length ∧ i' = .int .i64 (k : Int) ∧ Hid (ixAt P i 0 = ixAt (P.drop k) i k) ∧ wr = w2) (fun i' _ => P.length - (intOf i').toNat)
    case atStart => exact ⟨0, Nat.zero_le _, rfl, by rw [List.drop_zero]; exact rfl, rfl⟩
    case round =>
      obtain ⟨k, hk, rfl, hix, rfl⟩ := hrel
      by_cases hlt : k < P.length
      · obtain ⟨x, hx, hc, hxs⟩ := row_at HIR.out hlt
        obtain ⟨b, off, rfl, hc⟩ := hc
        have hbi : (bits .and .i64 ((x : Int) / 2 ^ i) 1 == 1) = x.testBit i := bi_nat x i
        have hkl : (k : Int) < (P.length : Int) := by omega
        have HX : Hid (ixAt P i 0 = if x.testBit i then (k : Int) else ixAt (P.drop (k + 1)) i (k + 1)) := by
          show _ = _
          rw [hix.out, hxs]; rfl
        clear hix hxs hx
        cases hbit : x.testBit i
        · rw [hbit] at hbi
          have HN : Hid (ixAt P i 0 = ixAt (P.drop (k + 1)) i (k + 1)) := by show _ = _; rw [HX.out, hbit]; rfl
          clear hbit
          go_wp2
          go_roundw
          case rel => exact ⟨k + 1, by omega, by go_num, HN.out, trivial⟩
          case measure => simp [intOf]; omega
        · rw [hbit] at hbi
          have HN : Hid (ixAt P i 0 = (k : Int)) := by show _ = _; rw [HX.out, hbit]; rfl
          clear hbit
          go_wp2
          go_ret
          exact ⟨by rw [HE.out, HN.out]; rfl, HB2.out⟩
      · obtain rfl : k = P.length := by omega
        have HN : Hid (ixAt P i 0 = -1) := by show _ = _; rw [hix.out, List.drop_length]; rfl
        clear hix
        go_wp2
        go_ret
        exact ⟨by rw [HE.out, HN.out]; rfl, HB2.out⟩

end Go.Proofs.Ytcipffimjaancaa
