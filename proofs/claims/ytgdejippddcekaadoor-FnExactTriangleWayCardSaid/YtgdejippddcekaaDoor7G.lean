/-
  'l04Number' and 'l04Same' of the model. Conditions: the tour is valid, of at most 5 players.
-/
import Derived.Test.YtgdejippddcekaaDoor4Dx
import Derived.Test.YtgdejippddcekaaDoor6I
namespace Go.Proofs.YtgdejippddcekaaDoor
open Go.ChangeShapes Go.WideShapes Go.ChangeAt Go.RowKit
set_option linter.unusedVariables false

theorem wrapP (k : Nat) (h : k ≤ 25) : wrap64 (2 ^ k) = ((2 ^ k : Nat) : Int) ∧ IntKind.i64.wrap (2 ^ k) = ((2 ^ k : Nat) : Int) := by
  have : ∀ k : Fin 26, wrap64 (2 ^ k.val) = ((2 ^ k.val : Nat) : Int) ∧ IntKind.i64.wrap (2 ^ k.val) = ((2 ^ k.val : Nat) : Int) := by decide +kernel
  exact this ⟨k, by omega⟩
theorem powP (k : Nat) (h : k ≤ 25) : 2 ^ k ≤ 33554432 := by
  have : 2 ^ k ≤ 2 ^ 25 := Nat.pow_le_pow_right (by decide) h
  omega
theorem pre2_le (l : List Int) (i j : Nat) (h5 : l.length ≤ 5) (hi : i < l.length) (hij : i + 1 ≤ j) (hj : j ≤ l.length) : (pre2 l i j).length ≤ 25 ∧ val (pre2 l i j) ≤ 33554432 := by
  have h1 : (pre2 l i j).length ≤ 25 := by
    unfold pre2
    rw [List.length_append, rowBits_len]
    have h2 := rowsTo_len l i
    have h3 : i * l.length ≤ 4 * 5 := Nat.mul_le_mul (by omega) h5
    omega
  have h2 := val_lt (pre2 l i j)
  have h3 := powP _ h1
  exact ⟨h1, by omega⟩
theorem numL_le (l : List Int) (h5 : l.length ≤ 5) : numL l ≤ 33554432 := by
  unfold numL
  have h2 := val_lt (rowsTo l l.length)
  have h1 := rowsTo_len l l.length
  have h3 : l.length * l.length ≤ 5 * 5 := Nat.mul_le_mul h5 h5
  have h4 := powP (rowsTo l l.length).length (by omega)
  omega

set_option maxRecDepth 100000 in
set_option maxHeartbeats 2000000 in
theorem l04Number_any (a : Option Addr) (l : List Int) (cap : Nat) (w : World) (hrow : IntRow w a l) (hok : Ok (l.length : Int) l) (h5 : l.length ≤ 5) :
    Calls Tryd.prog 19 #[.agg #[.int .i64 (l.length : Int), .slice a l.length cap]] w fun e w' => e = .returned (.int .i64 (numL l : Nat)) ∧ Below w.heap.size w w' := by
  obtain ⟨Wa, hWa⟩ : ∃ Wa, Wa = w.alloc (.cells #[.int .i64 (l.length : Int), .slice a l.length cap] 27) := ⟨_, rfl⟩
  have hba : Below w.heap.size w Wa := by rw [hWa]; exact (Below.refl _ _).alloc (Nat.le_refl _) _
  have xa : Box Wa w.heap.size 27 (.int .i64 (l.length : Int)) (.slice a l.length cap) := by rw [hWa]; exact Box.new _ _ _ _
  have hlow := xa.lt
  have HWa := Lib.hid hWa
  have HR := Lib.hid (hrow.below hba (Nat.le_refl _))
  have XA := Lib.hid xa
  have HBA := Lib.hid hba
  clear hWa hrow hok xa hba
  go_enter Tryd.func19, Tryd.ntmps19
  go_wp2
  rw [← HWa.out]
  go_loopw [3, 4, 5] (fun q k i wr => ∃ r : Nat, r ≤ l.length ∧ i = .int .i64 r ∧ q = .int .i64 (val (pre2 l r (r + 1)) : Nat) ∧ k = .int .i64 ((pre2 l r (r + 1)).length : Nat) ∧ Below Wa.heap.size Wa wr) (fun _ _ i _ => l.length - (intOf i).toNat)
  case atStart => exact ⟨0, Nat.zero_le _, rfl, by rw [pre2_start]; rfl, by rw [pre2_start]; rfl, Below.refl _ _⟩
  case round =>
    obtain ⟨r, hr, rfl, rfl, rfl, hb⟩ := hrel
    have xr := XA.out.below hb hlow
    have c0 := xr.c0
    by_cases hlt : r < l.length
    · obtain ⟨hl1, hv1⟩ := pre2_le l r (r + 1) h5 hlt (Nat.le_refl _) (by omega)
      obtain ⟨K, hK⟩ : ∃ K, K = (pre2 l r (r + 1)).length := ⟨_, rfl⟩
      obtain ⟨V, hV⟩ : ∃ V, V = val (pre2 l r (r + 1)) := ⟨_, rfl⟩
      have HK := Lib.hid hK
      have HV := Lib.hid hV
      rw [← hK] at hl1
      rw [← hV] at hv1
      rw [← hK, ← hV]
      have HB := Lib.hid hb
      have hrb : (r : Int) < (l.length : Int) := by omega
      clear hK hV hb xr
      go_wp2
      go_loopw [3, 4, 6] (fun q k i wr2 => ∃ s : Nat, r + 1 ≤ s ∧ s ≤ l.length ∧ i = .int .i64 s ∧ q = .int .i64 (val (pre2 l r s) : Nat) ∧ k = .int .i64 ((pre2 l r s).length : Nat) ∧ Below Wa.heap.size Wa wr2) (fun _ _ i _ => l.length - (intOf i).toNat)
      case atStart => exact ⟨r + 1, Nat.le_refl _, by omega, by go_num, by rw [HV.out], by rw [HK.out], HB.out⟩
      case round =>
        clear c0
        obtain ⟨s, hs1, hs2, rfl, rfl, rfl, hb⟩ := hrel
        have xr := XA.out.below hb hlow
        have c0 := xr.c0
        have c1 := xr.c1
        by_cases hlt2 : s < l.length
        · obtain ⟨hl2, hv2⟩ := pre2_le l r s h5 hlt hs1 (by omega)
          have hsn := pre2_snoc l r s hs1
          have hvb := val_bit (pre2 l r s) (bt l r s)
          rw [← hsn] at hvb
          have hln : (pre2 l r (s + 1)).length = (pre2 l r s).length + 1 := by rw [hsn]; simp
          obtain ⟨K2, hK2⟩ : ∃ K2, K2 = (pre2 l r s).length := ⟨_, rfl⟩
          obtain ⟨V2, hV2⟩ : ∃ V2, V2 = val (pre2 l r s) := ⟨_, rfl⟩
          rw [← hK2] at hl2 hvb hln
          rw [← hV2] at hv2 hvb
          rw [← hK2, ← hV2]
          obtain ⟨z, hz⟩ : ∃ z, z = 2 ^ K2 := ⟨_, rfl⟩
          have hzw := (wrapP K2 hl2).1
          have hzw2 := (wrapP K2 hl2).2
          have hzp := powP K2 hl2
          rw [← hz] at hzw hzw2 hzp hvb
          have HVB := Lib.hid hvb
          have HLN := Lib.hid hln
          have HB2 := Lib.hid hb
          have hsb : (s : Int) < (l.length : Int) := by omega
          have hbe := l02Beats_any (l.length : Int) a l cap r s wr (HR.out.below hb (Nat.le_refl _)) (by unfold maxLen; omega) hlt (by omega)
          have HBE := Lib.hid hbe
          clear hK2 hV2 hz hvb hln hsn hb xr hbe
          cases hbt : bt l r s
          · have HT := Lib.hid hbt
            clear hbt
            go_wp2_with fail
            refine HBE.out.mono ?_
            rintro e w3 ⟨rfl, hb3⟩
            rw [HT.out]
            have HB3 := Lib.hid (HB2.out.trans (hb3.mono HB2.out.size))
            clear c0 c1 hb3
            go_wp2
            go_roundw
            case rel => exact ⟨s + 1, by omega, by omega, by go_num, by rw [HVB.out, HT.out]; rfl, by rw [HLN.out]; go_num, HB3.out⟩
            case measure => simp [intOf]; omega
          · have HT := Lib.hid hbt
            clear hbt
            go_wp2_with fail
            refine HBE.out.mono ?_
            rintro e w3 ⟨rfl, hb3⟩
            rw [HT.out]
            have HB3 := Lib.hid (HB2.out.trans (hb3.mono HB2.out.size))
            clear c0 c1 hb3
            go_wp2
            go_roundw
            case rel => exact ⟨s + 1, by omega, by omega, by go_num, by rw [HVB.out, HT.out]; simp, by rw [HLN.out]; go_num, HB3.out⟩
            case measure => simp [intOf]; omega
        · obtain rfl : s = l.length := by omega
          have hn := pre2_next l r
          have HN := Lib.hid hn
          have HB2 := Lib.hid hb
          clear hn hb xr c1
          go_wp2
          go_roundw
          case rel => exact ⟨r + 1, by omega, by go_num, by rw [HN.out], by rw [HN.out], HB2.out⟩
          case measure => simp [intOf]; omega
    · obtain rfl : r = l.length := by omega
      have hn : numL l = val (pre2 l l.length (l.length + 1)) := by unfold numL pre2; rw [rowBits_zero, List.append_nil]
      have HN := Lib.hid hn
      have HB := Lib.hid hb
      clear hn hb xr
      go_wp2
      go_ret
      exact ⟨by rw [HN.out]; rfl, HBA.out.trans (HB.out.mono HBA.out.size)⟩

set_option maxHeartbeats 1000000 in
theorem l04Same_any (a b : Option Addr) (x y : List Int) (ca cb : Nat) (w : World) (ha : IntRow w a x) (hb : IntRow w b y) (hx : x.length ≤ maxLen) (hy : y.length ≤ maxLen) :
    Calls Tryd.prog 34 #[.slice a x.length ca, .slice b y.length cb] w fun e w' => e = .returned (.bool (eqB x y)) ∧ w = w' := by
  have HA := Lib.hid ha
  have HB := Lib.hid hb
  clear ha hb
  unfold maxLen at hx hy
  by_cases hlen : x.length = y.length
  · have HE := Lib.hid hlen
    obtain ⟨m, hm⟩ : ∃ m, m = x.length := ⟨_, rfl⟩
    have hmy : m = y.length := hm.trans hlen
    have HM := Lib.hid hm
    have HMY := Lib.hid hmy
    have hm8 : m ≤ 9223372036854775807 := by omega
    rw [← hm, ← hmy]
    clear hlen hm hmy hx hy
    go_enter Tryd.func34, Tryd.ntmps34
    go_wp2
    go_loop [14] (fun i => ∃ k : Nat, k ≤ m ∧ i = .int .i64 k ∧ (∀ j, j < k → x.getD j 0 = y.getD j 0)) (fun i => m - (intOf i).toNat)
    case atStart => exact ⟨0, Nat.zero_le _, rfl, fun j h => absurd h (by omega)⟩
    case round =>
      obtain ⟨k, hk, rfl, hno⟩ := hrel
      have HN := Lib.hid hno
      clear hno
      by_cases hlt : k < m
      · obtain ⟨b1, o1, rfl, hb1, hd1⟩ := HA.out.at (k := k) (by rw [← HM.out]; exact hlt)
        obtain ⟨b2, o2, rfl, hb2, hd2⟩ := HB.out.at (k := k) (by rw [← HMY.out]; exact hlt)
        obtain ⟨u, hu⟩ : ∃ u, u = x.getD k 0 := ⟨_, rfl⟩
        obtain ⟨v, hv⟩ : ∃ v, v = y.getD k 0 := ⟨_, rfl⟩
        rw [← hu] at hd1
        rw [← hv] at hd2
        have HU := Lib.hid hu
        have HV := Lib.hid hv
        have hkb : (k : Int) < (m : Int) := by omega
        clear hu hv hb1 hb2
        by_cases huv : u = v
        · have hq : (!(u == v)) = false := by simp [huv]
          have hq2 : (u == v) = true := by simp [huv]
          have HQ := Lib.hid huv
          clear huv
          go_wp2
          go_round
          case rel =>
            refine ⟨k + 1, by omega, by go_num, fun j hj => ?_⟩
            rcases Nat.lt_or_ge j k with h | h
            · exact HN.out j h
            · obtain rfl : j = k := by omega
              rw [← HU.out, ← HV.out]; exact HQ.out
          case measure => simp [intOf]; omega
        · have hq : (!(u == v)) = true := by simp [huv]
          have hq2 : (u == v) = false := by simp [huv]
          have HF : Hid (eqB x y = false) := by
            show _ = _
            unfold eqB
            rw [decide_eq_false_iff_not]
            intro e
            exact huv (by rw [HU.out, HV.out, e])
          clear huv
          go_wp2
          go_ret
          exact ⟨by rw [HF.out]; rfl, rfl⟩
      · obtain rfl : k = m := by omega
        have HF : Hid (eqB x y = true) := by
          show _ = _
          unfold eqB
          rw [decide_eq_true_iff]
          exact eq_at HE.out (fun j hj => HN.out j (by rw [HM.out]; exact hj))
        go_wp2
        go_ret
        exact ⟨by rw [HF.out]; rfl, rfl⟩
  · have HF : Hid (eqB x y = false) := by
      show _ = _
      unfold eqB
      rw [decide_eq_false_iff_not]
      intro e
      exact hlen (by rw [e])
    have hq : decide (x.length = y.length) = false := by simpa using hlen
    have hq2 : ((x.length : Int) == (y.length : Int)) = false := by
      rw [beq_eq_false_iff_ne]; omega
    clear hlen
    go_enter Tryd.func34, Tryd.ntmps34
    go_wp2
    go_ret
    exact ⟨by rw [HF.out]; rfl, rfl⟩
end Go.Proofs.YtgdejippddcekaaDoor
