/-
  'l05Reach' of the model; 'ReachOf' of both. No conditions but the bounds that Go gives a slice (l05Reach: the tour is valid).
-/
import Derived.Test.Ytcipffimjaancaa8D
import Derived.Test.YtcipffimjaancaaE
namespace Go.Proofs.Ytcipffimjaancaa
open Go.ChangeShapes Go.WideShapes Go.ChangeAt Go.RowKit
set_option linter.unusedVariables false

/-- Where the model's search stands. -/
def RcAt (l : List Int) (b s : Nat) : Prop := s < 2 ^ l.length ∧ s.testBit b = true ∧ ∀ x, s.testBit x = true → Rc.R (ww l) b x

set_option maxRecDepth 100000 in
set_option maxHeartbeats 2000000 in
theorem l05Reach_any (n : Int) (a : Option Addr) (l : List Int) (cap b : Nat) (w : World) (hrow : IntRow w a l) (hok : Ok n l) (hb : b < l.length) :
    Calls Try.prog 76 #[.agg #[.int .i64 n, .slice a l.length cap], .int .i64 (b : Int)] w fun e w' => e = .returned (.int .i64 (Rc.rs l.length (ww l) b : Int)) ∧ Below w.heap.size w w' := by
  obtain ⟨Wa, hWa⟩ : ∃ Wa, Wa = w.alloc (.cells #[.int .i64 n, .slice a l.length cap] 25) := ⟨_, rfl⟩
  have HWa := Lib.hid hWa
  have hba : Below w.heap.size w Wa := by rw [hWa]; exact (Below.refl _ _).alloc (Nat.le_refl _) _
  have xa : Box Wa w.heap.size 25 (.int .i64 n) (.slice a l.length cap) := by rw [hWa]; exact Box.new _ _ _ _
  have hrowa : IntRow Wa a l := hrow.below hba (Nat.le_refl _)
  have hl8 : l.length ≤ 8 := by have := hok.2.1; have := hok.2.2.1; omega
  have hp := pow_le _ hl8
  have hb64 : b < 64 := by omega
  have hb8 : b ≤ 8 := by omega
  have hw2 := wrapPow b hb8
  have hbp := pow_le b hb8
  have h0 : Hid (RcAt l b (2 ^ b)) := by
    refine ⟨Nat.pow_lt_pow_right (by decide) hb, Nat.testBit_two_pow_self, fun x hx => ?_⟩
    rw [Nat.testBit_two_pow, decide_eq_true_iff] at hx
    rw [← hx]; exact .refl _
  obtain ⟨P2, hP2⟩ : ∃ P2 : Nat, P2 = 2 ^ b := ⟨_, rfl⟩
  obtain ⟨PN, hPN⟩ : ∃ PN : Nat, PN = 2 ^ l.length := ⟨_, rfl⟩
  rw [← hP2] at hw2 h0 hbp
  have hz : wrap64 (2 ^ b) = (P2 : Int) := hw2
  have HOK := Lib.hid hok
  have HPN := Lib.hid hPN
  have HR := Lib.hid hrowa
  rw [← hPN] at hp
  clear hok hw2 hP2 hPN hrow hrowa hWa
  have c1 := xa.c1
  rw [HWa.out] at c1
  go_enter Try.func76, Try.ntmps76
  go_wp2
  rw [← HWa.out]
  rw [HWa.out.symm] at c1
  go_loopw [5] (fun s wr => ∃ st : Nat, s = .int .i64 (st : Int) ∧ Hid (RcAt l b st) ∧ wr = Wa) (fun s _ => PN - (intOf s).toNat)
  case atStart => exact ⟨P2, by rw [hz], h0.out, rfl⟩
  case round =>
    obtain ⟨st, rfl, hst, rfl⟩ := hrel
    have hst8 : st < 256 := by have := hst.out.1; rw [← HPN.out] at this; omega
    have HL0 : Hid (Rc.nx (ww l) st 0 = st) := rfl
    clear h0
    go_wp2
    go_loopw [6, 14] (fun x i w2 => ∃ k y : Nat, k ≤ l.length ∧ i = .int .i64 (k : Int) ∧ x = .int .i64 (y : Int) ∧ Hid (y = Rc.nx (ww l) st k) ∧ w2 = wr) (fun _ i _ => l.length - (intOf i).toNat)
    case atStart => exact ⟨0, st, Nat.zero_le _, rfl, rfl, rfl, rfl⟩
    case round =>
      obtain ⟨k, y, hk, rfl, rfl, hy, rfl⟩ := hrel
      have hyl : y < 256 := by
        have h1 := Rc.nx_lt (s := st) HOK.out.wlt hst.out.1 k hk
        rw [← hy.out, ← HPN.out] at h1; omega
      by_cases hlt : k < l.length
      · have hki : (k : Int) < (l.length : Int) := by omega
        have hk64 : k < 64 := by omega
        have hbi : (bits .and .i64 ((st : Int) / 2 ^ k) 1 == 1) = st.testBit k := bi_nat st k
        cases hbit : st.testBit k
        · rw [hbit] at hbi
          have HY : Hid (y = Rc.nx (ww l) st (k + 1)) := by
            show _ = _
            unfold Rc.nx
            rw [hbit]; exact hy.out
          clear hy hbit
          go_wp2
          go_roundw
          case rel => exact ⟨k + 1, y, by omega, by go_num, rfl, HY.out, trivial⟩
          case measure => simp [intOf]; omega
        · rw [hbit] at hbi
          obtain ⟨hz1, hz2, hz3⟩ := HOK.out.ww hlt
          obtain ⟨ab, off, hae, hbb, hcx⟩ := HR.out.at hlt
          rw [hz1] at hcx
          rw [hae] at c1
          obtain ⟨z, hzz⟩ : ∃ z, z = ww l k := ⟨_, rfl⟩
          rw [← hzz] at hcx hz3
          obtain ⟨y2, hy2⟩ : ∃ y2, y2 = y ||| z := ⟨_, rfl⟩
          have hor : bits .or .i64 (y : Int) (z : Int) = (y2 : Int) := by rw [hy2]; exact i64_or _ _ (by omega) (by omega)
          have HY : Hid (y2 = Rc.nx (ww l) st (k + 1)) := by
            show _ = _
            unfold Rc.nx
            rw [hbit, hy2, hzz, hy.out]; rfl
          clear hy hbit hzz hy2 hz1 hz2 hbb hae
          go_wp2
          go_roundw
          case rel => exact ⟨k + 1, y2, by omega, by go_num, rfl, HY.out, trivial⟩
          case measure => simp [intOf]; omega
      · obtain rfl : k = l.length := by omega
        by_cases hys : y = st
        · have hq : ((y : Int) == (st : Int)) = true := by rw [beq_iff_eq]; omega
          have hq2 : ((y : Int) != (st : Int)) = false := by simp [hys]
          have HF : Hid (st = Rc.rs l.length (ww l) b) := Rc.nx_fix HOK.out.wlt hb hst.out.1 hst.out.2.1 hst.out.2.2 (by rw [← hy.out, hys])
          clear hy hys
          go_wp2
          go_ret
          exact ⟨by rw [← HF.out]; rfl, hba⟩
        · have hq : ((y : Int) == (st : Int)) = false := by rw [beq_eq_false_iff_ne]; omega
          have hq2 : ((y : Int) != (st : Int)) = true := by simp; omega
          have hlt2 : st < y := by
            have h1 := Rc.nx_le (ww l) st l.length
            rw [← hy.out] at h1; omega
          have HR2 : Hid (RcAt l b y) := by
            refine ⟨by rw [hy.out]; exact Rc.nx_lt HOK.out.wlt hst.out.1 _ (Nat.le_refl _), ?_, ?_⟩
            · rw [hy.out]; exact (Rc.nx_bit _ _ _ _).2 (.inl hst.out.2.1)
            · rw [hy.out]; exact Rc.nx_keep hst.out.2.2 _
          have hyP : y < PN := by rw [HPN.out]; exact HR2.out.1
          clear hy hys
          go_wp2
          go_roundw
          case rel => exact ⟨y, rfl, HR2.out, trivial⟩
          case measure => simp [intOf]; omega
end Go.Proofs.Ytcipffimjaancaa
