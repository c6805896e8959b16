/-
  The law's own 'before': whether a list stands before another one. No conditions but the bounds that Go gives a slice.
-/
import Derived.Test.YtgjogbihadiojaaVF
import Derived.Test.YtgjogbihadiojaaVP
namespace Go.Proofs.Ytgjogbihadiojaa
open Go.ChangeShapes Go.WideShapes Go.ChangeAt Go.RowKit
set_option linter.unusedVariables false

def befB : List Nat → List Nat → Bool
  | [], _ => false
  | _ :: _, [] => false
  | x :: A, y :: B => if x = y then befB A B else decide (x < y)
theorem befB_split : ∀ (p A B : List Nat), befB (p ++ A) (p ++ B) = befB A B
  | [], _, _ => rfl
  | x :: p, A, B => by
    show (if x = x then befB (p ++ A) (p ++ B) else _) = _
    rw [if_pos rfl, befB_split p A B]
theorem befB_self : ∀ A : List Nat, befB A A = false
  | [] => rfl
  | x :: A => by
    show (if x = x then befB A A else _) = _
    rw [if_pos rfl, befB_self A]
/-- What stands before is not behind. -/
theorem befB_not {u v : List Nat} (h : Ry.Bf u v) : befB v u = false := by
  obtain ⟨p, b, c, u', v', rfl, rfl, hbc⟩ := h
  rw [befB_split]
  show (if c = b then _ else decide (c < b)) = false
  rw [if_neg (by omega), decide_eq_false (by omega)]
theorem befB_drop {A B : List Nat} {j : Nat} (h : A.take j = B.take j) : befB A B = befB (A.drop j) (B.drop j) := by
  conv => lhs; rw [← List.take_append_drop j A, ← List.take_append_drop j B, h]
  exact befB_split _ _ _
theorem row_natF {W : World} {a : Option Addr} {A : List Nat} (h : IntRow W a (A.map Int.ofNat)) {k : Nat} (hk : k < A.length) : ∃ b off, a = some ⟨b, off, none⟩ ∧ W.cell? ⟨b, off + k, none⟩ = some (.int .i64 ((A.getD k 0 : Nat) : Int)) := by
  obtain ⟨b, off, h1, _, h2⟩ := h.at (k := k) (by rw [List.length_map]; exact hk)
  refine ⟨b, off, h1, ?_⟩
  rw [h2]
  congr 2
  rw [List.getD_eq_getElem?_getD, List.getD_eq_getElem?_getD, List.getElem?_map]
  cases A[k]? <;> rfl

set_option maxHeartbeats 1000000 in
theorem lawBefore_any (a b : Option Addr) (ca cb : Nat) (A B : List Nat) (w : World) (hA : A.length ≤ 100) (hB : B.length ≤ 100) (ha : IntRow w a (A.map Int.ofNat)) (hb : IntRow w b (B.map Int.ofNat)) :
    Calls Try.prog 24 #[.slice a A.length ca, .slice b B.length cb] w fun e w' => e = .returned (.bool (befB A B)) ∧ w' = w := by
  have HA := Lib.hid ha
  have HB := Lib.hid hb
  obtain ⟨M, hM⟩ : ∃ M, M = A.length := ⟨_, rfl⟩
  obtain ⟨K, hK⟩ : ∃ K, K = B.length := ⟨_, rfl⟩
  rw [← hM, ← hK]
  rw [← hM] at hA
  rw [← hK] at hB
  have HM := Lib.hid hM
  have HK := Lib.hid hK
  clear ha hb hM hK
  go_enter Try.func24, Try.ntmps24
  go_wp2
  go_loopw [9] (fun i wr => ∃ j : Nat, j ≤ M ∧ i = .int .i64 (j : Int) ∧ Hid (befB A B = befB (A.drop j) (B.drop j)) ∧ wr = w) (fun i _ => M - (intOf i).toNat)
  case atStart => exact ⟨0, Nat.zero_le _, rfl, rfl, rfl⟩
  case round =>
    obtain ⟨j, hj, rfl, hbe, rfl⟩ := hrel
    by_cases hlt : j < M
    · have hjb : (j : Int) < (M : Int) := by omega
      obtain ⟨b1, o1, rfl, hc1⟩ := row_natF HA.out (k := j) (by rw [← HM.out]; exact hlt)
      obtain ⟨x, hx⟩ : ∃ x, x = A.getD j 0 := ⟨_, rfl⟩
      rw [← hx] at hc1
      have hAd : Hid (A.drop j = x :: A.drop (j + 1)) := by
        show _ = _
        rw [hx, List.drop_eq_getElem_cons (by rw [← HM.out]; exact hlt), List.getD_eq_getElem?_getD, List.getElem?_eq_getElem (by rw [← HM.out]; exact hlt)]; rfl
      clear hx
      by_cases hk : j < K
      · have hkb : ¬ (K : Int) ≤ (j : Int) := by omega
        have hkb2 : (j : Int) < (K : Int) := by omega
        obtain ⟨b2, o2, rfl, hc2⟩ := row_natF HB.out (k := j) (by rw [← HK.out]; exact hk)
        obtain ⟨y, hy⟩ : ∃ y, y = B.getD j 0 := ⟨_, rfl⟩
        rw [← hy] at hc2
        have hBd : Hid (B.drop j = y :: B.drop (j + 1)) := by
          show _ = _
          rw [hy, List.drop_eq_getElem_cons (by rw [← HK.out]; exact hk), List.getD_eq_getElem?_getD, List.getElem?_eq_getElem (by rw [← HK.out]; exact hk)]; rfl
        clear hy
        by_cases hxy : x = y
        · have HBE : Hid (befB A B = befB (A.drop (j + 1)) (B.drop (j + 1))) := by
            show _ = _
            rw [hbe.out, hAd.out, hBd.out]
            show (if x = y then _ else _) = _
            rw [if_pos hxy]
          have hne : ((x : Int) != (y : Int)) = false := by rw [hxy]; simp
          clear hbe hAd hBd hxy
          go_wp2
          go_roundw
          case rel => exact ⟨j + 1, by omega, by go_num, HBE.out, trivial⟩
          case measure => simp [intOf]; omega
        · have HBE : Hid (befB A B = decide (x < y)) := by
            show _ = _
            rw [hbe.out, hAd.out, hBd.out]
            show (if x = y then _ else _) = _
            rw [if_neg hxy]
          have hne : ((x : Int) != (y : Int)) = true := by simp; omega
          clear hbe hAd hBd hxy
          go_wp2
          go_ret
          exact ⟨by rw [HBE.out]; rfl, rfl⟩
      · have hkb : (K : Int) ≤ (j : Int) := by omega
        have HBE : Hid (befB A B = false) := by
          show _ = _
          rw [hbe.out, hAd.out, show B.drop j = [] from List.drop_eq_nil_of_le (by rw [← HK.out]; omega)]; rfl
        clear hbe hAd
        go_wp2
        go_ret
        exact ⟨by rw [HBE.out]; rfl, rfl⟩
    · obtain rfl : j = M := by omega
      have HBE : Hid (befB A B = false) := by
        show _ = _
        rw [hbe.out, List.drop_eq_nil_of_le (by rw [HM.out]; exact Nat.le_refl _)]
        cases B.drop j <;> rfl
      clear hbe
      go_wp2
      go_ret
      exact ⟨by rw [HBE.out]; rfl, rfl⟩
end Go.Proofs.Ytgjogbihadiojaa
