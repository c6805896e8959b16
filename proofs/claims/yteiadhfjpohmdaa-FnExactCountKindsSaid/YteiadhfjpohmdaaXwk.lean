/-
  How many kinds of tours there are: a count by the kernel over all codes of tours of up to 5 players (mathematics). No program.
-/
import Derived.Test.YteiadhfjpohmdaaXw
namespace Go.Proofs.Yteiadhfjpohmdaa
open Go.ChangeShapes Go.WideShapes Go.ChangeAt Go.RowKit
set_option linter.unusedVariables false
namespace Kd
def prs (n : Nat) : List (Nat × Nat) := (List.range n).flatMap fun a => (List.range a).map fun b => (a, b)
def cdA (t : List Nat) : List (Nat × Nat) → Nat → Nat
  | [], _ => 0
  | (a, b) :: ps, w => (bif (t.getD a 0).testBit b then w else 0) + cdA t ps (2 * w)
/-- A tour's code. -/
def cd (n : Nat) (t : List Nat) : Nat := cdA t (prs n) 1
theorem cd_5 : ((List.range 6).all fun n => ba (fun c => Nat.beq (cd n (tourP n c)) c) (Tmpm.prN n) 0) = true := by decide +kernel
theorem cd_tour {n c : Nat} (h5 : n ≤ 5) (hc : c < 2 ^ Tmpm.prN n) : cd n (tourP n c) = c := by
  have h := cd_5
  rw [List.all_eq_true] at h
  have h2 := h n (by simp; omega)
  exact Nat.eq_of_beq_eq_true (ba_all _ _ _ h2 c (Nat.zero_le _) (by omega))
def addB (n : Nat) (t : List Nat) : List (List Nat) → Nat → Option Nat
  | [], B => some B
  | o :: O, B => match eqN (tourP n (cd n (rN t o))) (rN t o) with
    | true => addB n t O (B ||| 2 ^ cd n (rN t o))
    | false => none
theorem addB_in {n : Nat} (h5 : n ≤ 5) (t : List Nat) : ∀ (O : List (List Nat)) (B B2 : Nat), addB n t O B = some B2 → ∀ c, c < 2 ^ Tmpm.prN n → B2.testBit c = (B.testBit c || inN (tourP n c) (O.map (rN t)))
  | [], B, B2, h, c, hc => by
    have := Option.some.inj h
    rw [← this]; simp [inN]
  | o :: O, B, B2, h, c, hc => by
    unfold addB at h
    split at h
    · rename_i he
      have ih := addB_in h5 t O _ B2 h c hc
      have hx := eqN_iff.1 he
      rw [ih, Nat.testBit_or, Nat.testBit_two_pow, List.map_cons, inN, Bool.or_assoc]
      congr 2
      rw [Bool.eq_iff_iff, decide_eq_true_iff, eqN_iff]
      constructor
      · intro e; rw [← e]; exact hx.symm
      · intro e; rw [e]; exact cd_tour h5 hc
    · cases h
def run (n : Nat) (O : List (List Nat)) : Nat → Nat → Nat → Nat → Nat
  | 0, _, k, _ => k
  | f + 1, c, k, B => match B.testBit c with
    | true => run n O f (c + 1) k B
    | false => match addB n (tourP n c) O B with
      | some B2 => run n O f (c + 1) (k + 1) B2
      | none => 0
theorem run_S {n : Nat} (h5 : n ≤ 5) : ∀ (f c B : Nat), c + f ≤ 2 ^ Tmpm.prN n → (∀ x, x < 2 ^ Tmpm.prN n → B.testBit x = inN (tourP n x) (S n c).2) → run n (Rn.allO n) f c (S n c).1 B ≠ 0 → run n (Rn.allO n) f c (S n c).1 B = (S n (c + f)).1
  | 0, c, B, _, _, _ => rfl
  | f + 1, c, B, hf, hB, h0 => by
    rw [show c + (f + 1) = c + 1 + f by omega]
    unfold run at h0 ⊢
    cases hb : B.testBit c
    · rw [hb] at h0
      have hin : inN (tourP n c) (S n c).2 = false := by rw [← hB c (by omega), hb]
      have hS : S n (c + 1) = ((S n c).1 + 1, (S n c).2 ++ (Rn.allO n).map (rN (tourP n c))) := by rw [S_snoc, hin]; rfl
      cases ha : addB n (tourP n c) (Rn.allO n) B with
      | none => simp only [ha] at h0; exact absurd rfl h0
      | some B2 =>
        simp only [ha] at h0 ⊢
        have h1 : (S n (c + 1)).1 = (S n c).1 + 1 := by rw [hS]
        have ih := run_S h5 f (c + 1) B2 (by omega) (fun x hx => by
          rw [addB_in h5 _ _ _ _ ha x hx, hB x hx, hS, inN_append]) (by rw [h1]; exact h0)
        rw [h1] at ih
        exact ih
    · rw [hb] at h0
      have hin : inN (tourP n c) (S n c).2 = true := by rw [← hB c (by omega), hb]
      have hS : S n (c + 1) = S n c := by rw [S_snoc, hin]; rfl
      simp only at h0 ⊢
      have ih := run_S h5 f (c + 1) B (by omega) (fun x hx => by rw [hB x hx, hS]) (by rw [hS]; exact h0)
      rw [hS] at ih
      exact ih
theorem run_5 : ((List.range 6).all fun n => Nat.beq n 0 || Nat.beq (run n (Rn.allO n) (2 ^ Tmpm.prN n) 0 0 0) (tab.getD n 0)) = true := by decide +kernel
theorem tab_pos {n : Nat} (h1 : 1 ≤ n) (h5 : n ≤ 5) : tab.getD n 0 ≠ 0 := by
  have : ∀ k : Fin 6, 1 ≤ k.val → tab.getD k.val 0 ≠ 0 := by decide +kernel
  exact this ⟨n, by omega⟩ h1
theorem S_all {n : Nat} (h1 : 1 ≤ n) (h5 : n ≤ 5) : (S n (2 ^ Tmpm.prN n)).1 = tab.getD n 0 := by
  have h := run_5
  rw [List.all_eq_true] at h
  have h2 := h n (by simp; omega)
  have h4 : run n (Rn.allO n) (2 ^ Tmpm.prN n) 0 0 0 = tab.getD n 0 := by
    rw [Bool.or_eq_true] at h2
    rcases h2 with h2 | h2
    · have := Nat.eq_of_beq_eq_true h2; omega
    · exact Nat.eq_of_beq_eq_true h2
  have h3 := run_S h5 (2 ^ Tmpm.prN n) 0 0 (by omega) (fun x hx => by rw [Nat.zero_testBit]; rfl) (by
    show run n (Rn.allO n) (2 ^ Tmpm.prN n) 0 0 0 ≠ 0
    rw [h4]; exact tab_pos h1 h5)
  rw [Nat.zero_add] at h3
  rw [← h3]
  exact h4
end Kd
end Go.Proofs.Yteiadhfjpohmdaa
