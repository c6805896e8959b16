/-
  Contracts for the helper functions of chapter 2 that look at single letters, digits and names: 'isDigit', 'isSmallLetter', both 'IsDigits'; and what the laws over one string share. No conditions.
-/
import Derived.Test.YtgdejippddcekaaDoorA
import Derived.Test.YtgdejippddcekaaDoorRows
import Derived.WalkKit
import Derived.ProofKit
import Derived.OpenShut
import Derived.ShutString
import Derived.ChangeOld
import Derived.Below
import Derived.Lib.Hide
namespace Go.Proofs.YtgdejippddcekaaDoor
open Go.ChangeShapes Go.WideShapes Go.ChangeAt Go.RowKit
open Go.ChangeMaps (open_string shut_string)
set_option linter.unusedVariables false


/-- A digit's letter, by its number. -/
def dgB (c : Int) : Bool := decide (48 ≤ c) && decide (c ≤ 57)
theorem dgB_true {c : Int} (h : dgB c = true) : 48 ≤ c ∧ c ≤ 57 := by simpa [dgB] using h
theorem dgB_false {c : Int} (h : dgB c = false) : c < 48 ∨ 57 < c := by
  simp [dgB] at h; omega

/-- All letters from place k on are digits. -/
def digFrom (s : ByteArray) (k : Nat) : Prop := ∀ i (h : i < s.size), k ≤ i → dgB (s[i].toNat : Int) = true
def digTo (s : ByteArray) (k : Nat) : Prop := ∀ i (h : i < s.size), i < k → dgB (s[i].toNat : Int) = true
/-- What both 'IsDigits' answer. -/
noncomputable def digs (s : ByteArray) : Bool := by classical exact decide (0 < s.size ∧ ∀ i (h : i < s.size), dgB (s[i].toNat : Int) = true)
theorem digs_of_bad {s : ByteArray} {i : Nat} (h : i < s.size) (hb : dgB (s[i].toNat : Int) = false) : digs s = false := by
  simp only [digs, decide_eq_false_iff_not, not_and]
  intro _ ha
  rw [ha i h] at hb
  cases hb
theorem digs_of_all {s : ByteArray} (ha : digTo s s.size) : digs s = decide (0 < s.size) := by
  by_cases h : 0 < s.size
  · simp only [digs, h, decide_true, decide_eq_true_iff]
    exact ⟨trivial, fun i hi => ha i hi hi⟩
  · simp only [digs, h, decide_false, decide_eq_false_iff_not]
    exact fun ⟨a, _⟩ => a
theorem digTo_succ {s : ByteArray} {k : Nat} (h : digTo s k) (hk : k < s.size) (hd : dgB (s[k].toNat : Int) = true) : digTo s (k + 1) := by
  intro i hi hik
  by_cases e : i = k
  · subst e; exact hd
  · exact h i hi (by omega)
theorem digTo_zero (s : ByteArray) : digTo s 0 := fun i _ h => absurd h (Nat.not_lt_zero _)

theorem dgB_of {c : Int} (h1 : 48 ≤ c) (h2 : c ≤ 57) : dgB c = true := by simp [dgB, h1, h2]

theorem toList_length (s : ByteArray) : s.toList.length = s.size := by
  rw [ByteArray.toList_eq]; simp
theorem notEmpty_size (s : ByteArray) : (!s.toList.isEmpty) = decide (0 < s.size) := by
  have := toList_length s
  cases h : s.toList with
  | nil => rw [h] at this; simp at this; simp [← this]
  | cons a l => rw [h] at this; simp at this; simp; omega

end Go.Proofs.YtgdejippddcekaaDoor
