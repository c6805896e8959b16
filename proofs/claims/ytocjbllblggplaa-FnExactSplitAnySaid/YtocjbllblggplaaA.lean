/-
  Contracts for the helper functions of chapter 2 that look at single letters, digits and names: 'isDigit', 'isSmallLetter', both 'IsDigits'; and what the laws over one string share. No conditions.
-/
import Derived.Test.YtocjbllblggplaaRows
import Derived.WalkKit
import Derived.ProofKit
import Derived.OpenShut
import Derived.ShutString
import Derived.ChangeOld
import Derived.Below
import Derived.Lib.Hide
namespace Go.Proofs.Ytocjbllblggplaa
open Go.ChangeShapes Go.WideShapes Go.ChangeAt Go.RowKit
open Go.ChangeMaps (open_string shut_string)
set_option linter.unusedVariables false

theorem own : ownKnob Try.prog.godebug = none := by kernel_rfl
theorem laidOut : laidOutB Try.prog = true := by kernel_rfl

/-- A digit's letter, by its number. -/
def dgB (c : Int) : Bool := decide (48 ≤ c) && decide (c ≤ 57)
theorem dgB_true {c : Int} (h : dgB c = true) : 48 ≤ c ∧ c ≤ 57 := by simpa [dgB] using h
theorem dgB_false {c : Int} (h : dgB c = false) : c < 48 ∨ 57 < c := by
  simp [dgB] at h; omega

theorem isDigit_any (c : Int) (w : World) : Calls Try.prog 26 #[.int .i32 c] w fun e w' => e = .returned (.bool (dgB c)) ∧ w = w' := by
  cases hb : dgB c
  · rcases dgB_false hb with h | h
    · have h1 : ¬ 48 ≤ c := by omega
      go_enter Try.func26, Try.ntmps26
      go_wp2
      go_ret
      exact ⟨rfl, rfl⟩
    · have h1 : 48 ≤ c := by omega
      have h2 : ¬ c ≤ 57 := by omega
      go_enter Try.func26, Try.ntmps26
      go_wp2
      go_ret
      exact ⟨rfl, rfl⟩
  · obtain ⟨h1, h2⟩ := dgB_true hb
    go_enter Try.func26, Try.ntmps26
    go_wp2
    go_ret
    exact ⟨rfl, rfl⟩

/-- All letters from place k on are digits. -/
def digFrom (s : ByteArray) (k : Nat) : Prop := ∀ i (h : i < s.size), k ≤ i → dgB (s[i].toNat : Int) = true
def digTo (s : ByteArray) (k : Nat) : Prop := ∀ i (h : i < s.size), i < k → dgB (s[i].toNat : Int) = true
/-- What both 'IsDigits' answer. -/
noncomputable def digs (s : ByteArray) : Bool := by classical exact decide (0 < s.size ∧ ∀ i (h : i < s.size), dgB (s[i].toNat : Int) = true)
theorem digs_of_bad {s : ByteArray} {i : Nat} (h : i < s.size) (hb : dgB (s[i].toNat : Int) = false) : digs s = false := by
  simp only [digs, decide_eq_false_iff_not, not_and]
  intro _ ha
  rw [ha i h] at hb
  cases hb
theorem digs_of_all {s : ByteArray} (ha : digTo s s.size) : digs s = decide (0 < s.size) := by
  by_cases h : 0 < s.size
  · simp only [digs, h, decide_true, decide_eq_true_iff]
    exact ⟨trivial, fun i hi => ha i hi hi⟩
  · simp only [digs, h, decide_false, decide_eq_false_iff_not]
    exact fun ⟨a, _⟩ => a
theorem digTo_succ {s : ByteArray} {k : Nat} (h : digTo s k) (hk : k < s.size) (hd : dgB (s[k].toNat : Int) = true) : digTo s (k + 1) := by
  intro i hi hik
  by_cases e : i = k
  · subst e; exact hd
  · exact h i hi (by omega)
theorem digTo_zero (s : ByteArray) : digTo s 0 := fun i _ h => absurd h (Nat.not_lt_zero _)

theorem dgB_of {c : Int} (h1 : 48 ≤ c) (h2 : c ≤ 57) : dgB c = true := by simp [dgB, h1, h2]

theorem toList_length (s : ByteArray) : s.toList.length = s.size := by
  rw [ByteArray.toList_eq]; simp
theorem notEmpty_size (s : ByteArray) : (!s.toList.isEmpty) = decide (0 < s.size) := by
  have := toList_length s
  cases h : s.toList with
  | nil => rw [h] at this; simp at this; simp [← this]
  | cons a l => rw [h] at this; simp at this; simp; omega

set_option maxHeartbeats 400000 in
/-- The model's 'IsDigits'. -/
theorem specIsDigits (s : ByteArray) (w : World) (hs : s.size ≤ maxLen) : Calls Try.prog 9 #[.string s] w fun e w' => e = .returned (.bool (digs s)) ∧ w = w' := by
  unfold maxLen at hs
  go_enter Try.func9, Try.ntmps9
  go_wp2
  go_loop [3] (fun i => ∃ k : Nat, k ≤ s.size ∧ i = .int .i64 k ∧ Hid (digTo s k)) (fun i => s.size - (intOf i).toNat)
  case atStart => exact ⟨0, Nat.zero_le _, rfl, digTo_zero s⟩
  case round =>
    obtain ⟨k, hk, rfl, hd⟩ := hrel
    by_cases hlt : k < s.size
    · cases hb : dgB (s[k].toNat : Int)
      · have H := Lib.hid hb
        have hbad := Lib.hid (digs_of_bad hlt hb)
        have hor := dgB_false hb
        clear hb
        rcases hor with h | h
        · go_wp2
          go_ret
          exact ⟨by rw [hbad.out]; rfl, rfl⟩
        · have h0 : ¬ (s[k].toNat : Int) < 48 := by omega
          go_wp2
          go_ret
          exact ⟨by rw [hbad.out]; rfl, rfl⟩
      · have hd1 : Hid (digTo s (k + 1)) := digTo_succ hd.out hlt hb
        obtain ⟨h1, h2⟩ := dgB_true hb
        have h0 : ¬ (s[k].toNat : Int) < 48 := by omega
        have h3 : ¬ 57 < (s[k].toNat : Int) := by omega
        clear hb
        go_wp2
        go_round
        case rel => exact ⟨k + 1, by omega, by go_num, hd1⟩
        case measure => simp [intOf]; omega
    · have he : Hid (digs s = decide (0 < s.size)) := digs_of_all (by have := hd.out; obtain rfl : k = s.size := (by omega); exact this)
      go_wp2
      go_ret
      exact ⟨by rw [he.out]; rfl, rfl⟩

set_option maxHeartbeats 400000 in
/-- The program's 'IsDigits': it ranges over the string's runes. -/
theorem implIsDigits (s : ByteArray) (w : World) (hs : s.size ≤ maxLen) : Calls Try.prog 10 #[.string s] w fun e w' => e = .returned (.bool (digs s)) ∧ ∃ pos, w' = w.iter s pos := by
  unfold maxLen at hs
  go_enter Try.func10, Try.ntmps10
  go_wp2
  go_loopw [4] (fun r w' => ∃ pos : Nat, w' = w.iter s pos ∧ pos ≤ s.size ∧ Hid (digTo s pos)) (fun _ w' => s.size - w'.iterPos w.heap.size)
  case atStart => exact ⟨0, rfl, Nat.zero_le _, digTo_zero s⟩
  case round =>
    obtain ⟨pos, rfl, hk, hd⟩ := hrel
    by_cases hp : pos < s.size
    · have hnx : ∀ ty, (Instr.next (.pointer (some ⟨w.heap.size, 0, none⟩)) true ty).run Try.prog (w.iter s pos) = _ := fun ty => run_next_any w s pos ty hp
      by_cases ha : (s[pos]'hp).toNat < 128
      · have hdec := decode_ascii s pos hp ha
        cases hb : dgB (s[pos].toNat : Int)
        · have hbad := Lib.hid (digs_of_bad hp hb)
          rw [hdec] at hnx
          clear hdec
          go_wp2_with (go_at_call 26; refine (isDigit_any _ _).mono ?_; rintro e w' ⟨rfl, rfl⟩)
          go_ret
          exact ⟨by rw [hbad.out]; rfl, _, rfl⟩
        · have hd1 : Hid (digTo s (pos + 1)) := digTo_succ hd.out hp hb
          rw [hdec] at hnx
          clear hdec
          go_wp2_with (go_at_call 26; refine (isDigit_any _ _).mono ?_; rintro e w' ⟨rfl, rfl⟩)
          go_roundw
          case rel => exact ⟨pos + 1, rfl, by omega, hd1⟩
          case measure => simp; omega
      · have hdec := decode_high s pos hp (by omega)
        have hb : dgB ((Utf8.decode s pos).1 : Int) = false := by
          simp [dgB]; omega
        have hbad := Lib.hid (digs_of_bad hp (by simp [dgB]; omega))
        clear hdec
        go_wp2_with (go_at_call 26; refine (isDigit_any _ _).mono ?_; rintro e w' ⟨rfl, rfl⟩)
        go_ret
        exact ⟨by rw [hbad.out]; rfl, _, rfl⟩
    · have hnx : ∀ ty, (Instr.next (.pointer (some ⟨w.heap.size, 0, none⟩)) true ty).run Try.prog (w.iter s pos) = _ := fun ty => run_next_end w s pos ty hp
      have he : Hid (digs s = decide (0 < s.size)) := digs_of_all (by have := hd.out; obtain rfl : pos = s.size := (by omega); exact this)
      go_wp2
      go_ret
      exact ⟨by rw [he.out, ← notEmpty_size]; rfl, _, rfl⟩

set_option maxHeartbeats 400000 in
theorem walkIsDigits (s : ByteArray) (w : World) (hs : s.size ≤ maxLen) : Calls Try.prog 3 #[.string s] w fun e w' => e = .returned (.bool true) ∧ Below w.heap.size w w' := by
  by_cases hbig : (1048576 : Int) < (s.size : Int)
  · unfold maxLen at hs
    go_enter Try.func3, Try.ntmps3
    go_wp2
    go_ret
    exact ⟨rfl, Below.refl _ _⟩
  · have H : Hid (s.size ≤ maxLen) := hs
    unfold maxLen at hs
    go_enter Try.func3, Try.ntmps3
    go_wp2_with fail
    refine (specIsDigits s _ H.out).mono ?_
    rintro e w' ⟨rfl, rfl⟩
    go_wp2_with fail
    refine (implIsDigits s _ H.out).mono ?_
    rintro e w' ⟨rfl, pos, rfl⟩
    go_wp2
    go_ret
    exact ⟨rfl, (Below.refl _ _).alloc (Nat.le_refl _) _⟩
end Go.Proofs.Ytocjbllblggplaa
namespace Go.Proofs.Ytocjbllblggplaa.fnExactIsDigits
open Go.ChangeShapes Go.WideShapes Go.ChangeAt Go.RowKit
open Go.ChangeMaps (open_string shut_string)
set_option linter.unusedVariables false
set_option maxRecDepth 100000 in
theorem lifted (os : Os) (started : os.Started) (H : Type) (enc : TypeId × Value → H) :
    ReturnsInHanded {} Try.checked os 3 .any (Rows.fnExactIsDigitsSpec.pre6 enc Try.prog Try.f3 Rows.fnExactIsDigitsRow.domain false) (Rows.fnExactIsDigitsSpec.post enc Try.prog Try.f3 false true false false) := by
  refine returnsInHanded_of_change (C := Try.checked) own started (by kernel_rfl) Try.func3
    (ChangeSpec.witness6 (enc := enc) (C := Try.checked) false ⟨#[], #[.string ⟨#[]⟩], []⟩ 8 (by kernel_rfl) (by kernel_rfl) (by kernel_rfl) (by kernel_rfl)) ?_
  intro W base args ds gs before hval0 hW hcnd _
  have hval : ∀ (j : Nat) t v, Try.f3.params[j]? = some t → args[j]? = some v → Value.okWide Try.prog W .any base t v := hval0
  have hW' := hW
  obtain ⟨p, q, hA0, hV, rfl, hfz, hnd⟩ := hW
  have hA : DataW.TrodAll enc Try.prog W 0 (fun _ => true) true Try.f3.params.toList args.toList ds p := hA0
  rw [Try.params3] at hA hval
  obtain ⟨v0, vs0, d0, ds0, p0, q0, hargs, rfl, rfl, h0, r0⟩ := trodAll_cons hA
  obtain ⟨rfl, rfl, rfl⟩ := trodAll_nil r0
  obtain rfl : args = #[v0] := by cases args; simp_all
  obtain ⟨rfl, rfl⟩ := trodVars_none hV
  obtain ⟨s0, rfl, rfl, rfl, hs0⟩ := open_string Try.underlying9 (hval 0 9 v0 rfl rfl) h0
  clear hA0 hval0
  refine (walkIsDigits s0 W hs0).mono fun e W' ⟨he, bel⟩ => ?_
  subst he
  exact ⟨_, rfl, _, _, _, [], _, [], hW', trodAll_mk1 (shut_bool Try.underlying4 _), (trodAll_cons_mk (shut_string Try.underlying9 hs0) trodAll_mk0), rfl, bel.frame _, fun h => by cases h⟩

theorem proved : Rows.FnExactIsDigitsSaid :=
  OpenClaim.holds_of_wide 3 Try.f3 rfl rfl rfl rfl rfl rfl rfl ⟨rfl, rfl, rfl, rfl, rfl⟩ rfl rfl rfl rfl rfl (by kernel_rfl) Try.func3 (by kernel_rfl)
    (of_decide_eq_true (by kernel_rfl)) (by unfold Func.isWrapper; first | (rw [if_pos (by decide +kernel)]; kernel_rfl) | (rw [if_neg (by decide +kernel)]; exact ⟨rfl, rfl⟩))
    (fun os started H enc _ => lifted os started H enc)
end Go.Proofs.Ytocjbllblggplaa.fnExactIsDigits
