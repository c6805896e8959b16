/-
  'FnExactIsName': the program's IsName answers as the model's, for every string. No conditions.
-/
import Derived.Test.YtocjbllblggplaaA
namespace Go.Proofs.Ytocjbllblggplaa
open Go.ChangeShapes Go.WideShapes Go.ChangeAt Go.RowKit
open Go.ChangeMaps (open_string shut_string)
set_option linter.unusedVariables false

def smB (c : Int) : Bool := decide (97 ≤ c) && decide (c ≤ 122)
theorem smB_true {c : Int} (h : smB c = true) : 97 ≤ c ∧ c ≤ 122 := by simpa [smB] using h
theorem smB_false {c : Int} (h : smB c = false) : c < 97 ∨ 122 < c := by
  simp [smB] at h; omega

theorem isSmall_any (c : Int) (w : World) : Calls Try.prog 28 #[.int .i32 c] w fun e w' => e = .returned (.bool (smB c)) ∧ w = w' := by
  cases hb : smB c
  · rcases smB_false hb with h | h
    · have h1 : ¬ 97 ≤ c := by omega
      go_enter Try.func28, Try.ntmps28
      go_wp2
      go_ret
      exact ⟨rfl, rfl⟩
    · have h1 : 97 ≤ c := by omega
      have h2 : ¬ c ≤ 122 := by omega
      go_enter Try.func28, Try.ntmps28
      go_wp2
      go_ret
      exact ⟨rfl, rfl⟩
  · obtain ⟨h1, h2⟩ := smB_true hb
    go_enter Try.func28, Try.ntmps28
    go_wp2
    go_ret
    exact ⟨rfl, rfl⟩

def lenB (n : Int) : Bool := decide (1 ≤ n) && decide (n ≤ 8)
theorem lenB_true {c : Int} (h : lenB c = true) : 1 ≤ c ∧ c ≤ 8 := by simpa [lenB] using h
theorem lenB_false {c : Int} (h : lenB c = false) : c < 1 ∨ 8 < c := by
  simp [lenB] at h; omega
theorem l01In_any (c : Int) (w : World) : Calls Try.prog 27 #[.int .i64 c, .int .i64 1, .int .i64 8] w fun e w' => e = .returned (.bool (lenB c)) ∧ w = w' := by
  cases hb : lenB c
  · rcases lenB_false hb with h | h
    · have h1 : ¬ 1 ≤ c := by omega
      go_enter Try.func27, Try.ntmps27
      go_wp2
      go_ret
      exact ⟨rfl, rfl⟩
    · have h1 : 1 ≤ c := by omega
      have h2 : ¬ c ≤ 8 := by omega
      go_enter Try.func27, Try.ntmps27
      go_wp2
      go_ret
      exact ⟨rfl, rfl⟩
  · obtain ⟨h1, h2⟩ := lenB_true hb
    go_enter Try.func27, Try.ntmps27
    go_wp2
    go_ret
    exact ⟨rfl, rfl⟩

/-- The letter c may stand at place k of a name. -/
def okB (k : Nat) (c : Int) : Bool := smB c || (decide (k ≠ 0) && dgB c)
def okTo (s : ByteArray) (k : Nat) : Prop := ∀ i (h : i < s.size), i < k → okB i (s[i].toNat : Int) = true
/-- What both 'IsName' answer. -/
noncomputable def nam (s : ByteArray) : Bool := by classical exact decide (lenB (s.size : Int) = true ∧ ∀ i (h : i < s.size), okB i (s[i].toNat : Int) = true)
theorem nam_of_bad {s : ByteArray} {i : Nat} (h : i < s.size) (hb : okB i (s[i].toNat : Int) = false) : nam s = false := by
  simp only [nam, decide_eq_false_iff_not, not_and]
  intro _ ha
  rw [ha i h] at hb
  cases hb
theorem nam_of_len {s : ByteArray} (h : lenB (s.size : Int) = false) : nam s = false := by
  simp [nam, h]
theorem nam_of_all {s : ByteArray} (ha : okTo s s.size) : nam s = lenB (s.size : Int) := by
  cases h : lenB (s.size : Int)
  · exact nam_of_len h
  · simp only [nam, h, decide_eq_true_iff]
    exact ⟨trivial, fun i hi => ha i hi hi⟩
theorem okTo_succ {s : ByteArray} {k : Nat} (h : okTo s k) (hk : k < s.size) (hd : okB k (s[k].toNat : Int) = true) : okTo s (k + 1) := by
  intro i hi hik
  by_cases e : i = k
  · subst e; exact hd
  · exact h i hi (by omega)
theorem okTo_zero (s : ByteArray) : okTo s 0 := fun i _ h => absurd h (Nat.not_lt_zero _)

/-- Which way a letter goes. -/
theorem okB_ways (k : Nat) (c : Int) : (smB c = true ∧ okB k c = true) ∨ (smB c = false ∧ k = 0 ∧ okB k c = false) ∨ (smB c = false ∧ k ≠ 0 ∧ dgB c = true ∧ okB k c = true) ∨ (smB c = false ∧ k ≠ 0 ∧ dgB c = false ∧ okB k c = false) := by
  cases h1 : smB c <;> cases h2 : dgB c <;> by_cases h3 : k = 0 <;> simp [okB, h1, h2, h3]

set_option maxHeartbeats 1000000 in
/-- The model's 'IsName'. -/
theorem specIsName (s : ByteArray) (w : World) (hs : s.size ≤ maxLen) : Calls Try.prog 11 #[.string s] w fun e w' => e = .returned (.bool (nam s)) ∧ w = w' := by
  unfold maxLen at hs
  go_enter Try.func11, Try.ntmps11
  go_wp2
  go_loop [3, 4] (fun i _ => ∃ k : Nat, k ≤ s.size ∧ i = .int .i64 k ∧ Hid (okTo s k)) (fun i _ => s.size - (intOf i).toNat)
  case atStart => exact ⟨0, Nat.zero_le _, rfl, okTo_zero s⟩
  case round =>
    obtain ⟨k, hk, rfl, hd⟩ := hrel
    by_cases hlt : k < s.size
    · rcases okB_ways k (s[k].toNat : Int) with ⟨hsm, hok⟩ | ⟨hsm, hk0, hok⟩ | ⟨hsm, hk0, hdg, hok⟩ | ⟨hsm, hk0, hdg, hok⟩
      · have hd1 : Hid (okTo s (k + 1)) := okTo_succ hd.out hlt hok
        obtain ⟨h1, h2⟩ := smB_true hsm
        clear hsm hok
        go_wp2
        go_round
        case rel => exact ⟨k + 1, by omega, by go_num, hd1⟩
        case measure => simp [intOf]; omega
      · have hbad := Lib.hid (nam_of_bad hlt hok)
        subst hk0
        have hor := smB_false hsm
        clear hsm hok
        rcases hor with h | h
        · have h0 : ¬ 97 ≤ (s[0].toNat : Int) := by omega
          go_wp2
          go_ret
          exact ⟨by rw [hbad.out]; rfl, rfl⟩
        · have h0 : 97 ≤ (s[0].toNat : Int) := by omega
          have h2 : ¬ (s[0].toNat : Int) ≤ 122 := by omega
          go_wp2
          go_ret
          exact ⟨by rw [hbad.out]; rfl, rfl⟩
      · have hd1 : Hid (okTo s (k + 1)) := okTo_succ hd.out hlt hok
        have hne : ((k : Int) == 0) = false := by simp; omega
        obtain ⟨h1, h2⟩ := dgB_true hdg
        have h0 : ¬ 97 ≤ (s[k].toNat : Int) := by omega
        have h3 : ¬ (s[k].toNat : Int) < 48 := by omega
        have h4 : ¬ 57 < (s[k].toNat : Int) := by omega
        clear hsm hok hdg
        go_wp2
        go_round
        case rel => exact ⟨k + 1, by omega, by go_num, hd1⟩
        case measure => simp [intOf]; omega
      · have hbad := Lib.hid (nam_of_bad hlt hok)
        have hne : ((k : Int) == 0) = false := by simp; omega
        have hor := smB_false hsm
        have hor2 := dgB_false hdg
        clear hsm hok hdg
        rcases hor with h | h
        · have h0 : ¬ 97 ≤ (s[k].toNat : Int) := by omega
          rcases hor2 with h2 | h2
          · go_wp2
            go_ret
            exact ⟨by rw [hbad.out]; rfl, rfl⟩
          · have h3 : ¬ (s[k].toNat : Int) < 48 := by omega
            go_wp2
            go_ret
            exact ⟨by rw [hbad.out]; rfl, rfl⟩
        · have h0 : 97 ≤ (s[k].toNat : Int) := by omega
          have h2 : ¬ (s[k].toNat : Int) ≤ 122 := by omega
          have h3 : ¬ (s[k].toNat : Int) < 48 := by omega
          have h4 : 57 < (s[k].toNat : Int) := by omega
          go_wp2
          go_ret
          exact ⟨by rw [hbad.out]; rfl, rfl⟩
    · have he : Hid (nam s = lenB (s.size : Int)) := nam_of_all (by have := hd.out; obtain rfl : k = s.size := (by omega); exact this)
      go_wp2_with (go_at_call 27; refine (l01In_any _ _).mono ?_; rintro e w' ⟨rfl, rfl⟩)
      go_ret
      exact ⟨by rw [he.out]; rfl, rfl⟩

set_option maxHeartbeats 1000000 in
/-- The program's 'IsName': it ranges over the string's runes. -/
theorem implIsName (s : ByteArray) (w : World) (hs : s.size ≤ maxLen) : Calls Try.prog 12 #[.string s] w fun e w' => e = .returned (.bool (nam s)) ∧ Below w.heap.size w w' := by
  unfold maxLen at hs
  by_cases h0 : s.size = 0
  · have hbad := Lib.hid (nam_of_len (s := s) (by simp [lenB]; omega))
    have hemp : s.toList = [] := by
      have := toList_length s
      exact List.eq_nil_of_length_eq_zero (by omega)
    have hemp2 : s.toList.isEmpty = true := by rw [hemp]; rfl
    clear hemp
    go_enter Try.func12, Try.ntmps12
    go_wp2
    go_ret
    exact ⟨by rw [hbad.out]; rfl, Below.refl _ _⟩
  · have hemp : s.toList.isEmpty = false := by
      have := notEmpty_size s
      cases h : s.toList.isEmpty
      · rfl
      · rw [h] at this; have := of_decide_eq_false (this.symm.trans rfl); omega
    by_cases h8 : (8 : Int) < s.size
    · have hbad := Lib.hid (nam_of_len (s := s) (by simp [lenB]; omega))
      go_enter Try.func12, Try.ntmps12
      go_wp2
      go_ret
      exact ⟨by rw [hbad.out]; rfl, Below.refl _ _⟩
    · have hlen := Lib.hid (show lenB (s.size : Int) = true by simp [lenB]; omega)
      go_enter Try.func12, Try.ntmps12
      go_wp2
      go_loopw [3, 4] (fun _ _ w' => ∃ pos : Nat, w' = w.iter s pos ∧ pos ≤ s.size ∧ Hid (okTo s pos)) (fun _ _ w' => s.size - w'.iterPos w.heap.size)
      case atStart => exact ⟨0, rfl, Nat.zero_le _, okTo_zero s⟩
      case round =>
        obtain ⟨pos, rfl, hk, hd⟩ := hrel
        by_cases hp : pos < s.size
        · have hnx : ∀ ty, (Instr.next (.pointer (some ⟨w.heap.size, 0, none⟩)) true ty).run Try.prog (w.iter s pos) = _ := fun ty => run_next_any w s pos ty hp
          by_cases ha : (s[pos]'hp).toNat < 128
          · have hdec := decode_ascii s pos hp ha
            rw [hdec] at hnx
            clear hdec
            rcases okB_ways pos (s[pos].toNat : Int) with ⟨hsm, hok⟩ | ⟨hsm, hk0, hok⟩ | ⟨hsm, hk0, hdg, hok⟩ | ⟨hsm, hk0, hdg, hok⟩
            · have hd1 : Hid (okTo s (pos + 1)) := okTo_succ hd.out hp hok
              clear hok
              go_wp2_with (go_at_call 28; refine (isSmall_any _ _).mono ?_; rintro e w' ⟨rfl, rfl⟩)
              go_roundw
              case rel => exact ⟨pos + 1, rfl, by omega, hd1⟩
              case measure => simp; omega
            · have hbad := Lib.hid (nam_of_bad hp hok)
              subst hk0
              clear hok
              go_wp2_with (go_at_call 28; refine (isSmall_any _ _).mono ?_; rintro e w' ⟨rfl, rfl⟩)
              go_ret
              exact ⟨by rw [hbad.out]; rfl, (Below.refl _ _).alloc (Nat.le_refl _) _⟩
            · have hd1 : Hid (okTo s (pos + 1)) := okTo_succ hd.out hp hok
              have hne : ((pos : Int) == 0) = false := by simp; omega
              clear hok
              go_wp2_with (first | (go_at_call 28; refine (isSmall_any _ _).mono ?_; rintro e w' ⟨rfl, rfl⟩) | (go_at_call 26; refine (isDigit_any _ _).mono ?_; rintro e w' ⟨rfl, rfl⟩))
              go_roundw
              case rel => exact ⟨pos + 1, rfl, by omega, hd1⟩
              case measure => simp; omega
            · have hbad := Lib.hid (nam_of_bad hp hok)
              have hne : ((pos : Int) == 0) = false := by simp; omega
              clear hok
              go_wp2_with (first | (go_at_call 28; refine (isSmall_any _ _).mono ?_; rintro e w' ⟨rfl, rfl⟩) | (go_at_call 26; refine (isDigit_any _ _).mono ?_; rintro e w' ⟨rfl, rfl⟩))
              go_ret
              exact ⟨by rw [hbad.out]; rfl, (Below.refl _ _).alloc (Nat.le_refl _) _⟩
          · have hdec := decode_high s pos hp (by omega)
            have hsm : smB ((Utf8.decode s pos).1 : Int) = false := by
              simp [smB]; omega
            have hdg : dgB ((Utf8.decode s pos).1 : Int) = false := by
              simp [dgB]; omega
            have hbad := Lib.hid (nam_of_bad hp (by simp [okB, smB, dgB]; omega))
            clear hdec
            by_cases hk0 : pos = 0
            · subst hk0
              go_wp2_with (go_at_call 28; refine (isSmall_any _ _).mono ?_; rintro e w' ⟨rfl, rfl⟩)
              go_ret
              exact ⟨by rw [hbad.out]; rfl, (Below.refl _ _).alloc (Nat.le_refl _) _⟩
            · have hne : ((pos : Int) == 0) = false := by simp; omega
              go_wp2_with (first | (go_at_call 28; refine (isSmall_any _ _).mono ?_; rintro e w' ⟨rfl, rfl⟩) | (go_at_call 26; refine (isDigit_any _ _).mono ?_; rintro e w' ⟨rfl, rfl⟩))
              go_ret
              exact ⟨by rw [hbad.out]; rfl, (Below.refl _ _).alloc (Nat.le_refl _) _⟩
        · have hnx : ∀ ty, (Instr.next (.pointer (some ⟨w.heap.size, 0, none⟩)) true ty).run Try.prog (w.iter s pos) = _ := fun ty => run_next_end w s pos ty hp
          have he : Hid (nam s = true) := by
            refine (nam_of_all ?_).trans hlen.out
            have := hd.out
            obtain rfl : pos = s.size := (by omega)
            exact this
          go_wp2
          go_ret
          exact ⟨by rw [he.out]; rfl, (Below.refl _ _).alloc (Nat.le_refl _) _⟩

set_option maxHeartbeats 400000 in
theorem walkIsName (s : ByteArray) (w : World) (hs : s.size ≤ maxLen) : Calls Try.prog 4 #[.string s] w fun e w' => e = .returned (.bool true) ∧ Below w.heap.size w w' := by
  by_cases hbig : (1048576 : Int) < (s.size : Int)
  · unfold maxLen at hs
    go_enter Try.func4, Try.ntmps4
    go_wp2
    go_ret
    exact ⟨rfl, Below.refl _ _⟩
  · have H : Hid (s.size ≤ maxLen) := hs
    unfold maxLen at hs
    go_enter Try.func4, Try.ntmps4
    go_wp2_with fail
    refine (specIsName s _ H.out).mono ?_
    rintro e w' ⟨rfl, rfl⟩
    go_wp2_with fail
    refine (implIsName s _ H.out).mono ?_
    rintro e w' ⟨rfl, hb⟩
    go_wp2
    go_ret
    exact ⟨rfl, hb⟩
end Go.Proofs.Ytocjbllblggplaa
namespace Go.Proofs.Ytocjbllblggplaa.fnExactIsName
open Go.ChangeShapes Go.WideShapes Go.ChangeAt Go.RowKit
open Go.ChangeMaps (open_string shut_string)
set_option linter.unusedVariables false
set_option maxRecDepth 100000 in
theorem lifted (os : Os) (started : os.Started) (H : Type) (enc : TypeId × Value → H) :
    ReturnsInHanded {} Try.checked os 4 .any (Rows.fnExactIsNameSpec.pre6 enc Try.prog Try.f4 Rows.fnExactIsNameRow.domain false) (Rows.fnExactIsNameSpec.post enc Try.prog Try.f4 false true false false) := by
  refine returnsInHanded_of_change (C := Try.checked) own started (by kernel_rfl) Try.func4
    (ChangeSpec.witness6 (enc := enc) (C := Try.checked) false ⟨#[], #[.string ⟨#[]⟩], []⟩ 8 (by kernel_rfl) (by kernel_rfl) (by kernel_rfl) (by kernel_rfl)) ?_
  intro W base args ds gs before hval0 hW hcnd _
  have hval : ∀ (j : Nat) t v, Try.f4.params[j]? = some t → args[j]? = some v → Value.okWide Try.prog W .any base t v := hval0
  have hW' := hW
  obtain ⟨p, q, hA0, hV, rfl, hfz, hnd⟩ := hW
  have hA : DataW.TrodAll enc Try.prog W 0 (fun _ => true) true Try.f4.params.toList args.toList ds p := hA0
  rw [Try.params4] at hA hval
  obtain ⟨v0, vs0, d0, ds0, p0, q0, hargs, rfl, rfl, h0, r0⟩ := trodAll_cons hA
  obtain ⟨rfl, rfl, rfl⟩ := trodAll_nil r0
  obtain rfl : args = #[v0] := by cases args; simp_all
  obtain ⟨rfl, rfl⟩ := trodVars_none hV
  obtain ⟨s0, rfl, rfl, rfl, hs0⟩ := open_string Try.underlying9 (hval 0 9 v0 rfl rfl) h0
  clear hA0 hval0
  refine (walkIsName s0 W hs0).mono fun e W' ⟨he, bel⟩ => ?_
  subst he
  exact ⟨_, rfl, _, _, _, [], _, [], hW', trodAll_mk1 (shut_bool Try.underlying4 _), (trodAll_cons_mk (shut_string Try.underlying9 hs0) trodAll_mk0), rfl, bel.frame _, fun h => by cases h⟩

theorem proved : Rows.FnExactIsNameSaid :=
  OpenClaim.holds_of_wide 4 Try.f4 rfl rfl rfl rfl rfl rfl rfl ⟨rfl, rfl, rfl, rfl, rfl⟩ rfl rfl rfl rfl rfl (by kernel_rfl) Try.func4 (by kernel_rfl)
    (of_decide_eq_true (by kernel_rfl)) (by unfold Func.isWrapper; first | (rw [if_pos (by decide +kernel)]; kernel_rfl) | (rw [if_neg (by decide +kernel)]; exact ⟨rfl, rfl⟩))
    (fun os started H enc _ => lifted os started H enc)
end Go.Proofs.Ytocjbllblggplaa.fnExactIsName
