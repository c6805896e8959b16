/-
  Contracts for the helper functions of chapter 2 that look at single letters, digits and names: 'isDigit', 'isSmallLetter', both 'IsDigits'; and what the laws over one string share. No conditions.
-/
import Derived.Test.YtocjbllblggplaaDoorRows
import Derived.WalkKit
import Derived.ProofKit
import Derived.OpenShut
import Derived.ShutString
import Derived.ChangeOld
import Derived.Below
import Derived.Lib.Hide
import Derived.Lib.Strings
import Derived.Lib.Slices
import Derived.Lib.Walk
import Derived.Lib.Builder
import Derived.Lib.AppendStr
import Derived.Lib.UnsafeStr
import Derived.Laws.Externs
import Derived.Laws.IdiomCopy
import Derived.Laws.BitsLemmas
import Derived.Test.YtocjbllblggplaaDoorShelf
import Derived.Deep.QuietTactic
import Derived.BigQuiet
import Derived.SliceStrings
import Derived.WalkSmall
import Derived.Carry
import Derived.Laws.CopyOwn
import Derived.Deep.RegionHeld3
namespace Go.Proofs.YtocjbllblggplaaDoor
open Go.ChangeShapes Go.WideShapes Go.ChangeAt Go.RowKit
open Go.ChangeMaps (open_string shut_string)
set_option linter.unusedVariables false

theorem own : ownKnob Tryd.prog.godebug = none := by kernel_rfl
theorem laidOut : laidOutB Tryd.prog = true := by kernel_rfl

/-- A digit's letter, by its number. -/
def dgB (c : Int) : Bool := decide (48 ≤ c) && decide (c ≤ 57)
theorem dgB_true {c : Int} (h : dgB c = true) : 48 ≤ c ∧ c ≤ 57 := by simpa [dgB] using h
theorem dgB_false {c : Int} (h : dgB c = false) : c < 48 ∨ 57 < c := by
  simp [dgB] at h; omega

theorem isDigit_any (c : Int) (w : World) : Calls Tryd.prog 27 #[.int .i32 c] w fun e w' => e = .returned (.bool (dgB c)) ∧ w = w' := by
  cases hb : dgB c
  · rcases dgB_false hb with h | h
    · have h1 : ¬ 48 ≤ c := by omega
      go_enter Tryd.func27, Tryd.ntmps27
      go_wp2
      go_ret
      exact ⟨rfl, rfl⟩
    · have h1 : 48 ≤ c := by omega
      have h2 : ¬ c ≤ 57 := by omega
      go_enter Tryd.func27, Tryd.ntmps27
      go_wp2
      go_ret
      exact ⟨rfl, rfl⟩
  · obtain ⟨h1, h2⟩ := dgB_true hb
    go_enter Tryd.func27, Tryd.ntmps27
    go_wp2
    go_ret
    exact ⟨rfl, rfl⟩

/-- All letters from place k on are digits. -/
def digFrom (s : ByteArray) (k : Nat) : Prop := ∀ i (h : i < s.size), k ≤ i → dgB (s[i].toNat : Int) = true
def digTo (s : ByteArray) (k : Nat) : Prop := ∀ i (h : i < s.size), i < k → dgB (s[i].toNat : Int) = true
/-- What both 'IsDigits' answer. -/
noncomputable def digs (s : ByteArray) : Bool := by classical exact decide (0 < s.size ∧ ∀ i (h : i < s.size), dgB (s[i].toNat : Int) = true)
theorem digs_of_bad {s : ByteArray} {i : Nat} (h : i < s.size) (hb : dgB (s[i].toNat : Int) = false) : digs s = false := by
  simp only [digs, decide_eq_false_iff_not, not_and]
  intro _ ha
  rw [ha i h] at hb
  cases hb
theorem digs_of_all {s : ByteArray} (ha : digTo s s.size) : digs s = decide (0 < s.size) := by
  by_cases h : 0 < s.size
  · simp only [digs, h, decide_true, decide_eq_true_iff]
    exact ⟨trivial, fun i hi => ha i hi hi⟩
  · simp only [digs, h, decide_false, decide_eq_false_iff_not]
    exact fun ⟨a, _⟩ => a
theorem digTo_succ {s : ByteArray} {k : Nat} (h : digTo s k) (hk : k < s.size) (hd : dgB (s[k].toNat : Int) = true) : digTo s (k + 1) := by
  intro i hi hik
  by_cases e : i = k
  · subst e; exact hd
  · exact h i hi (by omega)
theorem digTo_zero (s : ByteArray) : digTo s 0 := fun i _ h => absurd h (Nat.not_lt_zero _)

theorem dgB_of {c : Int} (h1 : 48 ≤ c) (h2 : c ≤ 57) : dgB c = true := by simp [dgB, h1, h2]

theorem toList_length (s : ByteArray) : s.toList.length = s.size := by
  rw [ByteArray.toList_eq]; simp
theorem notEmpty_size (s : ByteArray) : (!s.toList.isEmpty) = decide (0 < s.size) := by
  have := toList_length s
  cases h : s.toList with
  | nil => rw [h] at this; simp at this; simp [← this]
  | cons a l => rw [h] at this; simp at this; simp; omega

set_option maxHeartbeats 400000 in
/-- The model's 'IsDigits'. -/
theorem specIsDigits (s : ByteArray) (w : World) (hs : s.size ≤ maxLen) : Calls Tryd.prog 28 #[.string s] w fun e w' => e = .returned (.bool (digs s)) ∧ w = w' := by
  unfold maxLen at hs
  go_enter Tryd.func28, Tryd.ntmps28
  go_wp2
  go_loop [3] (fun i => ∃ k : Nat, k ≤ s.size ∧ i = .int .i64 k ∧ Hid (digTo s k)) (fun i => s.size - (intOf i).toNat)
  case atStart => exact ⟨0, Nat.zero_le _, rfl, digTo_zero s⟩
  case round =>
    obtain ⟨k, hk, rfl, hd⟩ := hrel
    by_cases hlt : k < s.size
    · cases hb : dgB (s[k].toNat : Int)
      · have H := Lib.hid hb
        have hbad := Lib.hid (digs_of_bad hlt hb)
        have hor := dgB_false hb
        clear hb
        rcases hor with h | h
        · go_wp2
          go_ret
          exact ⟨by rw [hbad.out]; rfl, rfl⟩
        · have h0 : ¬ (s[k].toNat : Int) < 48 := by omega
          go_wp2
          go_ret
          exact ⟨by rw [hbad.out]; rfl, rfl⟩
      · have hd1 : Hid (digTo s (k + 1)) := digTo_succ hd.out hlt hb
        obtain ⟨h1, h2⟩ := dgB_true hb
        have h0 : ¬ (s[k].toNat : Int) < 48 := by omega
        have h3 : ¬ 57 < (s[k].toNat : Int) := by omega
        clear hb
        go_wp2
        go_round
        case rel => exact ⟨k + 1, by omega, by go_num, hd1⟩
        case measure => simp [intOf]; omega
    · have he : Hid (digs s = decide (0 < s.size)) := digs_of_all (by have := hd.out; obtain rfl : k = s.size := (by omega); exact this)
      go_wp2
      go_ret
      exact ⟨by rw [he.out]; rfl, rfl⟩

def smB (c : Int) : Bool := decide (97 ≤ c) && decide (c ≤ 122)
theorem smB_true {c : Int} (h : smB c = true) : 97 ≤ c ∧ c ≤ 122 := by simpa [smB] using h
theorem smB_false {c : Int} (h : smB c = false) : c < 97 ∨ 122 < c := by
  simp [smB] at h; omega

theorem isSmall_any (c : Int) (w : World) : Calls Tryd.prog 26 #[.int .i32 c] w fun e w' => e = .returned (.bool (smB c)) ∧ w = w' := by
  cases hb : smB c
  · rcases smB_false hb with h | h
    · have h1 : ¬ 97 ≤ c := by omega
      go_enter Tryd.func26, Tryd.ntmps26
      go_wp2
      go_ret
      exact ⟨rfl, rfl⟩
    · have h1 : 97 ≤ c := by omega
      have h2 : ¬ c ≤ 122 := by omega
      go_enter Tryd.func26, Tryd.ntmps26
      go_wp2
      go_ret
      exact ⟨rfl, rfl⟩
  · obtain ⟨h1, h2⟩ := smB_true hb
    go_enter Tryd.func26, Tryd.ntmps26
    go_wp2
    go_ret
    exact ⟨rfl, rfl⟩

def lenB (n : Int) : Bool := decide (1 ≤ n) && decide (n ≤ 8)
theorem lenB_true {c : Int} (h : lenB c = true) : 1 ≤ c ∧ c ≤ 8 := by simpa [lenB] using h
theorem lenB_false {c : Int} (h : lenB c = false) : c < 1 ∨ 8 < c := by
  simp [lenB] at h; omega
/-- The letter c may stand at place k of a name. -/
def okB (k : Nat) (c : Int) : Bool := smB c || (decide (k ≠ 0) && dgB c)
def okTo (s : ByteArray) (k : Nat) : Prop := ∀ i (h : i < s.size), i < k → okB i (s[i].toNat : Int) = true
/-- What both 'IsName' answer. -/
noncomputable def nam (s : ByteArray) : Bool := by classical exact decide (lenB (s.size : Int) = true ∧ ∀ i (h : i < s.size), okB i (s[i].toNat : Int) = true)
theorem nam_of_bad {s : ByteArray} {i : Nat} (h : i < s.size) (hb : okB i (s[i].toNat : Int) = false) : nam s = false := by
  simp only [nam, decide_eq_false_iff_not, not_and]
  intro _ ha
  rw [ha i h] at hb
  cases hb
theorem nam_of_len {s : ByteArray} (h : lenB (s.size : Int) = false) : nam s = false := by
  simp [nam, h]
theorem nam_of_all {s : ByteArray} (ha : okTo s s.size) : nam s = lenB (s.size : Int) := by
  cases h : lenB (s.size : Int)
  · exact nam_of_len h
  · simp only [nam, h, decide_eq_true_iff]
    exact ⟨trivial, fun i hi => ha i hi hi⟩
theorem okTo_succ {s : ByteArray} {k : Nat} (h : okTo s k) (hk : k < s.size) (hd : okB k (s[k].toNat : Int) = true) : okTo s (k + 1) := by
  intro i hi hik
  by_cases e : i = k
  · subst e; exact hd
  · exact h i hi (by omega)
theorem okTo_zero (s : ByteArray) : okTo s 0 := fun i _ h => absurd h (Nat.not_lt_zero _)

/-- Which way a letter goes. -/
theorem okB_ways (k : Nat) (c : Int) : (smB c = true ∧ okB k c = true) ∨ (smB c = false ∧ k = 0 ∧ okB k c = false) ∨ (smB c = false ∧ k ≠ 0 ∧ dgB c = true ∧ okB k c = true) ∨ (smB c = false ∧ k ≠ 0 ∧ dgB c = false ∧ okB k c = false) := by
  cases h1 : smB c <;> cases h2 : dgB c <;> by_cases h3 : k = 0 <;> simp [okB, h1, h2, h3]

set_option maxHeartbeats 1000000 in
/-- The program's 'IsName': it ranges over the string's runes. -/
theorem implIsName (s : ByteArray) (w : World) (hs : s.size ≤ maxLen) : Calls Tryd.prog 12 #[.string s] w fun e w' => e = .returned (.bool (nam s)) ∧ Below w.heap.size w w' := by
  unfold maxLen at hs
  by_cases h0 : s.size = 0
  · have hbad := Lib.hid (nam_of_len (s := s) (by simp [lenB]; omega))
    have hemp : s.toList = [] := by
      have := toList_length s
      exact List.eq_nil_of_length_eq_zero (by omega)
    have hemp2 : s.toList.isEmpty = true := by rw [hemp]; rfl
    clear hemp
    go_enter Tryd.func12, Tryd.ntmps12
    go_wp2
    go_ret
    exact ⟨by rw [hbad.out]; rfl, Below.refl _ _⟩
  · have hemp : s.toList.isEmpty = false := by
      have := notEmpty_size s
      cases h : s.toList.isEmpty
      · rfl
      · rw [h] at this; have := of_decide_eq_false (this.symm.trans rfl); omega
    by_cases h8 : (8 : Int) < s.size
    · have hbad := Lib.hid (nam_of_len (s := s) (by simp [lenB]; omega))
      go_enter Tryd.func12, Tryd.ntmps12
      go_wp2
      go_ret
      exact ⟨by rw [hbad.out]; rfl, Below.refl _ _⟩
    · have hlen := Lib.hid (show lenB (s.size : Int) = true by simp [lenB]; omega)
      go_enter Tryd.func12, Tryd.ntmps12
      go_wp2
      go_loopw [3, 4] (fun _ _ w' => ∃ pos : Nat, w' = w.iter s pos ∧ pos ≤ s.size ∧ Hid (okTo s pos)) (fun _ _ w' => s.size - w'.iterPos w.heap.size)
      case atStart => exact ⟨0, rfl, Nat.zero_le _, okTo_zero s⟩
      case round =>
        obtain ⟨pos, rfl, hk, hd⟩ := hrel
        by_cases hp : pos < s.size
        · have hnx : ∀ ty, (Instr.next (.pointer (some ⟨w.heap.size, 0, none⟩)) true ty).run Tryd.prog (w.iter s pos) = _ := fun ty => run_next_any w s pos ty hp
          by_cases ha : (s[pos]'hp).toNat < 128
          · have hdec := decode_ascii s pos hp ha
            rw [hdec] at hnx
            clear hdec
            rcases okB_ways pos (s[pos].toNat : Int) with ⟨hsm, hok⟩ | ⟨hsm, hk0, hok⟩ | ⟨hsm, hk0, hdg, hok⟩ | ⟨hsm, hk0, hdg, hok⟩
            · have hd1 : Hid (okTo s (pos + 1)) := okTo_succ hd.out hp hok
              clear hok
              go_wp2_with (go_at_call 26; refine (isSmall_any _ _).mono ?_; rintro e w' ⟨rfl, rfl⟩)
              go_roundw
              case rel => exact ⟨pos + 1, rfl, by omega, hd1⟩
              case measure => simp; omega
            · have hbad := Lib.hid (nam_of_bad hp hok)
              subst hk0
              clear hok
              go_wp2_with (go_at_call 26; refine (isSmall_any _ _).mono ?_; rintro e w' ⟨rfl, rfl⟩)
              go_ret
              exact ⟨by rw [hbad.out]; rfl, (Below.refl _ _).alloc (Nat.le_refl _) _⟩
            · have hd1 : Hid (okTo s (pos + 1)) := okTo_succ hd.out hp hok
              have hne : ((pos : Int) == 0) = false := by simp; omega
              clear hok
              go_wp2_with (first | (go_at_call 26; refine (isSmall_any _ _).mono ?_; rintro e w' ⟨rfl, rfl⟩) | (go_at_call 27; refine (isDigit_any _ _).mono ?_; rintro e w' ⟨rfl, rfl⟩))
              go_roundw
              case rel => exact ⟨pos + 1, rfl, by omega, hd1⟩
              case measure => simp; omega
            · have hbad := Lib.hid (nam_of_bad hp hok)
              have hne : ((pos : Int) == 0) = false := by simp; omega
              clear hok
              go_wp2_with (first | (go_at_call 26; refine (isSmall_any _ _).mono ?_; rintro e w' ⟨rfl, rfl⟩) | (go_at_call 27; refine (isDigit_any _ _).mono ?_; rintro e w' ⟨rfl, rfl⟩))
              go_ret
              exact ⟨by rw [hbad.out]; rfl, (Below.refl _ _).alloc (Nat.le_refl _) _⟩
          · have hdec := decode_high s pos hp (by omega)
            have hsm : smB ((Utf8.decode s pos).1 : Int) = false := by
              simp [smB]; omega
            have hdg : dgB ((Utf8.decode s pos).1 : Int) = false := by
              simp [dgB]; omega
            have hbad := Lib.hid (nam_of_bad hp (by simp [okB, smB, dgB]; omega))
            clear hdec
            by_cases hk0 : pos = 0
            · subst hk0
              go_wp2_with (go_at_call 26; refine (isSmall_any _ _).mono ?_; rintro e w' ⟨rfl, rfl⟩)
              go_ret
              exact ⟨by rw [hbad.out]; rfl, (Below.refl _ _).alloc (Nat.le_refl _) _⟩
            · have hne : ((pos : Int) == 0) = false := by simp; omega
              go_wp2_with (first | (go_at_call 26; refine (isSmall_any _ _).mono ?_; rintro e w' ⟨rfl, rfl⟩) | (go_at_call 27; refine (isDigit_any _ _).mono ?_; rintro e w' ⟨rfl, rfl⟩))
              go_ret
              exact ⟨by rw [hbad.out]; rfl, (Below.refl _ _).alloc (Nat.le_refl _) _⟩
        · have hnx : ∀ ty, (Instr.next (.pointer (some ⟨w.heap.size, 0, none⟩)) true ty).run Tryd.prog (w.iter s pos) = _ := fun ty => run_next_end w s pos ty hp
          have he : Hid (nam s = true) := by
            refine (nam_of_all ?_).trans hlen.out
            have := hd.out
            obtain rfl : pos = s.size := (by omega)
            exact this
          go_wp2
          go_ret
          exact ⟨by rw [he.out]; rfl, (Below.refl _ _).alloc (Nat.le_refl _) _⟩

theorem sizeBuilder : (Tryd.prog.info? 56).map (·.size) = some 2 := by kernel_rfl
theorem liesBuilder : liesAt Tryd.prog Tryd.prog.depth 56 (2 / Tryd.prog.cellsOf 56) 0 56 1 = true := by kernel_rfl
theorem infoByte : (Tryd.prog.info? 5).map (fun i => (i.zero, i.size, i.bytes)) = some (some (.int .u8 0), 1, 1) := by kernel_rfl
theorem cellsByte : Tryd.prog.cellsOf 5 = 1 := by kernel_rfl

theorem ccUsed (b : Nat) (w : World) (h0 : w.cell? ⟨b, 0, none⟩ = some (.pointer (some ⟨b, 0, none⟩))) :
    Calls Tryd.prog 41 #[.pointer (some ⟨b, 0, none⟩)] w fun e w' => e = .returned (.tuple #[]) ∧ w' = w := by
  obtain ⟨j, hj, _⟩ := Option.map_eq_some_iff.1 (show (Tryd.prog.info? 56).map (·.size) = some 2 by kernel_rfl)
  go_enter Tryd.func41, Tryd.ntmps41
  go_wp2
  rw [Lib.run_neq_ptr_same w _ Tryd.underlying54 hj]
  go_wp2
  go_end0
  exact ⟨rfl, rfl⟩

theorem ccFresh (b : Nat) (w : World) (h0 : w.cell? ⟨b, 0, none⟩ = some (.pointer none)) (hsh : w.shape? b = some (56, 2)) (hfz : w.frozen? ⟨b, 0, none⟩ = false) :
    Calls Tryd.prog 41 #[.pointer (some ⟨b, 0, none⟩)] w fun e w' => e = .returned (.tuple #[]) ∧ w' = w.setCell ⟨b, 0, none⟩ (.pointer (some ⟨b, 0, none⟩)) := by
  obtain ⟨j, hj, hjs⟩ := Option.map_eq_some_iff.1 sizeBuilder
  go_enter Tryd.func41, Tryd.ntmps41
  go_wp2
  rw [Lib.run_to_unsafe w ⟨b, 0, none⟩ Tryd.underlying54 Tryd.underlying77 hj (by rw [hjs]; decide) hsh (Nat.zero_lt_succ 1)]
  simp only [Result.andThen]
  rw [Oper.upon_value]
  go_wp2
  rw [run_callFunc_extern Tryd.func48 (by kernel_rfl) (by kernel_rfl) (by kernel_rfl) (e := Extern.AbiNoEscape.same) (by kernel_rfl)]
  rw [Lib.run_noEscape]
  simp only [Result.andThen]
  rw [Oper.upon_value]
  go_wp2
  rw [Lib.run_from_unsafe w ⟨b, 0, none⟩ Tryd.underlying77 Tryd.underlying54 hj hsh liesBuilder]
  simp only [Result.andThen]
  rw [Oper.upon_value]
  go_wp2
  go_end0
  exact ⟨rfl, rfl⟩

/-- A builder that the call has made: behind copyCheck it is a used one. -/
theorem copyCheck (B b : Nat) (bs : List Value) (w : World) (h : Lib.IsBuilder 56 5 B b bs w) :
    Calls Tryd.prog 41 #[.pointer (some ⟨b, 0, none⟩)] w fun e w' => e = .returned (.tuple #[]) ∧ (Lib.BuilderAt 56 5 B b (.pointer (some ⟨b, 0, none⟩)) bs w' ∧ Below B w w') := by
  rcases h with h | h
  · refine (ccFresh b w h.cell0 h.shape h.frozen0).mono ?_
    rintro e w' ⟨rfl, rfl⟩
    exact ⟨rfl, h.used _, (Below.refl B w).setCell (p := ⟨b, 0, none⟩) h.1 _⟩
  · refine (ccUsed b w h.cell0).mono ?_
    rintro e w' ⟨rfl, rfl⟩
    exact ⟨rfl, h, Below.refl B _⟩

set_option maxHeartbeats 2000000 in
theorem writeString (B b : Nat) (bs : List Value) (s : ByteArray) (w : World) (h : Lib.IsBuilder 56 5 B b bs w) (hlen : bs.length + s.size ≤ 140737488355328) (hBw : B ≤ w.heap.size) :
    Calls Tryd.prog 32 #[.pointer (some ⟨b, 0, none⟩), .string s] w fun e w' => e = .returned (.tuple #[.int .i64 s.size, .nilIface]) ∧ (Lib.BuilderAt 56 5 B b (.pointer (some ⟨b, 0, none⟩)) (bs ++ Lib.strCells s) w' ∧ Below B w w') := by
  obtain ⟨i0, hi, hz0, hz1, hz2⟩ := info_parts infoByte
  go_enter Tryd.func32, Tryd.ntmps32
  go_wp2_with (go_at_call 41; refine (copyCheck B b bs _ h).mono ?_)
  rintro e w1 ⟨rfl, h1, hb1⟩
  obtain ⟨hB, v, hbk, hown, hne⟩ := h1
  have c0 : w1.cell? ⟨b, 0, none⟩ = some (.pointer (some ⟨b, 0, none⟩)) := by rw [Lib.cell_of_heap hbk]; rfl
  have c1 : w1.cell? ⟨b, 1, none⟩ = some v := by rw [Lib.cell_of_heap hbk]; rfl
  go_wp2_with (at_builtin; refine Lib.wpList_append_own_string _ rfl _ _ 22 9 rfl B 5 i0 Tryd.underlying22 Tryd.underlying9 hi hz0 hz1 hz2 _ _ _ rfl hown s rfl ?c3 ?c4 ?c5 ?_)
  case c3 => unfold maxLen; omega
  case c4 => omega
  case c5 => have := hb1.size; omega
  intro v' w2 hown' hgrow _
  have hlt : b < w1.heap.size := by
    rcases Nat.lt_or_ge b w1.heap.size with h' | h'
    · exact h'
    · simp [Array.getElem?_eq_none h'] at hbk
  have hb2 : w2.heap[b]? = some (.cells #[.pointer (some ⟨b, 0, none⟩), v] 56 (0, 0)) := by
    rw [hgrow.block b hlt (fun e => hne e.symm)]
    exact hbk
  have d0 : w2.cell? ⟨b, 0, none⟩ = some (.pointer (some ⟨b, 0, none⟩)) := by rw [Lib.cell_of_heap hb2]; rfl
  have d1 : w2.cell? ⟨b, 1, none⟩ = some v := by rw [Lib.cell_of_heap hb2]; rfl
  have f1 : w2.frozen? ⟨b, 1, none⟩ = false := Lib.frozen_of_heap hb2 1
  obtain ⟨ao, n', cap, rfl⟩ : ∃ ao n' cap, v' = .slice ao n' cap := by
    rcases hown'.2 with ⟨hv, _⟩ | ⟨g, cap, cur, hv, _⟩
    · exact ⟨_, _, _, hv⟩
    · exact ⟨_, _, _, hv⟩
  go_wp2
  go_ret2
  refine ⟨rfl, ?_, ?_⟩
  · exact Lib.BuilderAt.put (T := 56) (e := 5) hB hb2 (bs' := bs ++ Lib.strCells s) (by simpa [Lib.strCells_length] using hown') (by decide)
  · exact (hb1.grown hgrow (by have := hb1.size; omega) (fun k hk => (hown.lt k hk).1)).setCell (p := ⟨b, 1, none⟩) hB _

/-- A slice of strings that can be read: its elements are l. -/
def StrRow (w : World) (a : Option Addr) (l : List ByteArray) : Prop :=
  l = [] ∨ ∃ b off, a = some ⟨b, off, none⟩ ∧ b < w.heap.size ∧ ∀ j, j < l.length → w.cell? ⟨b, off + j, none⟩ = some (.string (l.getD j ByteArray.empty))

theorem StrRow.below {w w' : World} {a : Option Addr} {l : List ByteArray} (h : StrRow w a l) (hb : Below w.heap.size w w') : StrRow w' a l := by
  rcases h with h | ⟨b, off, ha, hlt, hc⟩
  · exact .inl h
  · exact .inr ⟨b, off, ha, Nat.lt_of_lt_of_le hlt hb.size, fun j hj => (hb.cell hlt).trans (hc j hj)⟩

/-- The text of the first k strings, 'by' between them. -/
def jnTo (y : ByteArray) (l : List ByteArray) : Nat → List UInt8
  | 0 => []
  | k + 1 => (if k = 0 then [] else jnTo y l k ++ y.data.toList) ++ (l.getD k ByteArray.empty).data.toList

theorem jn_step (y : ByteArray) (l : List ByteArray) (k : Nat) : (jnTo y l k).length ≤ (jnTo y l (k + 1)).length := by
  cases k with
  | zero => simp [jnTo]
  | succ k => simp [jnTo]
theorem jn_mono (y : ByteArray) (l : List ByteArray) (k : Nat) : ∀ m, k ≤ m → (jnTo y l k).length ≤ (jnTo y l m).length := by
  intro m h
  induction m with
  | zero => obtain rfl : k = 0 := (by omega); exact Nat.le_refl _
  | succ m ih =>
    by_cases e : k = m + 1
    · subst e; exact Nat.le_refl _
    · exact Nat.le_trans (ih (by omega)) (jn_step y l m)
theorem jn_one (y : ByteArray) (l : List ByteArray) : jnTo y l (0 + 1) = (l.getD 0 ByteArray.empty).data.toList := by simp [jnTo]
theorem jn_more (y : ByteArray) (l : List ByteArray) (k : Nat) (h : k ≠ 0) : jnTo y l (k + 1) = jnTo y l k ++ y.data.toList ++ (l.getD k ByteArray.empty).data.toList := by simp [jnTo, h]

theorem freshB (w : World) : Lib.IsBuilder 56 5 w.heap.size w.heap.size (Lib.byteCells []) (w.alloc (.cells #[.pointer none, .slice none 0 0] 56)) := Lib.fresh_isBuilder 56 5 w

set_option maxHeartbeats 2000000 in
theorem joinParts_any (y : ByteArray) (a : Option Addr) (cap : Nat) (l : List ByteArray) (w : World) (hl : l.length ≤ 8796093022208) (hrow : StrRow w a l) (hsz : (jnTo y l l.length).length ≤ 140737488355328) :
    Calls Tryd.prog 23 #[.string y, .slice a l.length cap] w fun e w' => e = .returned (.string ⟨(jnTo y l l.length).toArray⟩) ∧ Below w.heap.size w w' := by
  have h0 := freshB w
  have b0 : Below w.heap.size w (w.alloc (.cells #[.pointer none, .slice none 0 0] 56)) := (Below.refl _ w).alloc (Nat.le_refl _) _
  go_enter Tryd.func23, Tryd.ntmps23
  go_wp2
  go_loopw [10] (fun i wr => ∃ k : Nat, k ≤ l.length ∧ i = .int .i64 k ∧ Lib.IsBuilder 56 5 w.heap.size w.heap.size (Lib.byteCells (jnTo y l k)) wr ∧ Below w.heap.size w wr) (fun i _ => l.length - (intOf i).toNat)
  case atStart => exact ⟨0, Nat.zero_le _, rfl, h0, b0⟩
  case round =>
    obtain ⟨k, hk, rfl, hB, hb⟩ := hrel
    by_cases hlt : k < l.length
    · rcases hrow with he | ⟨b, off, rfl, hbl, hc⟩
      · exfalso; rw [he] at hlt; simp at hlt
      · obtain ⟨x, hx⟩ : ∃ x, x = l.getD k ByteArray.empty := ⟨_, rfl⟩
        have hcx : wr.cell? ⟨b, off + k, none⟩ = some (.string x) := by rw [hx]; exact (hb.cell hbl).trans (hc k hlt)
        have hm1 := jn_mono y l (k + 1) l.length hlt
        have HS : Hid (jnTo y l (k + 1) = (if k = 0 then [] else jnTo y l k ++ y.data.toList) ++ x.data.toList) := by rw [hx]; rfl
        have hz : (jnTo y l (k + 1)).length = (if k = 0 then 0 else (jnTo y l k).length + y.size) + x.size := by
          rw [HS.out, Lib.size_eq, Lib.size_eq]; split <;> simp <;> omega
        clear hc hx
        by_cases hk0 : k = 0
        · rw [if_pos hk0] at hz
          have hB0 : Lib.IsBuilder 56 5 w.heap.size w.heap.size [] wr := by rw [hk0] at hB; exact hB
          have hk1 : ¬ (0 : Int) < (k : Int) := by omega
          have hk2 : ¬ 0 < k := by omega
          have hsx : x.size ≤ 140737488355328 := by omega
          have H0 := Lib.hid hk0
          clear hk0 hz hm1
          go_wp2_with (go_at_call 32; refine (writeString w.heap.size w.heap.size _ _ _ hB0 (by simpa using hsx) hb.size).mono ?_; rintro e w' ⟨rfl, hB2, hb2⟩)
          have hB3 : Lib.IsBuilder 56 5 w.heap.size w.heap.size (Lib.byteCells (jnTo y l (k + 1))) w' := by
            rw [HS.out, if_pos H0.out]; exact .inr hB2
          go_roundw
          case rel => exact ⟨k + 1, by omega, by go_num, hB3, hb.trans hb2⟩
          case measure => simp [intOf]; omega
        · rw [if_neg hk0] at hz
          have hk1 : (0 : Int) < (k : Int) := by omega
          have hk2 : 0 < k := by omega
          have hsy : (Lib.byteCells (jnTo y l k)).length + y.size ≤ 140737488355328 := by rw [Lib.byteCells_length]; omega
          have hsx : (Lib.byteCells (jnTo y l k) ++ Lib.strCells y).length + x.size ≤ 140737488355328 := by rw [List.length_append, Lib.byteCells_length, Lib.strCells_length]; omega
          have H0 := Lib.hid hk0
          clear hk0 hz hm1
          go_wp2_with fail
          refine (writeString w.heap.size w.heap.size _ _ _ hB hsy hb.size).mono ?_
          rintro e w' ⟨rfl, hB2, hb2⟩
          go_wp2_with fail
          refine (writeString w.heap.size w.heap.size _ _ _ (.inr hB2) hsx (Nat.le_trans hb.size hb2.size)).mono ?_
          rintro e w'' ⟨rfl, hB3, hb3⟩
          have hB4 : Lib.IsBuilder 56 5 w.heap.size w.heap.size (Lib.byteCells (jnTo y l (k + 1))) w'' := by
            rw [HS.out, if_neg H0.out, Lib.byteCells_append, Lib.byteCells_append]; exact .inr hB3
          go_wp2
          go_roundw
          case rel => exact ⟨k + 1, by omega, by go_num, hB4, (hb.trans hb2).trans hb3⟩
          case measure => simp [intOf]; omega
    · obtain rfl : k = l.length := by omega
      go_wp2_with (go_at_call 33; refine (Tryd.Builder_String_any w.heap.size w.heap.size _ _ hB hb.size).mono ?_; rintro e w' ⟨rfl, hb2⟩)
      go_ret
      exact ⟨rfl, hb.trans hb2⟩

theorem data_append (A B : ByteArray) : (A ++ B).data.toList = A.data.toList ++ B.data.toList := by simp
theorem of_data {A : ByteArray} {l : List UInt8} (h : A.data.toList = l) : A = ⟨l.toArray⟩ := by
  subst h; exact (Lib.mk_data A).symm

theorem getD_mem {l : List ByteArray} {k : Nat} (h : k < l.length) : l.getD k ByteArray.empty ∈ l := by
  rw [List.getD_eq_getElem?_getD, List.getElem?_eq_getElem h]; exact List.getElem_mem h

def szTo (l : List ByteArray) : Nat → Int
  | 0 => 0
  | k + 1 => szTo l k + (l.getD k ByteArray.empty).size
theorem szTo_pos (l : List ByteArray) : ∀ k, 0 ≤ szTo l k
  | 0 => Int.le_refl _
  | k + 1 => by have := szTo_pos l k; simp only [szTo]; omega
theorem szTo_mono (l : List ByteArray) (k : Nat) : ∀ m, k ≤ m → szTo l k ≤ szTo l m := by
  intro m h
  induction m with
  | zero => obtain rfl : k = 0 := (by omega); exact Int.le_refl _
  | succ m ih =>
    by_cases e : k = m + 1
    · subst e; exact Int.le_refl _
    · have := ih (by omega); simp only [szTo]; omega
/-- What 'szStringS' answers at the bound that the laws give it. -/
def szR (l : List ByteArray) : Int := if 1048576 < l.length + szTo l l.length then -1 else 1048576 - (l.length + szTo l l.length)

theorem infoStr : (Tryd.prog.info? 9).map (fun i => (i.zero, i.size, i.bytes)) = some (some (.string ⟨#[]⟩), 1, 16) := by kernel_rfl

/-- The cells of a new row while the strings of l are copied into it one by one. -/
def cpTo (l : List ByteArray) (k : Nat) : List Value := (l.take k).map Value.string ++ List.replicate (l.length - k) (.string ⟨#[]⟩)
theorem cpTo_set (l : List ByteArray) (k : Nat) (h : k < l.length) : (cpTo l k).set k (.string (l.getD k ByteArray.empty)) = cpTo l (k + 1) := by
  unfold cpTo
  rw [List.set_append, if_neg (by simp; omega)]
  have e1 : k - ((l.take k).map Value.string).length = 0 := by simp; omega
  have e2 : l.length - k = (l.length - (k + 1)) + 1 := by omega
  rw [e1, e2, List.replicate_succ, List.set_cons_zero, List.take_succ_eq_append_getElem h, List.map_append, List.append_assoc, List.getD_eq_getElem?_getD, List.getElem?_eq_getElem h]
  rfl
theorem cpTo_all (l : List ByteArray) : cpTo l l.length = l.map Value.string := by simp [cpTo]

theorem StrRow.of_own {w : World} {B g : Nat} {l : List ByteArray} (h : w.ownsRow B 9 1 (.slice (some ⟨g, 0, none⟩) l.length l.length) l.length (l.map Value.string)) : StrRow w (some ⟨g, 0, none⟩) l := by
  refine .inr ⟨g, 0, rfl, (h.lt g rfl).2, fun j hj => ?_⟩
  rw [Nat.zero_add, h.cellAt j (by omega)]
  simp [List.getElem?_eq_getElem hj]

/-- A slice of strings that came in. -/
theorem openStr {H : Type} {enc : TypeId × Value → H} {P : Program} {w : World} {base : Nat} {spare : Nat → Bool} {held : Bool} {t e : TypeId} {a : Option Addr} {len cap : Nat} {d : DataW H} {ps : List MemPlace}
    (ht : P.underlying t = some (.slice e)) (he : P.underlying e = some .string) (hc : P.cellsOf e = 1)
    (h : DataW.Trod enc P w base spare held t (.slice a len cap) d ps) : ∃ l : List ByteArray, len = l.length ∧ l.length ≤ maxLen ∧ StrRow w a l ∧ ∀ s ∈ l, s.size ≤ maxLen := by
  obtain ⟨fuel, hf⟩ := h
  rcases open_strings ht he hc hf with ⟨hcs, _⟩ | ⟨x, n, c, ss, hcs, _, hl, hm, hz, _, hcell, hss⟩
  · simp [Value.cells] at hcs
    obtain ⟨rfl, rfl, rfl⟩ := hcs
    exact ⟨[], rfl, by simp, .inl rfl, by simp⟩
  · simp [Value.cells] at hcs
    obtain ⟨rfl, rfl, rfl⟩ := hcs
    have hge : len ≤ ss.length := by rw [hz]; split <;> omega
    have hle : (ss.take len).length = len := by simp; omega
    refine ⟨ss.take len, hle.symm, by omega, ?_, fun s hs => hss s (List.mem_of_mem_take hs)⟩
    by_cases h0 : len = 0
    · subst h0; exact .inl rfl
    · obtain ⟨b, off, spot⟩ := x
      have hspot : spot = none := by simpa [Addr.add] using World.cell?_spot (hcell 0 (by omega))
      subst hspot
      have hb : b < w.heap.size := by
        have := hcell 0 (by omega)
        rcases Nat.lt_or_ge b w.heap.size with h' | h'
        · exact h'
        · simp [World.cell?, Addr.add, Array.getElem?_eq_none h'] at this
      refine .inr ⟨b, off, rfl, hb, fun j hj => ?_⟩
      have := hcell j (by omega)
      rw [show (ss.take len).getD j ByteArray.empty = ss.getD j ByteArray.empty by
        rw [List.getD_eq_getElem?_getD, List.getD_eq_getElem?_getD, List.getElem?_take, if_pos (by omega)]]
      by_cases hj0 : j = 0
      · subst hj0; simpa [Addr.add] using this
      · simpa [Addr.add, hj0] using this

theorem implJoin (y : ByteArray) (a : Option Addr) (cap : Nat) (l : List ByteArray) (w : World) (hl : l.length ≤ 8796093022208) (hrow : StrRow w a l) (hsz : (jnTo y l l.length).length ≤ 140737488355328) :
    Calls Tryd.prog 10 #[.slice a l.length cap, .string y] w fun e w' => e = .returned (.string ⟨(jnTo y l l.length).toArray⟩) ∧ Below w.heap.size w w' := by
  go_enter Tryd.func10, Tryd.ntmps10
  go_wp2_with fail
  refine (joinParts_any y a cap l w hl hrow hsz).mono ?_
  rintro e w' ⟨rfl, hb⟩
  go_wp2
  go_ret
  exact ⟨rfl, hb⟩

theorem jn_size (y : ByteArray) (l : List ByteArray) : ∀ k, ((jnTo y l k).length : Int) ≤ (k * y.size : Nat) + szTo l k
  | 0 => by simp [jnTo, szTo]
  | k + 1 => by
    have ih := jn_size y l k
    have hp := szTo_pos l k
    by_cases hk : k = 0
    · subst hk
      rw [jn_one]
      simp only [szTo]
      rw [← Lib.size_eq]
      omega
    · rw [jn_more _ _ _ hk]
      simp only [szTo, List.length_append]
      rw [← Lib.size_eq, ← Lib.size_eq, Nat.succ_mul]
      omega

def tab0 : Array Value := Array.replicate 256 (.bool false)
/-- Byte c occurs among the first k bytes of y. -/
noncomputable def occB (y : ByteArray) (k c : Nat) : Bool := by classical exact decide (∃ j, ∃ h : j < y.size, j < k ∧ y[j].toNat = c)
noncomputable def tab (y : ByteArray) (k : Nat) : Array Value := Array.ofFn (n := 256) fun c => .bool (occB y k c.val)
theorem tab_size (y : ByteArray) (k : Nat) : (tab y k).size = 256 := by simp [tab]
theorem tab_at (y : ByteArray) (k c : Nat) (h : c < 256) : (tab y k)[c]? = some (.bool (occB y k c)) := by
  unfold tab
  rw [Array.getElem?_ofFn, dif_pos h]
theorem occB_zero (y : ByteArray) (c : Nat) : occB y 0 c = false := by
  simp [occB]
theorem tab_zero (y : ByteArray) : tab y 0 = tab0 := by
  apply Array.ext_getElem?
  intro c
  by_cases h : c < 256
  · rw [tab_at y 0 c h, occB_zero]
    simp [tab0, h]
  · rw [Array.getElem?_eq_none (by rw [tab_size]; omega), Array.getElem?_eq_none (by simp [tab0]; omega)]
theorem occB_succ (y : ByteArray) (k c : Nat) (h : k < y.size) : occB y (k + 1) c = (occB y k c || decide (y[k].toNat = c)) := by
  rw [Bool.eq_iff_iff]
  simp only [occB, decide_eq_true_iff, Bool.or_eq_true]
  constructor
  · rintro ⟨j, hj, hjk, e⟩
    by_cases e2 : j = k
    · subst e2; exact .inr e
    · exact .inl ⟨j, hj, by omega, e⟩
  · rintro (⟨j, hj, hjk, e⟩ | e)
    · exact ⟨j, hj, by omega, e⟩
    · exact ⟨k, h, by omega, e⟩
theorem tab_succ (y : ByteArray) (k : Nat) (h : k < y.size) : (tab y k).setIfInBounds y[k].toNat (.bool true) = tab y (k + 1) := by
  have h8 : y[k].toNat < 256 := y[k].toNat_lt
  apply Array.ext_getElem?
  intro c
  by_cases hc : c < 256
  · rw [tab_at y (k + 1) c hc, occB_succ y k c h, Array.getElem?_setIfInBounds]
    by_cases e : y[k].toNat = c
    · subst e
      rw [if_pos rfl, if_pos (by rw [tab_size]; omega)]
      simp
    · rw [if_neg e, tab_at y k c hc]
      simp [e]
  · rw [Array.getElem?_eq_none (by rw [Array.size_setIfInBounds, tab_size]; omega), Array.getElem?_eq_none (by rw [tab_size]; omega)]

theorem info36 : (Tryd.prog.info? 46).map (·.size) = some 256 := by kernel_rfl
theorem tab_one (y : ByteArray) (k : Nat) : (tab y k).all (·.oneCell') = true := by
  rw [Array.all_eq_true_iff_forall_mem]
  intro v hv
  unfold tab at hv
  rw [Array.mem_ofFn] at hv
  obtain ⟨i, rfl⟩ := hv
  rfl

set_option maxHeartbeats 1000000 in
theorem bytesIn_any (y : ByteArray) (w : World) (hy : y.size ≤ maxLen) :
    Calls Tryd.prog 24 #[.string y] w fun e w' => e = .returned (.agg (tab y y.size)) ∧ Below w.heap.size w w' := by
  unfold maxLen at hy
  have hz : ∀ w : World, (zeroValue 46).run Tryd.prog w = .ok (.agg tab0) w := fun w => by kernel_rfl
  go_enter Tryd.func24, Tryd.ntmps24
  go_wp2
  have hs0 : ((w.alloc (.cells tab0 46)).alloc (.cells tab0 46)).heap[w.heap.size]? = some (.cells tab0 46 (0, 0)) := heap_alloc2_old w _ _
  have hs1 : ((w.alloc (.cells tab0 46)).alloc (.cells tab0 46)).heap[w.heap.size + 1]? = some (.cells (tab y 0) 46 (0, 0)) := by rw [tab_zero]; exact heap_alloc2_new w _ _
  have hsb : Below w.heap.size w ((w.alloc (.cells tab0 46)).alloc (.cells tab0 46)) := ((Below.refl _ w).alloc (Nat.le_refl _) _).alloc (by simp) _
  have S0 := Lib.hid hs0
  have S1 := Lib.hid hs1
  clear hs0 hs1 hz
  go_loopw [4, 7] (fun _ i wr => ∃ k : Nat, k ≤ y.size ∧ i = .int .i64 k ∧ Hid (wr.heap[w.heap.size]? = some (.cells tab0 46 (0, 0))) ∧ Hid (wr.heap[w.heap.size + 1]? = some (.cells (tab y k) 46 (0, 0))) ∧ Below w.heap.size w wr) (fun _ i _ => y.size - (intOf i).toNat)
  case atStart => exact ⟨0, Nat.zero_le _, rfl, S0.out, S1.out, hsb⟩
  case round =>
    obtain ⟨k, hk, rfl, h0, h1, hb⟩ := hrel
    by_cases hlt : k < y.size
    · have h8 : y[k].toNat < 256 := y[k].toNat_lt
      have hcell : wr.cell? ⟨w.heap.size + 1, y[k].toNat, none⟩ = some (.bool (occB y k y[k].toNat)) := by
        rw [cell_of_row _ _ _ _ _ _ h1.out, tab_at _ _ _ h8]
      have hfr : wr.frozen? ⟨w.heap.size + 1, y[k].toNat, none⟩ = false := frozen_of_row _ _ _ _ _ h1.out
      have h0' : Hid ((wr.setCell ⟨w.heap.size + 1, y[k].toNat, none⟩ (.bool true)).heap[w.heap.size]? = some (.cells tab0 46 (0, 0))) := by
        show _ = _; rw [heap_setCell_other _ _ _ _ (by simp)]; exact h0.out
      have h1' : Hid ((wr.setCell ⟨w.heap.size + 1, y[k].toNat, none⟩ (.bool true)).heap[w.heap.size + 1]? = some (.cells (tab y (k + 1)) 46 (0, 0))) := by
        show _ = _; rw [heap_setCell_same _ _ _ _ _ _ h1.out, tab_succ y k hlt]
      have hb' : Below w.heap.size w (wr.setCell ⟨w.heap.size + 1, y[k].toNat, none⟩ (.bool true)) := hb.setCell (p := ⟨w.heap.size + 1, y[k].toNat, none⟩) (by simp) _
      go_wp2
      go_roundw
      case rel => exact ⟨k + 1, by omega, by go_num, h0', h1', hb'⟩
      case measure => simp [intOf]; omega
    · obtain rfl : k = y.size := by omega
      have H0 := h0.out
      have H1 := h1.out
      clear h0 h1
      go_wp2_with (first | (refine wpList_load_row rfl 46 _ rfl (w.heap.size + 1) rfl 46 _ _ _ H1 Tryd.underlying46 rfl (by rw [tab_size]; exact info36) ?_) | (refine wpList_store_row rfl 46 _ _ rfl w.heap.size (tab y y.size) rfl rfl 46 tab0 H0 (by rw [tab_size]; exact info36) (by rw [tab_size]; simp [tab0]) (tab_one _ _) ?_))
      have H2 := setRow_heap wr w.heap.size tab0 (tab y y.size) 46 (0, 0) H0
      refine bodyPost_ret (v := .agg (tab y y.size)) (results_cell_row rfl _ _ w.heap.size 46 _ _ _ rfl H2 Tryd.underlying46 rfl (by rw [tab_size]; exact info36)) rfl ⟨rfl, ?_⟩
      exact below_setRow hb (Nat.le_refl _) _

theorem clone_any (s : ByteArray) (w : World) (hlim : s.size ≤ 281474976710656) :
    Calls Tryd.prog 25 #[.string s] w fun e w' => e = .returned (.string s) ∧ Below w.heap.size w w' := by
  go_enter Tryd.func25, Tryd.ntmps25
  go_wp2_with fail
  refine (Tryd.stringslite_Clone s w hlim).mono ?_
  rintro e w' ⟨rfl, hb⟩
  go_wp2
  go_ret
  exact ⟨rfl, hb⟩

/-- The parts before letter i, and where the next part begins. -/
noncomputable def spl (s y : ByteArray) : Nat → List ByteArray × Nat
  | 0 => ([], 0)
  | i + 1 => if occB y y.size (s.data.toList.getD i 0).toNat = true then ((spl s y i).1 ++ [s.extract (spl s y i).2 i], i + 1) else spl s y i
noncomputable def splL (s y : ByteArray) : List ByteArray := (spl s y s.size).1 ++ [s.extract (spl s y s.size).2 s.size]

theorem getD_data (s : ByteArray) (k : Nat) (h : k < s.size) : s.data.toList.getD k 0 = s[k] := by
  rw [List.getD_eq_getElem?_getD, Array.getElem?_toList, Array.getElem?_eq_getElem (show k < s.data.size from h)]
  rfl

theorem spl_hit (s y : ByteArray) (k : Nat) (ps : List ByteArray) (fr : Nat) (h : spl s y k = (ps, fr)) (hk : k < s.size) (ho : occB y y.size s[k].toNat = true) :
    spl s y (k + 1) = (ps ++ [s.extract fr k], k + 1) := by
  simp only [spl, getD_data s k hk, ho, if_true, h]
theorem spl_miss (s y : ByteArray) (k : Nat) (ps : List ByteArray) (fr : Nat) (h : spl s y k = (ps, fr)) (hk : k < s.size) (ho : occB y y.size s[k].toNat = false) :
    spl s y (k + 1) = (ps, fr) := by
  simp only [spl, getD_data s k hk, ho, if_false, h, Bool.false_eq_true]

theorem own_below {w w' : World} {B : Nat} {e : TypeId} {size : Nat} {v : Value} {n : Nat} {xs : List Value} (h : w.ownsRow B e size v n xs) (hb : Below w.heap.size w w') : w'.ownsRow B e size v n xs := by
  have hg : w.grownBy w' (some w.heap.size) := ⟨hb.os, hb.tape, hb.output, hb.size, fun k hk _ => hb.block k hk⟩
  refine h.kept hg (.inr ?_)
  intro e
  have := (h.lt w.heap.size e).2
  omega
theorem keep_row {w w' : World} {b : Nat} {o : Obj} (h : w.heap[b]? = some o) (hb : Below w.heap.size w w') : w'.heap[b]? = some o := by
  rcases Nat.lt_or_ge b w.heap.size with h' | h'
  · rw [hb.block b h']; exact h
  · simp [Array.getElem?_eq_none h'] at h

set_option maxHeartbeats 4000000 in
theorem implSplitAny (s y : ByteArray) (w : World) (hs : s.size ≤ 1048576) (hy : y.size ≤ maxLen) :
    Calls Tryd.prog 11 #[.string s, .string y] w fun e w' => (∃ v, e = .returned v ∧ w'.ownsRow w.heap.size 9 1 v (splL s y).length ((splL s y).map Value.string)) ∧ Below w.heap.size w w' := by
  obtain ⟨i0, hi, hz0, hz1, hz2⟩ := info_parts infoStr
  have HY := Lib.hid hy
  unfold maxLen at hy
  have hz : ∀ w : World, (zeroValue 46).run Tryd.prog w = .ok (.agg tab0) w := fun w => by kernel_rfl
  go_enter Tryd.func11, Tryd.ntmps11
  go_wp2_with fail
  refine (bytesIn_any y w HY.out).mono ?_
  rintro e w1 ⟨rfl, hb1⟩
  have hn1 : (w1.alloc (.cells tab0 46)).heap[w1.heap.size]? = some (.cells tab0 46 (0, 0)) := heap_alloc_new w1 _
  go_wp2_with (refine wpList_store_row rfl 46 _ _ rfl w1.heap.size (tab y y.size) rfl rfl 46 tab0 hn1 (by rw [tab_size]; exact info36) (by rw [tab_size]; simp [tab0]) (tab_one _ _) ?_)
  have hW0 : ∃ W0 : World, W0 = ((w1.alloc (.cells tab0 46)).setRow w1.heap.size (tab y y.size)).alloc (.cells #[] 9) := ⟨_, rfl⟩
  have hB0 : Below w.heap.size w (((w1.alloc (.cells tab0 46)).setRow w1.heap.size (tab y y.size)).alloc (.cells #[] 9)) := by
    have h1 := hb1.size
    exact (below_setRow (hb1.alloc h1 _) h1 _).alloc (by simp; omega) _
  have hO0 : (((w1.alloc (.cells tab0 46)).setRow w1.heap.size (tab y y.size)).alloc (.cells #[] 9)).ownsRow w.heap.size 9 1 (.slice (some ⟨w1.heap.size + 1, 0, none⟩) 0 0) ([] : List ByteArray).length (([] : List ByteArray).map Value.string) := by
    have h1 := hb1.size
    have := World.ownsRow_lit (base := w.heap.size) (e := 9) (size := 1) ((w1.alloc (.cells tab0 46)).setRow w1.heap.size (tab y y.size)) #[] 0 (by simp; omega) (by simp) rfl
    simpa using this
  have hT0 : Hid ((((w1.alloc (.cells tab0 46)).setRow w1.heap.size (tab y y.size)).alloc (.cells #[] 9)).heap[w1.heap.size]? = some (.cells (tab y y.size) 46 (0, 0))) := by
    show _ = _
    rw [Lib.alloc_old _ _ _ (by simp), setRow_heap _ _ _ _ _ _ hn1]
  have hnb := hb1.size
  clear hn1 hz hW0
  go_loopw [6, 7, 8, 14] (fun out fm _ i wr => ∃ (k fr : Nat) (ps : List ByteArray), k ≤ s.size ∧ i = .int .i64 k ∧ fm = .int .i64 fr ∧ fr ≤ k ∧ ps.length ≤ k ∧ Hid (spl s y k = (ps, fr)) ∧ wr.ownsRow w.heap.size 9 1 out ps.length (ps.map Value.string) ∧ Hid (wr.heap[w1.heap.size]? = some (.cells (tab y y.size) 46 (0, 0))) ∧ Below w.heap.size w wr) (fun _ _ _ i _ => s.size - (intOf i).toNat)
  case atStart => exact ⟨0, 0, [], Nat.zero_le _, rfl, rfl, Nat.le_refl _, Nat.le_refl _, rfl, hO0, hT0, hB0⟩
  case round =>
    obtain ⟨k, fr, ps, hk, rfl, rfl, hfr, hps, hsp, hown, hT, hb⟩ := hrel
    by_cases hlt : k < s.size
    · have h8 : s[k].toNat < 256 := s[k].toNat_lt
      have hcell : wr.cell? ⟨w1.heap.size, s[k].toNat, none⟩ = some (.bool (occB y y.size s[k].toNat)) := by
        rw [cell_of_row _ _ _ _ _ _ hT.out, tab_at _ _ _ h8]
      cases ho : occB y y.size s[k].toNat
      · rw [ho] at hcell
        have hsp1 : Hid (spl s y (k + 1) = (ps, fr)) := spl_miss s y k ps fr hsp.out hlt ho
        clear ho
        go_wp2
        go_roundw
        case rel => exact ⟨k + 1, fr, ps, by omega, by go_num, rfl, by omega, by omega, hsp1, hown, hT, hb⟩
        case measure => simp [intOf]; omega
      · rw [ho] at hcell
        have hsp1 : Hid (spl s y (k + 1) = (ps ++ [s.extract fr k], k + 1)) := spl_hit s y k ps fr hsp.out hlt ho
        clear ho
        go_wp2_with fail
        refine (clone_any _ _ (by simp; omega)).mono ?_
        rintro e w2 ⟨rfl, hb2⟩
        have hown2 := own_below hown hb2
        have hT2 : Hid (w2.heap[w1.heap.size]? = some (.cells (tab y y.size) 46 (0, 0))) := keep_row hT.out hb2
        have hb3 : Below w.heap.size w w2 := hb.trans (hb2.mono hb.size)
        clear hown hT hb hb2 hcell
        go_wp2_with (at_builtin; refine wpList_append_own _ rfl _ _ 29 rfl w.heap.size 9 i0 (.string ⟨#[]⟩) 1 16 Tryd.underlying29 hi hz0 hz1 hz2 rfl (by decide) _ _ _ rfl (hown2.alloc _) ⟨w2.heap.size, 0, none⟩ 1 1 [.string (s.extract fr k)] rfl rfl ?c1 ?c2 ?c3 ?c4 ?c5 ?_)
        case c1 =>
          intro j u hj
          match j, hj with
          | 0, hj => simp at hj; subst hj; simp [Addr.add]
        case c2 => intro u hu; simp at hu; subst hu; rfl
        case c3 => unfold maxLen; omega
        case c4 => omega
        case c5 => have := hb3.size; simp; omega
        intro v' w3 hown' hgrow _
        have hne := Lib.ownBlock_ne hown2 hT2.out (by decide)
        have hT3 : Hid (w3.heap[w1.heap.size]? = some (.cells (tab y y.size) 46 (0, 0))) := by
          have hlt2 : w1.heap.size < w2.heap.size := by
            rcases Nat.lt_or_ge w1.heap.size w2.heap.size with h' | h'
            · exact h'
            · have := hT2.out; simp [Array.getElem?_eq_none h'] at this
          show _ = _
          rw [hgrow.block w1.heap.size (by simp; omega) (fun e => hne e.symm), Lib.alloc_old w2 _ _ hlt2]
          exact hT2.out
        have hb4 : Below w.heap.size w w3 := (hb3.alloc hb3.size _).grown hgrow (by have := hb3.size; simp; omega) (fun k hk => (hown2.lt k hk).1)
        have hown3 : w3.ownsRow w.heap.size 9 1 v' (ps ++ [s.extract fr k]).length ((ps ++ [s.extract fr k]).map Value.string) := by
          simpa using hown'
        have H3 := Lib.hid hown3
        clear hown3 hown' hgrow hne hT2 hown2 hb3
        go_wp2
        go_roundw
        case rel => exact ⟨k + 1, k + 1, ps ++ [s.extract fr k], by omega, by go_num, by go_num, Nat.le_refl _, by simp; omega, hsp1, H3.out, hT3, hb4⟩
        case measure => simp [intOf]; omega
    · obtain rfl : k = s.size := by omega
      have hL : Hid (splL s y = ps ++ [s.extract fr s.size]) := by
        show _ = _
        unfold splL; rw [hsp.out]
      go_wp2_with fail
      refine (clone_any _ _ (by simp; omega)).mono ?_
      rintro e w2 ⟨rfl, hb2⟩
      have hown2 := own_below hown hb2
      have hb3 : Below w.heap.size w w2 := hb.trans (hb2.mono hb.size)
      clear hown hT hb hb2
      go_wp2_with (at_builtin; refine wpList_append_own _ rfl _ _ 29 rfl w.heap.size 9 i0 (.string ⟨#[]⟩) 1 16 Tryd.underlying29 hi hz0 hz1 hz2 rfl (by decide) _ _ _ rfl (hown2.alloc _) ⟨w2.heap.size, 0, none⟩ 1 1 [.string (s.extract fr s.size)] rfl rfl ?d1 ?d2 ?d3 ?d4 ?d5 ?_)
      case d1 =>
        intro j u hj
        match j, hj with
        | 0, hj => simp at hj; subst hj; simp [Addr.add]
      case d2 => intro u hu; simp at hu; subst hu; rfl
      case d3 => unfold maxLen; omega
      case d4 => omega
      case d5 => have := hb3.size; simp; omega
      intro v' w3 hown' hgrow _
      have hb4 : Below w.heap.size w w3 := (hb3.alloc hb3.size _).grown hgrow (by have := hb3.size; simp; omega) (fun k hk => (hown2.lt k hk).1)
      have hown3 : w3.ownsRow w.heap.size 9 1 v' (splL s y).length ((splL s y).map Value.string) := by
        rw [hL.out]
        simpa using hown'
      clear hown' hgrow hown2 hb3
      go_wp2
      go_ret
      exact ⟨⟨_, rfl, hown3⟩, hb4⟩

theorem occ_hit {y : ByteArray} {j c : Nat} (h : j < y.size) (e : c = y[j].toNat) : occB y y.size c = true := by
  simp only [occB, decide_eq_true_iff]
  exact ⟨j, h, h, e.symm⟩
theorem occ_next {y : ByteArray} {j c : Nat} (h : j < y.size) (h0 : occB y j c = false) (e : c ≠ y[j].toNat) : occB y (j + 1) c = false := by
  rw [occB_succ y j c h, h0]
  simpa using fun e2 => e e2.symm

theorem one_cell (w : World) (x : Value) : (w.alloc (.cells #[x] 9)).cell? ⟨w.heap.size, 0, none⟩ = some x := by
  rw [cell_of_row _ _ _ _ _ _ (heap_alloc_new w _)]; rfl

/-- The digits of k ahead of acc. -/
def mkGo : Nat → Nat → List UInt8 → List UInt8
  | 0, _, acc => acc
  | f + 1, k, acc => if k = 0 then acc else mkGo f (k / 10) (UInt8.ofNat (48 + k % 10) :: acc)
/-- The mark of k. -/
def mkT (k : Nat) : ByteArray := ⟨#[109]⟩ ++ ⟨(mkGo k k []).toArray⟩

theorem mkGo_fuel (f : Nat) : ∀ g k acc, k ≤ f → k ≤ g → mkGo f k acc = mkGo g k acc := by
  induction f with
  | zero =>
    intro g k acc hf hg
    obtain rfl : k = 0 := by omega
    cases g with
    | zero => rfl
    | succ g => simp [mkGo]
  | succ f ih =>
    intro g k acc hf hg
    cases g with
    | zero => obtain rfl : k = 0 := (by omega); simp [mkGo]
    | succ g =>
      simp only [mkGo]
      split
      · rfl
      · exact ih g (k / 10) _ (by omega) (by omega)
theorem mkGo_step {k : Nat} (h : k ≠ 0) (acc : List UInt8) : mkGo k k acc = mkGo (k / 10) (k / 10) (UInt8.ofNat (48 + k % 10) :: acc) := by
  obtain ⟨f, rfl⟩ : ∃ f, k = f + 1 := ⟨k - 1, by omega⟩
  rw [mkGo, if_neg h]
  exact mkGo_fuel f _ _ _ (by omega) (by omega)

def marks (n : Nat) : List Value := (List.range n).map fun j => Value.string (mkT (1 + j))
def mkRow (l : List Value) (i : Nat) : List Value := marks i ++ l.drop i
theorem marks_length (n : Nat) : (marks n).length = n := by simp [marks]
theorem marks_at (n k : Nat) (h : k < n) : (marks n)[k]? = some (.string (mkT (1 + k))) := by
  simp [marks, h]
theorem mkRow_set (l : List Value) (i : Nat) (h : i < l.length) : (mkRow l i).set i (.string (mkT (1 + i))) = mkRow l (i + 1) := by
  unfold mkRow
  rw [List.set_append, if_neg (by rw [marks_length]; omega), marks_length, Nat.sub_self, List.drop_eq_getElem_cons h, List.set_cons_zero]
  simp only [marks, List.range_succ, List.map_append, List.append_assoc]
  rfl
theorem mkRow_all (l : List Value) : mkRow l l.length = marks l.length := by simp [mkRow]

theorem spl_length (s y : ByteArray) : ∀ k, (spl s y k).1.length ≤ k
  | 0 => by simp [spl]
  | k + 1 => by
    have := spl_length s y k
    simp only [spl]
    split
    · simp; omega
    · omega
theorem splL_length (s y : ByteArray) : 1 ≤ (splL s y).length ∧ (splL s y).length ≤ s.size + 1 := by
  have := spl_length s y s.size
  unfold splL
  simp; omega

/-- The list that a call has made, by its address. -/
theorem own_slice {w : World} {B : Nat} {v : Value} {l : List ByteArray} (h : w.ownsRow B 9 1 v l.length (l.map Value.string)) (h1 : 1 ≤ l.length) : ∃ g cap, v = .slice (some ⟨g, 0, none⟩) l.length cap := by
  rcases h.2 with ⟨_, h0⟩ | ⟨g, cap, cur, hv, _⟩
  · omega
  · exact ⟨g, cap, hv⟩
theorem StrRow.of_own2 {w : World} {B g cap : Nat} {l : List ByteArray} (h : w.ownsRow B 9 1 (.slice (some ⟨g, 0, none⟩) l.length cap) l.length (l.map Value.string)) : StrRow w (some ⟨g, 0, none⟩) l := by
  refine .inr ⟨g, 0, rfl, (h.lt g rfl).2, fun j hj => ?_⟩
  rw [Nat.zero_add, h.cellAt j (by omega)]
  simp [List.getElem?_eq_getElem hj]

theorem own_take {w : World} {B g m n cap : Nat} {xs : List Value} (h : w.ownsRow B 9 1 (.slice (some ⟨g, 0, none⟩) n cap) n xs) (hm : m ≤ n) : w.ownsRow B 9 1 (.slice (some ⟨g, 0, none⟩) m cap) m (xs.take m) := by
  have hlen : xs.length = n := by simpa using h.1
  rcases h.2 with ⟨h', _⟩ | ⟨g', cap', cur, h', hb, hg, hnc, hcm, hcs, htake⟩
  · simp at h'
  · simp only [Value.slice.injEq, Option.some.injEq, Addr.mk.injEq, and_true, true_and] at h'
    obtain ⟨rfl, rfl⟩ := h'
    refine ⟨by simp; omega, .inr ⟨g, cap, cur, rfl, hb, hg, by omega, hcm, hcs, ?_⟩⟩
    rw [← htake, List.take_take]
    congr 1
    omega

theorem own_cap {w : World} {B g n cap : Nat} {xs : List Value} (h : w.ownsRow B 9 1 (.slice (some ⟨g, 0, none⟩) n cap) n xs) : n ≤ cap := by
  rcases h.2 with ⟨h', _⟩ | ⟨g', cap', cur, h', hb, hg, hnc, hcm, hcs, htake⟩
  · simp at h'
  · simp only [Value.slice.injEq, Option.some.injEq, Addr.mk.injEq, and_true, true_and] at h'
    obtain ⟨rfl, rfl⟩ := h'
    exact hnc

/-- The lines of s: a last part that is empty doesn't count. -/
noncomputable def linesL (s : ByteArray) : List ByteArray :=
  if (((splL s ⟨#[10]⟩).getD ((splL s ⟨#[10]⟩).length - 1) ByteArray.empty).toList.isEmpty) = true then (splL s ⟨#[10]⟩).take ((splL s ⟨#[10]⟩).length - 1) else splL s ⟨#[10]⟩
theorem linesL_length (s : ByteArray) : (linesL s).length ≤ s.size + 1 := by
  have := (splL_length s ⟨#[10]⟩).2
  unfold linesL
  split
  · simp; omega
  · exact this

def LinesPost (s : ByteArray) (w : World) (e : Ending) (w' : World) : Prop :=
  ∃ g cap, e = .returned (.slice (some ⟨g, 0, none⟩) (linesL s).length cap) ∧ w'.ownsRow w.heap.size 9 1 (.slice (some ⟨g, 0, none⟩) (linesL s).length cap) (linesL s).length ((linesL s).map Value.string) ∧ Below w.heap.size w w'

theorem linesPost_of {s : ByteArray} {w w' : World} {L : List ByteArray} {g cap : Nat} (hL : linesL s = L) (ho : w'.ownsRow w.heap.size 9 1 (.slice (some ⟨g, 0, none⟩) L.length cap) L.length (L.map Value.string)) (hb : Below w.heap.size w w') :
    LinesPost s w (.returned (.slice (some ⟨g, 0, none⟩) L.length cap)) w' := by
  subst hL
  exact ⟨g, cap, rfl, ho, hb⟩

set_option maxHeartbeats 2000000 in
theorem implSplitLines (s : ByteArray) (w : World) (hs : s.size ≤ 1048576) : Calls Tryd.prog 13 #[.string s] w (LinesPost s w) := by
  obtain ⟨hl1, hl2⟩ := splL_length s ⟨#[10]⟩
  have hln : Hid (linesL s = if (((splL s ⟨#[10]⟩).getD ((splL s ⟨#[10]⟩).length - 1) ByteArray.empty).toList.isEmpty) = true then (splL s ⟨#[10]⟩).take ((splL s ⟨#[10]⟩).length - 1) else splL s ⟨#[10]⟩) := rfl
  go_enter Tryd.func13, Tryd.ntmps13
  go_wp2_with fail
  refine (implSplitAny s ⟨#[10]⟩ _ hs (by unfold maxLen; decide)).mono ?_
  rintro e w1 ⟨⟨v0, rfl, ho0⟩, hb1⟩
  obtain ⟨g0, c0, rfl⟩ := own_slice ho0 hl1
  obtain ⟨L, hL⟩ : ∃ L, L = splL s ⟨#[10]⟩ := ⟨_, rfl⟩
  rw [← hL] at ho0 hl1 hl2 hln ⊢
  clear hL
  obtain ⟨m, hm⟩ : ∃ m, L.length = m + 1 := ⟨L.length - 1, by omega⟩
  obtain ⟨x, hx⟩ : ∃ x, x = L.getD m ByteArray.empty := ⟨_, rfl⟩
  have hcx : w1.cell? ⟨g0, m, none⟩ = some (.string x) := by
    rw [ho0.cellAt m (by omega), List.getElem?_map, List.getElem?_eq_getElem (by omega), hx, List.getD_eq_getElem?_getD, List.getElem?_eq_getElem (by omega)]
    rfl
  have hx2 : L.getD (L.length - 1) ByteArray.empty = x := by rw [hx, hm]; rfl
  rw [hx2] at hln
  have hk : (L.take m).length = m := by simp; omega
  have hmb : m ≤ 1048576 := by omega
  have hmc : m + 1 ≤ c0 := by have := own_cap ho0; omega
  cases hemp : x.toList.isEmpty
  · have hE : Hid (linesL s = L) := by rw [hemp] at hln; exact hln
    have P := Lib.hid (linesPost_of hE.out ho0 hb1)
    rw [hm] at P ⊢
    clear hln hx hx2 hm ho0 hk hl1 hl2
    go_wp2
    go_ret
    exact P.out
  · have hE : Hid (linesL s = L.take m) := by rw [hemp, hm] at hln; exact hln
    have ho1 := own_take (m := m) ho0 (by omega)
    rw [← List.map_take, ← hk] at ho1
    have hemp2 : x.toList = [] := by simpa using hemp
    have P := Lib.hid (linesPost_of hE.out (by rw [hk] at ho1 ⊢; exact ho1) hb1)
    rw [hk] at P
    rw [hm]
    clear hln hx hx2 hm ho0 ho1 hk hl1 hl2
    go_wp2
    go_ret
    exact P.out

end Go.Proofs.YtocjbllblggplaaDoor
