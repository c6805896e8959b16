/-
  Contracts for joining: the program's 'joinParts' and the model's 'Join', over a slice of strings, under Go's own limit on the length of the text. They serve 'FnExactJoin' and 'FnExactPadZeros'.
-/
import Derived.Test.YtocjbllblggplaaC
import Derived.Test.YtocjbllblggplaaShelf
namespace Go.Proofs.Ytocjbllblggplaa
open Go.ChangeShapes Go.WideShapes Go.ChangeAt Go.RowKit
set_option linter.unusedVariables false

/-- A slice of strings that can be read: its elements are l. -/
def StrRow (w : World) (a : Option Addr) (l : List ByteArray) : Prop :=
  l = [] ∨ ∃ b off, a = some ⟨b, off, none⟩ ∧ b < w.heap.size ∧ ∀ j, j < l.length → w.cell? ⟨b, off + j, none⟩ = some (.string (l.getD j ByteArray.empty))

theorem StrRow.below {w w' : World} {a : Option Addr} {l : List ByteArray} (h : StrRow w a l) (hb : Below w.heap.size w w') : StrRow w' a l := by
  rcases h with h | ⟨b, off, ha, hlt, hc⟩
  · exact .inl h
  · exact .inr ⟨b, off, ha, Nat.lt_of_lt_of_le hlt hb.size, fun j hj => (hb.cell hlt).trans (hc j hj)⟩

/-- The text of the first k strings, 'by' between them. -/
def jnTo (y : ByteArray) (l : List ByteArray) : Nat → List UInt8
  | 0 => []
  | k + 1 => (if k = 0 then [] else jnTo y l k ++ y.data.toList) ++ (l.getD k ByteArray.empty).data.toList

theorem jn_step (y : ByteArray) (l : List ByteArray) (k : Nat) : (jnTo y l k).length ≤ (jnTo y l (k + 1)).length := by
  cases k with
  | zero => simp [jnTo]
  | succ k => simp [jnTo]
theorem jn_mono (y : ByteArray) (l : List ByteArray) (k : Nat) : ∀ m, k ≤ m → (jnTo y l k).length ≤ (jnTo y l m).length := by
  intro m h
  induction m with
  | zero => obtain rfl : k = 0 := (by omega); exact Nat.le_refl _
  | succ m ih =>
    by_cases e : k = m + 1
    · subst e; exact Nat.le_refl _
    · exact Nat.le_trans (ih (by omega)) (jn_step y l m)
theorem jn_one (y : ByteArray) (l : List ByteArray) : jnTo y l (0 + 1) = (l.getD 0 ByteArray.empty).data.toList := by simp [jnTo]
theorem jn_more (y : ByteArray) (l : List ByteArray) (k : Nat) (h : k ≠ 0) : jnTo y l (k + 1) = jnTo y l k ++ y.data.toList ++ (l.getD k ByteArray.empty).data.toList := by simp [jnTo, h]

theorem freshB (w : World) : Lib.IsBuilder 44 5 w.heap.size w.heap.size (Lib.byteCells []) (w.alloc (.cells #[.pointer none, .slice none 0 0] 44)) := Lib.fresh_isBuilder 44 5 w

set_option maxHeartbeats 2000000 in
theorem joinParts_any (y : ByteArray) (a : Option Addr) (cap : Nat) (l : List ByteArray) (w : World) (hl : l.length ≤ 8796093022208) (hrow : StrRow w a l) (hsz : (jnTo y l l.length).length ≤ 140737488355328) :
    Calls Try.prog 32 #[.string y, .slice a l.length cap] w fun e w' => e = .returned (.string ⟨(jnTo y l l.length).toArray⟩) ∧ Below w.heap.size w w' := by
  have h0 := freshB w
  have b0 : Below w.heap.size w (w.alloc (.cells #[.pointer none, .slice none 0 0] 44)) := (Below.refl _ w).alloc (Nat.le_refl _) _
  go_enter Try.func32, Try.ntmps32
  go_wp2
  go_loopw [10] (fun i wr => ∃ k : Nat, k ≤ l.length ∧ i = .int .i64 k ∧ Lib.IsBuilder 44 5 w.heap.size w.heap.size (Lib.byteCells (jnTo y l k)) wr ∧ Below w.heap.size w wr) (fun i _ => l.length - (intOf i).toNat)
  case atStart => exact ⟨0, Nat.zero_le _, rfl, h0, b0⟩
  case round =>
    obtain ⟨k, hk, rfl, hB, hb⟩ := hrel
    by_cases hlt : k < l.length
    · rcases hrow with he | ⟨b, off, rfl, hbl, hc⟩
      · exfalso; rw [he] at hlt; simp at hlt
      · obtain ⟨x, hx⟩ : ∃ x, x = l.getD k ByteArray.empty := ⟨_, rfl⟩
        have hcx : wr.cell? ⟨b, off + k, none⟩ = some (.string x) := by rw [hx]; exact (hb.cell hbl).trans (hc k hlt)
        have hm1 := jn_mono y l (k + 1) l.length hlt
        have HS : Hid (jnTo y l (k + 1) = (if k = 0 then [] else jnTo y l k ++ y.data.toList) ++ x.data.toList) := by rw [hx]; rfl
        have hz : (jnTo y l (k + 1)).length = (if k = 0 then 0 else (jnTo y l k).length + y.size) + x.size := by
          rw [HS.out, Lib.size_eq, Lib.size_eq]; split <;> simp <;> omega
        clear hc hx
        by_cases hk0 : k = 0
        · rw [if_pos hk0] at hz
          have hB0 : Lib.IsBuilder 44 5 w.heap.size w.heap.size [] wr := by rw [hk0] at hB; exact hB
          have hk1 : ¬ (0 : Int) < (k : Int) := by omega
          have hk2 : ¬ 0 < k := by omega
          have hsx : x.size ≤ 140737488355328 := by omega
          have H0 := Lib.hid hk0
          clear hk0 hz hm1
          go_wp2_with (go_at_call 35; refine (writeString w.heap.size w.heap.size _ _ _ hB0 (by simpa using hsx) hb.size).mono ?_; rintro e w' ⟨rfl, hB2, hb2⟩)
          have hB3 : Lib.IsBuilder 44 5 w.heap.size w.heap.size (Lib.byteCells (jnTo y l (k + 1))) w' := by
            rw [HS.out, if_pos H0.out]; exact .inr hB2
          go_roundw
          case rel => exact ⟨k + 1, by omega, by go_num, hB3, hb.trans hb2⟩
          case measure => simp [intOf]; omega
        · rw [if_neg hk0] at hz
          have hk1 : (0 : Int) < (k : Int) := by omega
          have hk2 : 0 < k := by omega
          have hsy : (Lib.byteCells (jnTo y l k)).length + y.size ≤ 140737488355328 := by rw [Lib.byteCells_length]; omega
          have hsx : (Lib.byteCells (jnTo y l k) ++ Lib.strCells y).length + x.size ≤ 140737488355328 := by rw [List.length_append, Lib.byteCells_length, Lib.strCells_length]; omega
          have H0 := Lib.hid hk0
          clear hk0 hz hm1
          go_wp2_with fail
          refine (writeString w.heap.size w.heap.size _ _ _ hB hsy hb.size).mono ?_
          rintro e w' ⟨rfl, hB2, hb2⟩
          go_wp2_with fail
          refine (writeString w.heap.size w.heap.size _ _ _ (.inr hB2) hsx (Nat.le_trans hb.size hb2.size)).mono ?_
          rintro e w'' ⟨rfl, hB3, hb3⟩
          have hB4 : Lib.IsBuilder 44 5 w.heap.size w.heap.size (Lib.byteCells (jnTo y l (k + 1))) w'' := by
            rw [HS.out, if_neg H0.out, Lib.byteCells_append, Lib.byteCells_append]; exact .inr hB3
          go_wp2
          go_roundw
          case rel => exact ⟨k + 1, by omega, by go_num, hB4, (hb.trans hb2).trans hb3⟩
          case measure => simp [intOf]; omega
    · obtain rfl : k = l.length := by omega
      go_wp2_with (go_at_call 36; refine (Try.Builder_String_any w.heap.size w.heap.size _ _ hB hb.size).mono ?_; rintro e w' ⟨rfl, hb2⟩)
      go_ret
      exact ⟨rfl, hb.trans hb2⟩
end Go.Proofs.Ytocjbllblggplaa
