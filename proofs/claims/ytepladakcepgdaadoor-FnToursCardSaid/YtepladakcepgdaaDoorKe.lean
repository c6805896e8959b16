/-
  'FnExactParseInt': the program's ParseInt answers as the model's, for every string. The row lists three tables and two error values of the standard library; the card ties them to the program's text. No other conditions.
-/
import Derived.Test.YtepladakcepgdaaDoorKb
import Derived.Test.YtepladakcepgdaaDoorKd
import Derived.Shelf.Strconv.ErrVarAll
import Derived.Deep.DeepCutAuto
namespace Go.Proofs.YtepladakcepgdaaDoor
open Go.ChangeShapes Go.WideShapes Go.ChangeAt Go.RowKit
set_option linter.unusedVariables false

/-- The world holds the library's two error values. -/
def HasErrs (w : World) : Prop := (∃ t p, w.var? Tryd.prog "strconv.ErrSyntax" = some #[.iface t p]) ∧ ∃ t p, w.var? Tryd.prog "strconv.ErrRange" = some #[.iface t p]
theorem HasErrs.below {w w' : World} (h : HasErrs w) (hb : Below w.heap.size w w') : HasErrs w' := by
  obtain ⟨⟨t, p, h1⟩, t', p', h2⟩ := h
  exact ⟨⟨t, p, var_below h1 hb⟩, t', p', var_below h2 hb⟩

theorem atoi_good (s : ByteArray) (v : Int) (w : World) (hs : s.size ≤ 1048576) (h : Lib.atoiAll s.data.toList = .ok v) :
    Calls Tryd.prog 70 #[.string s] w fun e w' => e = .returned (.tuple #[.int .i64 v, .nilIface]) ∧ Below w.heap.size w w' := by
  refine (Any.strconv_Atoi_ok Tryd.laysC172 s (by omega) v h w).mono fun e w' ⟨he, hw⟩ => ⟨he, ?_⟩
  rcases hw with rfl | ⟨t, rfl⟩
  · exact Below.refl _ _
  · exact Lib.below_freeze (((Below.refl _ w).drew).alloc (Nat.le_refl _) _) (p := ⟨w.heap.size, _, none⟩) (Nat.le_refl _) _

def BadPost (w : World) (e : Ending) (w' : World) : Prop := ∃ (x : Int) (N : Nat), e = .returned (.tuple #[.int .i64 x, .iface 106 (.pointer (some ⟨N, 0, none⟩))]) ∧ Below w.heap.size w w'
theorem atoi_bad (s : ByteArray) (w : World) (hs : s.size ≤ 1048576) (h : ∀ v, Lib.atoiAll s.data.toList ≠ .ok v) (he : HasErrs w) :
    Calls Tryd.prog 70 #[.string s] w (BadPost w) := by
  obtain ⟨⟨t1, p1, h1⟩, t2, p2, h2⟩ := he
  cases hc : Lib.atoiAll s.data.toList
  · exact absurd hc (h _)
  · exact (Any.strconv_Atoi_syntax_var Tryd.laysC172 s (by omega) hc t1 p1 w h1).mono fun e w' ⟨N, he, _, _, hb⟩ => ⟨0, N, he, hb⟩
  · exact (Any.strconv_Atoi_range_var Tryd.laysC172 s (by omega) hc t2 p2 w h2).mono fun e w' ⟨N, he, _, _, hb⟩ => ⟨_, N, he, hb⟩

def PinPost (s : ByteArray) (w : World) (e : Ending) (w' : World) : Prop := e = .returned (.tuple #[.int .i64 (pin s.data.toList).1, .bool (pin s.data.toList).2]) ∧ Below w.heap.size w w'
theorem pinPost_no {s : ByteArray} {w w' : World} (h : ∀ v, ¬ Spells s.data.toList v) (hb : Below w.heap.size w w') : PinPost s w (.returned (.tuple #[.int .i64 0, .bool false])) w' := by
  refine ⟨?_, hb⟩; rw [pin_none h]
theorem pinPost_yes {s : ByteArray} {w w' : World} {v : Int} (h : Spells s.data.toList v) (hb : Below w.heap.size w w') : PinPost s w (.returned (.tuple #[.int .i64 v, .bool true])) w' := by
  refine ⟨?_, hb⟩; rw [pin_of h]

theorem str_eq_of {s : ByteArray} {l : List UInt8} (h : l = s.data.toList) : (⟨l.toArray⟩ : ByteArray) = s := by
  rw [h]
theorem str_ne_of {s : ByteArray} {l : List UInt8} (h : l ≠ s.data.toList) : (⟨l.toArray⟩ : ByteArray) ≠ s := fun e => h (by rw [← e])

theorem bne_str {a b : ByteArray} (h : a ≠ b) : (a.toList == b.toList) = false := by
  rw [ByteArray.toList_eq, ByteArray.toList_eq]
  simp only [beq_eq_false_iff_ne]
  exact fun e => h (by rw [of_data e, Lib.mk_data])

set_option maxHeartbeats 1000000 in
theorem implParseInt (s : ByteArray) (w : World) (hs : s.size ≤ 1048576) (ht : HasTab w) (he : HasErrs w) : Calls Tryd.prog 41 #[.string s] w (PinPost s w) := by
  by_cases hok : ∃ v, Lib.atoiAll s.data.toList = .ok v
  · obtain ⟨v, hv⟩ := hok
    have hr := atoi_range hv
    have hA := Lib.hid (atoi_good s v w hs hv)
    by_cases hi : Lib.itoa v = s.data.toList
    · have hsp : Spells s.data.toList v := ⟨hr.1, hr.2, hi⟩
      have hF : Hid (∀ W, HasTab W → Calls Tryd.prog 44 #[.int .i64 v] W fun e w' => e = .returned (.string s) ∧ Below W.heap.size W w') := fun W h => by
        have := implFmt v W hr.1 hr.2 h
        rwa [str_eq_of hi] at this
      have hP := Lib.hid (fun W' hb => pinPost_yes (w := w) (w' := W') hsp hb)
      have HT := Lib.hid ht
      clear hv hi hsp hr ht he
      go_enter Tryd.func41, Tryd.ntmps41
      go_wp2_with fail
      refine hA.out.mono ?_
      rintro e w1 ⟨rfl, hb1⟩
      clear hA
      go_wp2_with fail
      refine (hF.out w1 (HT.out.below hb1)).mono ?_
      rintro e w2 ⟨rfl, hb2⟩
      have P := Lib.hid (hP.out w2 (hb1.trans (hb2.mono hb1.size)))
      go_wp2
      go_ret2
      exact P.out
    · have hno : ∀ v', ¬ Spells s.data.toList v' := fun v' h' => by
        have e := hv.symm.trans (atoi_spells h')
        injection e with e
        subst e
        exact hi h'.2.2
      obtain ⟨S, hS⟩ : ∃ S : ByteArray, S = ⟨(Lib.itoa v).toArray⟩ := ⟨_, rfl⟩
      have hne : S ≠ s := by rw [hS]; exact str_ne_of hi
      have hF : Hid (∀ W, HasTab W → Calls Tryd.prog 44 #[.int .i64 v] W fun e w' => e = .returned (.string S) ∧ Below W.heap.size W w') := fun W h => by
        have := implFmt v W hr.1 hr.2 h
        rwa [← hS] at this
      have hP := Lib.hid (fun W' hb => pinPost_no (w := w) (w' := W') hno hb)
      have HT := Lib.hid ht
      have e1 := bne_str hne
      clear hv hi hno hr ht he hS
      go_enter Tryd.func41, Tryd.ntmps41
      go_wp2_with fail
      refine hA.out.mono ?_
      rintro e w1 ⟨rfl, hb1⟩
      clear hA
      go_wp2_with fail
      refine (hF.out w1 (HT.out.below hb1)).mono ?_
      rintro e w2 ⟨rfl, hb2⟩
      have P := Lib.hid (hP.out w2 (hb1.trans (hb2.mono hb1.size)))
      go_wp2
      go_ret2
      exact P.out
  · have hbad : ∀ v, Lib.atoiAll s.data.toList ≠ .ok v := fun v h => hok ⟨v, h⟩
    have hno : ∀ v', ¬ Spells s.data.toList v' := fun v' h' => hbad v' (atoi_spells h')
    have hA := Lib.hid (atoi_bad s w hs hbad he)
    have hP := Lib.hid (fun W' hb => pinPost_no (w := w) (w' := W') hno hb)
    clear hok hbad hno ht he
    go_enter Tryd.func41, Tryd.ntmps41
    go_wp2_with fail
    refine hA.out.mono ?_
    rintro e w1 ⟨x, N, rfl, hb1⟩
    have P := Lib.hid (hP.out w1 hb1)
    clear hA
    go_wp2
    go_ret2
    exact P.out

end Go.Proofs.YtepladakcepgdaaDoor
