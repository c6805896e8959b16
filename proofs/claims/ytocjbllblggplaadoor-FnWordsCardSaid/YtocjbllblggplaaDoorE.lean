/-
  'FnExactParseInt': the program's ParseInt answers as the model's, for every string. The row lists three tables and two error values of the standard library; the card ties them to the program's text. No other conditions.
-/
import Derived.Test.YtocjbllblggplaaDoorB
import Derived.Test.YtocjbllblggplaaDoorD
import Derived.Shelf.Strconv.ErrVarAll
import Derived.Deep.DeepCutAuto
namespace Go.Proofs.YtocjbllblggplaaDoor
open Go.ChangeShapes Go.WideShapes Go.ChangeAt Go.RowKit
set_option linter.unusedVariables false

/-- The world holds the library's two error values. -/
def HasErrs (w : World) : Prop := (∃ t p, w.var? Tryd.prog "strconv.ErrSyntax" = some #[.iface t p]) ∧ ∃ t p, w.var? Tryd.prog "strconv.ErrRange" = some #[.iface t p]
theorem HasErrs.below {w w' : World} (h : HasErrs w) (hb : Below w.heap.size w w') : HasErrs w' := by
  obtain ⟨⟨t, p, h1⟩, t', p', h2⟩ := h
  exact ⟨⟨t, p, var_below h1 hb⟩, t', p', var_below h2 hb⟩

theorem atoi_good (s : ByteArray) (v : Int) (w : World) (hs : s.size ≤ 1048576) (h : Lib.atoiAll s.data.toList = .ok v) :
    Calls Tryd.prog 18 #[.string s] w fun e w' => e = .returned (.tuple #[.int .i64 v, .nilIface]) ∧ Below w.heap.size w w' := by
  refine (Any.strconv_Atoi_ok Tryd.laysC172 s (by omega) v h w).mono fun e w' ⟨he, hw⟩ => ⟨he, ?_⟩
  rcases hw with rfl | ⟨t, rfl⟩
  · exact Below.refl _ _
  · exact Lib.below_freeze (((Below.refl _ w).drew).alloc (Nat.le_refl _) _) (p := ⟨w.heap.size, _, none⟩) (Nat.le_refl _) _

def BadPost (w : World) (e : Ending) (w' : World) : Prop := ∃ (x : Int) (N : Nat), e = .returned (.tuple #[.int .i64 x, .iface 61 (.pointer (some ⟨N, 0, none⟩))]) ∧ Below w.heap.size w w'
theorem atoi_bad (s : ByteArray) (w : World) (hs : s.size ≤ 1048576) (h : ∀ v, Lib.atoiAll s.data.toList ≠ .ok v) (he : HasErrs w) :
    Calls Tryd.prog 18 #[.string s] w (BadPost w) := by
  obtain ⟨⟨t1, p1, h1⟩, t2, p2, h2⟩ := he
  cases hc : Lib.atoiAll s.data.toList
  · exact absurd hc (h _)
  · exact (Any.strconv_Atoi_syntax_var Tryd.laysC172 s (by omega) hc t1 p1 w h1).mono fun e w' ⟨N, he, _, _, hb⟩ => ⟨0, N, he, hb⟩
  · exact (Any.strconv_Atoi_range_var Tryd.laysC172 s (by omega) hc t2 p2 w h2).mono fun e w' ⟨N, he, _, _, hb⟩ => ⟨_, N, he, hb⟩

def PinPost (s : ByteArray) (w : World) (e : Ending) (w' : World) : Prop := e = .returned (.tuple #[.int .i64 (pin s.data.toList).1, .bool (pin s.data.toList).2]) ∧ Below w.heap.size w w'
theorem pinPost_no {s : ByteArray} {w w' : World} (h : ∀ v, ¬ Spells s.data.toList v) (hb : Below w.heap.size w w') : PinPost s w (.returned (.tuple #[.int .i64 0, .bool false])) w' := by
  refine ⟨?_, hb⟩; rw [pin_none h]
theorem pinPost_yes {s : ByteArray} {w w' : World} {v : Int} (h : Spells s.data.toList v) (hb : Below w.heap.size w w') : PinPost s w (.returned (.tuple #[.int .i64 v, .bool true])) w' := by
  refine ⟨?_, hb⟩; rw [pin_of h]

theorem str_eq_of {s : ByteArray} {l : List UInt8} (h : l = s.data.toList) : (⟨l.toArray⟩ : ByteArray) = s := by
  rw [h]
theorem str_ne_of {s : ByteArray} {l : List UInt8} (h : l ≠ s.data.toList) : (⟨l.toArray⟩ : ByteArray) ≠ s := fun e => h (by rw [← e])

theorem bne_str {a b : ByteArray} (h : a ≠ b) : (a.toList == b.toList) = false := by
  rw [ByteArray.toList_eq, ByteArray.toList_eq]
  simp only [beq_eq_false_iff_ne]
  exact fun e => h (by rw [of_data e, Lib.mk_data])

set_option maxHeartbeats 1000000 in
theorem implParseInt (s : ByteArray) (w : World) (hs : s.size ≤ 1048576) (ht : HasTab w) (he : HasErrs w) : Calls Tryd.prog 7 #[.string s] w (PinPost s w) := by
  by_cases hok : ∃ v, Lib.atoiAll s.data.toList = .ok v
  · obtain ⟨v, hv⟩ := hok
    have hr := atoi_range hv
    have hA := Lib.hid (atoi_good s v w hs hv)
    by_cases hi : Lib.itoa v = s.data.toList
    · have hsp : Spells s.data.toList v := ⟨hr.1, hr.2, hi⟩
      have hF : Hid (∀ W, HasTab W → Calls Tryd.prog 8 #[.int .i64 v] W fun e w' => e = .returned (.string s) ∧ Below W.heap.size W w') := fun W h => by
        have := implFmt v W hr.1 hr.2 h
        rwa [str_eq_of hi] at this
      have hP := Lib.hid (fun W' hb => pinPost_yes (w := w) (w' := W') hsp hb)
      have HT := Lib.hid ht
      clear hv hi hsp hr ht he
      go_enter Tryd.func7, Tryd.ntmps7
      go_wp2_with fail
      refine hA.out.mono ?_
      rintro e w1 ⟨rfl, hb1⟩
      clear hA
      go_wp2_with fail
      refine (hF.out w1 (HT.out.below hb1)).mono ?_
      rintro e w2 ⟨rfl, hb2⟩
      have P := Lib.hid (hP.out w2 (hb1.trans (hb2.mono hb1.size)))
      go_wp2
      go_ret2
      exact P.out
    · have hno : ∀ v', ¬ Spells s.data.toList v' := fun v' h' => by
        have e := hv.symm.trans (atoi_spells h')
        injection e with e
        subst e
        exact hi h'.2.2
      obtain ⟨S, hS⟩ : ∃ S : ByteArray, S = ⟨(Lib.itoa v).toArray⟩ := ⟨_, rfl⟩
      have hne : S ≠ s := by rw [hS]; exact str_ne_of hi
      have hF : Hid (∀ W, HasTab W → Calls Tryd.prog 8 #[.int .i64 v] W fun e w' => e = .returned (.string S) ∧ Below W.heap.size W w') := fun W h => by
        have := implFmt v W hr.1 hr.2 h
        rwa [← hS] at this
      have hP := Lib.hid (fun W' hb => pinPost_no (w := w) (w' := W') hno hb)
      have HT := Lib.hid ht
      have e1 := bne_str hne
      clear hv hi hno hr ht he hS
      go_enter Tryd.func7, Tryd.ntmps7
      go_wp2_with fail
      refine hA.out.mono ?_
      rintro e w1 ⟨rfl, hb1⟩
      clear hA
      go_wp2_with fail
      refine (hF.out w1 (HT.out.below hb1)).mono ?_
      rintro e w2 ⟨rfl, hb2⟩
      have P := Lib.hid (hP.out w2 (hb1.trans (hb2.mono hb1.size)))
      go_wp2
      go_ret2
      exact P.out
  · have hbad : ∀ v, Lib.atoiAll s.data.toList ≠ .ok v := fun v h => hok ⟨v, h⟩
    have hno : ∀ v', ¬ Spells s.data.toList v' := fun v' h' => hbad v' (atoi_spells h')
    have hA := Lib.hid (atoi_bad s w hs hbad he)
    have hP := Lib.hid (fun W' hb => pinPost_no (w := w) (w' := W') hno hb)
    clear hok hbad hno ht he
    go_enter Tryd.func7, Tryd.ntmps7
    go_wp2_with fail
    refine hA.out.mono ?_
    rintro e w1 ⟨x, N, rfl, hb1⟩
    have P := Lib.hid (hP.out w1 hb1)
    clear hA
    go_wp2
    go_ret2
    exact P.out

/-- Whether s begins with a minus sign. -/
def negB (s : ByteArray) : Bool := decide (0 < s.size) && (s.data.toList.getD 0 0 == 45)
def tailT (s : ByteArray) : ByteArray := if negB s = true then s.extract 1 s.size else s

theorem spells_tail {s : ByteArray} {v : Int} (h : Spells s.data.toList v) : negB s = decide (v < 0) ∧ (tailT s).data.toList = Lib.decDigits v.natAbs := by
  obtain ⟨h0, h1, hs⟩ := h
  by_cases hn : v < 0
  · obtain ⟨m, rfl⟩ : ∃ m : Nat, v = -(m : Int) := ⟨v.natAbs, by omega⟩
    rw [Lib.itoa_neg m (by omega)] at hs
    have hz : s.size = (Lib.decDigits m).length + 1 := by rw [Lib.size_eq, ← hs]; rfl
    have hN : negB s = true := by unfold negB; rw [← hs]; simp; omega
    refine ⟨by rw [hN]; simp; omega, ?_⟩
    unfold tailT
    rw [if_pos hN, Lib.extract_data, ← hs, hz, Int.natAbs_neg, Int.natAbs_natCast]
    simp
  · obtain ⟨m, rfl⟩ : ∃ m : Nat, v = (m : Int) := ⟨v.toNat, by omega⟩
    rw [Lib.itoa_nonneg] at hs
    have hN : negB s = false := by
      unfold negB; rw [← hs]
      cases hd : Lib.decDigits m with
      | nil => exact absurd hd (dec_ne m)
      | cons c r =>
        have hc : isDig c := dec_digits m c (by rw [hd]; simp)
        unfold isDig at hc
        have : c ≠ 45 := fun e => by subst e; revert hc; decide
        simp [this]
    refine ⟨by rw [hN]; simp, ?_⟩
    unfold tailT
    rw [if_neg (by rw [hN]; simp), ← hs, Int.natAbs_natCast]

theorem digs_all {T : ByteArray} (h : digs T = true) : 0 < T.size ∧ ∀ i (hi : i < T.size), 48 ≤ T[i].toNat ∧ T[i].toNat ≤ 57 := by
  simp only [digs, decide_eq_true_iff] at h
  refine ⟨h.1, fun i hi => ?_⟩
  have := dgB_true (h.2 i hi)
  omega
theorem digs_dec {T : ByteArray} {m : Nat} (h : T.data.toList = Lib.decDigits m) : digs T = true := by
  simp only [digs, decide_eq_true_iff]
  have hz : T.size = (Lib.decDigits m).length := by rw [Lib.size_eq, h]
  refine ⟨?_, fun i hi => ?_⟩
  · have := dec_ne m
    have : (Lib.decDigits m).length ≠ 0 := by simpa using this
    omega
  · have hm : T[i] ∈ Lib.decDigits m := by
      rw [← h, ← getD_data T i hi, List.getD_eq_getElem?_getD, Array.getElem?_toList, Array.getElem?_eq_getElem (show i < T.data.size from hi)]
      simp
    have := dec_digits m _ hm
    unfold isDig at this
    exact dgB_of (by omega) (by omega)

/-- What the first k letters of T spell. -/
def pre (T : ByteArray) (k : Nat) : Nat := dvalFrom 0 (T.data.toList.take k)
theorem pre_succ {T : ByteArray} {k : Nat} (h : k < T.size) : pre T (k + 1) = pre T k * 10 + (T[k].toNat - 48) := by
  unfold pre
  rw [List.take_succ_eq_append_getElem (by rw [← Lib.size_eq]; exact h), dval_snoc]
  rfl
theorem pre_all (T : ByteArray) : pre T T.size = dvalFrom 0 T.data.toList := by
  unfold pre; rw [List.take_of_length_le (by rw [← Lib.size_eq]; exact Nat.le_refl _)]
theorem pre_le (T : ByteArray) (k : Nat) : pre T k ≤ dvalFrom 0 T.data.toList := by
  have h : dvalFrom 0 T.data.toList = dvalFrom (pre T k) (T.data.toList.drop k) := by
    unfold pre; rw [← dval_append, List.take_append_drop]
  rw [h]
  exact dval_ge _ _
theorem tdiv_low (d : Nat) (h : d ≤ 9) : ((-9223372036854775808 : Int) + (d : Int)).tdiv 10 = -((9223372036854775808 - (d : Int)) / 10) := by
  rw [show (-9223372036854775808 : Int) + (d : Int) = -(9223372036854775808 - (d : Int)) by omega, Int.neg_tdiv, Int.tdiv_eq_ediv_of_nonneg (by omega)]

set_option maxHeartbeats 2000000 in
theorem specParseInt (s : ByteArray) (w : World) (hs : s.size ≤ 1048576) : Calls Tryd.prog 15 #[.string s] w (PinPost s w) := by
  go_enter Tryd.func15, Tryd.ntmps15
  go_upto_region 1 with (fail)
  go_cut [4] (fun n4 wx => w = wx ∧ n4 = .bool (negB s))
  case first =>
    by_cases h0 : 0 < s.size
    · have hp : (0 : Int) < (s.size : Int) := by omega
      have hd := getD_data s 0 h0
      cases hc : (s[0] == 45)
      · have hN : Hid (negB s = false) := by show _ = _; unfold negB; rw [hd, hc]; simp
        have hq : ((s[0].toNat : Int) == 45) = false := by
          simp only [beq_eq_false_iff_ne] at hc ⊢
          exact fun e => hc (UInt8.toNat_inj.1 (by show s[0].toNat = 45; omega))
        clear hd hc
        go_wp2
        go_meet
        exact ⟨rfl, by rw [hN.out]⟩
      · have hN : Hid (negB s = true) := by show _ = _; unfold negB; rw [hd, hc]; simp [h0]
        have hq : ((s[0].toNat : Int) == 45) = true := by
          simp only [beq_iff_eq] at hc ⊢
          rw [hc]; decide
        clear hd hc
        go_wp2
        go_meet
        exact ⟨rfl, by rw [hN.out]⟩
    · have hN : Hid (negB s = false) := by show _ = _; unfold negB; simp [h0]
      have hp : ¬ (0 : Int) < (s.size : Int) := by omega
      go_wp2
      go_meet
      exact ⟨rfl, by rw [hN.out]⟩
  case rest =>
    obtain ⟨rfl, rfl⟩ := hcut
    obtain ⟨N, hN0⟩ : ∃ N, N = negB s := ⟨_, rfl⟩
    rw [← hN0]
    have HN := Lib.hid hN0
    clear hN0
    go_upto_if 18 with (fail)
    go_cut [5] (fun t wx => w = wx ∧ t = .string (tailT s))
    case first =>
      have hN := HN.out.symm
      cases N
      · have hT : Hid (tailT s = s) := by show _ = _; unfold tailT; rw [hN]; simp
        clear hN
        go_wp2
        go_meet
        exact ⟨rfl, by rw [hT.out]⟩
      · have hT : Hid (tailT s = s.extract 1 s.size) := by show _ = _; unfold tailT; rw [if_pos hN]
        have h1 : (1 : Int) ≤ (s.size : Int) := by
          unfold negB at hN; simp at hN; omega
        clear hN
        go_wp2
        go_meet
        exact ⟨rfl, by rw [hT.out]⟩
    case rest =>
      obtain ⟨rfl, rfl⟩ := hcut
      have hST : Hid (∀ v, Spells s.data.toList v → negB s = decide (v < 0) ∧ (tailT s).data.toList = Lib.decDigits v.natAbs) := fun v h => spells_tail h
      have hTs : (tailT s).size ≤ 1048576 := by
        unfold tailT; split
        · rw [ByteArray.size_extract]; omega
        · exact hs
      obtain ⟨T, hT⟩ : ∃ T, T = tailT s := ⟨_, rfl⟩
      rw [← HN.out, ← hT] at hST
      rw [← hT]
      rw [← hT] at hTs
      clear hT HN
      have HM : Hid (T.size ≤ maxLen) := by show _ ≤ _; unfold maxLen; omega
      cases hd : digs T
      · have hno : ∀ v, ¬ Spells s.data.toList v := fun v h => by
          rw [digs_dec (hST.out v h).2] at hd; cases hd
        have P := Lib.hid (pinPost_no hno (Below.refl _ w))
        have hsd := Lib.hid (specIsDigits T w HM.out)
        rw [hd] at hsd
        clear hd hno hST
        go_wp2_with fail
        refine hsd.out.mono ?_
        rintro e w' ⟨rfl, rfl⟩
        go_wp2
        go_ret2
        exact P.out
      · have hsd := Lib.hid (specIsDigits T w HM.out)
        rw [hd] at hsd
        obtain ⟨hpos, hall⟩ := digs_all hd
        clear hd
        by_cases h19 : (19 : Int) < (T.size : Int)
        · have hno : ∀ v, ¬ Spells s.data.toList v := fun v h => by
            have h2 := (hST.out v h).2
            have h3 : (Lib.decDigits v.natAbs).length ≤ 18 + 1 := dec_len 18 _ (by have := h.1; have := h.2.1; simp; omega)
            rw [← h2, ← Lib.size_eq] at h3
            omega
          have P := Lib.hid (pinPost_no hno (Below.refl _ w))
          clear hno hST hall
          go_wp2_with fail
          refine hsd.out.mono ?_
          rintro e w' ⟨rfl, rfl⟩
          go_wp2
          go_ret2
          exact P.out
        · have HA := Lib.hid hall
          clear hall
          go_wp2_with fail
          refine hsd.out.mono ?_
          rintro e w' ⟨rfl, rfl⟩
          go_wp2
          go_loop [6, 7, 8] (fun n i _ => ∃ k V : Nat, k ≤ T.size ∧ i = .int .i64 k ∧ n = .int .i64 (-(V : Int)) ∧ V ≤ 9223372036854775808 ∧ Hid (V = pre T k)) (fun _ i _ => T.size - (intOf i).toNat)
          case atStart => exact ⟨0, 0, Nat.zero_le _, rfl, rfl, by omega, rfl⟩
          case round =>
            obtain ⟨k, V, hk, rfl, rfl, hV, hp⟩ := hrel
            by_cases hlt : k < T.size
            · have hc := HA.out k hlt
              obtain ⟨d, hd⟩ : ∃ d : Nat, d = T[k].toNat - 48 := ⟨_, rfl⟩
              have hdi : (T[k].toNat : Int) - 48 = (d : Int) := by omega
              have hd9 : d ≤ 9 := by omega
              have hps : Hid (pre T (k + 1) = V * 10 + d) := by show _ = _; rw [pre_succ hlt, hp.out, hd]
              clear hc hd
              have htd := tdiv_low d hd9
              by_cases hov : 9223372036854775808 < V * 10 + d
              · have ht : -(V : Int) < ((-9223372036854775808 : Int) + (d : Int)).tdiv 10 := by omega
                have hno : ∀ v, ¬ Spells s.data.toList v := fun v h => by
                  have h2 := (hST.out v h).2
                  have h3 := pre_le T (k + 1)
                  rw [h2, dval_dec, hps.out] at h3
                  have := h.1; have := h.2.1
                  omega
                have P := Lib.hid (pinPost_no hno (Below.refl _ w))
                clear hno htd hov
                go_wp2
                go_ret2
                exact P.out
              · have ht : ¬ -(V : Int) < ((-9223372036854775808 : Int) + (d : Int)).tdiv 10 := by omega
                have hV' : V * 10 + d ≤ 9223372036854775808 := by omega
                clear htd hov
                go_wp2
                exact ⟨⟨k + 1, V * 10 + d, by omega, by go_num, by congr 1; omega, hV', hps.out.symm⟩, by simp [intOf]; omega⟩
            · obtain rfl : k = T.size := by omega
              have hpv : Hid (V = dvalFrom 0 T.data.toList) := by show _ = _; rw [hp.out, pre_all]
              have hsv : Hid (∀ v, Spells s.data.toList v → v = if N = true then -(V : Int) else V) := fun v h => by
                obtain ⟨h1, h2⟩ := hST.out v h
                have h3 := hpv.out
                rw [h2, dval_dec] at h3
                rw [h1]
                by_cases hn : v < 0
                · rw [if_pos (by simpa using hn)]; omega
                · rw [if_neg (by simpa using hn)]; omega
              clear hp hpv hST
              cases N
              · by_cases hmin : V = 9223372036854775808
                · have hno : ∀ v, ¬ Spells s.data.toList v := fun v h => by
                    have := hsv.out v h
                    simp at this
                    have := h.2.1
                    omega
                  have P := Lib.hid (pinPost_no hno (Below.refl _ w))
                  have ht : (-(V : Int) == -9223372036854775808) = true := by simp; omega
                  clear hno hmin
                  go_wp2
                  go_ret2
                  exact P.out
                · have ht : (-(V : Int) == -9223372036854775808) = false := by simp; omega
                  have hV2 : V ≤ 9223372036854775807 := by omega
                  clear hmin
                  have hF := specFmt ((V : Int)) w (by omega) (by omega)
                  by_cases hi : Lib.itoa ((V : Int)) = s.data.toList
                  · have hsp : Spells s.data.toList ((V : Int)) := ⟨by omega, by omega, hi⟩
                    rw [str_eq_of hi] at hF
                    have HF := Lib.hid hF
                    have hP := Lib.hid (fun W' hb => pinPost_yes (w := w) (w' := W') hsp hb)
                    clear hF hi hsp hsv
                    go_wp2_with fail
                    refine HF.out.mono ?_
                    rintro e w1 ⟨rfl, hb1⟩
                    have P := Lib.hid (hP.out w1 hb1)
                    go_wp2
                    go_ret2
                    exact P.out
                  · have hno : ∀ v', ¬ Spells s.data.toList v' := fun v' h' => by
                      have e := hsv.out v' h'
                      simp at e
                      subst e
                      exact hi h'.2.2
                    obtain ⟨S, hS⟩ : ∃ S : ByteArray, S = ⟨(Lib.itoa ((V : Int))).toArray⟩ := ⟨_, rfl⟩
                    have hne : S ≠ s := by rw [hS]; exact str_ne_of hi
                    rw [← hS] at hF
                    have HF := Lib.hid hF
                    have hP := Lib.hid (fun W' hb => pinPost_no (w := w) (w' := W') hno hb)
                    have e1 := bne_str hne
                    clear hF hi hno hS hne hsv
                    go_wp2_with fail
                    refine HF.out.mono ?_
                    rintro e w1 ⟨rfl, hb1⟩
                    have P := Lib.hid (hP.out w1 hb1)
                    go_wp2
                    go_ret2
                    exact P.out
              · skip
                have hF := specFmt (-(V : Int)) w (by omega) (by omega)
                by_cases hi : Lib.itoa (-(V : Int)) = s.data.toList
                · have hsp : Spells s.data.toList (-(V : Int)) := ⟨by omega, by omega, hi⟩
                  rw [str_eq_of hi] at hF
                  have HF := Lib.hid hF
                  have hP := Lib.hid (fun W' hb => pinPost_yes (w := w) (w' := W') hsp hb)
                  clear hF hi hsp hsv
                  go_wp2_with fail
                  refine HF.out.mono ?_
                  rintro e w1 ⟨rfl, hb1⟩
                  have P := Lib.hid (hP.out w1 hb1)
                  go_wp2
                  go_ret2
                  exact P.out
                · have hno : ∀ v', ¬ Spells s.data.toList v' := fun v' h' => by
                    have e := hsv.out v' h'
                    simp at e
                    subst e
                    exact hi h'.2.2
                  obtain ⟨S, hS⟩ : ∃ S : ByteArray, S = ⟨(Lib.itoa (-(V : Int))).toArray⟩ := ⟨_, rfl⟩
                  have hne : S ≠ s := by rw [hS]; exact str_ne_of hi
                  rw [← hS] at hF
                  have HF := Lib.hid hF
                  have hP := Lib.hid (fun W' hb => pinPost_no (w := w) (w' := W') hno hb)
                  have e1 := bne_str hne
                  clear hF hi hno hS hne hsv
                  go_wp2_with fail
                  refine HF.out.mono ?_
                  rintro e w1 ⟨rfl, hb1⟩
                  have P := Lib.hid (hP.out w1 hb1)
                  go_wp2
                  go_ret2
                  exact P.out

set_option maxHeartbeats 1000000 in
theorem walkParseInt (s : ByteArray) (w : World) (hs : s.size ≤ maxLen) (ht : HasTab w) (he : HasErrs w) :
    Calls Tryd.prog 5 #[.string s] w fun e w' => e = .returned (.bool true) ∧ Below w.heap.size w w' := by
  by_cases hbig : (1048576 : Int) < (s.size : Int)
  · unfold maxLen at hs
    go_enter Tryd.func5, Tryd.ntmps5
    go_wp2
    go_ret
    exact ⟨rfl, Below.refl _ _⟩
  · have hs20 : s.size ≤ 1048576 := by omega
    have HT := Lib.hid ht
    have HE := Lib.hid he
    unfold maxLen at hs
    clear ht he
    obtain ⟨pv, pb, hp⟩ : ∃ pv pb, pin s.data.toList = (pv, pb) := ⟨_, _, rfl⟩
    have h1 := Lib.hid (specParseInt s w hs20)
    have h2 := Lib.hid (fun W h h' => implParseInt s W hs20 h h')
    unfold PinPost at h1 h2
    rw [hp] at h1 h2
    clear hp
    go_enter Tryd.func5, Tryd.ntmps5
    go_wp2_with fail
    refine h1.out.mono ?_
    rintro e w1 ⟨rfl, hb1⟩
    go_wp2_with fail
    refine (h2.out w1 (HT.out.below hb1) (HE.out.below hb1)).mono ?_
    rintro e w2 ⟨rfl, hb2⟩
    have hb := hb1.trans (hb2.mono hb1.size)
    go_wp2
    go_ret
    exact ⟨rfl, hb⟩
end Go.Proofs.YtocjbllblggplaaDoor
