/-
  'l06Cycles' of the model: the number of ways whose last one beats player 0. Condition: the tour is valid.
-/
import Derived.Test.YtnlpfajncpbjpaaJJ
import Derived.Test.YtnlpfajncpbjpaaJ7
namespace Go.Proofs.Ytnlpfajncpbjpaa
open Go.ChangeShapes Go.WideShapes Go.ChangeAt Go.RowKit
set_option linter.unusedVariables false

/-- Whether the last one beats player 0. -/
def cB (l : List Int) (w : List Nat) : Bool := (ww l (w.getLastD 0)).testBit 0

set_option maxRecDepth 100000 in
set_option maxHeartbeats 2000000 in
theorem l06Cycles_any (n : Int) (a : Option Addr) (l : List Int) (cap : Nat) (hok : Ok n l) : ∀ (m : Nat) (p : List Nat) (s S u : Nat) (w : World), IntRow w a l → Lw l m p s → u = p.getLastD 0 → S = s + 2 ^ u →
    Calls Try.prog 79 #[.agg #[.int .i64 n, .slice a l.length cap], .int .i64 (S : Int), .int .i64 (u : Int)] w fun e w' => e = .returned (.int .i64 ((Hw.ext (ww l) (l.length : Int) m p).countP (cB l) : Nat)) ∧ Below w.heap.size w w' := by
  have hl8 : l.length ≤ 8 := by have := hok.2.1; have := hok.2.2.1; omega
  intro m
  induction m with
  | zero =>
    intro p s S u w hrow h hu hS
    have hp8 : p.length ≤ l.length := Hw.way_len h.way.1 h.low
    have hpl : p.length = l.length := by have := h.lm; omega
    have hz : s = 0 := h.zero.2 hpl
    have hul : u < l.length := by rw [hu]; exact h.last
    have hext : Hw.ext (ww l) (l.length : Int) 0 p = [p] := Hw.ext_at (by omega)
    have hpw := wrapPow u (by omega)
    have hu64 : u < 64 := by omega
    have hP8 := pow_le u (by omega)
    rw [hz, Nat.zero_add] at hS
    rw [← hS] at hpw hP8
    have hcB : (Hw.ext (ww l) (l.length : Int) 0 p).countP (cB l) = if (ww l u).testBit 0 then 1 else 0 := by rw [hext, List.countP_singleton, cB, ← hu]
    have HE := Lib.hid hcB
    obtain ⟨Wa, hWa⟩ : ∃ Wa, Wa = w.alloc (.cells #[.int .i64 n, .slice a l.length cap] 25) := ⟨_, rfl⟩
    have hba : Below w.heap.size w Wa := by rw [hWa]; exact (Below.refl _ _).alloc (Nat.le_refl _) _
    have hbe := l02Beats_any n a l cap u 0 Wa (hrow.below hba (Nat.le_refl _)) (by unfold maxLen; omega) hul (by omega)
    rw [wwBit hok hul] at hbe
    have HBE := Lib.hid hbe
    have HWa := Lib.hid hWa
    clear hext hz hS hu h hpl hok hcB hbe hWa
    go_enter Try.func79, Try.ntmps79
    go_wp2_with fail
    rw [← HWa.out]
    refine HBE.out.mono ?_
    rintro e w1 ⟨rfl, hb1⟩
    have B1 := Lib.hid (hba.trans (hb1.mono hba.size))
    clear hb1 HBE
    cases hbb : (ww l u).testBit 0
    · have HE2 : Hid ((Hw.ext (ww l) (l.length : Int) 0 p).countP (cB l) = 0) := by show _ = _; rw [HE.out, hbb]; rfl
      clear hbb
      go_wp2
      go_ret
      exact ⟨by rw [HE2.out]; rfl, B1.out⟩
    · have HE2 : Hid ((Hw.ext (ww l) (l.length : Int) 0 p).countP (cB l) = 1) := by show _ = _; rw [HE.out, hbb]; rfl
      clear hbb
      go_wp2
      go_ret
      exact ⟨by rw [HE2.out]; rfl, B1.out⟩
  | succ m ih =>
    intro p s S u w hrow h hu hS
    have hul : u < l.length := by rw [hu]; exact h.last
    have hs8 := h.lt hok
    have hsp := Hw.add_bit hs8 (show u < 8 by omega) (by rw [hu]; exact h.not)
    have hpw := wrapPow u (by omega)
    have hu64 : u < 64 := by omega
    obtain ⟨P, hP⟩ : ∃ P : Nat, P = 2 ^ u := ⟨_, rfl⟩
    rw [← hP] at hpw hS
    have hP8 : P ≤ 256 := by rw [hP]; exact pow_le u (by omega)
    have hsub : (S : Int) - (P : Int) = (s : Int) := by omega
    have hS8 : S < 512 := by omega
    by_cases hz : s = 0
    · have hpl := h.zero.1 hz
      have hext : Hw.ext (ww l) (l.length : Int) (m + 1) p = [p] := Hw.ext_at (by omega)
      have hcB : (Hw.ext (ww l) (l.length : Int) (m + 1) p).countP (cB l) = if (ww l u).testBit 0 then 1 else 0 := by rw [hext, List.countP_singleton, cB, ← hu]
      have HE := Lib.hid hcB
      obtain ⟨Wa, hWa⟩ : ∃ Wa, Wa = w.alloc (.cells #[.int .i64 n, .slice a l.length cap] 25) := ⟨_, rfl⟩
      have hba : Below w.heap.size w Wa := by rw [hWa]; exact (Below.refl _ _).alloc (Nat.le_refl _) _
      have hbe := l02Beats_any n a l cap u 0 Wa (hrow.below hba (Nat.le_refl _)) (by unfold maxLen; omega) hul (by omega)
      rw [wwBit hok hul] at hbe
      have HBE := Lib.hid hbe
      have HWa := Lib.hid hWa
      have hS2 : S = P := by omega
      subst hS2
      clear hext hz hS hu h hpl hok ih hP hsub hsp hcB hbe hWa
      go_enter Try.func79, Try.ntmps79
      go_wp2_with fail
      rw [← HWa.out]
      refine HBE.out.mono ?_
      rintro e w1 ⟨rfl, hb1⟩
      have B1 := Lib.hid (hba.trans (hb1.mono hba.size))
      clear hb1 HBE
      cases hbb : (ww l u).testBit 0
      · have HE2 : Hid ((Hw.ext (ww l) (l.length : Int) (m + 1) p).countP (cB l) = 0) := by show _ = _; rw [HE.out, hbb]; rfl
        clear hbb
        go_wp2
        go_ret
        exact ⟨by rw [HE2.out]; rfl, B1.out⟩
      · have HE2 : Hid ((Hw.ext (ww l) (l.length : Int) (m + 1) p).countP (cB l) = 1) := by show _ = _; rw [HE.out, hbb]; rfl
        clear hbb
        go_wp2
        go_ret
        exact ⟨by rw [HE2.out]; rfl, B1.out⟩
    · have hpl : (p.length : Int) ≠ (l.length : Int) := fun e => hz (h.zero.2 (by omega))
      have hzb : ((s : Int) == 0) = false := by rw [beq_eq_false_iff_ne]; omega
      obtain ⟨hz1, hz2, hz3⟩ := hok.ww hul
      obtain ⟨z, hzz⟩ : ∃ z, z = ww l u := ⟨_, rfl⟩
      rw [← hzz] at hz1 hz2 hz3
      obtain ⟨Wa, hWa⟩ : ∃ Wa, Wa = w.alloc (.cells #[.int .i64 n, .slice a l.length cap] 25) := ⟨_, rfl⟩
      have hba : Below w.heap.size w Wa := by rw [hWa]; exact (Below.refl _ _).alloc (Nat.le_refl _) _
      have xa : Box Wa w.heap.size 25 (.int .i64 n) (.slice a l.length cap) := by rw [hWa]; exact Box.new _ _ _ _
      have hrowa : IntRow Wa a l := hrow.below hba (Nat.le_refl _)
      obtain ⟨ab, off, rfl, habl, hcx⟩ := hrowa.at hul
      rw [hz1] at hcx
      have c1 := xa.c1
      obtain ⟨y, hy⟩ : ∃ y, y = s &&& z := ⟨_, rfl⟩
      have hy8 : y < 256 := by rw [hy]; exact Nat.lt_of_le_of_lt Nat.and_le_left hs8
      have hand : bits .and .i64 (s : Int) (z : Int) = (y : Int) := by rw [hy]; exact i64_andW s z (by omega) (by omega)
      have hel : elems y = Hw.nx (ww l) p := by rw [hy, hzz, hu]; exact h.set.next (hok.ww h.last).2.1
      have hli := l02List_any y hy8 Wa
      rw [hel] at hli
      obtain ⟨M, hM⟩ : ∃ M, M = (Hw.nx (ww l) p).length := ⟨_, rfl⟩
      rw [← hM] at hli
      have hM8 : M ≤ 8 := by rw [hM]; exact Hw.nx_len _ _
      have hui : (u : Int) < (l.length : Int) := by omega
      have hmx : l.length ≤ 9223372036854775807 := by omega
      have HLI := Lib.hid hli
      have HM := Lib.hid hM
      have HH := Lib.hid h
      have HIH := Lib.hid ih
      have HOK := Lib.hid hok
      have HNK := Lib.hid hpl
      have HWa := Lib.hid hWa
      have HR := Lib.hid hrowa
      rw [HWa.out] at c1 hcx
      clear hli hM h ih hok hpl hWa hrowa hz hz1 hzz hy hel hu hP hsp hrow habl
      go_enter Try.func79, Try.ntmps79
      go_wp2_with fail
      rw [← HWa.out]
      refine HLI.out.mono ?_
      rintro e w1 ⟨⟨ge, ce, rfl, hown⟩, hb1⟩
      have X1 := Lib.hid (xa.below hb1 xa.lt)
      have B1 := Lib.hid (hba.trans (hb1.mono hba.size))
      have R1 := Lib.hid (HR.out.below hb1 (Nat.le_refl _))
      have HOWN := Lib.hid hown
      have hgl := (hown.lt ge rfl).2
      clear hown hb1 c1 hcx xa
      go_wp2
      go_loopw [8, 29] (fun cc i wr => ∃ j c : Nat, j ≤ M ∧ i = .int .i64 (j : Int) ∧ cc = .int .i64 (c : Int) ∧ Hid (c = (extT (ww l) (l.length : Int) (m + 1) p j).countP (cB l)) ∧ Below w1.heap.size w1 wr) (fun _ i _ => M - (intOf i).toNat)
      case atStart => exact ⟨0, 0, Nat.zero_le _, rfl, rfl, rfl, Below.refl _ _⟩
      case round =>
        obtain ⟨j, c, hj, rfl, rfl, hc, hb⟩ := hrel
        by_cases hlt : j < M
        · obtain ⟨b, hbj⟩ : ∃ b, (Hw.nx (ww l) p)[j]? = some b := ⟨_, List.getElem?_eq_getElem (by rw [← HM.out]; exact hlt)⟩
          obtain ⟨s2, hs2, hch⟩ := HH.out.child HOK.out (List.mem_of_getElem? hbj)
          have hcr : wr.cell? ⟨ge, j, none⟩ = some (.int .i64 (b : Int)) := by
            rw [hb.cell (p := ⟨ge, j, none⟩) hgl, HOWN.out.cellAt j (by omega), List.getElem?_map, hbj]; rfl
          have xr := X1.out.below hb X1.out.lt
          have c0 := xr.c0
          have c1 := xr.c1
          have hrr := R1.out.below hb (Nat.le_refl _)
          have hcall := HIH.out (p ++ [b]) s2 s b wr hrr hch (by rw [List.getLastD_concat]) hs2
          obtain ⟨x, hx⟩ : ∃ x, x = (Hw.ext (ww l) (l.length : Int) m (p ++ [b])).countP (cB l) := ⟨_, rfl⟩
          rw [← hx] at hcall
          have hx2 : x ≤ 2097152 := by rw [hx]; exact Nat.le_trans List.countP_le_length (ext_le _ _ (by have := HH.out.lm; have := List.length_pos_iff.2 HH.out.ne; omega) _)
          have hc2 : c ≤ 16777216 := by rw [hc.out]; exact Nat.le_trans List.countP_le_length (extT_le (by have := HH.out.lm; have := List.length_pos_iff.2 HH.out.ne; omega) _ _)
          have HN : Hid (c + x = (extT (ww l) (l.length : Int) (m + 1) p (j + 1)).countP (cB l)) := by
            show _ = _
            rw [extT_succ hbj, List.countP_append, ← hc.out, hx]; rfl
          have hjb : (j : Int) < (M : Int) := by omega
          have HC := Lib.hid hcall
          have HB := Lib.hid hb
          clear hcall hx hbj hs2 hch hb hc xr hrr
          go_wp2_with fail
          refine HC.out.mono ?_
          rintro e w2 ⟨rfl, hb2⟩
          have HB2 := Lib.hid (HB.out.trans (hb2.mono HB.out.size))
          clear hb2 c0 c1 hcr
          go_wp2
          go_roundw
          case rel => exact ⟨j + 1, c + x, by omega, by go_num, by go_num, HN, HB2.out⟩
          case measure => simp [intOf]; omega
        · obtain rfl : j = M := by omega
          have HF : Hid (c = (Hw.ext (ww l) (l.length : Int) (m + 1) p).countP (cB l)) := by
            show _ = _
            rw [hc.out, HM.out, extT_all HNK.out HH.out.way.1 (fun x hx => by have := HH.out.low x hx; omega) HH.out.lm]
          have HB := Lib.hid (B1.out.trans (hb.mono B1.out.size))
          clear hb hc
          go_wp2
          go_ret
          exact ⟨by rw [← HF.out]; rfl, HB.out⟩
end Go.Proofs.Ytnlpfajncpbjpaa
