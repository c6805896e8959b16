/-
  Both 'SequenceOf', and both 'IsRegular'. No conditions but the bounds that Go gives a slice.
-/
import Derived.Test.Ytnlbijmkehijiaa3C
import Derived.Test.Ytnlbijmkehijiaa3U
import Derived.Test.Ytnlbijmkehijiaa3I
import Derived.Test.YtnlbijmkehijiaaShelfN
import Derived.Sort.OwnSortedInts
namespace Go.Proofs.Ytnlbijmkehijiaa
open Go.ChangeShapes Go.WideShapes Go.ChangeAt Go.RowKit
set_option linter.unusedVariables false

/-- The library's sort of a row of the call's own. -/
theorem sort_own (B : Nat) (a : Option Addr) (cap : Nat) (L : List Int) (w : World) (h0 : 0 < L.length) (hl : L.length ≤ 1048576) (hown : w.ownsRow B 3 1 (.slice a L.length cap) L.length (L.map iv)) :
    Calls Try.prog 44 #[.slice a L.length cap] w fun e w' => e = .returned (.tuple #[]) ∧ w'.ownsRow B 3 1 (.slice a L.length cap) L.length ((Tmpm.srt L).map iv) ∧ w.grownBy w' (blk a) ∧ Below B w w' := by
  rcases hown.2 with ⟨hn, _⟩ | ⟨g, cap', cur, he, hbase, hb, h1, h2, h3, h4⟩
  · simp at hn; omega
  simp only [Value.slice.injEq, true_and] at he
  obtain ⟨rfl, rfl⟩ := he
  have hm : ∀ M : List Int, M.map iv = M.map (Value.int .i64) := fun _ => rfl
  refine (Try.slices_Sort_int g 0 cap L w (holds_of_blockI hb (by rw [← hm, ← h4, Nat.mul_one])) (Array.getElem?_eq_some_iff.1 hb).1 (by omega)).mono ?_
  rintro e w' ⟨rfl, nn, os, rfl⟩
  have hg := grownBy_sortedI (w := w) (g := g) (n := nn) (os := os) (L.mergeSort fun x y => decide (x ≤ y)).toArray
  refine ⟨rfl, ?_, hg, ?_⟩
  · exact ownsRow_sortedI (by simp) hbase hb h1 h2 h3
  · exact ⟨hg.os, hg.tape, hg.output, hg.size, fun k hk => hg.block k (by have := (Array.getElem?_eq_some_iff.1 hb).1; omega) (fun e => by cases e; omega)⟩

noncomputable def seqL (n : Int) (l : List Int) : List Int := if okB n l then Tmpm.srt ((scoresL l).map Int.ofNat) else []
theorem seqL_le (n : Int) (l : List Int) : (seqL n l).length ≤ 8 := by
  unfold seqL
  cases h : okB n l
  · simp
  · have hk := okB_iff.1 h
    have h1 := hk.2.1
    have h2 := hk.2.2.1
    simp only [if_true]
    rw [Tmpm.srt_len, List.length_map, scoresL_len]
    omega

set_option maxHeartbeats 400000 in
theorem implSequence (n : Int) (a : Option Addr) (l : List Int) (cap : Nat) (w : World) (hrow : IntRow w a l) (hl : l.length ≤ maxLen) :
    Calls Try.prog 15 #[.agg #[.int .i64 n, .slice a l.length cap]] w fun e w' => (∃ a0 c0, e = .returned (.slice a0 (seqL n l).length c0) ∧ w'.ownsRow w.heap.size 3 1 (.slice a0 (seqL n l).length c0) (seqL n l).length ((seqL n l).map iv)) ∧ Below w.heap.size w w' := by
  obtain ⟨Wa, hWa⟩ : ∃ Wa, Wa = w.alloc (.cells #[.int .i64 n, .slice a l.length cap] 27) := ⟨_, rfl⟩
  have HWa := Lib.hid hWa
  have hba : Below w.heap.size w Wa := by rw [hWa]; exact (Below.refl _ _).alloc (Nat.le_refl _) _
  have hrowa : IntRow Wa a l := hrow.below hba (Nat.le_refl _)
  have HL := Lib.hid hl
  clear hl hrow hWa
  cases hok : okB n l
  · have HE : Hid (seqL n l = []) := by show _ = _; unfold seqL; rw [hok]; rfl
    have hC : Hid (Calls Try.prog 43 #[.agg #[.int .i64 n, .slice a l.length cap]] Wa fun e w' => (∃ a1 c1, e = .returned (.slice a1 0 c1) ∧ w'.ownsRow Wa.heap.size 3 1 (.slice a1 0 c1) 0 []) ∧ Below Wa.heap.size Wa w') := by
      show Calls _ _ _ _ _
      refine (implScoresOf n a l cap Wa hrowa HL.out).mono ?_
      rintro e w' ⟨⟨v, rfl, ho⟩, hb⟩
      have hr : resS n l = [] := by unfold resS; rw [hok]; rfl
      rw [hr] at ho
      obtain ⟨a1, c1, rfl, _⟩ := own_read (l := []) ho
      exact ⟨⟨a1, c1, rfl, ho⟩, hb⟩
    clear hok hrowa
    go_enter Try.func15, Try.ntmps15
    go_wp2_with fail
    rw [← HWa.out]
    refine hC.out.mono ?_
    rintro e w1 ⟨⟨a1, c1, rfl, ho⟩, hb1⟩
    have HO := Lib.hid (ho.mono hba.size)
    clear ho
    go_wp2_with fail
    refine (Try.slices_Sort_int_none _ _ _).mono ?_
    rintro e w2 ⟨rfl, rfl⟩
    go_wp2
    go_ret
    exact ⟨⟨a1, c1, by rw [HE.out]; rfl, by rw [HE.out]; exact HO.out⟩, hba.trans (hb1.mono hba.size)⟩
  · have hk := okB_iff.1 hok
    have h8 : l.length ≤ 8 := by have := hk.2.1; have := hk.2.2.1; omega
    have h1 : 0 < l.length := by have := hk.1; have := hk.2.2.1; omega
    have hlen := scoresL_len l
    have HE : Hid (seqL n l = Tmpm.srt ((scoresL l).map Int.ofNat)) := by show _ = _; unfold seqL; rw [hok]; rfl
    have hC : Hid (Calls Try.prog 43 #[.agg #[.int .i64 n, .slice a l.length cap]] Wa fun e w' => (∃ a1 c1, e = .returned (.slice a1 (scoresL l).length c1) ∧ w'.ownsRow Wa.heap.size 3 1 (.slice a1 (scoresL l).length c1) (scoresL l).length (((scoresL l).map Int.ofNat).map iv)) ∧ Below Wa.heap.size Wa w') := by
      show Calls _ _ _ _ _
      refine (implScores n a l cap Wa hrowa HL.out hok).mono ?_
      rintro e w' ⟨⟨a1, c1, rfl, _, ho⟩, hb⟩
      rw [nv_iv] at ho
      exact ⟨⟨a1, c1, rfl, ho⟩, hb⟩
    obtain ⟨S, hSe⟩ : ∃ S, S = scoresL l := ⟨_, rfl⟩
    rw [← hSe] at hlen hC
    have HSe := Lib.hid hSe
    have hs0 : 0 < S.length := by omega
    have hs8 : S.length ≤ 8 := by omega
    have hsort := fun (W : World) (a1 : Option Addr) (c1 : Nat) (ho : W.ownsRow Wa.heap.size 3 1 (.slice a1 (S.map Int.ofNat).length c1) (S.map Int.ofNat).length ((S.map Int.ofNat).map iv)) => sort_own Wa.heap.size a1 c1 (S.map Int.ofNat) W (by rw [List.length_map]; exact hs0) (by rw [List.length_map]; omega) ho
    rw [List.length_map] at hsort
    have HSort : Hid (∀ (W : World) (a1 : Option Addr) (c1 : Nat), W.ownsRow Wa.heap.size 3 1 (.slice a1 S.length c1) S.length ((S.map Int.ofNat).map iv) → Calls Try.prog 44 #[.slice a1 S.length c1] W fun e w' => e = .returned (.tuple #[]) ∧ w'.ownsRow Wa.heap.size 3 1 (.slice a1 S.length c1) S.length ((Tmpm.srt (S.map Int.ofNat)).map iv) ∧ W.grownBy w' (blk a1) ∧ Below Wa.heap.size W w') := hsort
    clear hok hk hlen hSe hsort hrowa
    go_enter Try.func15, Try.ntmps15
    go_wp2_with fail
    rw [← HWa.out]
    refine hC.out.mono ?_
    rintro e w1 ⟨⟨a1, c1, rfl, ho⟩, hb1⟩
    have HO := Lib.hid ho
    clear ho
    go_wp2_with fail
    refine (HSort.out w1 a1 c1 HO.out).mono ?_
    rintro e w2 ⟨rfl, ho2, _, hb2⟩
    have HO2 := Lib.hid (ho2.mono hba.size)
    have hlS : Hid ((Tmpm.srt (S.map Int.ofNat)).length = S.length) := by show _ = _; rw [Tmpm.srt_len, List.length_map]
    clear ho2
    go_wp2
    go_ret
    refine ⟨⟨a1, c1, by rw [HE.out, ← HSe.out, hlS.out]; rfl, by rw [HE.out, ← HSe.out, hlS.out]; exact HO2.out⟩, hba.trans ((hb1.trans hb2).mono hba.size)⟩

set_option maxHeartbeats 400000 in
theorem specSequence (n : Int) (a : Option Addr) (l : List Int) (cap : Nat) (w : World) (hrow : IntRow w a l) (hl : l.length ≤ maxLen) :
    Calls Try.prog 13 #[.agg #[.int .i64 n, .slice a l.length cap]] w fun e w' => (∃ a0 c0, e = .returned (.slice a0 (seqL n l).length c0) ∧ w'.ownsRow w.heap.size 3 1 (.slice a0 (seqL n l).length c0) (seqL n l).length ((seqL n l).map iv)) ∧ Below w.heap.size w w' := by
  obtain ⟨Wa, hWa⟩ : ∃ Wa, Wa = w.alloc (.cells #[.int .i64 n, .slice a l.length cap] 27) := ⟨_, rfl⟩
  have HWa := Lib.hid hWa
  have hba : Below w.heap.size w Wa := by rw [hWa]; exact (Below.refl _ _).alloc (Nat.le_refl _) _
  have xa : Box Wa w.heap.size 27 (.int .i64 n) (.slice a l.length cap) := by rw [hWa]; exact Box.new _ _ _ _
  have hrowa : IntRow Wa a l := hrow.below hba (Nat.le_refl _)
  have HL := Lib.hid hl
  clear hl hrow hWa
  cases hok : okB n l
  · have HO := Lib.hid hok
    have HE : Hid (seqL n l = []) := by show _ = _; unfold seqL; rw [hok]; rfl
    clear hok
    go_enter Try.func13, Try.ntmps13
    go_wp2_with fail
    rw [← HWa.out]
    refine (specTourOk n a l cap Wa hrowa HL.out).mono ?_
    rintro e w1 ⟨rfl, hb1⟩
    rw [HO.out]
    go_wp2
    go_ret
    exact ⟨⟨none, 0, by rw [HE.out]; rfl, by rw [HE.out]; exact World.ownsRow_nil _ _ _ _⟩, hba.trans (hb1.mono hba.size)⟩
  · have HO := Lib.hid hok
    have HK : Hid (Ok n l) := okB_iff.1 hok
    have h8 : l.length ≤ 8 := by have := HK.out.2.1; have := HK.out.2.2.1; omega
    have hlen := scoresL_len l
    have HE : Hid (seqL n l = Tmpm.srt ((scoresL l).map Int.ofNat)) := by show _ = _; unfold seqL; rw [hok]; rfl
    have hSC := fun (W : World) (hR : IntRow W a l) => specScores n a l cap W hR HL.out HK.out
    obtain ⟨S, hSe⟩ : ∃ S, S = scoresL l := ⟨_, rfl⟩
    rw [← hSe] at hlen hSC
    have HSe := Lib.hid hSe
    have HS : Hid (∀ (W : World), IntRow W a l → Calls Try.prog 42 #[.agg #[.int .i64 n, .slice a l.length cap]] W fun e w' => (∃ a1 c1, e = .returned (.slice a1 S.length c1) ∧ IntRow w' a1 (S.map Int.ofNat)) ∧ Below W.heap.size W w') := hSC
    have hsort := fun (W : World) (a1 : Option Addr) (c1 : Nat) (hi : IntRow W a1 (S.map Int.ofNat)) => l03Sort_any a1 c1 (S.map Int.ofNat) W hi (by rw [List.length_map]; omega)
    rw [List.length_map] at hsort
    have HSort : Hid (∀ (W : World) (a1 : Option Addr) (c1 : Nat), IntRow W a1 (S.map Int.ofNat) → Calls Try.prog 41 #[.slice a1 S.length c1] W fun e w' => (∃ g c, e = .returned (.slice (some ⟨g, 0, none⟩) S.length c) ∧ w'.ownsRow W.heap.size 3 1 (.slice (some ⟨g, 0, none⟩) S.length c) S.length ((Tmpm.srt (S.map Int.ofNat)).map iv)) ∧ Below W.heap.size W w') := hsort
    have hlS : Hid ((Tmpm.srt (S.map Int.ofNat)).length = S.length) := by show _ = _; rw [Tmpm.srt_len, List.length_map]
    clear hok hlen hSe hSC hsort
    go_enter Try.func13, Try.ntmps13
    go_wp2_with fail
    rw [← HWa.out]
    refine (specTourOk n a l cap Wa hrowa HL.out).mono ?_
    rintro e w1 ⟨rfl, hb1⟩
    rw [HO.out]
    have xa1 := xa.below hb1 xa.lt
    have hrow1 := hrowa.below hb1 (Nat.le_refl _)
    have c0 := xa1.c0
    have c1 := xa1.c1
    have hB1 := hba.trans (hb1.mono hba.size)
    clear xa xa1 hrowa hba hb1
    go_wp2_with fail
    refine (HS.out _ hrow1).mono ?_
    rintro e w2 ⟨⟨a2, cp2, rfl, hr2⟩, hb2⟩
    have hB2 := hB1.trans (hb2.mono hB1.size)
    clear c0 c1 hrow1 hB1 hb2
    go_wp2_with fail
    refine (HSort.out w2 a2 cp2 hr2).mono ?_
    rintro e w3 ⟨⟨g3, c3', rfl, ho3⟩, hb3⟩
    have HO3 := Lib.hid (ho3.mono hB2.size)
    clear ho3 hr2
    go_wp2
    go_ret
    exact ⟨⟨some ⟨g3, 0, none⟩, c3', by rw [HE.out, ← HSe.out, hlS.out]; rfl, by rw [HE.out, ← HSe.out, hlS.out]; exact HO3.out⟩, hB2.trans (hb3.mono hB2.size)⟩
end Go.Proofs.Ytnlbijmkehijiaa
