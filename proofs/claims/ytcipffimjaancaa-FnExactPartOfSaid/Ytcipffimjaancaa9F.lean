/-
  'PartOf' of the program. No conditions but the bounds that Go gives a slice.
-/
import Derived.Test.Ytcipffimjaancaa9E
namespace Go.Proofs.Ytcipffimjaancaa
open Go.ChangeShapes Go.WideShapes Go.ChangeAt Go.RowKit
set_option linter.unusedVariables false

set_option maxRecDepth 100000 in
set_option maxHeartbeats 2000000 in
theorem implPartOf (n : Int) (a : Option Addr) (l : List Int) (cap : Nat) (p : Int) (w : World) (hrow : IntRow w a l) (hl : l.length ≤ maxLen) :
    Calls Try.prog 39 #[.agg #[.int .i64 n, .slice a l.length cap], .int .i64 p] w fun e w' => e = .returned (.int .i64 (poR n l p)) ∧ Below w.heap.size w w' := by
  obtain ⟨W1, hW1⟩ : ∃ W1, W1 = w.alloc (.cells #[.int .i64 n, .slice a l.length cap] 25) := ⟨_, rfl⟩
  obtain ⟨Wa, hWa⟩ : ∃ Wa, Wa = W1.alloc (.cells #[.int .i64 p] 3) := ⟨_, rfl⟩
  have s1 : W1.heap.size = w.heap.size + 1 := by rw [hW1]; simp
  have hb1 : Below w.heap.size w W1 := by rw [hW1]; exact (Below.refl _ _).alloc (Nat.le_refl _) _
  have hba : Below w.heap.size w Wa := by rw [hWa]; exact hb1.alloc hb1.size _
  have x1 : Box W1 w.heap.size 25 (.int .i64 n) (.slice a l.length cap) := by rw [hW1]; exact Box.new _ _ _ _
  have xa : Box Wa w.heap.size 25 (.int .i64 n) (.slice a l.length cap) := by rw [hWa]; exact x1.grown (World.grownBy_alloc _ _ none) (by simp)
  have xp : Boxed Wa (w.heap.size + 1) 3 (.int .i64 p) := by rw [hWa, ← s1]; exact Boxed.new _ _ _
  have HWa : Hid (Wa = (w.alloc (.cells #[.int .i64 n, .slice a l.length cap] 25)).alloc (.cells #[.int .i64 p] 3)) := by rw [hWa, hW1]; exact rfl
  have hrowa : IntRow Wa a l := hrow.below hba (Nat.le_refl _)
  have HL := Lib.hid hl
  clear hl hrow hWa hW1 s1 hb1 x1
  cases hok : okB n l
  · have HO := Lib.hid hok
    have HE : Hid (poR n l p = -1) := by show _ = _; unfold poR; rw [hok]; rfl
    clear hok
    go_enter Try.func39, Try.ntmps39
    go_wp2_with fail
    rw [← HWa.out]
    refine (implTourOk n a l cap Wa hrowa HL.out).mono ?_
    rintro e w1 ⟨rfl, hb1⟩
    rw [HO.out]
    go_wp2
    go_ret
    exact ⟨by rw [HE.out]; rfl, hba.trans (hb1.mono hba.size)⟩
  have HO := Lib.hid hok
  have hk := okB_iff.1 hok
  have hnl := hk.2.2.1
  have hn8 := hk.2.1
  cases hp : pl n p
  · have HP := Lib.hid hp
    have HE : Hid (poR n l p = -1) := by show _ = _; unfold poR; rw [hp]; simp
    clear hok hp hk
    go_enter Try.func39, Try.ntmps39
    go_wp2_with fail
    rw [← HWa.out]
    refine (implTourOk n a l cap Wa hrowa HL.out).mono ?_
    rintro e w1 ⟨rfl, hb1⟩
    rw [HO.out]
    have c0 := (xa.below hb1 xa.lt).c0
    have c1 := (xa.below hb1 xa.lt).c1
    have xp1 : Boxed w1 (w.heap.size + 1) 3 (.int .i64 p) := (hb1.block _ xp.lt).trans xp
    have cp := xp1.cell
    go_wp2_with fail
    refine (hasPlayer_pl n a _ cap p w1).mono ?_
    rintro e w2 ⟨rfl, hb2⟩
    rw [HP.out]
    go_wp2
    go_ret
    have b1 := hba.trans (hb1.mono hba.size)
    exact ⟨by rw [HE.out]; rfl, b1.trans (hb2.mono b1.size)⟩
  · have HP := Lib.hid hp
    have hp2 := pl_iff.1 hp
    obtain ⟨i, rfl⟩ : ∃ i : Nat, p = i := ⟨p.toNat, by omega⟩
    have hil : i < l.length := by omega
    have hi64 : i < 64 := by omega
    have hlp := part_list hk
    obtain ⟨P, hP⟩ : ∃ P, P = Rc.dfs (dsL l) := ⟨_, rfl⟩
    rw [← hP] at hlp
    have HE : Hid (poR n l i = ixAt P i 0) := by show _ = _; unfold poR; rw [hok, hp, hP]; rfl
    have hsp : spR n l = P.map Int.ofNat := by unfold spR; rw [hok, hP]; rfl
    have hcall := fun (W : World) (hR : IntRow W a l) => implParts n a l cap W hR HL.out
    rw [hsp, List.length_map] at hcall
    have HC := Lib.hid hcall
    have HP8 := Lib.hid hlp.2
    have hpl : P.length ≤ 8 := hlp.1
    clear hok hk hp hp2 hlp hP hsp hcall
    go_enter Try.func39, Try.ntmps39
    go_wp2_with fail
    rw [← HWa.out]
    refine (implTourOk n a l cap Wa hrowa HL.out).mono ?_
    rintro e w1 ⟨rfl, hb1⟩
    rw [HO.out]
    have xa1 := xa.below hb1 xa.lt
    have xp1 : Boxed w1 (w.heap.size + 1) 3 (.int .i64 (i : Int)) := (hb1.block _ xp.lt).trans xp
    have c0 := xa1.c0
    have c1 := xa1.c1
    have cp := xp1.cell
    go_wp2_with fail
    refine (hasPlayer_pl n a _ cap i w1).mono ?_
    rintro e w2 ⟨rfl, hb2⟩
    rw [HP.out]
    have xa2 := xa1.below hb2 xa1.lt
    have xp2 : Boxed w2 (w.heap.size + 1) 3 (.int .i64 (i : Int)) := (hb2.block _ xp1.lt).trans xp1
    clear c0 c1 cp
    have c0 := xa2.c0
    have c1 := xa2.c1
    have hr2 := Lib.hid ((hrowa.below hb1 (Nat.le_refl _)).below hb2 (Nat.le_refl _))
    have b1 := hba.trans (hb1.mono hba.size)
    have B2 := Lib.hid (b1.trans (hb2.mono b1.size))
    clear hrowa hb1 hb2 b1 xa xp xa1 xp1
    go_wp2_with fail
    refine (HC.out w2 hr2.out).mono ?_
    rintro e w3 ⟨⟨a0, cp0, rfl, ho⟩, hb3⟩
    have HB3 := Lib.hid (B2.out.trans (hb3.mono B2.out.size))
    have hir : IntRow w3 a0 (P.map Int.ofNat) := own_int (by rw [List.length_map]; exact ho)
    have xp3 : Boxed w3 (w.heap.size + 1) 3 (.int .i64 (i : Int)) := (hb3.block _ xp2.lt).trans xp2
    have HX := Lib.hid (indexF_any a0 cp0 P i (w.heap.size + 1) w3 hpl hi64 hir xp3)
    clear ho hb3 hir c0 c1 xp2 xp3 xa2
    go_wp2_with fail
    refine HX.out.mono ?_
    rintro e w' ⟨rfl, rfl⟩
    go_wp2
    go_ret
    exact ⟨by rw [HE.out]; rfl, HB3.out⟩
end Go.Proofs.Ytcipffimjaancaa
