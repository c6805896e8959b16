/-
  'ReverseTriangle' of the program. No conditions but the bounds that Go gives a slice.
-/
import Derived.Test.Ytgdejippddcekaa6L
namespace Go.Proofs.Ytgdejippddcekaa
open Go.ChangeShapes Go.WideShapes Go.ChangeAt Go.RowKit
set_option linter.unusedVariables false

theorem rvR_le (n : Int) (l r : List Int) : (rvR n l r).length ≤ 8 := by
  unfold rvR
  cases h : isB n l r
  · simp
  · obtain ⟨ok, hn, _⟩ := is_parts h
    simp only [if_true]
    rw [revL_len]
    have := ok.2.1; have := ok.2.2.1; omega

set_option maxRecDepth 100000 in
set_option maxHeartbeats 2000000 in
theorem implReverseTriangle (n : Int) (a : Option Addr) (l : List Int) (cap : Nat) (b : Option Addr) (r : List Int) (cb : Nat) (w : World) (hrow : IntRow w a l) (hl : l.length ≤ maxLen) (hrb : IntRow w b r) (hlr : r.length ≤ maxLen) :
    Calls Try.prog 22 #[.agg #[.int .i64 n, .slice a l.length cap], .slice b r.length cb] w fun e w' => (∃ a0 c0, e = .returned (.tuple #[.agg #[.int .i64 (rvN n l r), .slice a0 (rvR n l r).length c0], .bool (isB n l r)]) ∧ w'.ownsRow w.heap.size 3 1 (.slice a0 (rvR n l r).length c0) (rvR n l r).length ((rvR n l r).map iv)) ∧ Below w.heap.size w w' := by
  obtain ⟨W1, hW1⟩ : ∃ W1, W1 = w.alloc (.cells #[.int .i64 n, .slice a l.length cap] 28) := ⟨_, rfl⟩
  obtain ⟨W2, hW2⟩ : ∃ W2, W2 = W1.alloc (.cells #[.int .i64 0, .slice none 0 0] 28) := ⟨_, rfl⟩
  have b1 : Below w.heap.size w W1 := by rw [hW1]; exact (Below.refl _ _).alloc (Nat.le_refl _) _
  have b2 : Below W1.heap.size W1 W2 := by rw [hW2]; exact (Below.refl _ _).alloc (Nat.le_refl _) _
  have x1 : Box W1 w.heap.size 28 (.int .i64 n) (.slice a l.length cap) := by rw [hW1]; exact Box.new _ _ _ _
  have xr : Box W2 W1.heap.size 28 (.int .i64 0) (.slice none 0 0) := by rw [hW2]; exact Box.new _ _ _ _
  have hba := b1.trans (b2.mono b1.size)
  have xt := x1.below b2 x1.lt
  have sw1 : Hid (W1.heap.size = w.heap.size + 1) := by show _ = _; rw [hW1]; simp
  have HW2 : Hid (W2 = (w.alloc (.cells #[.int .i64 n, .slice a l.length cap] 28)).alloc (.cells #[.int .i64 0, .slice none 0 0] 28)) := by show _ = _; rw [hW2, hW1]
  have q1 : w.heap.size < W1.heap.size := x1.lt
  have q2 : W1.heap.size < W2.heap.size := xr.lt
  have hrow2 := hrow.below hba (Nat.le_refl _)
  have hrb2 := hrb.below hba (Nat.le_refl _)
  have c0 := xt.c0
  have c1 := xt.c1
  have HL := Lib.hid hl
  have HLR := Lib.hid hlr
  have HIS := Lib.hid (implIsTriangle n a l cap b r cb W2 hrow2 hl hrb2 hlr)
  clear hW1 hW2 b1 b2 x1 hl hlr hrow hrb
  cases hi : isB n l r
  · have HI := Lib.hid hi
    have HE0 : Hid (rvN n l r = 0) := by show _ = _; unfold rvN; rw [hi]; rfl
    have HE1 : Hid (rvR n l r = []) := by show _ = _; unfold rvR; rw [hi]; rfl
    clear hi
    rw [HW2.out] at c0 c1
    go_enter Try.func22, Try.ntmps22
    go_wp2_with fail
    rw [← HW2.out]
    refine HIS.out.mono ?_
    rintro e w1 ⟨rfl, hb1⟩
    rw [HI.out]
    have xr1 := xr.below hb1 xr.lt
    rw [sw1.out] at xr1
    have d0 := xr1.c0
    have d1 := xr1.c1
    have d2 := xr1.f0
    have d3 := xr1.f1
    have XR := Lib.hid xr1
    have HB := Lib.hid (hba.trans (hb1.mono hba.size))
    clear c0 c1 xr1 hb1 hba xr xt hrow2 hrb2
    go_wp2
    refine bodyPost_ret (v := .tuple #[.agg #[.int .i64 0, .slice none 0 0], .bool false]) (Box.res2 rfl _ rfl rfl ((XR.out.set0 _).set1 _)) rfl ?_
    refine ⟨⟨none, 0, ?_, ?_⟩, (HB.out.setCell (p := ⟨w.heap.size + 1, 0, none⟩) (by simp only; omega) _).setCell (p := ⟨w.heap.size + 1, 1, none⟩) (by simp only; omega) _⟩
    · rw [HE0.out, HE1.out]; rfl
    · rw [HE1.out]; exact World.ownsRow_nil _ _ _ _
  · have HI := Lib.hid hi
    obtain ⟨ok, hn, x, y, z, hr, hx, hy, hz, hxy, hxz, hyz, _⟩ := is_parts hi
    have HE0 : Hid (rvN n l r = n) := by show _ = _; unfold rvN; rw [hi]; rfl
    have HE1 : Hid (rvR n l r = revL l x y z) := by show _ = _; unfold rvR; rw [hi, hr]; rfl
    subst hn
    subst hr
    have HOK := Lib.hid ok
    have HLN : Hid ((revL l x y z).length = l.length) := revL_len l x y z
    clear hi ok
    rw [HW2.out] at c0 c1
    go_enter Try.func22, Try.ntmps22
    go_wp2_with fail
    rw [← HW2.out]
    refine HIS.out.mono ?_
    rintro e w1 ⟨rfl, hb1⟩
    rw [HI.out]
    have xt1 := xt.below hb1 xt.lt
    have xr1 := xr.below hb1 xr.lt
    have hB1 := hba.trans (hb1.mono hba.size)
    have HREV := Lib.hid (reversed_any l.length a l cap b x y z cb w1 rfl (hrow2.below hb1 (Nat.le_refl _)) HOK.out (hrb2.below hb1 (Nat.le_refl _)) hx hy hz (by omega) (by omega) (by omega))
    clear c0 c1
    have c0 := xt1.c0
    have c1 := xt1.c1
    go_wp2_with fail
    refine HREV.out.mono ?_
    rintro e w3 ⟨⟨a0, c0', rfl, ho⟩, hb3⟩
    have xr3 := xr1.below hb3 xr1.lt
    have qr : W1.heap.size < w1.heap.size := xr1.lt
    rw [sw1.out] at xr3 qr
    have d0 := xr3.c0
    have d1 := xr3.c1
    have d2 := xr3.f0
    have d3 := xr3.f1
    have XR := Lib.hid xr3
    have HO := Lib.hid ho
    have HB := Lib.hid (hB1.trans (hb3.mono hB1.size))
    have hsz := hB1.size
    clear c0 c1 xr3 ho hb3 hb1 hba xr xt xt1 xr1 hrow2 hrb2 hB1
    go_wp2
    refine bodyPost_ret (v := .tuple #[.agg #[.int .i64 l.length, .slice a0 l.length c0'], .bool true]) (Box.res2 rfl _ rfl rfl ((XR.out.set0 _).set1 _)) rfl ?_
    refine ⟨⟨a0, c0', ?_, ?_⟩, (HB.out.setCell (p := ⟨w.heap.size + 1, 0, none⟩) (by simp only; omega) _).setCell (p := ⟨w.heap.size + 1, 1, none⟩) (by simp only; omega) _⟩
    · rw [HE0.out, HE1.out, HLN.out]
    · rw [HE1.out, HLN.out]
      exact (own_set (own_set HO.out ⟨w.heap.size + 1, 0, none⟩ _ qr) ⟨w.heap.size + 1, 1, none⟩ _ qr).mono hsz
end Go.Proofs.Ytgdejippddcekaa
