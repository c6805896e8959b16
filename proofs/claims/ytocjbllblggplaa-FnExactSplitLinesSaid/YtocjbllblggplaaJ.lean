/-
  'FnExactSplitAny': the program's SplitAny answers as the model's, for every string and every set of separators; its answers own their memory. No conditions.
-/
import Derived.Test.YtocjbllblggplaaI
namespace Go.Proofs.Ytocjbllblggplaa
open Go.ChangeShapes Go.WideShapes Go.ChangeAt Go.RowKit
open Go.ChangeMaps (open_string shut_string)
set_option linter.unusedVariables false

theorem spl_length (s y : ByteArray) : ∀ k, (spl s y k).1.length ≤ k
  | 0 => by simp [spl]
  | k + 1 => by
    have := spl_length s y k
    simp only [spl]
    split
    · simp; omega
    · omega
theorem splL_length (s y : ByteArray) : 1 ≤ (splL s y).length ∧ (splL s y).length ≤ s.size + 1 := by
  have := spl_length s y s.size
  unfold splL
  simp; omega

/-- The list that a call has made, by its address. -/
theorem own_slice {w : World} {B : Nat} {v : Value} {l : List ByteArray} (h : w.ownsRow B 9 1 v l.length (l.map Value.string)) (h1 : 1 ≤ l.length) : ∃ g cap, v = .slice (some ⟨g, 0, none⟩) l.length cap := by
  rcases h.2 with ⟨_, h0⟩ | ⟨g, cap, cur, hv, _⟩
  · omega
  · exact ⟨g, cap, hv⟩
theorem StrRow.of_own2 {w : World} {B g cap : Nat} {l : List ByteArray} (h : w.ownsRow B 9 1 (.slice (some ⟨g, 0, none⟩) l.length cap) l.length (l.map Value.string)) : StrRow w (some ⟨g, 0, none⟩) l := by
  refine .inr ⟨g, 0, rfl, (h.lt g rfl).2, fun j hj => ?_⟩
  rw [Nat.zero_add, h.cellAt j (by omega)]
  simp [List.getElem?_eq_getElem hj]

set_option maxHeartbeats 8000000 in
/-- What the laws over a list of new texts do behind the model's answer: for any function with this contract. -/
theorem walkSplitAny (s y : ByteArray) (w : World) (hs : s.size ≤ maxLen) (hy : y.size ≤ maxLen) :
    Calls Try.prog 5 #[.string s, .string y] w fun e w' => e = .returned (.bool true) ∧ Below w.heap.size w w' := by
  by_cases hbig : (1048576 : Int) < (s.size : Int)
  · unfold maxLen at hs hy
    go_enter Try.func5, Try.ntmps5
    go_wp2
    go_ret
    exact ⟨rfl, Below.refl _ _⟩
  · by_cases hbig2 : (1048576 : Int) < (y.size : Int)
    · unfold maxLen at hs hy
      go_enter Try.func5, Try.ntmps5
      go_wp2
      go_ret
      exact ⟨rfl, Below.refl _ _⟩
    · have HY := Lib.hid hy
      have hs20 : s.size ≤ 1048576 := by omega
      obtain ⟨hl1, hl2⟩ := splL_length s y
      have hl3 : (splL s y).length ≤ 1048577 := by omega
      have hl4 : Hid ((splL s y).length ≤ maxLen) := by show _ ≤ _; unfold maxLen; omega
      unfold maxLen at hs hy
      go_enter Try.func5, Try.ntmps5
      go_wp2_with fail
      refine (specSplitAny s y _ hs20 HY.out).mono ?_
      rintro e w1 ⟨⟨v0, rfl, ho0⟩, hb1⟩
      obtain ⟨g0, c0, rfl⟩ := own_slice ho0 hl1
      go_wp2_with fail
      refine (implSplitAny s y _ hs20 HY.out).mono ?_
      rintro e w2 ⟨⟨v1, rfl, ho1⟩, hb2⟩
      obtain ⟨g1, c1, rfl⟩ := own_slice ho1 hl1
      have hr0 := (StrRow.of_own2 ho0).below hb2
      have hg0 : g0 < w1.heap.size := (ho0.lt g0 rfl).2
      have b2 := hb1.trans (hb2.mono hb1.size)
      go_wp2_with fail
      refine (eqStr_same _ _ _ _ _ w2 hl4.out (StrRow.of_own2 ho1) hr0).mono ?_
      rintro e w3 ⟨rfl, hb3⟩
      have ho1' := own_below ho1 hb3
      have hr0' := hr0.below hb3
      have b3 := b2.trans (hb3.mono b2.size)
      clear ho0 ho1
      go_wp2_with fail
      refine (markStr w1.heap.size g1 _ c1 _ w3 hl3 (Nat.le_trans hb2.size hb3.size) ho1').mono ?_
      rintro e w4 ⟨rfl, ho4, hb4⟩
      have hr4 : StrRow w4 (some ⟨g0, 0, none⟩) (splL s y) := by
        rcases hr0' with h | ⟨b, off, ha, hlt, hc⟩
        · exact .inl h
        · refine .inr ⟨b, off, ha, Nat.lt_of_lt_of_le hlt hb4.size, fun j hj => ?_⟩
          have hbe : b = g0 := by simp at ha; exact ha.1.symm
          subst hbe
          exact (hb4.cell (p := ⟨b, off + j, none⟩) hg0).trans (hc j hj)
      have b4 := b3.trans (hb4.mono hb1.size)
      clear ho1' hr0 hr0'
      go_wp2_with fail
      refine (heldStr w1.heap.size g1 _ c1 w4 hl3 ho4).mono ?_
      rintro e w5 ⟨rfl, hb5⟩
      have ho5 := own_below ho4 hb5
      have hr5 := hr4.below hb5
      have b5 := b4.trans (hb5.mono b4.size)
      have hneg : ¬ ((splL s y).length : Int) + 1 < 0 := by omega
      clear ho4 hr4
      go_wp2_with fail
      refine (implSplitAny s y _ hs20 HY.out).mono ?_
      rintro e w6 ⟨⟨v2, rfl, ho2⟩, hb6⟩
      obtain ⟨g2, c2, rfl⟩ := own_slice ho2 hl1
      have hr6 := hr5.below hb6
      have ho6 := own_below ho5 hb6
      have b6 := b5.trans (hb6.mono b5.size)
      clear ho5 hr5
      go_wp2_with fail
      refine (eqStr_same _ _ _ _ _ w6 hl4.out (StrRow.of_own2 ho2) hr6).mono ?_
      rintro e w7 ⟨rfl, hb7⟩
      have ho7 := own_below ho6 hb7
      have b7 := b6.trans (hb7.mono b6.size)
      clear ho6 ho2 hr6
      go_wp2_with fail
      refine (heldStr w1.heap.size g1 _ c1 w7 hl3 ho7).mono ?_
      rintro e w8 ⟨rfl, hb8⟩
      have b8 := b7.trans (hb8.mono b7.size)
      go_wp2
      go_ret
      exact ⟨rfl, b8⟩
end Go.Proofs.Ytocjbllblggplaa
namespace Go.Proofs.Ytocjbllblggplaa.fnExactSplitAny
open Go.ChangeShapes Go.WideShapes Go.ChangeAt Go.RowKit
open Go.ChangeMaps (open_string shut_string)
set_option linter.unusedVariables false
set_option maxRecDepth 100000 in
theorem lifted (os : Os) (started : os.Started) (H : Type) (enc : TypeId × Value → H) :
    ReturnsInHanded {} Try.checked os 5 .any (Rows.fnExactSplitAnySpec.pre6 enc Try.prog Try.f5 Rows.fnExactSplitAnyRow.domain false) (Rows.fnExactSplitAnySpec.post enc Try.prog Try.f5 false true false false) := by
  refine returnsInHanded_of_change (C := Try.checked) own started (by kernel_rfl) Try.func5
    (ChangeSpec.witness6 (enc := enc) (C := Try.checked) false ⟨#[], #[.string ⟨#[]⟩, .string ⟨#[]⟩], []⟩ 8 (by kernel_rfl) (by kernel_rfl) (by kernel_rfl) (by kernel_rfl)) ?_
  intro W base args ds gs before hval0 hW hcnd _
  have hval : ∀ (j : Nat) t v, Try.f5.params[j]? = some t → args[j]? = some v → Value.okWide Try.prog W .any base t v := hval0
  have hW' := hW
  obtain ⟨p, q, hA0, hV, rfl, hfz, hnd⟩ := hW
  have hA : DataW.TrodAll enc Try.prog W 0 (fun _ => true) true Try.f5.params.toList args.toList ds p := hA0
  rw [Try.params5] at hA hval
  obtain ⟨v0, vs0, d0, ds0, p0, q0, hargs, rfl, rfl, h0, r0⟩ := trodAll_cons hA
  obtain ⟨v1, vs1, d1, ds1, p1, q1, rfl, rfl, rfl, h1, r1⟩ := trodAll_cons r0
  obtain ⟨rfl, rfl, rfl⟩ := trodAll_nil r1
  obtain rfl : args = #[v0, v1] := by cases args; simp_all
  obtain ⟨rfl, rfl⟩ := trodVars_none hV
  obtain ⟨s0, rfl, rfl, rfl, hs0⟩ := open_string Try.underlying9 (hval 0 9 v0 rfl rfl) h0
  obtain ⟨s1, rfl, rfl, rfl, hs1⟩ := open_string Try.underlying9 (hval 1 9 v1 rfl rfl) h1
  clear hA0 hval0
  refine (walkSplitAny s0 s1 W hs0 hs1).mono fun e W' ⟨he, bel⟩ => ?_
  subst he
  exact ⟨_, rfl, _, _, _, [], _, [], hW', trodAll_mk1 (shut_bool Try.underlying4 _), (trodAll_cons_mk (shut_string Try.underlying9 hs0) (trodAll_cons_mk (shut_string Try.underlying9 hs1) trodAll_mk0)), rfl, bel.frame _, fun h => by cases h⟩

theorem proved : Rows.FnExactSplitAnySaid :=
  OpenClaim.holds_of_wide 5 Try.f5 rfl rfl rfl rfl rfl rfl rfl ⟨rfl, rfl, rfl, rfl, rfl⟩ rfl rfl rfl rfl rfl (by kernel_rfl) Try.func5 (by kernel_rfl)
    (of_decide_eq_true (by kernel_rfl)) (by unfold Func.isWrapper; first | (rw [if_pos (by decide +kernel)]; kernel_rfl) | (rw [if_neg (by decide +kernel)]; exact ⟨rfl, rfl⟩))
    (fun os started H enc _ => lifted os started H enc)
end Go.Proofs.Ytocjbllblggplaa.fnExactSplitAny
