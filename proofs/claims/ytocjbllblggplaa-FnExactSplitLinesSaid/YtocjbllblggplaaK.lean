/-
  'FnExactSplitLines': the program's SplitLines answers as the model's, for every string; its answers own their memory. No conditions.
-/
import Derived.Test.YtocjbllblggplaaJ
namespace Go.Proofs.Ytocjbllblggplaa
open Go.ChangeShapes Go.WideShapes Go.ChangeAt Go.RowKit
open Go.ChangeMaps (open_string shut_string)
set_option linter.unusedVariables false

theorem own_take {w : World} {B g m n cap : Nat} {xs : List Value} (h : w.ownsRow B 9 1 (.slice (some ⟨g, 0, none⟩) n cap) n xs) (hm : m ≤ n) : w.ownsRow B 9 1 (.slice (some ⟨g, 0, none⟩) m cap) m (xs.take m) := by
  have hlen : xs.length = n := by simpa using h.1
  rcases h.2 with ⟨h', _⟩ | ⟨g', cap', cur, h', hb, hg, hnc, hcm, hcs, htake⟩
  · simp at h'
  · simp only [Value.slice.injEq, Option.some.injEq, Addr.mk.injEq, and_true, true_and] at h'
    obtain ⟨rfl, rfl⟩ := h'
    refine ⟨by simp; omega, .inr ⟨g, cap, cur, rfl, hb, hg, by omega, hcm, hcs, ?_⟩⟩
    rw [← htake, List.take_take]
    congr 1
    omega

theorem own_cap {w : World} {B g n cap : Nat} {xs : List Value} (h : w.ownsRow B 9 1 (.slice (some ⟨g, 0, none⟩) n cap) n xs) : n ≤ cap := by
  rcases h.2 with ⟨h', _⟩ | ⟨g', cap', cur, h', hb, hg, hnc, hcm, hcs, htake⟩
  · simp at h'
  · simp only [Value.slice.injEq, Option.some.injEq, Addr.mk.injEq, and_true, true_and] at h'
    obtain ⟨rfl, rfl⟩ := h'
    exact hnc

/-- The lines of s: a last part that is empty doesn't count. -/
noncomputable def linesL (s : ByteArray) : List ByteArray :=
  if (((splL s ⟨#[10]⟩).getD ((splL s ⟨#[10]⟩).length - 1) ByteArray.empty).toList.isEmpty) = true then (splL s ⟨#[10]⟩).take ((splL s ⟨#[10]⟩).length - 1) else splL s ⟨#[10]⟩
theorem linesL_length (s : ByteArray) : (linesL s).length ≤ s.size + 1 := by
  have := (splL_length s ⟨#[10]⟩).2
  unfold linesL
  split
  · simp; omega
  · exact this

def LinesPost (s : ByteArray) (w : World) (e : Ending) (w' : World) : Prop :=
  ∃ g cap, e = .returned (.slice (some ⟨g, 0, none⟩) (linesL s).length cap) ∧ w'.ownsRow w.heap.size 9 1 (.slice (some ⟨g, 0, none⟩) (linesL s).length cap) (linesL s).length ((linesL s).map Value.string) ∧ Below w.heap.size w w'

theorem linesPost_of {s : ByteArray} {w w' : World} {L : List ByteArray} {g cap : Nat} (hL : linesL s = L) (ho : w'.ownsRow w.heap.size 9 1 (.slice (some ⟨g, 0, none⟩) L.length cap) L.length (L.map Value.string)) (hb : Below w.heap.size w w') :
    LinesPost s w (.returned (.slice (some ⟨g, 0, none⟩) L.length cap)) w' := by
  subst hL
  exact ⟨g, cap, rfl, ho, hb⟩

set_option maxHeartbeats 2000000 in
theorem specSplitLines (s : ByteArray) (w : World) (hs : s.size ≤ 1048576) : Calls Try.prog 18 #[.string s] w (LinesPost s w) := by
  obtain ⟨hl1, hl2⟩ := splL_length s ⟨#[10]⟩
  have hln : Hid (linesL s = if (((splL s ⟨#[10]⟩).getD ((splL s ⟨#[10]⟩).length - 1) ByteArray.empty).toList.isEmpty) = true then (splL s ⟨#[10]⟩).take ((splL s ⟨#[10]⟩).length - 1) else splL s ⟨#[10]⟩) := rfl
  go_enter Try.func18, Try.ntmps18
  go_wp2_with fail
  refine (specSplitAny s ⟨#[10]⟩ _ hs (by unfold maxLen; decide)).mono ?_
  rintro e w1 ⟨⟨v0, rfl, ho0⟩, hb1⟩
  obtain ⟨g0, c0, rfl⟩ := own_slice ho0 hl1
  obtain ⟨L, hL⟩ : ∃ L, L = splL s ⟨#[10]⟩ := ⟨_, rfl⟩
  rw [← hL] at ho0 hl1 hl2 hln ⊢
  clear hL
  obtain ⟨m, hm⟩ : ∃ m, L.length = m + 1 := ⟨L.length - 1, by omega⟩
  obtain ⟨x, hx⟩ : ∃ x, x = L.getD m ByteArray.empty := ⟨_, rfl⟩
  have hcx : w1.cell? ⟨g0, m, none⟩ = some (.string x) := by
    rw [ho0.cellAt m (by omega), List.getElem?_map, List.getElem?_eq_getElem (by omega), hx, List.getD_eq_getElem?_getD, List.getElem?_eq_getElem (by omega)]
    rfl
  have hx2 : L.getD (L.length - 1) ByteArray.empty = x := by rw [hx, hm]; rfl
  rw [hx2] at hln
  have hk : (L.take m).length = m := by simp; omega
  have hmb : m ≤ 1048576 := by omega
  have hmc : m + 1 ≤ c0 := by have := own_cap ho0; omega
  cases hemp : x.toList.isEmpty
  · have hE : Hid (linesL s = L) := by rw [hemp] at hln; exact hln
    have P := Lib.hid (linesPost_of hE.out ho0 hb1)
    rw [hm] at P ⊢
    clear hln hx hx2 hm ho0 hk hl1 hl2
    go_wp2
    go_ret
    exact P.out
  · have hE : Hid (linesL s = L.take m) := by rw [hemp, hm] at hln; exact hln
    have ho1 := own_take (m := m) ho0 (by omega)
    rw [← List.map_take, ← hk] at ho1
    have hemp2 : x.toList = [] := by simpa using hemp
    have P := Lib.hid (linesPost_of hE.out (by rw [hk] at ho1 ⊢; exact ho1) hb1)
    rw [hk] at P
    rw [hm]
    clear hln hx hx2 hm ho0 ho1 hk hl1 hl2
    go_wp2
    go_ret
    exact P.out
set_option maxHeartbeats 2000000 in
theorem implSplitLines (s : ByteArray) (w : World) (hs : s.size ≤ 1048576) : Calls Try.prog 19 #[.string s] w (LinesPost s w) := by
  obtain ⟨hl1, hl2⟩ := splL_length s ⟨#[10]⟩
  have hln : Hid (linesL s = if (((splL s ⟨#[10]⟩).getD ((splL s ⟨#[10]⟩).length - 1) ByteArray.empty).toList.isEmpty) = true then (splL s ⟨#[10]⟩).take ((splL s ⟨#[10]⟩).length - 1) else splL s ⟨#[10]⟩) := rfl
  go_enter Try.func19, Try.ntmps19
  go_wp2_with fail
  refine (implSplitAny s ⟨#[10]⟩ _ hs (by unfold maxLen; decide)).mono ?_
  rintro e w1 ⟨⟨v0, rfl, ho0⟩, hb1⟩
  obtain ⟨g0, c0, rfl⟩ := own_slice ho0 hl1
  obtain ⟨L, hL⟩ : ∃ L, L = splL s ⟨#[10]⟩ := ⟨_, rfl⟩
  rw [← hL] at ho0 hl1 hl2 hln ⊢
  clear hL
  obtain ⟨m, hm⟩ : ∃ m, L.length = m + 1 := ⟨L.length - 1, by omega⟩
  obtain ⟨x, hx⟩ : ∃ x, x = L.getD m ByteArray.empty := ⟨_, rfl⟩
  have hcx : w1.cell? ⟨g0, m, none⟩ = some (.string x) := by
    rw [ho0.cellAt m (by omega), List.getElem?_map, List.getElem?_eq_getElem (by omega), hx, List.getD_eq_getElem?_getD, List.getElem?_eq_getElem (by omega)]
    rfl
  have hx2 : L.getD (L.length - 1) ByteArray.empty = x := by rw [hx, hm]; rfl
  rw [hx2] at hln
  have hk : (L.take m).length = m := by simp; omega
  have hmb : m ≤ 1048576 := by omega
  have hmc : m + 1 ≤ c0 := by have := own_cap ho0; omega
  cases hemp : x.toList.isEmpty
  · have hE : Hid (linesL s = L) := by rw [hemp] at hln; exact hln
    have P := Lib.hid (linesPost_of hE.out ho0 hb1)
    rw [hm] at P ⊢
    clear hln hx hx2 hm ho0 hk hl1 hl2
    go_wp2
    go_ret
    exact P.out
  · have hE : Hid (linesL s = L.take m) := by rw [hemp, hm] at hln; exact hln
    have ho1 := own_take (m := m) ho0 (by omega)
    rw [← List.map_take, ← hk] at ho1
    have hemp2 : x.toList = [] := by simpa using hemp
    have P := Lib.hid (linesPost_of hE.out (by rw [hk] at ho1 ⊢; exact ho1) hb1)
    rw [hk] at P
    rw [hm]
    clear hln hx hx2 hm ho0 ho1 hk hl1 hl2
    go_wp2
    go_ret
    exact P.out

set_option maxHeartbeats 8000000 in
theorem walkSplitLines (s : ByteArray) (w : World) (hs : s.size ≤ maxLen) :
    Calls Try.prog 6 #[.string s] w fun e w' => e = .returned (.bool true) ∧ Below w.heap.size w w' := by
  by_cases hbig : (1048576 : Int) < (s.size : Int)
  · unfold maxLen at hs
    go_enter Try.func6, Try.ntmps6
    go_wp2
    go_ret
    exact ⟨rfl, Below.refl _ _⟩
  · have hs20 : s.size ≤ 1048576 := by omega
    have hl2 := linesL_length s
    have hl3 : (linesL s).length ≤ 1048577 := by omega
    have hl4 : Hid ((linesL s).length ≤ maxLen) := by show _ ≤ _; unfold maxLen; omega
    unfold maxLen at hs
    go_enter Try.func6, Try.ntmps6
    go_wp2_with fail
    refine (specSplitLines s _ hs20).mono ?_
    rintro e w1 ⟨g0, c0, rfl, ho0, hb1⟩
    go_wp2_with fail
    refine (implSplitLines s _ hs20).mono ?_
    rintro e w2 ⟨g1, c1, rfl, ho1, hb2⟩
    have hr0 := (StrRow.of_own2 ho0).below hb2
    have hg0 : g0 < w1.heap.size := (ho0.lt g0 rfl).2
    have b2 := hb1.trans (hb2.mono hb1.size)
    go_wp2_with fail
    refine (eqStr_same _ _ _ _ _ w2 hl4.out (StrRow.of_own2 ho1) hr0).mono ?_
    rintro e w3 ⟨rfl, hb3⟩
    have ho1' := own_below ho1 hb3
    have hr0' := hr0.below hb3
    have b3 := b2.trans (hb3.mono b2.size)
    clear ho0 ho1
    go_wp2_with fail
    refine (markStr w1.heap.size g1 _ c1 _ w3 hl3 (Nat.le_trans hb2.size hb3.size) ho1').mono ?_
    rintro e w4 ⟨rfl, ho4, hb4⟩
    have hr4 : StrRow w4 (some ⟨g0, 0, none⟩) (linesL s) := by
      rcases hr0' with h | ⟨b, off, ha, hlt, hc⟩
      · exact .inl h
      · refine .inr ⟨b, off, ha, Nat.lt_of_lt_of_le hlt hb4.size, fun j hj => ?_⟩
        have hbe : b = g0 := by simp at ha; exact ha.1.symm
        subst hbe
        exact (hb4.cell (p := ⟨b, off + j, none⟩) hg0).trans (hc j hj)
    have b4 := b3.trans (hb4.mono hb1.size)
    clear ho1' hr0 hr0'
    go_wp2_with fail
    refine (heldStr w1.heap.size g1 _ c1 w4 hl3 ho4).mono ?_
    rintro e w5 ⟨rfl, hb5⟩
    have ho5 := own_below ho4 hb5
    have hr5 := hr4.below hb5
    have b5 := b4.trans (hb5.mono b4.size)
    have hneg : ¬ ((linesL s).length : Int) + 1 < 0 := by omega
    clear ho4 hr4
    go_wp2_with fail
    refine (implSplitLines s _ hs20).mono ?_
    rintro e w6 ⟨g2, c2, rfl, ho2, hb6⟩
    have hr6 := hr5.below hb6
    have ho6 := own_below ho5 hb6
    have b6 := b5.trans (hb6.mono b5.size)
    clear ho5 hr5
    go_wp2_with fail
    refine (eqStr_same _ _ _ _ _ w6 hl4.out (StrRow.of_own2 ho2) hr6).mono ?_
    rintro e w7 ⟨rfl, hb7⟩
    have ho7 := own_below ho6 hb7
    have b7 := b6.trans (hb7.mono b6.size)
    clear ho6 ho2 hr6
    go_wp2_with fail
    refine (heldStr w1.heap.size g1 _ c1 w7 hl3 ho7).mono ?_
    rintro e w8 ⟨rfl, hb8⟩
    have b8 := b7.trans (hb8.mono b7.size)
    go_wp2
    go_ret
    exact ⟨rfl, b8⟩
end Go.Proofs.Ytocjbllblggplaa
namespace Go.Proofs.Ytocjbllblggplaa.fnExactSplitLines
open Go.ChangeShapes Go.WideShapes Go.ChangeAt Go.RowKit
open Go.ChangeMaps (open_string shut_string)
set_option linter.unusedVariables false
set_option maxRecDepth 100000 in
theorem lifted (os : Os) (started : os.Started) (H : Type) (enc : TypeId × Value → H) :
    ReturnsInHanded {} Try.checked os 6 .any (Rows.fnExactSplitLinesSpec.pre6 enc Try.prog Try.f6 Rows.fnExactSplitLinesRow.domain false) (Rows.fnExactSplitLinesSpec.post enc Try.prog Try.f6 false true false false) := by
  refine returnsInHanded_of_change (C := Try.checked) own started (by kernel_rfl) Try.func6
    (ChangeSpec.witness6 (enc := enc) (C := Try.checked) false ⟨#[], #[.string ⟨#[]⟩], []⟩ 8 (by kernel_rfl) (by kernel_rfl) (by kernel_rfl) (by kernel_rfl)) ?_
  intro W base args ds gs before hval0 hW hcnd _
  have hval : ∀ (j : Nat) t v, Try.f6.params[j]? = some t → args[j]? = some v → Value.okWide Try.prog W .any base t v := hval0
  have hW' := hW
  obtain ⟨p, q, hA0, hV, rfl, hfz, hnd⟩ := hW
  have hA : DataW.TrodAll enc Try.prog W 0 (fun _ => true) true Try.f6.params.toList args.toList ds p := hA0
  rw [Try.params6] at hA hval
  obtain ⟨v0, vs0, d0, ds0, p0, q0, hargs, rfl, rfl, h0, r0⟩ := trodAll_cons hA
  obtain ⟨rfl, rfl, rfl⟩ := trodAll_nil r0
  obtain rfl : args = #[v0] := by cases args; simp_all
  obtain ⟨rfl, rfl⟩ := trodVars_none hV
  obtain ⟨s0, rfl, rfl, rfl, hs0⟩ := open_string Try.underlying9 (hval 0 9 v0 rfl rfl) h0
  clear hA0 hval0
  refine (walkSplitLines s0 W hs0).mono fun e W' ⟨he, bel⟩ => ?_
  subst he
  exact ⟨_, rfl, _, _, _, [], _, [], hW', trodAll_mk1 (shut_bool Try.underlying4 _), (trodAll_cons_mk (shut_string Try.underlying9 hs0) trodAll_mk0), rfl, bel.frame _, fun h => by cases h⟩

theorem proved : Rows.FnExactSplitLinesSaid :=
  OpenClaim.holds_of_wide 6 Try.f6 rfl rfl rfl rfl rfl rfl rfl ⟨rfl, rfl, rfl, rfl, rfl⟩ rfl rfl rfl rfl rfl (by kernel_rfl) Try.func6 (by kernel_rfl)
    (of_decide_eq_true (by kernel_rfl)) (by unfold Func.isWrapper; first | (rw [if_pos (by decide +kernel)]; kernel_rfl) | (rw [if_neg (by decide +kernel)]; exact ⟨rfl, rfl⟩))
    (fun os started H enc _ => lifted os started H enc)
end Go.Proofs.Ytocjbllblggplaa.fnExactSplitLines
