/-
  A region that draws its order, of nine operations that only read, in three chains, and one last call: walked once. No conditions else.
-/
import Derived.OrdersIn
import Derived.RangeFuncCalls
import Derived.TacticsIn
namespace Go
set_option linter.unusedVariables false

/-- An operation within a round, from the same outside of one. -/
theorem wpOpIn_round {F : Fence} {n : Nat} {P : Program} {ops : Array Oper} {Q : Exit → Act → World → Prop} {i : Nat} {K : Act → World → Prop} {a : Act} {w : World} (l : Nat) (hro : F.round = none) (hd : ∀ o, ops[i]? = some o → ∀ c, o.op ≠ .defer c)
    (h : wpOpIn F n P ops Q i K a w) : wpOpIn (F.inRound l) n P ops Q i K a w := by
  unfold wpOpIn at h ⊢
  cases ho : ops[i]? with
  | none => simpa [ho] using h
  | some o =>
    simp only [ho] at h ⊢
    by_cases hw : Region.wanted o (yielded ops a.tmps) = true
    · rw [if_pos hw] at h ⊢
      refine ⟨h.1, ?_⟩
      have h2 := h.2
      rw [hro, Oper.semAt_none] at h2
      rw [Fence.inRound_round, Oper.semAt_some l _ _ (hd o ho)]
      exact h2
    · rw [if_neg hw] at h ⊢
      exact h

def chk9 (b0 b1 b2 b3 b4 b5 b6 b7 b8 : Bool) (i : Nat) : Bool := (i == 0 && !b0) || (i == 1 && !b1) || (i == 2 && !b2) || (i == 3 && !b3 && b1 && b2) || (i == 4 && !b4 && b3) || (i == 5 && !b5) || (i == 6 && !b6) || (i == 7 && !b7 && b5 && b6) || (i == 8 && !b8 && b7) || (i == 9 && b0 && b1 && b2 && b3 && b4 && b5 && b6 && b7 && b8)
def dc9 (b0 b1 b2 b3 b4 b5 b6 b7 b8 : Bool) : Bool := (!b3 || (b1 && b2)) && (!b4 || b3) && (!b7 || (b5 && b6)) && (!b8 || b7)
theorem dcS0 : ∀ b1 b2 b3 b4 b5 b6 b7 b8 : Bool, dc9 false b1 b2 b3 b4 b5 b6 b7 b8 = true → dc9 true b1 b2 b3 b4 b5 b6 b7 b8 = true := by decide
theorem dcS1 : ∀ b0 b2 b3 b4 b5 b6 b7 b8 : Bool, dc9 b0 false b2 b3 b4 b5 b6 b7 b8 = true → dc9 b0 true b2 b3 b4 b5 b6 b7 b8 = true := by decide
theorem dcS2 : ∀ b0 b1 b3 b4 b5 b6 b7 b8 : Bool, dc9 b0 b1 false b3 b4 b5 b6 b7 b8 = true → dc9 b0 b1 true b3 b4 b5 b6 b7 b8 = true := by decide
theorem dcS3 : ∀ b0 b4 b5 b6 b7 b8 : Bool, dc9 b0 true true false b4 b5 b6 b7 b8 = true → dc9 b0 true true true b4 b5 b6 b7 b8 = true := by decide
theorem dcS4 : ∀ b0 b1 b2 b5 b6 b7 b8 : Bool, dc9 b0 b1 b2 true false b5 b6 b7 b8 = true → dc9 b0 b1 b2 true true b5 b6 b7 b8 = true := by decide
theorem dcS5 : ∀ b0 b1 b2 b3 b4 b6 b7 b8 : Bool, dc9 b0 b1 b2 b3 b4 false b6 b7 b8 = true → dc9 b0 b1 b2 b3 b4 true b6 b7 b8 = true := by decide
theorem dcS6 : ∀ b0 b1 b2 b3 b4 b5 b7 b8 : Bool, dc9 b0 b1 b2 b3 b4 b5 false b7 b8 = true → dc9 b0 b1 b2 b3 b4 b5 true b7 b8 = true := by decide
theorem dcS7 : ∀ b0 b1 b2 b3 b4 b8 : Bool, dc9 b0 b1 b2 b3 b4 true true false b8 = true → dc9 b0 b1 b2 b3 b4 true true true b8 = true := by decide
theorem dcS8 : ∀ b0 b1 b2 b3 b4 b5 b6 : Bool, dc9 b0 b1 b2 b3 b4 b5 b6 true false = true → dc9 b0 b1 b2 b3 b4 b5 b6 true true = true := by decide
theorem reads9 {F : Fence} {n : Nat} {P : Program} {ops : Array Oper} {Q : Exit → Act → World → Prop} (w : World) (st : Bool → Bool → Bool → Bool → Bool → Bool → Bool → Bool → Bool → Act)
    (hkey : ∀ b0 b1 b2 b3 b4 b5 b6 b7 b8 : Bool, dc9 b0 b1 b2 b3 b4 b5 b6 b7 b8 = true → (Region.ready .any ops #[b0, b1, b2, b3, b4, b5, b6, b7, b8, false]).all (chk9 b0 b1 b2 b3 b4 b5 b6 b7 b8) = true)
    (hne : ∀ b0 b1 b2 b3 b4 b5 b6 b7 b8 : Bool, (Region.ready .any ops #[b0, b1, b2, b3, b4, b5, b6, b7, b8, false]).isEmpty = false)
    (hdone : Region.ready .any ops #[true, true, true, true, true, true, true, true, true, true] = [])
    (h0 : ∀ (b1 b2 b3 b4 b5 b6 b7 b8 : Bool) (K : Act → World → Prop), K (st true b1 b2 b3 b4 b5 b6 b7 b8) w → wpOpIn F n P ops Q 0 K (st false b1 b2 b3 b4 b5 b6 b7 b8) w) (h1 : ∀ (b0 b2 b3 b4 b5 b6 b7 b8 : Bool) (K : Act → World → Prop), K (st b0 true b2 b3 b4 b5 b6 b7 b8) w → wpOpIn F n P ops Q 1 K (st b0 false b2 b3 b4 b5 b6 b7 b8) w) (h2 : ∀ (b0 b1 b3 b4 b5 b6 b7 b8 : Bool) (K : Act → World → Prop), K (st b0 b1 true b3 b4 b5 b6 b7 b8) w → wpOpIn F n P ops Q 2 K (st b0 b1 false b3 b4 b5 b6 b7 b8) w) (h3 : ∀ (b0 b4 b5 b6 b7 b8 : Bool) (K : Act → World → Prop), K (st b0 true true true b4 b5 b6 b7 b8) w → wpOpIn F n P ops Q 3 K (st b0 true true false b4 b5 b6 b7 b8) w) (h4 : ∀ (b0 b1 b2 b5 b6 b7 b8 : Bool) (K : Act → World → Prop), K (st b0 b1 b2 true true b5 b6 b7 b8) w → wpOpIn F n P ops Q 4 K (st b0 b1 b2 true false b5 b6 b7 b8) w) (h5 : ∀ (b0 b1 b2 b3 b4 b6 b7 b8 : Bool) (K : Act → World → Prop), K (st b0 b1 b2 b3 b4 true b6 b7 b8) w → wpOpIn F n P ops Q 5 K (st b0 b1 b2 b3 b4 false b6 b7 b8) w) (h6 : ∀ (b0 b1 b2 b3 b4 b5 b7 b8 : Bool) (K : Act → World → Prop), K (st b0 b1 b2 b3 b4 b5 true b7 b8) w → wpOpIn F n P ops Q 6 K (st b0 b1 b2 b3 b4 b5 false b7 b8) w) (h7 : ∀ (b0 b1 b2 b3 b4 b8 : Bool) (K : Act → World → Prop), K (st b0 b1 b2 b3 b4 true true true b8) w → wpOpIn F n P ops Q 7 K (st b0 b1 b2 b3 b4 true true false b8) w) (h8 : ∀ (b0 b1 b2 b3 b4 b5 b6 : Bool) (K : Act → World → Prop), K (st b0 b1 b2 b3 b4 b5 b6 true true) w → wpOpIn F n P ops Q 8 K (st b0 b1 b2 b3 b4 b5 b6 true false) w)
    (h9 : ∀ K : Act → World → Prop, (∀ a' w', Q .normal a' w' → K a' w') → wpOpIn F n P ops Q 9 K (st true true true true true true true true true) w) :
    ∀ (fuel : Nat) (b0 b1 b2 b3 b4 b5 b6 b7 b8 : Bool), fuel + (b0.toNat + b1.toNat + b2.toNat + b3.toNat + b4.toNat + b5.toNat + b6.toNat + b7.toNat + b8.toNat) = 10 → dc9 b0 b1 b2 b3 b4 b5 b6 b7 b8 = true → wpAnyIn F n P .any ops Q fuel #[b0, b1, b2, b3, b4, b5, b6, b7, b8, false] (st b0 b1 b2 b3 b4 b5 b6 b7 b8) w := by
  intro fuel
  induction fuel with
  | zero =>
    intro b0 b1 b2 b3 b4 b5 b6 b7 b8 hc hdc
    have hb : ∀ b : Bool, b.toNat ≤ 1 := by decide
    have := hb b0; have := hb b1; have := hb b2; have := hb b3; have := hb b4; have := hb b5; have := hb b6; have := hb b7; have := hb b8
    omega
  | succ fuel ih =>
    intro b0 b1 b2 b3 b4 b5 b6 b7 b8 hc hdc
    refine ⟨fun he => ?_, fun i hi => ?_⟩
    · have := hne b0 b1 b2 b3 b4 b5 b6 b7 b8
      rw [he] at this; cases this
    · have hk := List.all_eq_true.1 (hkey b0 b1 b2 b3 b4 b5 b6 b7 b8 hdc) i hi
      unfold chk9 at hk
      simp only [Bool.or_eq_true, Bool.and_eq_true, beq_iff_eq, Bool.not_eq_true'] at hk
      rcases hk with (((((((((hk | hk) | hk) | hk) | hk) | hk) | hk) | hk) | hk) | hk)
      · obtain ⟨rfl, hz⟩ := hk
        subst hz
        refine h0 _ _ _ _ _ _ _ _ _ ?_
        exact ih true b1 b2 b3 b4 b5 b6 b7 b8 (by simp at hc ⊢; omega) (dcS0 _ _ _ _ _ _ _ _ hdc)
      · obtain ⟨rfl, hz⟩ := hk
        subst hz
        refine h1 _ _ _ _ _ _ _ _ _ ?_
        exact ih b0 true b2 b3 b4 b5 b6 b7 b8 (by simp at hc ⊢; omega) (dcS1 _ _ _ _ _ _ _ _ hdc)
      · obtain ⟨rfl, hz⟩ := hk
        subst hz
        refine h2 _ _ _ _ _ _ _ _ _ ?_
        exact ih b0 b1 true b3 b4 b5 b6 b7 b8 (by simp at hc ⊢; omega) (dcS2 _ _ _ _ _ _ _ _ hdc)
      · obtain ⟨⟨⟨rfl, hz⟩, hd1⟩, hd2⟩ := hk
        subst hz; subst hd1; subst hd2
        refine h3 _ _ _ _ _ _ _ ?_
        exact ih b0 true true true b4 b5 b6 b7 b8 (by simp at hc ⊢; omega) (dcS3 _ _ _ _ _ _ hdc)
      · obtain ⟨⟨rfl, hz⟩, hd3⟩ := hk
        subst hz; subst hd3
        refine h4 _ _ _ _ _ _ _ _ ?_
        exact ih b0 b1 b2 true true b5 b6 b7 b8 (by simp at hc ⊢; omega) (dcS4 _ _ _ _ _ _ _ hdc)
      · obtain ⟨rfl, hz⟩ := hk
        subst hz
        refine h5 _ _ _ _ _ _ _ _ _ ?_
        exact ih b0 b1 b2 b3 b4 true b6 b7 b8 (by simp at hc ⊢; omega) (dcS5 _ _ _ _ _ _ _ _ hdc)
      · obtain ⟨rfl, hz⟩ := hk
        subst hz
        refine h6 _ _ _ _ _ _ _ _ _ ?_
        exact ih b0 b1 b2 b3 b4 b5 true b7 b8 (by simp at hc ⊢; omega) (dcS6 _ _ _ _ _ _ _ _ hdc)
      · obtain ⟨⟨⟨rfl, hz⟩, hd5⟩, hd6⟩ := hk
        subst hz; subst hd5; subst hd6
        refine h7 _ _ _ _ _ _ _ ?_
        exact ih b0 b1 b2 b3 b4 true true true b8 (by simp at hc ⊢; omega) (dcS7 _ _ _ _ _ _ hdc)
      · obtain ⟨⟨rfl, hz⟩, hd7⟩ := hk
        subst hz; subst hd7
        refine h8 _ _ _ _ _ _ _ _ ?_
        exact ih b0 b1 b2 b3 b4 b5 b6 true true (by simp at hc ⊢; omega) (dcS8 _ _ _ _ _ _ _ hdc)
      · obtain ⟨⟨⟨⟨⟨⟨⟨⟨⟨rfl, e0⟩, e1⟩, e2⟩, e3⟩, e4⟩, e5⟩, e6⟩, e7⟩, e8⟩ := hk
        subst e0; subst e1; subst e2; subst e3; subst e4; subst e5; subst e6; subst e7; subst e8
        refine h9 _ fun a' w' hq => ?_
        have hf : fuel = 0 := by simp at hc; omega
        subst hf
        exact ⟨hdone, hq⟩
end Go
