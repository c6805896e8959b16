/-
  A region of plain operations, inside a fence whose round runs: what holds of its orders outside of a fence holds inside (no call, nothing deferred). With it a region in the body of a range over a function is walked with its worldless operations first. No conditions on the program.
-/
import Derived.Test.YtpndfmlkceplcaaL
import Derived.RegionCalls
import Derived.OrdersIn
namespace Go.Proofs.Ytpndfmlkceplcaa
open Go.ChangeShapes Go.WideShapes Go.ChangeAt Go.RowKit
set_option linter.unusedVariables false

/-- An operation that neither calls nor defers. -/
def plainOp : Op → Bool
  | .move _ | .assign _ | .load _ _ | .store _ _ _ | .binOp _ _ _ _ _ | .unOp _ _ _ | .fieldAddr _ _ _ | .indexAddr _ _ _ => true
  | _ => false
theorem run_v {P : Program} {s : Sem Value} {w : World} : (∃ v w', (Sem.bind s fun x => Sem.pure (Next.value x)).run P w = .ok (.value v) w') ∨ (∃ w', (Sem.bind s fun x => Sem.pure (Next.value x)).run P w = .ok .skip w') ∨ ∃ h w', (Sem.bind s fun x => Sem.pure (Next.value x)).run P w = .halt h w' := by
  have e := Sem.run_bind P w s (fun x => Sem.pure (Next.value x))
  have e2 : (Sem.bind s fun x => Sem.pure (Next.value x)).run P w = (s.run P w).andThen fun x w' => (Sem.pure (Next.value x)).run P w' := e
  rw [e2]
  cases s.run P w with
  | ok x w' => exact .inl ⟨x, w', rfl⟩
  | halt h w' => exact .inr (.inr ⟨h, w', rfl⟩)
theorem run_u {P : Program} {s : Sem Unit} {w : World} : (∃ v w', (Sem.bind s fun _ => Sem.pure Next.skip).run P w = .ok (.value v) w') ∨ (∃ w', (Sem.bind s fun _ => Sem.pure Next.skip).run P w = .ok .skip w') ∨ ∃ h w', (Sem.bind s fun _ => Sem.pure Next.skip).run P w = .halt h w' := by
  have e := Sem.run_bind P w s (fun _ => Sem.pure Next.skip)
  have e2 : (Sem.bind s fun _ => Sem.pure Next.skip).run P w = (s.run P w).andThen fun _ w' => (Sem.pure Next.skip).run P w' := e
  rw [e2]
  cases s.run P w with
  | ok x w' => exact .inr (.inl ⟨w', rfl⟩)
  | halt h w' => exact .inr (.inr ⟨h, w', rfl⟩)
theorem plain_run {P : Program} {ρ : Operand → Value} {o : Oper} {w : World} (h : plainOp o.op = true) :
    (∃ v w', (execOp ρ o).run P w = .ok (.value v) w') ∨ (∃ w', (execOp ρ o).run P w = .ok .skip w') ∨ ∃ h w', (execOp ρ o).run P w = .halt h w' := by
  unfold execOp
  cases ho : o.op <;> first
    | (rw [ho] at h; cases h; done)
    | exact run_v
    | exact run_u
    | exact .inl ⟨_, _, rfl⟩
theorem wpIn_of_wp {F : Fence} {n : Nat} {P : Program} {o : Oper} {a : Act} {w : World} {K : Act → World → Prop} {Q : Exit → Act → World → Prop} (hp : plainOp o.op = true) (h : o.wp P a w K Q) : o.wpIn F n P a w K Q := by
  unfold Oper.wp at h
  unfold Oper.wpIn
  have hab : ∀ w, o.about P w a.eval = none := by
    intro w
    unfold Oper.about
    cases ho : o.op <;> first | rfl | (rw [ho] at hp; cases hp)
  refine ⟨fun f hf => (by rw [hab] at hf; cases hf), ?_⟩
  rw [Oper.semAt_eq _ _ _ (by intro c hc; rw [hc] at hp; cases hp)]
  rcases plain_run (P := P) (ρ := a.eval) (o := o) (w := w) hp with ⟨v, w', e⟩ | ⟨w', e⟩ | ⟨hh, w', e⟩
  · rw [e] at h ⊢; exact h
  · rw [e] at h ⊢; exact h
  · rw [e] at h ⊢
    cases hh <;> exact h
theorem wpAnyIn_of {F : Fence} {n : Nat} {P : Program} {md : Region.Mode} {ops : Array Oper} {Q : Exit → Act → World → Prop} (hops : (ops.all fun o => plainOp o.op) = true) (hno : ¬ LetsOut Q) :
    ∀ (fuel : Nat) (listed : Array Bool) (a : Act) (w : World), wpAny P md ops Q fuel listed a w → wpAnyIn F n P md ops Q fuel listed a w
  | 0, listed, a, w, h => h
  | fuel + 1, listed, a, w, h => by
    refine ⟨h.1, fun i hi => ?_⟩
    have hi2 := h.2 i hi
    have ih := wpAnyIn_of (F := F) (n := n) (P := P) (md := md) (Q := Q) hops hno fuel (listed.setIfInBounds i true)
    unfold wpOp at hi2
    unfold wpOpIn
    cases ho : ops[i]? with
    | none =>
      rw [ho] at hi2
      exact ih _ _ hi2
    | some o =>
      rw [ho] at hi2
      have hp : plainOp o.op = true := by
        obtain ⟨hlt, he⟩ := Array.getElem?_eq_some_iff.1 ho
        have := Array.all_eq_true.1 hops i hlt
        rw [he] at this
        exact this
      simp only at hi2 ⊢
      split
      · rename_i hw
        rw [if_pos hw] at hi2
        rcases hi2 with h1 | h1
        · exact Oper.wpIn_mono (fun a w hk => ih a w hk) (wpIn_of_wp hp h1)
        · exact absurd h1.2 hno
      · rename_i hw
        rw [if_neg hw] at hi2
        refine ⟨fun f hf => ?_, ih _ _ hi2⟩
        unfold Oper.about at hf
        revert hf hp
        cases o.op <;> intro hp hf <;> first | cases hf | cases hp
theorem no_lets (K : Act → World → Prop) : ¬ LetsOut (Exit.then K (fun _ _ _ => False)) := by
  rintro ⟨a, w, h⟩
  exact h
end Go.Proofs.Ytpndfmlkceplcaa
