/-
  'TurnTour' of the model. No conditions but the bounds that Go gives a slice.
-/
import Derived.Test.YteiadhfjpohmdaaI
import Derived.Shelf.Abstract
namespace Go.Proofs.Yteiadhfjpohmdaa
open Go.ChangeShapes Go.WideShapes Go.ChangeAt Go.RowKit Go.Shelf
set_option linter.unusedVariables false

/-- A call by its contract as one step of a region that draws its order. -/
theorem step_call1 {P : Program} {ops : Array Oper} {o : Oper} {a : Act} {w : World} {K : Act → World → Prop} {Q : Exit → Act → World → Prop} {E : Prop} (hgd : o.guard = none) (f : FuncId) (x : Operand) (t : TypeId) (v0 : Value)
    (ho : o.op = .call { callee := .value (.func f), args := #[x], argTypes := #[t] }) (hx : a.eval x = v0) (ef : ∀ args w, (callFunc f args).run P w = .ok (.enter f args) w)
    {R : Value → World → Prop} (hc : Calls P f #[v0] w fun e w' => ∃ v, e = .returned v ∧ R v w') (h : ∀ v w', R v w' → K (a.put o.dst v) w') :
    if Region.wanted o (yielded ops a.tmps) = true then Oper.wp P o a w K Q else E := by
  have hw : Region.wanted o (yielded ops a.tmps) = true := by simp [Region.wanted, hgd]
  rw [if_pos hw]
  unfold Oper.wp
  have hv : a.eval (.func f) = .func (.func f) #[] #[] := rfl
  have hrun : (execOp a.eval o).run P w = .ok (.enter f #[v0]) w := by
    simp [execOp, ho, resolve, invoke, hx, hv, ef, Deferred.ofValue]
  rw [hrun, Oper.upon_enter]
  refine hc.mono ?_
  rintro e w' ⟨v, rfl, hr⟩
  exact h v w' hr
theorem wrapPow2 (k : Nat) (h : k ≤ 8) : IntKind.i64.wrap (2 ^ k) = ((2 ^ k : Nat) : Int) := by
  have : ∀ k : Fin 9, IntKind.i64.wrap (2 ^ k.val) = ((2 ^ k.val : Nat) : Int) := by decide +kernel
  exact this ⟨k, by omega⟩
theorem add_or (x k : Nat) (hx : x < 256) (hk : k < 8) (hb : x.testBit k = false) : x + 2 ^ k = x ||| 2 ^ k := by
  have : ∀ (x : Fin 256) (k : Fin 8), x.val.testBit k.val = false → x.val + 2 ^ k.val = x.val ||| 2 ^ k.val := by decide +kernel
  exact this ⟨x, hx⟩ ⟨k, hk⟩ hb
theorem add_lt (m x k : Nat) (hm : m ≤ 8) (hx : x < 2 ^ m) (hk : k < m) (hb : x.testBit k = false) : x + 2 ^ k < 2 ^ m := by
  rw [add_or x k (Nat.lt_of_lt_of_le hx (pow_le m hm)) (by omega) hb]
  exact Nat.or_lt_two_pow hx (Nat.pow_lt_pow_right (by decide) hk)

/-- The numbers of the reversed tour. -/
def turnS (l : List Int) : List Nat := (List.range l.length).map fun a => 2 ^ l.length - 1 - (l.getD a 0).toNat - 2 ^ a
theorem turnS_len (l : List Int) : (turnS l).length = l.length := by simp [turnS]
theorem turnS_at (l : List Int) (k x : Nat) (hk : k < l.length) (hx : l.getD k 0 = (x : Int)) : (turnS l)[k]? = some (2 ^ l.length - 1 - x - 2 ^ k) := by
  simp only [turnS, List.getElem?_map, List.getElem?_range hk, Option.map_some, hx]
  rfl

end Go.Proofs.Yteiadhfjpohmdaa
