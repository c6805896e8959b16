/-
  When two tables of results are equal. Conditions: at most eight players.
-/
import Derived.Test.YteiadhfjpohmdaaXe
namespace Go.Proofs.Yteiadhfjpohmdaa
open Go.ChangeShapes Go.WideShapes Go.ChangeAt Go.RowKit
set_option linter.unusedVariables false

theorem eq_atX {x y : List Int} (hl : x.length = y.length) (h : ∀ j, j < x.length → x.getD j 0 = y.getD j 0) : x = y := by
  apply List.ext_getElem hl
  intro i h1 h2
  have := h i h1
  rw [List.getD_eq_getElem?_getD, List.getD_eq_getElem?_getD, List.getElem?_eq_getElem h1, List.getElem?_eq_getElem h2] at this
  simpa using this
def eqX (x y : List Int) : Bool := decide (x = y)

/-- '==' element by element, as a list. -/
def eqArr (d : Nat) (elem : TypeId) (n : Nat) (xs ys : Array Value) : List Nat → Sem Bool
  | [] => pure true
  | i :: is => do
    let a ← part elem xs (i * n)
    let b ← part elem ys (i * n)
    let r ← Op.equalIn d elem a b
    if (!r) = true then pure false else eqArr d elem n xs ys is
theorem run_equalIn_array (P : Program) (d : Nat) (t elem : TypeId) (len n : Nat) (xs ys : Array Value) (w : World) (ht : P.underlying t = some (.array len elem)) (hs : (P.info? elem).map (·.size) = some n) :
    (Op.equalIn (d + 1) t (.agg xs) (.agg ys)).run P w = (eqArr d elem n xs ys (List.range' 0 len)).run P w := by
  have hsz : (sizeOf elem).run P w = .ok n w := by
    cases hq : P.info? elem with
    | none => simp [hq] at hs
    | some i => simp [sizeOf, typeInfo, hq] at hs ⊢; exact hs
  simp only [Op.equalIn, Sem.run_bind, run_underlying ht, Result.andThen_ok, hsz]
  rw [Std.Legacy.Range.forIn_eq_forIn_range']
  simp only [Std.Legacy.Range.size, Nat.sub_zero, Nat.add_sub_cancel, Nat.div_one]
  generalize List.range' 0 len 1 = is
  clear hsz
  induction is generalizing w with
  | nil => simp [eqArr]
  | cons i is ih =>
    simp only [List.forIn_cons, eqArr, Sem.run_bind, Sem.run_ite]
    generalize (part elem xs (i * n)).run P w = r1
    cases r1 with
    | ok a w1 =>
      simp only [Result.andThen_ok]
      generalize (part elem ys (i * n)).run P w1 = r2
      cases r2 with
      | ok b w2 =>
        simp only [Result.andThen_ok]
        generalize (Op.equalIn d elem a b).run P w2 = r3
        cases r3 with
        | ok r w3 =>
          cases r
          · simp only [Result.andThen_ok, Bool.not_false, if_true, Sem.run_pure]
          · simp only [Result.andThen_ok, Bool.not_true, Bool.false_eq_true, if_false, Sem.run_pure]
            exact ih w3
        | halt x w3 => simp [Result.andThen]
      | halt x w2 => simp [Result.andThen]
    | halt x w1 => simp [Result.andThen]
theorem eqArr_int (d : Nat) (x y : List Int) (w : World) : ∀ is : List Nat, (∀ i ∈ is, i < x.length ∧ i < y.length) →
    (eqArr (d + 1) 3 1 (x.map iv).toArray (y.map iv).toArray is).run Try.prog w = .ok (is.all fun i => x.getD i 0 == y.getD i 0) w
  | [], _ => by simp [eqArr]
  | i :: is, h => by
    have hi := h i (by simp)
    have hp : ∀ (z : List Int), i < z.length → (part 3 (z.map iv).toArray (i * 1)).run Try.prog w = .ok (.int .i64 (z.getD i 0)) w := by
      intro z hz
      have ha : (isAgg 3).run Try.prog w = .ok false w := by kernel_rfl
      simp only [part, Sem.run_bind, ha, Result.andThen_ok, Nat.mul_one]
      rw [List.getElem?_toArray, List.getElem?_map, List.getElem?_eq_getElem hz, List.getD_eq_getElem?_getD, List.getElem?_eq_getElem hz]
      rfl
    simp only [eqArr, Sem.run_bind, hp x hi.1, hp y hi.2, Result.andThen_ok, run_equalIn_int w d 3 .i64 .i64 _ _ Try.underlying3, Sem.run_ite, Sem.run_pure, List.all_cons]
    by_cases e : x.getD i 0 = y.getD i 0
    · rw [show (x.getD i 0 == y.getD i 0) = true by simpa using e]
      simp only [Bool.not_true, Bool.false_eq_true, if_false, Bool.true_and]
      exact eqArr_int d x y w is fun j hj => h j (by simp [hj])
    · rw [show (x.getD i 0 == y.getD i 0) = false by simpa using e]
      simp
theorem all_eqX {x y : List Int} (hx : x.length = 8) (hy : y.length = 8) : ((List.range' 0 8).all fun i => x.getD i 0 == y.getD i 0) = eqX x y := by
  unfold eqX
  by_cases e : x = y
  · subst e; simp
  · rw [decide_eq_false e, List.all_eq_false]
    refine Classical.byContradiction fun hc => e (eq_atX (by omega) fun j hj => ?_)
    refine Classical.byContradiction fun hn => hc ⟨j, ?_, ?_⟩
    · rw [List.mem_range'_1]; omega
    · simpa using hn
theorem underArr : Try.prog.underlying 74 = some (.array 8 3) := by kernel_rfl

set_option maxRecDepth 100000 in
theorem eql_res (n m : Int) (l u : List Int) (hl : l.length ≤ 8) (hu : u.length ≤ 8) (w : World) :
    (Op.equalIn 10000 76 (.agg (resV n l)) (.agg (resV m u))).run Try.prog w = .ok (n == m && eqX (padX l) (padX u)) w := by
  have hS : Try.prog.underlying 76 = some (.struct (Try.prog.fieldsOf 76)) := by kernel_rfl
  have hp : Try.prog.stoodInHeld 76 = false := by kernel_rfl
  rw [show (10000 : Nat) = 9999 + 1 from rfl, run_equalIn_agg w 9999 76 _ _ hS hp]
  simp only [Program.fieldsOf, Try.underlying76]
  have h0 : ∀ (z : Int) (k : List Int), (part 3 (resV z k) 0).run Try.prog w = .ok (.int .i64 z) w := by
    intro z k
    have ha : (isAgg 3).run Try.prog w = .ok false w := by kernel_rfl
    simp only [part, Sem.run_bind, ha, Result.andThen_ok]
    rfl
  have h1 : ∀ (z : Int) (k : List Int), k.length ≤ 8 → (part 74 (resV z k) 1).run Try.prog w = .ok (.agg ((padX k).map iv).toArray) w := by
    intro z k hk
    have ha : (isAgg 74).run Try.prog w = .ok true w := by kernel_rfl
    have hs : (sizeOf 74).run Try.prog w = .ok 8 w := by kernel_rfl
    simp only [part, Sem.run_bind, ha, Result.andThen_ok, if_true, hs, Sem.run_pure]
    congr 2
    apply Array.toList_inj.1
    simp only [resV, resL, Array.toList_extract, List.extract_eq_take_drop]
    simp
    exact List.take_of_length_le (by rw [List.length_map, padX_len hk]; exact Nat.le_refl _)
  have h2 : (Op.equalIn 9999 3 (.int .i64 n) (.int .i64 m)).run Try.prog w = .ok (n == m) w := by
    rw [show (9999 : Nat) = 9998 + 1 from rfl]
    exact run_equalIn_int w 9998 3 .i64 .i64 _ _ Try.underlying3
  have h3 : (Op.equalIn 9999 74 (.agg ((padX l).map iv).toArray) (.agg ((padX u).map iv).toArray)).run Try.prog w = .ok (eqX (padX l) (padX u)) w := by
    rw [show (9999 : Nat) = 9998 + 1 from rfl, run_equalIn_array Try.prog 9998 74 3 8 1 _ _ w underArr (by kernel_rfl), show (9998 : Nat) = 9997 + 1 from rfl,
      eqArr_int 9997 _ _ w _ (fun i hi => by rw [List.mem_range'_1] at hi; rw [padX_len hl, padX_len hu]; omega), all_eqX (padX_len hl) (padX_len hu)]
  simp only [Op.eqFields, Sem.run_bind, Sem.run_ite, h0 n l, h0 m u, h1 n l hl, h1 m u hu, h2, h3, Result.andThen_ok]
  cases hnm : (n == m)
  · simp
  · cases heq : eqX (padX l) (padX u) <;> simp
end Go.Proofs.Yteiadhfjpohmdaa
