/-
  The program's map of beginnings, as a function of a set and a number of reversals. No conditions else.
-/
import Derived.Test.YteegbkbphfmooaaQy
import Derived.Maps.OwnSet
import Derived.Maps.RangeWalk
import Derived.Maps.Ext
import Derived.DeepKeys4
import Derived.WideKeyArgs
namespace Go.Proofs.Yteegbkbphfmooaa
open Go.ChangeShapes Go.WideShapes Go.ChangeAt Go.RowKit Go.Sort
set_option linter.unusedVariables false

theorem rowKt : (108 : TypeId) < Try.prog.types.size := of_decide_eq_true (by kernel_rfl)
theorem wideKt : (match Try.prog.underlying 108 with | some (.array _ _) | some (.struct _) => true | _ => false) = true := by rw [Try.underlying108]
theorem ktAt : Try.prog.keyTypeAt 2 108 = true := by kernel_rfl
set_option maxRecDepth 100000 in
theorem kyLaw : Go.WideMaps.KeyLaw Try.prog 108 := deep_law_laid laidOut (m := 2) (by omega) rowKt ktAt wideKt
theorem kyd : Maps.Keyed Try.prog 108 := Maps.Keyed.of_law kyLaw
/-- A key's value. -/
def KV (s r : Nat) : Value := .agg #[.int .i64 (s : Int), .int .i64 (r : Int)]
theorem keyTypeKt : Try.prog.keyType 108 = true := by kernel_rfl
theorem cellsKt : Try.prog.cellsOf 108 = 2 := by kernel_rfl
theorem cellsI : Try.prog.cellsOf 3 = 1 := by kernel_rfl
theorem wfN (z : Nat) (h : z < 1000) : (Lit.int .i64 (z : Int)).wf = true := by
  have e1 : IntKind.i64.min = -9223372036854775808 := by decide
  have e2 : IntKind.i64.max = 9223372036854775807 := by decide
  simp only [Lit.wf, e1, e2, Bool.and_eq_true, decide_eq_true_eq]
  omega
theorem litsI (D : Nat) (z : Nat) (h : z < 1000) : Try.prog.keyLits (D + 1) 3 [.int .i64 (z : Int)] = some [.int .i64 (z : Int)] := by
  unfold Program.keyLits
  rw [Try.underlying3]
  simp [wfN z h]
theorem litsK (D s r : Nat) (hs : s < 1000) (hr : r < 1000) : Try.prog.keyLits (D + 1 + 1) 108 [.int .i64 (s : Int), .int .i64 (r : Int)] = some [.int .i64 (s : Int), .int .i64 (r : Int)] := by
  unfold Program.keyLits
  rw [Try.underlying108]
  simp [cellsKt, cellsI, litsI D s hs, litsI D r hr]
theorem formedKt (u v : Value) : (Value.agg #[u, v]).formed Try.prog 108 = true := by simp [Value.formed, Try.underlying108, cellsKt]
set_option maxRecDepth 100000 in
theorem key_ex (s r : Nat) (hs : s < 1000) (hr : r < 1000) : ∃ l, keyOf Try.prog 108 (KV s r) = some l := by
  obtain ⟨D, hD⟩ : ∃ D, Try.prog.types.size = D + 1 := ⟨Try.prog.types.size - 1, (Nat.succ_pred_eq_of_pos (Nat.lt_of_le_of_lt (Nat.zero_le _) rowKt)).symm⟩
  refine ⟨.string (keyBytes [.int .i64 (s : Int), .int .i64 (r : Int)]), ?_⟩
  unfold keyOf KV
  rw [Try.underlying108]
  simp only [keyTypeKt, formedKt, Bool.and_self, if_true]
  rw [hD, show (Value.agg #[.int .i64 (s : Int), .int .i64 (r : Int)]).cells.toList = [.int .i64 (s : Int), .int .i64 (r : Int)] from by simp [Value.cells], litsK D s r hs hr]
  rfl
/-- What a key reads as. -/
noncomputable def kl (s r : Nat) : Lit := (keyOf Try.prog 108 (KV s r)).getD (.string [])
set_option maxRecDepth 100000 in
theorem kl_eq {s r : Nat} (hs : s < 1000) (hr : r < 1000) : keyOf Try.prog 108 (KV s r) = some (kl s r) := by
  obtain ⟨l, h⟩ := key_ex s r hs hr
  unfold kl; rw [h]; rfl
set_option maxRecDepth 100000 in
theorem kl_inj {s r s' r' : Nat} (hs : s < 1000) (hr : r < 1000) (hs' : s' < 1000) (hr' : r' < 1000) (h : kl s r = kl s' r') : s = s' ∧ r = r' := by
  have h1 := kl_eq hs hr
  have h2 := kl_eq hs' hr'
  rw [← h] at h2
  have := kyd.inj h1 h2
  unfold KV at this
  simp at this
  omega
set_option maxRecDepth 100000 in
theorem kl_key {s r : Nat} (hs : s < 1000) (hr : r < 1000) : WideAt.IsKeyLit (kl s r) := kyd.key (kl_eq hs hr)

/-- How an element's value reads: as it is. -/
def RV (v : Value) : Option (DataW Value × List MemPlace) := some (.held v, [])
/-- A datum that is a function of a set and a number of reversals. -/
structure Vw (D : DataW Value) (M : Nat → Nat → Option Value) : Prop where
  isMap : Maps.IsMap D
  no : ∀ s r, s < 256 → r ≤ 200 → M s r = none → Maps.has D (kl s r) = false
  yes : ∀ s r v, s < 256 → r ≤ 200 → M s r = some v → Maps.has D (kl s r) = true ∧ ∀ z, D.atKey (kl s r) z = .held v
  only : ∀ l, Maps.has D l = true → ∃ s r, s < 256 ∧ r ≤ 200 ∧ l = kl s r

section
variable {D : DataW Value} {M : Nat → Nat → Option Value}
theorem Vw.empty : Vw (.map []) (fun _ _ => none) := ⟨⟨[], rfl⟩, fun _ _ _ _ _ => rfl, (fun _ _ _ _ _ h => by cases h), (fun _ h => by cases h)⟩
theorem Vw.congr {M' : Nat → Nat → Option Value} (h : Vw D M) (he : ∀ s r, s < 256 → r ≤ 200 → M' s r = M s r) : Vw D M' :=
  ⟨h.isMap, fun s r hs hr hm => h.no s r hs hr (by rw [← he s r hs hr]; exact hm), fun s r v hs hr hm => h.yes s r v hs hr (by rw [← he s r hs hr]; exact hm), h.only⟩
set_option maxRecDepth 100000 in
theorem kl_ne {s r s' r' : Nat} (hs : s < 256) (hr : r ≤ 200) (hs' : s' < 256) (hr' : r' ≤ 200) (h : ¬ (s' = s ∧ r' = r)) : kl s' r' ≠ kl s r := fun e => h (kl_inj (by omega) (by omega) (by omega) (by omega) e)
set_option maxRecDepth 100000 in
theorem Vw.put (h : Vw D M) {s r : Nat} (hs : s < 256) (hr : r ≤ 200) (v : Value) : Vw (D.put (kl s r) (.held v)) (fun s' r' => if s' = s ∧ r' = r then some v else M s' r') := by
  refine ⟨h.isMap.put _ _, fun s' r' hs' hr' hm => ?_, fun s' r' u hs' hr' hm => ?_, fun l hl => ?_⟩
  · by_cases e : s' = s ∧ r' = r
    · rw [if_pos e] at hm; cases hm
    · rw [if_neg e] at hm
      rw [Maps.has_put_other (kl_ne hs hr hs' hr' e)]; exact h.no s' r' hs' hr' hm
  · by_cases e : s' = s ∧ r' = r
    · rw [if_pos e] at hm
      obtain rfl := Option.some.inj hm
      obtain ⟨rfl, rfl⟩ := e
      exact ⟨Maps.has_put_same h.isMap (kl_key (by omega) (by omega)) _, fun z => Maps.atKey_put_same h.isMap (kl_key (by omega) (by omega)) _ _⟩
    · rw [if_neg e] at hm
      obtain ⟨h1, h2⟩ := h.yes s' r' u hs' hr' hm
      exact ⟨by rw [Maps.has_put_other (kl_ne hs hr hs' hr' e)]; exact h1, fun z => by rw [Maps.atKey_put_other (kl_ne hs hr hs' hr' e)]; exact h2 z⟩
  · by_cases e : l = kl s r
    · exact ⟨s, r, hs, hr, e⟩
    · rw [Maps.has_put_other e] at hl; exact h.only l hl
set_option maxRecDepth 100000 in
theorem Vw.del (h : Vw D M) {s r : Nat} (hs : s < 256) (hr : r ≤ 200) : Vw (D.del (kl s r)) (fun s' r' => if s' = s ∧ r' = r then none else M s' r') := by
  refine ⟨h.isMap.del _, fun s' r' hs' hr' hm => ?_, fun s' r' u hs' hr' hm => ?_, fun l hl => ?_⟩
  · by_cases e : s' = s ∧ r' = r
    · obtain ⟨rfl, rfl⟩ := e; exact Maps.has_del_same
    · rw [if_neg e] at hm
      rw [Maps.has_del_other (kl_ne hs hr hs' hr' e)]; exact h.no s' r' hs' hr' hm
  · by_cases e : s' = s ∧ r' = r
    · rw [if_pos e] at hm; cases hm
    · rw [if_neg e] at hm
      obtain ⟨h1, h2⟩ := h.yes s' r' u hs' hr' hm
      exact ⟨by rw [Maps.has_del_other (kl_ne hs hr hs' hr' e)]; exact h1, fun z => by rw [Maps.atKey_del_other (kl_ne hs hr hs' hr' e)]; exact h2 z⟩
  · by_cases e : l = kl s r
    · rw [e, Maps.has_del_same] at hl; cases hl
    · rw [Maps.has_del_other e] at hl; exact h.only l hl
set_option maxRecDepth 100000 in
theorem Vw.has (h : Vw D M) {s r : Nat} (hs : s < 256) (hr : r ≤ 200) : Maps.has D (kl s r) = (M s r).isSome := by
  cases hm : M s r with
  | none => exact h.no s r hs hr hm
  | some v => exact (h.yes s r v hs hr hm).1
end
/-- The zero value of a group. -/
def zeroG : Value := .agg #[.slice none 0 0, .int .i64 0]
set_option maxRecDepth 100000 in
theorem zeroG_run (w : World) : (zeroValue 73).run Try.prog w = .ok zeroG w := by kernel_rfl
set_option maxRecDepth 100000 in
/-- A look-up. -/
theorem look_any {w : World} {b n : Nat} {D : DataW Value} {M : Nat → Nat → Option Value} (h : w.ownsMap Try.prog 108 RV b n D) (hv : Vw D M) {s r : Nat} (hs : s < 256) (hr : r ≤ 200) :
    (Instr.lookup 109 (.map (some b)) (KV s r) false).run Try.prog w = .ok ((M s r).getD zeroG) w := by
  obtain ⟨v, ps, hrun, hR⟩ := h.lookup kyd Try.underlying109 (zeroG_run w) (zd := .held zeroG) (zp := []) rfl (kl_eq (show s < 1000 by omega) (show r < 1000 by omega))
  rw [hrun]
  congr 1
  have h1 : DataW.held v = D.atKey (kl s r) (.held zeroG) := by
    have := Option.some.inj hR
    exact (Prod.mk.inj this).1
  cases hm : M s r with
  | none =>
    rw [Maps.atKey_of_not_has (hv.no s r hs hr hm)] at h1
    exact DataW.held.inj h1
  | some u =>
    rw [(hv.yes s r u hs hr hm).2] at h1
    exact DataW.held.inj h1
set_option maxRecDepth 100000 in
theorem look_ok {w : World} {b n : Nat} {D : DataW Value} {M : Nat → Nat → Option Value} (h : w.ownsMap Try.prog 108 RV b n D) (hv : Vw D M) {s r : Nat} (hs : s < 256) (hr : r ≤ 200) :
    (Instr.lookup 109 (.map (some b)) (KV s r) true).run Try.prog w = .ok (.tuple #[(M s r).getD zeroG, .bool (M s r).isSome]) w := by
  obtain ⟨v, ps, hrun, hR⟩ := h.look_ok kyd Try.underlying109 (zeroG_run w) (zd := .held zeroG) (zp := []) rfl (kl_eq (show s < 1000 by omega) (show r < 1000 by omega))
  rw [hrun, hv.has hs hr]
  have h1 : DataW.held v = D.atKey (kl s r) (.held zeroG) := by
    have := Option.some.inj hR
    exact (Prod.mk.inj this).1
  have h2 : v = (M s r).getD zeroG := by
    cases hm : M s r with
    | none =>
      rw [Maps.atKey_of_not_has (hv.no s r hs hr hm)] at h1
      exact DataW.held.inj h1
    | some u =>
      rw [(hv.yes s r u hs hr hm).2] at h1
      exact DataW.held.inj h1
  rw [h2]
set_option maxRecDepth 100000 in
/-- A store. -/
theorem store_any {w : World} {b n : Nat} {D : DataW Value} {M : Nat → Nat → Option Value} (h : w.ownsMap Try.prog 108 RV b n D) (hv : Vw D M) (hn : n < maxLen) {s r : Nat} (hs : s < 256) (hr : r ≤ 200) (v : Value) :
    ∃ w' D', (Instr.mapUpdate 109 (.map (some b)) (KV s r) v).run Try.prog w = .ok () w' ∧ w'.ownsMap Try.prog 108 RV b (n + 1) D' ∧ Vw D' (fun s' r' => if s' = s ∧ r' = r then some v else M s' r') ∧ w.grownBy w' (some b) := by
  obtain ⟨w', h1, h2, h3⟩ := h.update kyd Try.underlying109 hn (kl_eq (show s < 1000 by omega) (show r < 1000 by omega)) (show RV v = some (.held v, []) from rfl)
  exact ⟨w', _, h1, h2, hv.put hs hr v, h3⟩
end Go.Proofs.Yteegbkbphfmooaa
