/-
  The program's map of beginnings, deleteWorse, lengthened, bestOrders (QA to QG in one). No conditions but the bounds that Go gives a slice.
-/
import Derived.Test.YteegbkbphfmooaaQy
import Derived.Maps.OwnSet
import Derived.Maps.RangeWalk
import Derived.Maps.Ext
import Derived.DeepKeys4
import Derived.WideKeyArgs
import Derived.Deep.RegionHeld3
namespace Go.Proofs.Yteegbkbphfmooaa
open Go.ChangeShapes Go.WideShapes Go.ChangeAt Go.RowKit Go.Sort
set_option linter.unusedVariables false

theorem rowKt : (108 : TypeId) < Try.prog.types.size := of_decide_eq_true (by kernel_rfl)
theorem wideKt : (match Try.prog.underlying 108 with | some (.array _ _) | some (.struct _) => true | _ => false) = true := by rw [Try.underlying108]
theorem ktAt : Try.prog.keyTypeAt 2 108 = true := by kernel_rfl
set_option maxRecDepth 100000 in
theorem kyLaw : Go.WideMaps.KeyLaw Try.prog 108 := deep_law_laid laidOut (m := 2) (by omega) rowKt ktAt wideKt
theorem kyd : Maps.Keyed Try.prog 108 := Maps.Keyed.of_law kyLaw
/-- A key's value. -/
def KV (s r : Nat) : Value := .agg #[.int .i64 (s : Int), .int .i64 (r : Int)]
theorem keyTypeKt : Try.prog.keyType 108 = true := by kernel_rfl
theorem cellsKt : Try.prog.cellsOf 108 = 2 := by kernel_rfl
theorem cellsI : Try.prog.cellsOf 3 = 1 := by kernel_rfl
theorem wfN (z : Nat) (h : z < 1000) : (Lit.int .i64 (z : Int)).wf = true := by
  have e1 : IntKind.i64.min = -9223372036854775808 := by decide
  have e2 : IntKind.i64.max = 9223372036854775807 := by decide
  simp only [Lit.wf, e1, e2, Bool.and_eq_true, decide_eq_true_eq]
  omega
theorem litsI (D : Nat) (z : Nat) (h : z < 1000) : Try.prog.keyLits (D + 1) 3 [.int .i64 (z : Int)] = some [.int .i64 (z : Int)] := by
  unfold Program.keyLits
  rw [Try.underlying3]
  simp [wfN z h]
theorem litsK (D s r : Nat) (hs : s < 1000) (hr : r < 1000) : Try.prog.keyLits (D + 1 + 1) 108 [.int .i64 (s : Int), .int .i64 (r : Int)] = some [.int .i64 (s : Int), .int .i64 (r : Int)] := by
  unfold Program.keyLits
  rw [Try.underlying108]
  simp [cellsKt, cellsI, litsI D s hs, litsI D r hr]
theorem formedKt (u v : Value) : (Value.agg #[u, v]).formed Try.prog 108 = true := by simp [Value.formed, Try.underlying108, cellsKt]
set_option maxRecDepth 100000 in
theorem key_ex (s r : Nat) (hs : s < 1000) (hr : r < 1000) : ∃ l, keyOf Try.prog 108 (KV s r) = some l := by
  obtain ⟨D, hD⟩ : ∃ D, Try.prog.types.size = D + 1 := ⟨Try.prog.types.size - 1, (Nat.succ_pred_eq_of_pos (Nat.lt_of_le_of_lt (Nat.zero_le _) rowKt)).symm⟩
  refine ⟨.string (keyBytes [.int .i64 (s : Int), .int .i64 (r : Int)]), ?_⟩
  unfold keyOf KV
  rw [Try.underlying108]
  simp only [keyTypeKt, formedKt, Bool.and_self, if_true]
  rw [hD, show (Value.agg #[.int .i64 (s : Int), .int .i64 (r : Int)]).cells.toList = [.int .i64 (s : Int), .int .i64 (r : Int)] from by simp [Value.cells], litsK D s r hs hr]
  rfl
/-- What a key reads as. -/
noncomputable def kl (s r : Nat) : Lit := (keyOf Try.prog 108 (KV s r)).getD (.string [])
set_option maxRecDepth 100000 in
theorem kl_eq {s r : Nat} (hs : s < 1000) (hr : r < 1000) : keyOf Try.prog 108 (KV s r) = some (kl s r) := by
  obtain ⟨l, h⟩ := key_ex s r hs hr
  unfold kl; rw [h]; rfl
set_option maxRecDepth 100000 in
theorem kl_inj {s r s' r' : Nat} (hs : s < 1000) (hr : r < 1000) (hs' : s' < 1000) (hr' : r' < 1000) (h : kl s r = kl s' r') : s = s' ∧ r = r' := by
  have h1 := kl_eq hs hr
  have h2 := kl_eq hs' hr'
  rw [← h] at h2
  have := kyd.inj h1 h2
  unfold KV at this
  simp at this
  omega
set_option maxRecDepth 100000 in
theorem kl_key {s r : Nat} (hs : s < 1000) (hr : r < 1000) : WideAt.IsKeyLit (kl s r) := kyd.key (kl_eq hs hr)

/-- How an element's value reads: as it is. -/
def RV (v : Value) : Option (DataW Value × List MemPlace) := some (.held v, [])
/-- A datum that is a function of a set and a number of reversals. -/
structure Vw (D : DataW Value) (M : Nat → Nat → Option Value) : Prop where
  isMap : Maps.IsMap D
  no : ∀ s r, s < 256 → r ≤ 200 → M s r = none → Maps.has D (kl s r) = false
  yes : ∀ s r v, s < 256 → r ≤ 200 → M s r = some v → Maps.has D (kl s r) = true ∧ ∀ z, D.atKey (kl s r) z = .held v
  only : ∀ l, Maps.has D l = true → ∃ s r, s < 256 ∧ r ≤ 200 ∧ l = kl s r

section
variable {D : DataW Value} {M : Nat → Nat → Option Value}
theorem Vw.empty : Vw (.map []) (fun _ _ => none) := ⟨⟨[], rfl⟩, fun _ _ _ _ _ => rfl, (fun _ _ _ _ _ h => by cases h), (fun _ h => by cases h)⟩
theorem Vw.congr {M' : Nat → Nat → Option Value} (h : Vw D M) (he : ∀ s r, s < 256 → r ≤ 200 → M' s r = M s r) : Vw D M' :=
  ⟨h.isMap, fun s r hs hr hm => h.no s r hs hr (by rw [← he s r hs hr]; exact hm), fun s r v hs hr hm => h.yes s r v hs hr (by rw [← he s r hs hr]; exact hm), h.only⟩
set_option maxRecDepth 100000 in
theorem kl_ne {s r s' r' : Nat} (hs : s < 256) (hr : r ≤ 200) (hs' : s' < 256) (hr' : r' ≤ 200) (h : ¬ (s' = s ∧ r' = r)) : kl s' r' ≠ kl s r := fun e => h (kl_inj (by omega) (by omega) (by omega) (by omega) e)
set_option maxRecDepth 100000 in
theorem Vw.put (h : Vw D M) {s r : Nat} (hs : s < 256) (hr : r ≤ 200) (v : Value) : Vw (D.put (kl s r) (.held v)) (fun s' r' => if s' = s ∧ r' = r then some v else M s' r') := by
  refine ⟨h.isMap.put _ _, fun s' r' hs' hr' hm => ?_, fun s' r' u hs' hr' hm => ?_, fun l hl => ?_⟩
  · by_cases e : s' = s ∧ r' = r
    · rw [if_pos e] at hm; cases hm
    · rw [if_neg e] at hm
      rw [Maps.has_put_other (kl_ne hs hr hs' hr' e)]; exact h.no s' r' hs' hr' hm
  · by_cases e : s' = s ∧ r' = r
    · rw [if_pos e] at hm
      obtain rfl := Option.some.inj hm
      obtain ⟨rfl, rfl⟩ := e
      exact ⟨Maps.has_put_same h.isMap (kl_key (by omega) (by omega)) _, fun z => Maps.atKey_put_same h.isMap (kl_key (by omega) (by omega)) _ _⟩
    · rw [if_neg e] at hm
      obtain ⟨h1, h2⟩ := h.yes s' r' u hs' hr' hm
      exact ⟨by rw [Maps.has_put_other (kl_ne hs hr hs' hr' e)]; exact h1, fun z => by rw [Maps.atKey_put_other (kl_ne hs hr hs' hr' e)]; exact h2 z⟩
  · by_cases e : l = kl s r
    · exact ⟨s, r, hs, hr, e⟩
    · rw [Maps.has_put_other e] at hl; exact h.only l hl
set_option maxRecDepth 100000 in
theorem Vw.del (h : Vw D M) {s r : Nat} (hs : s < 256) (hr : r ≤ 200) : Vw (D.del (kl s r)) (fun s' r' => if s' = s ∧ r' = r then none else M s' r') := by
  refine ⟨h.isMap.del _, fun s' r' hs' hr' hm => ?_, fun s' r' u hs' hr' hm => ?_, fun l hl => ?_⟩
  · by_cases e : s' = s ∧ r' = r
    · obtain ⟨rfl, rfl⟩ := e; exact Maps.has_del_same
    · rw [if_neg e] at hm
      rw [Maps.has_del_other (kl_ne hs hr hs' hr' e)]; exact h.no s' r' hs' hr' hm
  · by_cases e : s' = s ∧ r' = r
    · rw [if_pos e] at hm; cases hm
    · rw [if_neg e] at hm
      obtain ⟨h1, h2⟩ := h.yes s' r' u hs' hr' hm
      exact ⟨by rw [Maps.has_del_other (kl_ne hs hr hs' hr' e)]; exact h1, fun z => by rw [Maps.atKey_del_other (kl_ne hs hr hs' hr' e)]; exact h2 z⟩
  · by_cases e : l = kl s r
    · rw [e, Maps.has_del_same] at hl; cases hl
    · rw [Maps.has_del_other e] at hl; exact h.only l hl
set_option maxRecDepth 100000 in
theorem Vw.has (h : Vw D M) {s r : Nat} (hs : s < 256) (hr : r ≤ 200) : Maps.has D (kl s r) = (M s r).isSome := by
  cases hm : M s r with
  | none => exact h.no s r hs hr hm
  | some v => exact (h.yes s r v hs hr hm).1
end
/-- The zero value of a group. -/
def zeroG : Value := .agg #[.slice none 0 0, .int .i64 0]
set_option maxRecDepth 100000 in
theorem zeroG_run (w : World) : (zeroValue 73).run Try.prog w = .ok zeroG w := by kernel_rfl
set_option maxRecDepth 100000 in
/-- A look-up. -/
theorem look_any {w : World} {b n : Nat} {D : DataW Value} {M : Nat → Nat → Option Value} (h : w.ownsMap Try.prog 108 RV b n D) (hv : Vw D M) {s r : Nat} (hs : s < 256) (hr : r ≤ 200) :
    (Instr.lookup 109 (.map (some b)) (KV s r) false).run Try.prog w = .ok ((M s r).getD zeroG) w := by
  obtain ⟨v, ps, hrun, hR⟩ := h.lookup kyd Try.underlying109 (zeroG_run w) (zd := .held zeroG) (zp := []) rfl (kl_eq (show s < 1000 by omega) (show r < 1000 by omega))
  rw [hrun]
  congr 1
  have h1 : DataW.held v = D.atKey (kl s r) (.held zeroG) := by
    have := Option.some.inj hR
    exact (Prod.mk.inj this).1
  cases hm : M s r with
  | none =>
    rw [Maps.atKey_of_not_has (hv.no s r hs hr hm)] at h1
    exact DataW.held.inj h1
  | some u =>
    rw [(hv.yes s r u hs hr hm).2] at h1
    exact DataW.held.inj h1
set_option maxRecDepth 100000 in
theorem look_ok {w : World} {b n : Nat} {D : DataW Value} {M : Nat → Nat → Option Value} (h : w.ownsMap Try.prog 108 RV b n D) (hv : Vw D M) {s r : Nat} (hs : s < 256) (hr : r ≤ 200) :
    (Instr.lookup 109 (.map (some b)) (KV s r) true).run Try.prog w = .ok (.tuple #[(M s r).getD zeroG, .bool (M s r).isSome]) w := by
  obtain ⟨v, ps, hrun, hR⟩ := h.look_ok kyd Try.underlying109 (zeroG_run w) (zd := .held zeroG) (zp := []) rfl (kl_eq (show s < 1000 by omega) (show r < 1000 by omega))
  rw [hrun, hv.has hs hr]
  have h1 : DataW.held v = D.atKey (kl s r) (.held zeroG) := by
    have := Option.some.inj hR
    exact (Prod.mk.inj this).1
  have h2 : v = (M s r).getD zeroG := by
    cases hm : M s r with
    | none =>
      rw [Maps.atKey_of_not_has (hv.no s r hs hr hm)] at h1
      exact DataW.held.inj h1
    | some u =>
      rw [(hv.yes s r u hs hr hm).2] at h1
      exact DataW.held.inj h1
  rw [h2]
set_option maxRecDepth 100000 in
/-- A store. -/
theorem store_any {w : World} {b n : Nat} {D : DataW Value} {M : Nat → Nat → Option Value} (h : w.ownsMap Try.prog 108 RV b n D) (hv : Vw D M) (hn : n < maxLen) {s r : Nat} (hs : s < 256) (hr : r ≤ 200) (v : Value) :
    ∃ w' D', (Instr.mapUpdate 109 (.map (some b)) (KV s r) v).run Try.prog w = .ok () w' ∧ w'.ownsMap Try.prog 108 RV b (n + 1) D' ∧ Vw D' (fun s' r' => if s' = s ∧ r' = r then some v else M s' r') ∧ w.grownBy w' (some b) := by
  obtain ⟨w', h1, h2, h3⟩ := h.update kyd Try.underlying109 hn (kl_eq (show s < 1000 by omega) (show r < 1000 by omega)) (show RV v = some (.held v, []) from rfl)
  exact ⟨w', _, h1, h2, hv.put hs hr v, h3⟩
end Go.Proofs.Yteegbkbphfmooaa
namespace Go.Proofs.Yteegbkbphfmooaa
open Go.ChangeShapes Go.WideShapes Go.ChangeAt Go.RowKit Go.Sort
set_option linter.unusedVariables false

/-- A range over the map under way: 'L': which entries are still to come. -/
def Rg (W : World) (b r n : Nat) (M : Nat → Nat → Option Value) (L : Nat → Nat → Bool) (cnt : Nat) : Prop :=
  ∃ D left, W.ranges Try.prog 108 RV b r n D left cnt ∧ Vw D M ∧ (∀ s q, s < 256 → q ≤ 200 → left (kl s q) = L s q) ∧ ∀ l, left l = true → Maps.has D l = true
theorem Rg.owns {W : World} {b r n : Nat} {M : Nat → Nat → Option Value} {L : Nat → Nat → Bool} {cnt : Nat} (h : Rg W b r n M L cnt) : ∃ D, W.ownsMap Try.prog 108 RV b n D ∧ Vw D M := by
  obtain ⟨D, left, h1, h2, _⟩ := h
  exact ⟨D, h1.owns, h2⟩
theorem Rg.kept {W W' : World} {b r n : Nat} {M : Nat → Nat → Option Value} {L : Nat → Nat → Bool} {cnt : Nat} {row : Option Nat} (h : Rg W b r n M L cnt) (hg : W.grownBy W' row) (hb : some b ≠ row) (hr : some r ≠ row) : Rg W' b r n M L cnt := by
  obtain ⟨D, left, h1, h2⟩ := h
  exact ⟨D, left, h1.kept hg hb hr, h2⟩
theorem Rg.left_eq {W : World} {b r n : Nat} {M : Nat → Nat → Option Value} {L : Nat → Nat → Bool} {cnt : Nat} (h : Rg W b r n M L cnt) : W.rangeLeft b r = cnt := by
  obtain ⟨D, left, h1, _⟩ := h
  exact h1.left_eq
theorem Rg.ne {W : World} {b r n : Nat} {M : Nat → Nat → Option Value} {L : Nat → Nat → Bool} {cnt : Nat} (h : Rg W b r n M L cnt) : r ≠ b ∧ r < W.heap.size ∧ b < W.heap.size := by
  obtain ⟨D, left, h1, _⟩ := h
  exact ⟨h1.ne, h1.lt, h1.owns.lt⟩
set_option maxRecDepth 100000 in
theorem key_of {l : Lit} {key : Value} {s q : Nat} (hs : s < 256) (hq : q ≤ 200) (hk : keyOf Try.prog 108 key = some l) (e : l = kl s q) : key = KV s q := by
  rw [e] at hk
  exact kyd.inj hk (kl_eq (show s < 1000 by omega) (show q < 1000 by omega))
set_option maxRecDepth 100000 in
theorem same_kl {s q s' q' : Nat} (hs : s < 256) (hq : q ≤ 200) (hs' : s' < 256) (hq' : q' ≤ 200) : (kl s' q').sameKey (kl s q) = decide (s' = s ∧ q' = q) := by
  by_cases e : s' = s ∧ q' = q
  · obtain ⟨rfl, rfl⟩ := e
    rw [WideAt.sameKey_self (kl_key (show s' < 1000 by omega) (show q' < 1000 by omega))]; simp
  · rw [Maps.sameKey_ne (kl_ne hs hq hs' hq' e), decide_eq_false e]

section
variable (w : World) {ops : Array Oper} {rest : List Oper} {o : Oper} {a : Act} {Q : Exit → Act → World → Prop}
theorem wpList_range_Rg (hg : o.guard = none) (m : Operand) (hop : o.op = Op.range 109 m) (b n : Nat) (M : Nat → Nat → Option Value)
    (hm : a.eval m = .map (some b)) {D : DataW Value} (hown : w.ownsMap Try.prog 108 RV b n D) (hv : Vw D M)
    (hK : ∀ w' cnt, Rg w' b w.heap.size n M (fun s q => (M s q).isSome) cnt → w.grownBy w' none → w'.heap.size = w.heap.size + 1 → wpList Try.prog ops Q rest (a.put o.dst (.pointer (some ⟨w.heap.size, 0, none⟩))) w') :
    wpList Try.prog ops Q (o :: rest) a w :=
  wpList_range_own w hg m _ hop 108 73 kyd Try.underlying109 RV b n D hm hown fun w' h1 h2 h3 =>
    hK w' _ ⟨D, _, h1, hv, fun s q hs hq => hv.has hs hq, fun l hl => hl⟩ h2 h3
set_option maxRecDepth 100000 in
theorem wpList_next_Rg (hg : o.guard = none) (it : Operand) (hop : o.op = Op.next it false) (b r n : Nat) (M : Nat → Nat → Option Value) (L : Nat → Nat → Bool) (cnt : Nat)
    (hit : a.eval it = .pointer (some ⟨r, 0, none⟩)) (h : Rg w b r n M L cnt)
    (hDone : (∀ s q, s < 256 → q ≤ 200 → L s q = false) → wpList Try.prog ops Q rest (a.put o.dst (.tuple #[.bool false])) w)
    (hMore : ∀ (s q : Nat) (v : Value) (w' : World) (cnt' : Nat), s < 256 → q ≤ 200 → M s q = some v → L s q = true → Rg w' b r n M (fun s2 q2 => L s2 q2 && !decide (s2 = s ∧ q2 = q)) cnt' → cnt' < cnt →
      w.grownBy w' (some r) → w'.heap.size = w.heap.size → (Instr.entry (.pointer (some ⟨r, 0, none⟩))).run Try.prog w' = .ok (.tuple #[KV s q, v]) w' → wpList Try.prog ops Q rest (a.put o.dst (.tuple #[.bool true, KV s q, v])) w') :
    wpList Try.prog ops Q (o :: rest) a w := by
  obtain ⟨D, left, h1, hv, hL, hh⟩ := h
  refine wpList_next_ranges w hg it hop 108 kyd RV (mkK := id) (mkV := id) (fun key l _ => ⟨key, rfl⟩) (fun v y _ => ⟨v, rfl⟩) b r n D left cnt hit h1 ?_ ?_
  · intro _ hl
    exact hDone fun s q hs hq => by rw [← hL s q hs hq]; exact hl _
  · intro key v l y w' cnt' hkey hlk hR hat hrg hlt hgr hsz hen
    obtain ⟨s, q, hs, hq, e⟩ := hv.only l (hh l hlk)
    have hk := key_of hs hq hkey e
    simp only [id] at hk
    subst hk
    have hLs : L s q = true := by rw [← hL s q hs hq, ← e]; exact hlk
    have hm : M s q = some v := by
      have hhas := hv.has hs hq
      rw [← e, hh l hlk] at hhas
      obtain ⟨u, hu⟩ := Option.isSome_iff_exists.1 hhas.symm
      have h2 := (hv.yes s q u hs hq hu).2 .nil
      rw [← e, hat] at h2
      have h3 : DataW.held v = DataW.held u := by
        have := Option.some.inj hR
        rw [← h2, ← this]; rfl
      rw [hu, DataW.held.inj h3]
    refine hMore s q v w' cnt' hs hq hm hLs ⟨D, _, hrg, hv, fun s2 q2 hs2 hq2 => ?_, fun l2 hl2 => ?_⟩ hlt hgr hsz hen
    · simp only
      rw [hL s2 q2 hs2 hq2, e, same_kl hs hq hs2 hq2]
    · simp only [Bool.and_eq_true] at hl2
      exact hh l2 hl2.1
set_option maxRecDepth 100000 in
theorem wpList_delete_Rg (hg : o.guard = none) (m x : Operand) (hop : o.op = Op.call { callee := Callee.builtin Builtin.delete, args := #[m, x], argTypes := #[109, 108] })
    (b r n : Nat) (M : Nat → Nat → Option Value) (L : Nat → Nat → Bool) (cnt : Nat)
    (hm : a.eval m = .map (some b)) (h : Rg w b r n M L cnt) (s q : Nat) (hs : s < 256) (hq : q ≤ 200) (hx : a.eval x = KV s q)
    (hK : ∀ w' cnt', Rg w' b r n (fun s2 q2 => if s2 = s ∧ q2 = q then none else M s2 q2) (fun s2 q2 => L s2 q2 && !decide (s2 = s ∧ q2 = q)) cnt' → cnt' ≤ cnt → w.grownBy w' (some b) → w'.heap.size = w.heap.size → wpList Try.prog ops Q rest (a.put o.dst (.tuple #[])) w') :
    wpList Try.prog ops Q (o :: rest) a w := by
  obtain ⟨D, left, h1, hv, hL, hh⟩ := h
  refine wpList_delete_ranges w hg m x 109 108 hop 73 kyd Try.underlying109 RV b r n D left cnt hm h1 (KV s q) (kl s q) hx (kl_eq (show s < 1000 by omega) (show q < 1000 by omega)) ?_
  intro w' cnt' h2 h3 h4
  refine hK w' cnt' ⟨_, _, h2, hv.del hs hq, fun s2 q2 hs2 hq2 => ?_, fun l hl => ?_⟩ h3 h4.grown ?_
  · simp only
    rw [hL s2 q2 hs2 hq2, same_kl hs hq hs2 hq2]
  · simp only [Bool.and_eq_true] at hl
    have hne : l ≠ kl s q := fun e => by
      have h5 := hl.2
      rw [e, WideAt.sameKey_self (kl_key (show s < 1000 by omega) (show q < 1000 by omega))] at h5
      simp at h5
    rw [Maps.has_del_other hne]
    exact hh l hl.1
  · obtain ⟨es, c, es', c', _, rfl⟩ := h4
    simp [Go.ChangeMaps.setBlock]
end
end Go.Proofs.Yteegbkbphfmooaa
namespace Go.Proofs.Yteegbkbphfmooaa
open Go.ChangeShapes Go.WideShapes Go.ChangeAt Go.RowKit Go.Sort
set_option linter.unusedVariables false

theorem Rg.congr {W : World} {b r n : Nat} {M M' : Nat → Nat → Option Value} {L L' : Nat → Nat → Bool} {cnt : Nat} (h : Rg W b r n M L cnt) (hM : ∀ s q, s < 256 → q ≤ 200 → M' s q = M s q) (hL : ∀ s q, s < 256 → q ≤ 200 → L' s q = L s q) : Rg W b r n M' L' cnt := by
  obtain ⟨D, left, h1, hv, h2, h3⟩ := h
  exact ⟨D, left, h1, hv.congr hM, fun s q hs hq => by rw [h2 s q hs hq, hL s q hs hq], h3⟩
/-- Whether a set has an entry with fewer reversals. -/
def low (M : Nat → Nat → Option Value) (s q : Nat) : Bool := (List.range q).any fun j => (M s j).isSome
theorem low_zero (M : Nat → Nat → Option Value) (s : Nat) : low M s 0 = false := rfl
theorem low_next (M : Nat → Nat → Option Value) (s q : Nat) : low M s (q + 1) = (low M s q || (M s q).isSome) := by
  unfold low
  rw [List.range_succ, List.any_append]; simp
theorem low_iff {M : Nat → Nat → Option Value} {s q : Nat} : low M s q = true ↔ ∃ j, j < q ∧ (M s j).isSome = true := by
  unfold low
  rw [List.any_eq_true]
  constructor
  · rintro ⟨j, hj, h⟩; exact ⟨j, List.mem_range.1 hj, h⟩
  · rintro ⟨j, hj, h⟩; exact ⟨j, List.mem_range.2 hj, h⟩
/-- What is left in the end. -/
def dw (M : Nat → Nat → Option Value) (s q : Nat) : Option Value := if low M s q then none else M s q
/-- What is there while the entries of 'L' are still to come. -/
def cur (M : Nat → Nat → Option Value) (L : Nat → Nat → Bool) (s q : Nat) : Option Value := if L s q then M s q else dw M s q
/-- The least entry of a set is never struck. -/
theorem least_in {M : Nat → Nat → Option Value} {s : Nat} : ∀ q, (M s q).isSome = true → ∃ j, j ≤ q ∧ (M s j).isSome = true ∧ low M s j = false := by
  intro q
  induction q using Nat.strongRecOn with
  | _ q ih =>
    intro h
    cases hl : low M s q
    · exact ⟨q, Nat.le_refl _, h, hl⟩
    · obtain ⟨j, hj, hs⟩ := low_iff.1 hl
      obtain ⟨i, hi, h1, h2⟩ := ih j hj hs
      exact ⟨i, by omega, h1, h2⟩
theorem low_cur {M : Nat → Nat → Option Value} {L : Nat → Nat → Bool} (s q : Nat) : low (cur M L) s q = low M s q := by
  rw [Bool.eq_iff_iff, low_iff, low_iff]
  constructor
  · rintro ⟨j, hj, h⟩
    refine ⟨j, hj, ?_⟩
    unfold cur dw at h
    split at h
    · exact h
    · split at h
      · cases h
      · exact h
  · rintro ⟨j, hj, h⟩
    obtain ⟨i, hi, h1, h2⟩ := least_in j h
    refine ⟨i, by omega, ?_⟩
    unfold cur dw
    split
    · exact h1
    · rw [h2]; exact h1
/-- What is there within a round: the entry (s, q) is struck as soon as an entry with fewer has been met. -/
def inr' (C : Nat → Nat → Option Value) (s q j : Nat) (s2 q2 : Nat) : Option Value := if s2 = s ∧ q2 = q ∧ low C s j = true then none else C s2 q2

theorem inr'_zero (C : Nat → Nat → Option Value) (s q s2 q2 : Nat) : inr' C s q 0 s2 q2 = C s2 q2 := by unfold inr'; rw [low_zero]; simp
theorem inr'_at {C : Nat → Nat → Option Value} {s q j : Nat} (h : j < q) : inr' C s q j s j = C s j := by unfold inr'; rw [if_neg (by omega)]
theorem inr'_stay {C : Nat → Nat → Option Value} {s q j : Nat} (h : (C s j).isSome = false) (s2 q2 : Nat) : inr' C s q (j + 1) s2 q2 = inr' C s q j s2 q2 := by unfold inr'; rw [low_next, h, Bool.or_false]
theorem inr'_go {C : Nat → Nat → Option Value} {s q j : Nat} (h : (C s j).isSome = true) (s2 q2 : Nat) : inr' C s q (j + 1) s2 q2 = if s2 = s ∧ q2 = q then none else inr' C s q j s2 q2 := by
  unfold inr'
  rw [low_next, h, Bool.or_true]
  by_cases e : s2 = s ∧ q2 = q
  · rw [if_pos e, if_pos ⟨e.1, e.2, rfl⟩]
  · rw [if_neg e, if_neg (fun hh => e ⟨hh.1, hh.2.1⟩), if_neg (fun hh => e ⟨hh.1, hh.2.1⟩)]
theorem inr'_end {M : Nat → Nat → Option Value} {L : Nat → Nat → Bool} {s q : Nat} (hL : L s q = true) (s2 q2 : Nat) : cur M (fun a b => L a b && !decide (a = s ∧ b = q)) s2 q2 = inr' (cur M L) s q q s2 q2 := by
  unfold inr'
  by_cases e : s2 = s ∧ q2 = q
  · obtain ⟨rfl, rfl⟩ := e
    rw [low_cur]
    unfold cur dw
    simp [hL]
  · rw [if_neg (fun hh => e ⟨hh.1, hh.2.1⟩)]
    unfold cur
    simp [e]
/-- What a key's copy in a box of its own is. -/
theorem box_kept {W W' : World} {g : Nat} {t : TypeId} {v0 v1 : Value} {row : Option Nat} (h : Box W g t v0 v1) (hg : W.grownBy W' row) (hne : some g ≠ row) : Box W' g t v0 v1 := (hg.block g h.lt hne).trans h

set_option maxRecDepth 100000 in
set_option maxHeartbeats 4000000 in
theorem deleteWorse_any (b n : Nat) (D : DataW Value) (M : Nat → Nat → Option Value) (w : World) (hown : w.ownsMap Try.prog 108 RV b n D) (hv : Vw D M) (hM : ∀ s q v, s < 256 → q ≤ 200 → M s q = some v → ∃ a m c z, v = .agg #[.slice a m c, .int .i64 z]) :
    Calls Try.prog 125 #[.map (some b)] w fun e w' => (∃ v, e = .returned v) ∧ (∃ D', w'.ownsMap Try.prog 108 RV b n D' ∧ Vw D' (dw M)) ∧ w.grownBy w' (some b) := by
  have HOWN := Lib.hid hown
  have HV := Lib.hid hv
  have HM := Lib.hid hM
  have hbw : b < w.heap.size := hown.lt
  clear hown hv hM
  go_enter Try.func125, Try.ntmps125
  go_wp2_with (first | (at_range; refine wpList_range_Rg _ rfl _ rfl b n M rfl HOWN.out HV.out ?_; intro w1 cnt0 hrg hg1 hsz1) | go_in)
  go_frame
  have HRG := Lib.hid hrg
  have HG1 := Lib.hid hg1
  clear hrg hg1 hsz1
  go_loopw [8] (fun _ wr => ∃ L cnt, Hid (Rg wr b w.heap.size n (cur M L) L cnt) ∧ Hid (∀ s q, s < 256 → q ≤ 200 → L s q = true → (M s q).isSome = true) ∧ Hid (w.grownBy wr (some b))) (fun _ wr => wr.rangeLeft b w.heap.size)
  case atStart =>
    refine ⟨_, cnt0, HRG.out.congr (L' := fun s q => (M s q).isSome) (fun s q _ _ => ?_) (fun s q _ _ => rfl), fun s q _ _ h => h, HG1.out.but _⟩
    unfold cur dw
    cases hm : M s q with
    | none => simp [hm]
    | some v => simp [hm]
  case round =>
    obtain ⟨L, cnt, hrg, hLs, hgr⟩ := hrel
    clear HRG HG1
    have hml : wr.rangeLeft b w.heap.size = cnt := hrg.out.left_eq
    go_wp2_with (first | (at_next; refine wpList_next_Rg _ rfl _ rfl b w.heap.size n _ L cnt rfl hrg.out ?_ ?_) | go_in)
    · intro hl
      have hl := Lib.hid hl
      clear hml
      go_wp2
      go_end0
      obtain ⟨D', h1, h2⟩ := hrg.out.owns
      refine ⟨⟨_, rfl⟩, ⟨D', h1, h2.congr fun s q hs hq => ?_⟩, hgr.out⟩
      unfold cur
      rw [hl.out s q hs hq]; rfl
    · intro s q v W1 cnt1 hs hq hms hL hrg1 hlt hg1 hsz1 hen
      unfold KV at hen ⊢
      have HRG1 := Lib.hid hrg1
      have HG1 := Lib.hid (hgr.out.andThen hg1 (fun j hj => by cases hj; exact Or.inl (Nat.le_refl _)))
      obtain ⟨L1, hL1⟩ : ∃ L1 : Nat → Nat → Bool, L1 = fun a b => L a b && !decide (a = s ∧ b = q) := ⟨_, rfl⟩
      have HL1 := Lib.hid hL1
      obtain ⟨W2, hW2⟩ : ∃ W2, W2 = W1.alloc (.cells #[.int .i64 (s : Int), .int .i64 (q : Int)] 108) := ⟨_, rfl⟩
      have HW2 := Lib.hid hW2
      have hx : Box W2 W1.heap.size 108 (.int .i64 (s : Int)) (.int .i64 (q : Int)) := by rw [hW2]; exact Box.new _ _ _ _
      have hg2 : W1.grownBy W2 none := by rw [hW2]; exact World.grownBy_alloc _ _ _
      have hwr : w.heap.size ≤ wr.heap.size := hgr.out.size
      have HRG2 : Hid (Rg W2 b w.heap.size n (inr' (cur M L) s q 0) L1 cnt1) := (hrg1.congr (fun s2 q2 _ _ => inr'_zero _ _ _ _ _) (fun s2 q2 _ _ => by rw [hL1]; simp)).kept hg2 (by simp) (by simp)
      have HG2 := Lib.hid (HG1.out.andThen hg2 (fun j hj => by cases hj))
      have HX2 := Lib.hid hx
      have HS := Lib.hid hs
      have HQ := Lib.hid hq
      have HL := Lib.hid hL
      have HMS := Lib.hid hms
      have hrr : w.heap.size < W1.heap.size := by have := hrg1.ne; omega
      have hbb : b < W1.heap.size := by omega
      clear hrg1 hg1 hs hL hms hrg hgr hL1 HRG1 HG1 hW2 hx hg2 hsz1 hwr
      go_wp2
      rw [← HW2.out]
      go_loopw [14] (fun i wi => ∃ (j cnt2 : Nat), j ≤ q ∧ cnt2 ≤ cnt1 ∧ i = .int .i64 (j : Int) ∧ Hid (Rg wi b w.heap.size n (inr' (cur M L) s q j) L1 cnt2) ∧ Hid (w.grownBy wi (some b)) ∧ Hid (Box wi W1.heap.size 108 (.int .i64 (s : Int)) (.int .i64 (q : Int)))) (fun i _ => q - (intOf i).toNat)
      case atStart => exact ⟨0, cnt1, Nat.zero_le _, Nat.le_refl _, rfl, HRG2, HG2, HX2⟩
      case round =>
        clear HRG2 HG2 HX2 HW2
        obtain ⟨j, cnt2, hj, hc2, rfl, hrg, hgr, hx⟩ := hrel
        by_cases hlt2 : j < q
        · have hji : (j : Int) < (q : Int) := by omega
          have c0 := hx.out.c0
          have c1 := hx.out.c1
          obtain ⟨D2, hown2, hv2⟩ := hrg.out.owns
          have hlk := look_ok hown2 hv2 HS.out (show j ≤ 200 by omega)
          rw [inr'_at hlt2] at hlk
          clear hown2 hv2 D2
          obtain ⟨xa, xm, xc, xz, hxy⟩ : ∃ xa xm xc xz, (cur M L s j).getD zeroG = .agg #[.slice xa xm xc, .int .i64 xz] := by
            cases hc : cur M L s j with
            | none => exact ⟨_, _, _, _, rfl⟩
            | some u =>
              have : M s j = some u := by
                unfold cur dw at hc
                split at hc
                · exact hc
                · split at hc
                  · cases hc
                  · exact hc
              obtain ⟨x1, x2, x3, x4, h⟩ := HM.out s j u HS.out (by omega) this
              exact ⟨x1, x2, x3, x4, h⟩
          rw [hxy] at hlk
          unfold KV at hlk
          clear hxy
          obtain ⟨W4, hW4⟩ : ∃ W4, W4 = wr.alloc (.cells #[.slice xa xm xc, .int .i64 xz] 73) := ⟨_, rfl⟩
          have HW4 := Lib.hid hW4
          have hg4 : wr.grownBy W4 none := by rw [hW4]; exact World.grownBy_alloc _ _ _
          have HRG4 := Lib.hid (hrg.out.kept hg4 (by simp) (by simp))
          have HG4 := Lib.hid (hgr.out.andThen hg4 (fun j hj => by cases hj))
          have HX4 := Lib.hid (box_kept hx.out hg4 (by simp))
          clear hW4 hg4 hrg hgr
          cases hsome : (cur M L s j).isSome
          · rw [hsome] at hlk
            have HSM := Lib.hid hsome
            clear hsome hx
            go_wp2
            rw [← HW4.out]
            go_roundw
            case rel => exact ⟨j + 1, cnt2, by omega, hc2, by go_num, HRG4.out.congr (fun s2 q2 _ _ => inr'_stay HSM.out s2 q2) (fun _ _ _ _ => rfl), HG4, HX4⟩
            case measure => simp [intOf]; omega
          · rw [hsome] at hlk
            have HSM := Lib.hid hsome
            have c04 := HX4.out.c0
            have c14 := HX4.out.c1
            have HRG5 := HRG4
            rw [HW4.out] at c04 c14 HRG5
            clear hsome hx
            go_wp2_with (first | (at_delete; refine wpList_delete_Rg _ rfl _ _ rfl b w.heap.size n _ L1 cnt2 rfl HRG5.out s q HS.out HQ.out rfl ?_; intro W5 cnt3 hrg5 hle hg5 hsz5) | go_in)
            have HG5 := Lib.hid (HG4.out.andThen (HW4.out ▸ hg5) (fun j hj => by cases hj; exact Or.inr rfl))
            have HX5 := Lib.hid (box_kept HX4.out (HW4.out ▸ hg5) (by intro e; cases e; omega))
            have HRG6 : Hid (Rg W5 b w.heap.size n (inr' (cur M L) s q (j + 1)) L1 cnt3) := hrg5.congr (fun s2 q2 _ _ => inr'_go HSM.out s2 q2) (fun s2 q2 _ _ => by rw [HL1.out]; by_cases e : s2 = s ∧ q2 = q <;> simp [e])
            clear hrg5 hg5
            go_roundw
            case rel => exact ⟨j + 1, cnt3, by omega, by omega, by go_num, HRG6, HG5, HX5⟩
            case measure => simp [intOf]; omega
        · obtain rfl : j = q := by omega
          have hml1 : wr.rangeLeft b w.heap.size = cnt2 := hrg.out.left_eq
          go_wp2
          go_roundw
          case rel => exact ⟨L1, cnt2, hrg.out.congr (fun s2 q2 _ _ => by rw [HL1.out]; exact inr'_end HL.out s2 q2) (fun _ _ _ _ => rfl), fun s2 q2 h1 h2 h3 => hLs.out s2 q2 h1 h2 (by rw [HL1.out] at h3; simp only [Bool.and_eq_true] at h3; exact h3.1), hgr⟩
          case measure => rw [hml1, hml]; omega
end Go.Proofs.Yteegbkbphfmooaa
namespace Go.Proofs.Yteegbkbphfmooaa
open Go.ChangeShapes Go.WideShapes Go.ChangeAt Go.RowKit
set_option linter.unusedVariables false
namespace Rv

theorem sm_none : ∀ {l : List (Option (Nat × Nat × Nat))}, (∀ x ∈ l, x = none) → sm l = none
  | [], _ => rfl
  | x :: r, h => by
    rw [h x (List.mem_cons_self ..)]
    show co (none : Option (Nat × Nat × Nat)) (sm r) = none
    rw [sm_none fun y hy => h y (List.mem_cons_of_mem _ hy)]; rfl
theorem sm_cons (x : Option (Nat × Nat × Nat)) (r : List (Option (Nat × Nat × Nat))) : sm (x :: r) = co x (sm r) := rfl
/-- A triple, if it has q reversals. -/
def fil (q : Nat) : Option (Nat × Nat × Nat) → Option (Nat × Nat × Nat)
  | none => none
  | some t => if t.1 = q then some t else none
theorem fil_same (t : Nat × Nat × Nat) : fil t.1 (some t) = some t := by simp [fil]
theorem fil_ne {t : Nat × Nat × Nat} {q : Nat} (h : t.1 ≠ q) : fil q (some t) = none := by simp [fil, h]
/-- The sum is the sum of those with the fewest. -/
theorem sm_min : ∀ L : List (Option (Nat × Nat × Nat)), (sm L = none → ∀ q, sm (L.map (fil q)) = none) ∧ ∀ t, sm L = some t → sm (L.map (fil t.1)) = some t ∧ ∀ q, q < t.1 → sm (L.map (fil q)) = none
  | [] => ⟨fun _ _ => rfl, fun t h => (by cases h)⟩
  | none :: r => by
    obtain ⟨h1, h2⟩ := sm_min r
    exact ⟨h1, h2⟩
  | some u :: r => by
    obtain ⟨h1, h2⟩ := sm_min r
    simp only [sm_cons, List.map_cons]
    cases hr : sm r with
    | none =>
      refine ⟨fun h => (by cases h), fun t ht => ?_⟩
      obtain rfl : u = t := Option.some.inj ht
      exact ⟨by rw [h1 hr, fil_same]; rfl, fun q hq => by rw [h1 hr, fil_ne (by omega)]; rfl⟩
    | some v =>
      obtain ⟨h3, h4⟩ := h2 v hr
      refine ⟨fun h => (by cases h), fun t ht => ?_⟩
      obtain rfl : cm u v = t := Option.some.inj ht
      by_cases ha : u.1 < v.1
      · have e : cm u v = u := by unfold cm; rw [if_pos ha]
        rw [e]
        exact ⟨by rw [h4 _ ha, fil_same]; rfl, fun q hq => by rw [h4 q (by omega), fil_ne (by omega)]; rfl⟩
      · by_cases hb : v.1 < u.1
        · have e : cm u v = v := by unfold cm; rw [if_neg ha, if_pos hb]
          rw [e]
          exact ⟨by rw [h3, fil_ne (by omega)]; rfl, fun q hq => by rw [h4 q hq, fil_ne (by omega)]; rfl⟩
        · have e1 : v.1 = u.1 := by omega
          have e : (cm u v).1 = u.1 := by unfold cm; rw [if_neg ha, if_neg hb]
          rw [e]
          exact ⟨by rw [← e1, h3, e1, fil_same]; rfl, fun q hq => by rw [h4 q (by omega), fil_ne (by omega)]; rfl⟩
theorem sm_first (r : Nat) : ∀ (L : List (Option (Nat × Nat × Nat))), (∀ x ∈ L, ∀ t, x = some t → t.1 = r) → ∀ t, sm L = some t → t.1 = r
  | [], _, t, h => by cases h
  | x :: L, hx, t, h => by
    have ih := sm_first r L (fun y hy => hx y (List.mem_cons_of_mem _ hy))
    have h0 := hx x (List.mem_cons_self ..)
    rw [sm_cons] at h
    cases x with
    | none => exact ih t h
    | some u =>
      cases hr : sm L with
      | none => rw [hr] at h; obtain rfl : u = t := Option.some.inj h; exact h0 u rfl
      | some v =>
        rw [hr] at h
        obtain rfl : cm u v = t := Option.some.inj h
        have h1 := h0 u rfl
        have h2 := ih v hr
        unfold cm
        split
        · exact h1
        · split
          · exact h2
          · exact h1
theorem sm_third (K : Nat) : ∀ (L : List (Option (Nat × Nat × Nat))), (∀ x ∈ L, ∀ t, x = some t → t.2.2 < K) → ∀ t, sm L = some t → t.2.2 < K
  | [], _, t, h => by cases h
  | x :: L, hx, t, h => by
    have ih := sm_third K L (fun y hy => hx y (List.mem_cons_of_mem _ hy))
    have h0 := hx x (List.mem_cons_self ..)
    rw [sm_cons] at h
    cases x with
    | none => exact ih t h
    | some u =>
      cases hr : sm L with
      | none => rw [hr] at h; obtain rfl : u = t := Option.some.inj h; exact h0 u rfl
      | some v =>
        rw [hr] at h
        obtain rfl : cm u v = t := Option.some.inj h
        have h1 := h0 u rfl
        have h2 := ih v hr
        unfold cm
        split
        · exact h1
        · split
          · exact h2
          · show min _ _ < K
            omega
theorem gv_lt (f : Nat → Nat → Bool) {s : Nat} (hs : s < 256) : gv f s < 8 ^ pc s := by
  have h := G_eq f hs
  unfold G at h
  have := sm_third (8 ^ pc s) _ (fun x hx t ht => ?_) _ h
  · exact this
  · obtain ⟨l, hl, rfl⟩ := List.mem_map.1 hx
    obtain rfl := Option.some.inj ht
    obtain ⟨h1, h2, h3⟩ := (mem_ors hs).1 hl
    have := vl_lt l (fun x hx => (h3 x hx).1)
    rw [h1] at this
    exact this

/-- What a player at the end of a set's orders brings. -/
def ct (f : Nat → Nat → Bool) (s a : Nat) : Nat := (elems s).countP fun b => f a b
def tr (f : Nat → Nat → Bool) (s a : Nat) : Nat × Nat × Nat := (gm f s + ct f s a, gn f s, gv f s * 8 + a)
/-- What is there when the pairs of 'Q' have come. -/
def EE (f : Nat → Nat → Bool) (Q : Nat → Nat → Bool) (s r : Nat) : Option (Nat × Nat × Nat) := sm ((elems s).map fun a => if Q (s - 2 ^ a) a then fil r (some (tr f (s - 2 ^ a) a)) else none)
theorem EE_congr {f : Nat → Nat → Bool} {Q Q' : Nat → Nat → Bool} (h : ∀ s a, s < 256 → a < 8 → Q' s a = Q s a) {s : Nat} (hs : s < 256) (r : Nat) : EE f Q' s r = EE f Q s r := by
  unfold EE
  exact sm_same _ _ _ fun a ha => by rw [h _ _ (sub_lt hs) (Hw.mem_elems.1 ha).1]
theorem EE_none {f : Nat → Nat → Bool} {Q : Nat → Nat → Bool} {s : Nat} (hs : s < 256) (h : ∀ a, a < 8 → s.testBit a = true → Q (s - 2 ^ a) a = false) (r : Nat) : EE f Q s r = none := by
  unfold EE
  refine sm_none fun x hx => ?_
  obtain ⟨a, ha, rfl⟩ := List.mem_map.1 hx
  have := Hw.mem_elems.1 ha
  rw [h a this.1 this.2]; rfl
theorem EE_first {f : Nat → Nat → Bool} {Q : Nat → Nat → Bool} {s r : Nat} {t : Nat × Nat × Nat} (h : EE f Q s r = some t) : t.1 = r := by
  unfold EE at h
  refine sm_first r _ (fun x hx u hu => ?_) t h
  obtain ⟨a, ha, rfl⟩ := List.mem_map.1 hx
  split at hu
  · unfold fil at hu
    simp only at hu
    split at hu
    · rename_i h2; obtain rfl := Option.some.inj hu; exact h2
    · cases hu
  · cases hu
theorem EE_bound {f : Nat → Nat → Bool} {Q : Nat → Nat → Bool} {s r k : Nat} {t : Nat × Nat × Nat} (hs : s < 256) (hk : pc s = k + 1) (h : EE f Q s r = some t) : t.2.1 ≤ 134217728 ∧ t.2.2 < 8 ^ (k + 1) := by
  unfold EE at h
  have hx : ∀ x ∈ (elems s).map (fun a => if Q (s - 2 ^ a) a then fil r (some (tr f (s - 2 ^ a) a)) else none), ∀ u, x = some u → (u.1 ≤ r ∧ u.2.1 ≤ 16777216) ∧ u.2.2 < 8 ^ (k + 1) := by
    intro x hx u hu
    obtain ⟨a, ha, rfl⟩ := List.mem_map.1 hx
    have hae := Hw.mem_elems.1 ha
    split at hu
    · unfold fil at hu
      simp only at hu
      split at hu
      · rename_i h2
        obtain rfl := Option.some.inj hu
        have h3 := (G_bound f (sub_lt (s := s) (a := a) hs)).2
        have h4 := gv_lt f (sub_lt (s := s) (a := a) hs)
        have h5 := pc_take hs hae.1 hae.2
        rw [show pc (s - 2 ^ a) = k by omega] at h4
        refine ⟨⟨Nat.le_of_eq h2, h3⟩, ?_⟩
        show gv f (s - 2 ^ a) * 8 + a < 8 ^ (k + 1)
        rw [Nat.pow_succ]
        have := hae.1
        omega
      · cases hu
    · cases hu
  have h1 := sm_bound r 16777216 _ (fun x hx' u hu => (hx x hx' u hu).1) t h
  have h2 := sm_third (8 ^ (k + 1)) _ (fun x hx' u hu => (hx x hx' u hu).2) t h
  have h3 : (elems s).length ≤ 8 := elTo_len s 8
  rw [List.length_map] at h1
  have h4 := Nat.mul_le_mul_right 16777216 h3
  exact ⟨by omega, h2⟩
/-- One more pair. -/
theorem EE_put {f : Nat → Nat → Bool} {Q Q' : Nat → Nat → Bool} {s a : Nat} (hs : s < 256) (ha : a < 8) (hb : s.testBit a = false) (hq : Q s a = false) (hQ : ∀ s2 a2, Q' s2 a2 = (Q s2 a2 || decide (s2 = s ∧ a2 = a))) {s' : Nat} (hs' : s' < 256) (r' : Nat) :
    EE f Q' s' r' = if s' = s ||| 2 ^ a ∧ r' = gm f s + ct f s a then co (EE f Q s' r') (some (tr f s a)) else EE f Q s' r' := by
  have hadd := Hw.add_bit hs ha hb
  have hback : (s ||| 2 ^ a) - 2 ^ a = s := by rw [← hadd.1]; exact Nat.add_sub_cancel _ _
  have key : ∀ b, b < 8 → s'.testBit b = true → (s' - 2 ^ b = s ∧ b = a ↔ s' = s ||| 2 ^ a ∧ b = a) := by
    intro b hb8 hbt
    obtain ⟨_, hle⟩ := Hw.sub_bit hs' hb8 hbt
    constructor
    · rintro ⟨h1, rfl⟩; exact ⟨by rw [← hadd.1, ← h1]; omega, rfl⟩
    · rintro ⟨h1, rfl⟩; exact ⟨by rw [h1]; exact hback, rfl⟩
  by_cases he : s' = s ||| 2 ^ a
  · by_cases hr : r' = gm f s + ct f s a
    · rw [if_pos ⟨he, hr⟩]
      have hat : s'.testBit a = true := by rw [he, Nat.testBit_or]; simp
      unfold EE
      refine sm_one _ _ a (tr f s a) _ (elems_nd s') (Hw.mem_elems.2 ⟨ha, hat⟩) ?_ ?_ ?_
      · rw [he, hback, hq]; rfl
      · rw [he, hback, hQ]
        have : fil r' (some (tr f s a)) = some (tr f s a) := by rw [hr]; exact fil_same (tr f s a)
        simp [this]
      · intro b hba
        rw [hQ, decide_eq_false (fun hh => hba hh.2), Bool.or_false]
    · rw [if_neg (fun hh => hr hh.2)]
      unfold EE
      refine sm_same _ _ _ fun b hbm => ?_
      have hbe := Hw.mem_elems.1 hbm
      by_cases hk : s' - 2 ^ b = s ∧ b = a
      · obtain ⟨h1, rfl⟩ := hk
        rw [h1, fil_ne (fun hh => hr hh.symm)]
        simp
      · rw [hQ, decide_eq_false hk, Bool.or_false]
  · rw [if_neg (fun hh => he hh.1)]
    unfold EE
    refine sm_same _ _ _ fun b hbm => ?_
    have hbe := Hw.mem_elems.1 hbm
    rw [hQ, decide_eq_false (fun hh => he ((key b hbe.1 hbe.2).1 hh).1), Bool.or_false]

/-- All pairs of a set of k players and a further one. -/
def QF (m k s a : Nat) : Bool := decide (s < 2 ^ m ∧ pc s = k ∧ a < m ∧ s.testBit a = false)
/-- What the map holds after k rounds. -/
def PK (f : Nat → Nat → Bool) (m k s r : Nat) : Option (Nat × Nat × Nat) := if s < 2 ^ m ∧ pc s = k ∧ r = gm f s then some (gm f s, gn f s, gv f s) else none
theorem EE_all {f : Nat → Nat → Bool} {Q : Nat → Nat → Bool} {s k : Nat} (hs : s < 256) (hk : pc s = k + 1) (h : ∀ a, a < 8 → s.testBit a = true → Q (s - 2 ^ a) a = true) : EE f Q s (gm f s) = some (gm f s, gn f s, gv f s) ∧ ∀ q, q < gm f s → EE f Q s q = none := by
  have e : ∀ r, EE f Q s r = sm (((elems s).map fun a => some (tr f (s - 2 ^ a) a)).map (fil r)) := by
    intro r
    unfold EE
    rw [List.map_map]
    refine sm_same _ _ _ fun a ha => ?_
    have := Hw.mem_elems.1 ha
    simp only [Function.comp]
    rw [h a this.1 this.2]; rfl
  have hG : sm ((elems s).map fun a => some (tr f (s - 2 ^ a) a)) = some (gm f s, gn f s, gv f s) := by
    rw [← G_eq f hs, G_last f hs hk]
    refine sm_same _ _ _ fun a ha => ?_
    rw [G_eq f (sub_lt hs)]; rfl
  obtain ⟨h1, h2⟩ := (sm_min _).2 _ hG
  exact ⟨by rw [e]; exact h1, fun q hq => by rw [e]; exact h2 q hq⟩
end Rv

theorem low_iffA {α : Type} (M : Nat → Nat → Option α) (s q : Nat) : (List.range q).any (fun j => (M s j).isSome) = true ↔ ∃ j, j < q ∧ (M s j).isSome = true := by
  rw [List.any_eq_true]
  constructor
  · rintro ⟨j, hj, h⟩; exact ⟨j, List.mem_range.1 hj, h⟩
  · rintro ⟨j, hj, h⟩; exact ⟨j, List.mem_range.2 hj, h⟩
/-- 'dw' for the triples. -/
def dwT (M : Nat → Nat → Option (Nat × Nat × Nat)) (s q : Nat) : Option (Nat × Nat × Nat) := if (List.range q).any (fun j => (M s j).isSome) then none else M s q
namespace Rv
theorem bit_lt_m {m s b : Nat} (hs : s < 2 ^ m) (h : s.testBit b = true) : b < m := by
  rcases Nat.lt_or_ge b m with h1 | h1
  · exact h1
  · rw [Nat.testBit_lt_two_pow (Nat.lt_of_lt_of_le hs (Nat.pow_le_pow_right (by omega) h1))] at h; cases h
theorem EE_end {f : Nat → Nat → Bool} {m k : Nat} (hm : m ≤ 8) {s : Nat} (hs : s < 256) (r : Nat) : dwT (EE f (QF m k)) s r = PK f m (k + 1) s r := by
  unfold dwT PK
  by_cases h : s < 2 ^ m ∧ pc s = k + 1
  · obtain ⟨h1, h2⟩ := h
    obtain ⟨g1, g2⟩ := EE_all (f := f) (Q := QF m k) hs h2 (fun a ha hat => by
      have h3 := pc_take hs ha hat
      have h4 := sub_tb (x := a) hs ha hat
      rw [hat] at h4
      have h5 := Nat.sub_le s (2 ^ a)
      unfold QF
      exact decide_eq_true ⟨by omega, by omega, bit_lt_m h1 hat, by simpa using h4⟩)
    by_cases hr : r = gm f s
    · have e : ¬ (List.range r).any (fun j => (EE f (QF m k) s j).isSome) = true := fun hh => by
        obtain ⟨j, hj, hi⟩ := (low_iffA _ _ _).1 hh
        rw [g2 j (by omega)] at hi; cases hi
      rw [if_neg e, if_pos ⟨h1, h2, hr⟩, hr, g1]
    · have e2 : ¬ (s < 2 ^ m ∧ pc s = k + 1 ∧ r = gm f s) := fun hh => hr hh.2.2
      rw [if_neg e2]
      rcases Nat.lt_or_ge r (gm f s) with h3 | h3
      · rw [g2 r h3]; split <;> rfl
      · have e : (List.range r).any (fun j => (EE f (QF m k) s j).isSome) = true := (low_iffA _ _ _).2 ⟨gm f s, by omega, by rw [g1]; rfl⟩
        rw [if_pos e]
  · have e2 : ¬ (s < 2 ^ m ∧ pc s = k + 1 ∧ r = gm f s) := fun hh => h ⟨hh.1, hh.2.1⟩
    rw [if_neg e2]
    have e : ∀ r, EE f (QF m k) s r = none := EE_none hs fun a ha hat => by
      unfold QF
      refine decide_eq_false fun ⟨h1, h2, h3, h4⟩ => h ?_
      have h5 := pc_take hs ha hat
      obtain ⟨_, h6⟩ := Hw.sub_bit hs ha hat
      obtain ⟨h7, _⟩ := Hw.add_bit (sub_lt hs) ha h4
      refine ⟨?_, by omega⟩
      have h8 : (s - 2 ^ a) ||| 2 ^ a < 2 ^ m := Nat.or_lt_two_pow h1 (Nat.pow_lt_pow_right (by omega) h3)
      rw [← h7] at h8
      omega
    rw [e]; split <;> rfl

/-- The pairs that have come: 'L': which sets are still to come; of the set s0 the players of 'A' have. -/
def QI (f : Nat → Nat → Bool) (m k : Nat) (L : Nat → Nat → Bool) (s0 : Nat) (A : List Nat) (s a : Nat) : Bool := (QF m k s a && !L s (gm f s)) || decide (s = s0 ∧ a ∈ A)
def QL (f : Nat → Nat → Bool) (m k : Nat) (L : Nat → Nat → Bool) (s a : Nat) : Bool := QF m k s a && !L s (gm f s)
theorem QI_zero (f : Nat → Nat → Bool) (m k : Nat) (L : Nat → Nat → Bool) (s0 s a : Nat) : QI f m k L s0 [] s a = QL f m k L s a := by unfold QI QL; simp
theorem QI_next (f : Nat → Nat → Bool) (m k : Nat) (L : Nat → Nat → Bool) (s0 : Nat) (A : List Nat) (a s2 a2 : Nat) : QI f m k L s0 (A ++ [a]) s2 a2 = (QI f m k L s0 A s2 a2 || decide (s2 = s0 ∧ a2 = a)) := by
  unfold QI
  rw [Bool.or_assoc]
  congr 1
  rw [Bool.eq_iff_iff]
  simp only [List.mem_append, List.mem_singleton, decide_eq_true_eq, Bool.or_eq_true]
  constructor
  · rintro ⟨h, h2 | h2⟩
    · exact .inl ⟨h, h2⟩
    · exact .inr ⟨h, h2⟩
  · rintro (⟨h, h2⟩ | ⟨h, h2⟩)
    · exact ⟨h, .inl h2⟩
    · exact ⟨h, .inr h2⟩
theorem QI_not {f : Nat → Nat → Bool} {m k : Nat} {L : Nat → Nat → Bool} {s0 a : Nat} {A : List Nat} (hL : L s0 (gm f s0) = true) (ha : a ∉ A) : QI f m k L s0 A s0 a = false := by
  unfold QI
  rw [hL]; simp [ha]
theorem QI_end {f : Nat → Nat → Bool} {m k : Nat} {L : Nat → Nat → Bool} {s0 x : Nat} (h1 : s0 < 2 ^ m) (h2 : pc s0 = k) (hx : ∀ a, a < 8 → x.testBit a = (decide (a < m) && !s0.testBit a)) {s a : Nat} (ha : a < 8) :
    QL f m k (fun p q => L p q && !decide (p = s0 ∧ q = gm f s0)) s a = QI f m k L s0 (elems x) s a := by
  unfold QI QL
  by_cases e : s = s0
  · subst e
    have hm : decide (s = s ∧ a ∈ elems x) = QF m k s a := by
      rw [Bool.eq_iff_iff]
      unfold QF
      simp only [decide_eq_true_eq, Hw.mem_elems, hx a ha, Bool.and_eq_true, Bool.not_eq_true']
      constructor
      · rintro ⟨_, _, h3, h4⟩; exact ⟨h1, h2, h3, h4⟩
      · rintro ⟨_, _, h3, h4⟩; exact ⟨trivial, ha, h3, h4⟩
    rw [hm]
    cases QF m k s a <;> simp
  · simp [e]
theorem QL_end (f : Nat → Nat → Bool) (m k : Nat) {L : Nat → Nat → Bool} (hL : ∀ s q, s < 256 → q ≤ 200 → L s q = false) {s : Nat} (hs : s < 256) (a : Nat) : QL f m k L s a = QF m k s a := by
  unfold QL
  have := (G_bound f hs).1
  rw [hL s _ hs (by omega)]; simp
theorem QL_start (f : Nat → Nat → Bool) (m k : Nat) {L : Nat → Nat → Bool} (hL : ∀ s, s < 2 ^ m → pc s = k → L s (gm f s) = true) (s a : Nat) : QL f m k L s a = false := by
  unfold QL QF
  by_cases h : s < 2 ^ m ∧ pc s = k
  · rw [hL s h.1 h.2]; simp
  · rw [decide_eq_false (fun hh => h ⟨hh.1, hh.2.1⟩)]; rfl
end Rv
end Go.Proofs.Yteegbkbphfmooaa
namespace Go.Proofs.Yteegbkbphfmooaa
open Go.ChangeShapes Go.WideShapes Go.ChangeAt Go.RowKit Go.Sort
set_option linter.unusedVariables false

/-- What a map's entries are in memory. -/
def Ent (W : World) (B k : Nat) (M : Nat → Nat → Option Value) (P : Nat → Nat → Option (Nat × Nat × Nat)) : Prop :=
  ∀ s r, s < 256 → r ≤ 200 → (P s r = none → M s r = none) ∧ ∀ t, P s r = some t → ∃ a c, M s r = some (.agg #[.slice a k c, .int .i64 (t.2.1 : Int)]) ∧ RowG W B k a c t.2.2
section
variable {W W' : World} {B k : Nat} {M : Nat → Nat → Option Value} {P : Nat → Nat → Option (Nat × Nat × Nat)}
theorem Ent.below (h : Ent W B k M P) (hb : Below W.heap.size W W') : Ent W' B k M P := fun s r hs hr =>
  ⟨(h s r hs hr).1, fun t ht => by obtain ⟨a, c, h1, h2⟩ := (h s r hs hr).2 t ht; exact ⟨a, c, h1, h2.below hb⟩⟩
theorem Ent.mono {B' : Nat} (h : Ent W B k M P) (hB : B' ≤ B) : Ent W B' k M P := fun s r hs hr =>
  ⟨(h s r hs hr).1, fun t ht => by obtain ⟨a, c, h1, h2⟩ := (h s r hs hr).2 t ht; exact ⟨a, c, h1, h2.mono hB⟩⟩
theorem RowG.turn {a : Option Addr} {c v b : Nat} (h : RowG W B k a c v) (hg : W.grownBy W' (some b)) (hb : b < B) : RowG W' B k a c v := by
  refine h.grown hg fun j hj e => ?_
  have := (World.ownsRow.lt h j (by rw [blk_own]; exact hj)).1
  have e2 := Option.some.inj e
  omega
theorem Ent.turn {b : Nat} (h : Ent W B k M P) (hg : W.grownBy W' (some b)) (hb : b < B) : Ent W' B k M P := fun s r hs hr =>
  ⟨(h s r hs hr).1, fun t ht => by obtain ⟨a, c, h1, h2⟩ := (h s r hs hr).2 t ht; exact ⟨a, c, h1, h2.turn hg hb⟩⟩
theorem Ent.congr {P' : Nat → Nat → Option (Nat × Nat × Nat)} (h : Ent W B k M P) (he : ∀ s r, s < 256 → r ≤ 200 → P' s r = P s r) : Ent W B k M P' := fun s r hs hr => by
  rw [he s r hs hr]; exact h s r hs hr
theorem Ent.empty (h : ∀ s r, s < 256 → r ≤ 200 → P s r = none) : Ent W B k (fun _ _ => none) P := fun s r hs hr =>
  ⟨fun _ => rfl, fun t ht => by rw [h s r hs hr] at ht; cases ht⟩
theorem Ent.shape (h : Ent W B k M P) (s r : Nat) (v : Value) (hs : s < 256) (hr : r ≤ 200) (hm : M s r = some v) : ∃ a m c z, v = .agg #[.slice a m c, .int .i64 z] := by
  cases hp : P s r with
  | none => rw [(h s r hs hr).1 hp] at hm; cases hm
  | some t =>
    obtain ⟨a, c, h1, _⟩ := (h s r hs hr).2 t hp
    rw [h1] at hm
    exact ⟨a, k, c, _, (Option.some.inj hm).symm⟩
theorem Ent.some_iff (h : Ent W B k M P) {s r : Nat} (hs : s < 256) (hr : r ≤ 200) : (M s r).isSome = (P s r).isSome := by
  cases hp : P s r with
  | none => rw [(h s r hs hr).1 hp]; rfl
  | some t =>
    obtain ⟨a, c, h1, _⟩ := (h s r hs hr).2 t hp
    rw [h1]; rfl
theorem Ent.put {P' : Nat → Nat → Option (Nat × Nat × Nat)} (h : Ent W B k M P) {s r : Nat} {t : Nat × Nat × Nat} {a : Option Addr} {c : Nat} (hrow : RowG W B k a c t.2.2) (h1 : P' s r = some t) (h2 : ∀ s' r', s' < 256 → r' ≤ 200 → ¬ (s' = s ∧ r' = r) → P' s' r' = P s' r') :
    Ent W B k (fun s' r' => if s' = s ∧ r' = r then some (.agg #[.slice a k c, .int .i64 (t.2.1 : Int)]) else M s' r') P' := fun s' r' hs hr => by
  by_cases e : s' = s ∧ r' = r
  · simp only [if_pos e]
    obtain ⟨rfl, rfl⟩ := e
    rw [h1]
    refine ⟨fun h => (by cases h), fun t' ht => ?_⟩
    obtain rfl := Option.some.inj ht
    exact ⟨a, c, rfl, hrow⟩
  · simp only [if_neg e]
    rw [h2 s' r' hs hr e]
    exact h s' r' hs hr
theorem Ent.dw (h : Ent W B k M P) : Ent W B k (dw M) (dwT P) := fun s r hs hr => by
  have e : low M s r = (List.range r).any (fun j => (P s j).isSome) := by
    rw [Bool.eq_iff_iff, low_iff, low_iffA]
    constructor
    · rintro ⟨j, hj, hh⟩; exact ⟨j, hj, by rw [← h.some_iff hs (by omega)]; exact hh⟩
    · rintro ⟨j, hj, hh⟩; exact ⟨j, hj, by rw [h.some_iff hs (by omega)]; exact hh⟩
  unfold Go.Proofs.Yteegbkbphfmooaa.dw dwT
  rw [e]
  cases (List.range r).any (fun j => (P s j).isSome)
  · exact h s r hs hr
  · exact ⟨fun _ => rfl, fun t ht => by cases ht⟩
end

theorem below_grown {W W' : World} (h : Below W.heap.size W W') : W.grownBy W' none := ⟨h.os, h.tape, h.output, h.size, fun i hi _ => h.block i hi⟩
/-- The world while the orders are made longer: w as it was at the call. -/
structure LS (f : Nat → Nat → Bool) (m k : Nat) (a : Option Addr) (cap : Nat) (w W : World) (N : Nat) (Q : Nat → Nat → Bool) : Prop where
  below : Below w.heap.size w W
  tour : Box W w.heap.size 25 (.int .i64 (m : Int)) (.slice a m cap)
  out : ∃ n' D' M', n' ≤ N ∧ W.ownsMap Try.prog 108 RV (w.heap.size + 1) n' D' ∧ Vw D' M' ∧ Ent W (w.heap.size + 3) (k + 1) M' (Rv.EE f Q)
section
variable {f : Nat → Nat → Bool} {m k : Nat} {a : Option Addr} {cap : Nat} {w W W' : World} {N : Nat} {Q Q' : Nat → Nat → Bool}
theorem LS.on (h : LS f m k a cap w W N Q) (hb : Below W.heap.size W W') : LS f m k a cap w W' N Q := by
  obtain ⟨n', D', M', h1, h2, h3, h4⟩ := h.out
  exact ⟨h.below.trans (hb.mono h.below.size), h.tour.below hb h.tour.lt, n', D', M', h1, h2.kept (below_grown hb) (by simp), h3, h4.below hb⟩
theorem LS.turn (h : LS f m k a cap w W N Q) (hg : W.grownBy W' (some (w.heap.size + 2))) : LS f m k a cap w W' N Q := by
  obtain ⟨n', D', M', h1, h2, h3, h4⟩ := h.out
  refine ⟨h.below.grown hg h.below.size (fun j hj => by cases hj; omega), box_kept h.tour hg (by simp), n', D', M', h1, h2.kept hg (by simp), h3, h4.turn hg (by omega)⟩
theorem LS.congr (h : LS f m k a cap w W N Q) (he : ∀ s b, s < 256 → b < 8 → Q' s b = Q s b) : LS f m k a cap w W N Q' := by
  obtain ⟨n', D', M', h1, h2, h3, h4⟩ := h.out
  exact ⟨h.below, h.tour, n', D', M', h1, h2, h3, h4.congr fun s r hs hr => Rv.EE_congr he hs r⟩
theorem LS.more {N' : Nat} (h : LS f m k a cap w W N Q) (hN : N ≤ N') : LS f m k a cap w W N' Q := by
  obtain ⟨n', D', M', h1, h2⟩ := h.out
  exact ⟨h.below, h.tour, n', D', M', by omega, h2⟩
set_option maxRecDepth 100000 in
theorem LS.look (h : LS f m k a cap w W N Q) {s r : Nat} (hs : s < 256) (hr : r ≤ 200) : ∃ (g0 : Option (Option Addr × Nat × Nat)) (n1 : Nat),
    (Instr.lookup 109 (.map (some (w.heap.size + 1))) (.agg #[.int .i64 (s : Int), .int .i64 (r : Int)]) false).run Try.prog W = .ok (.agg #[g0v g0 (k + 1), .int .i64 (n1 : Int)]) W ∧
    (Rv.EE f Q s r = none → g0 = none ∧ n1 = 0) ∧ ∀ t, Rv.EE f Q s r = some t → n1 = t.2.1 ∧ ∃ ag cg, g0 = some (ag, cg, t.2.2) ∧ RowG W (w.heap.size + 3) (k + 1) ag cg t.2.2 := by
  obtain ⟨n', D', M', h1, h2, h3, h4⟩ := h.out
  have hl := look_any h2 h3 hs hr
  unfold KV at hl
  cases he : Rv.EE f Q s r with
  | none =>
    refine ⟨none, 0, ?_, fun _ => ⟨rfl, rfl⟩, fun t ht => by cases ht⟩
    rw [hl, (h4 s r hs hr).1 he]; rfl
  | some t =>
    obtain ⟨ag, cg, h5, h6⟩ := (h4 s r hs hr).2 t he
    refine ⟨some (ag, cg, t.2.2), t.2.1, ?_, fun hh => (by cases hh), fun t' ht => ?_⟩
    · rw [hl, h5]; rfl
    · obtain rfl := Option.some.inj ht
      exact ⟨rfl, ag, cg, rfl, h6⟩
set_option maxRecDepth 100000 in
theorem LS.store (h : LS f m k a cap w W N Q) (hN : N < 1000000000000) {s r : Nat} (hs : s < 256) (hr : r ≤ 200) {t : Nat × Nat × Nat} {ag : Option Addr} {cg : Nat} (hrow : RowG W (w.heap.size + 3) (k + 1) ag cg t.2.2)
    (h1 : Rv.EE f Q' s r = some t) (h2 : ∀ s' r', s' < 256 → r' ≤ 200 → ¬ (s' = s ∧ r' = r) → Rv.EE f Q' s' r' = Rv.EE f Q s' r') :
    ∃ W', (Instr.mapUpdate 109 (.map (some (w.heap.size + 1))) (.agg #[.int .i64 (s : Int), .int .i64 (r : Int)]) (.agg #[.slice ag (k + 1) cg, .int .i64 (t.2.1 : Int)])).run Try.prog W = .ok () W' ∧ LS f m k a cap w W' (N + 1) Q' ∧ W.grownBy W' (some (w.heap.size + 1)) := by
  obtain ⟨n', D', M', e1, e2, e3, e4⟩ := h.out
  obtain ⟨W', D2, hrun, hown, hv, hg⟩ := store_any e2 e3 (by unfold maxLen; omega) hs hr (.agg #[.slice ag (k + 1) cg, .int .i64 (t.2.1 : Int)])
  unfold KV at hrun
  refine ⟨W', hrun, ⟨h.below.grown hg h.below.size (fun j hj => by cases hj; omega), box_kept h.tour hg (by simp), n' + 1, D2, _, by omega, hown, hv, ?_⟩, hg⟩
  exact (e4.put hrow h1 h2).turn hg (by omega)
end
theorem Rg.cnt_le {W : World} {b r n : Nat} {M : Nat → Nat → Option Value} {L : Nat → Nat → Bool} {cnt : Nat} (h : Rg W b r n M L cnt) : cnt ≤ n := by
  obtain ⟨D, left, h1, _⟩ := h
  obtain ⟨es, clock, since, seen, c0, _, _, hs, _, _, _, hc, _⟩ := h1
  rw [← hc]
  exact Nat.le_trans (Array.size_filter_le ..) hs
theorem Rg.on {W W' : World} {b r n : Nat} {M : Nat → Nat → Option Value} {L : Nat → Nat → Bool} {cnt : Nat} (h : Rg W b r n M L cnt) (hb : Below W.heap.size W W') : Rg W' b r n M L cnt := h.kept (below_grown hb) (by simp) (by simp)
end Go.Proofs.Yteegbkbphfmooaa
namespace Go.Proofs.Yteegbkbphfmooaa
open Go.ChangeShapes Go.WideShapes Go.ChangeAt Go.RowKit Go.Sort
set_option linter.unusedVariables false

theorem allPlayers_q (a : Option Addr) (len cap m : Nat) (w : World) (hm : m ≤ 8) : Calls Try.prog 150 #[.agg #[.int .i64 m, .slice a len cap]] w fun e w' => e = .returned (.int .i64 ((2 ^ m - 1 : Nat) : Int)) ∧ Below w.heap.size w w' := by
  obtain ⟨P, hP⟩ : ∃ P, P = 2 ^ m := ⟨_, rfl⟩
  have hw := wrapPow m hm
  have h8 := pow_le m hm
  have h1 : 1 ≤ P := by rw [hP]; exact Nat.one_le_two_pow
  rw [← hP] at hw h8 ⊢
  have HE : Hid (((P - 1 : Nat) : Int) = (P : Int) - 1) := by show _ = _; omega
  rw [HE.out]
  clear hP
  go_enter Try.func150, Try.ntmps150
  go_wp2
  go_ret
  exact ⟨rfl, (Below.refl _ _).alloc (Nat.le_refl _) _⟩

theorem LS.step {f : Nat → Nat → Bool} {m k : Nat} {a : Option Addr} {cap : Nat} {w W : World} {N : Nat} {Q Q' : Nat → Nat → Bool} (h : LS f m k a cap w W N Q) {s b r2 n1 : Nat} {g0 : Option (Option Addr × Nat × Nat)} (hs : s < 256) (hb : b < 8) (hbs : s.testBit b = false) (hQ : Q s b = false) (hpk : pc s = k) (hr2 : r2 = Rv.gm f s + Rv.ct f s b)
    (hno : Rv.EE f Q (s ||| 2 ^ b) r2 = none → g0 = none ∧ n1 = 0) (hyes : ∀ t, Rv.EE f Q (s ||| 2 ^ b) r2 = some t → n1 = t.2.1 ∧ ∃ ag cg, g0 = some (ag, cg, t.2.2) ∧ RowG W (w.heap.size + 3) (k + 1) ag cg t.2.2)
    (hQ' : ∀ s3 b3, Q' s3 b3 = (Q s3 b3 || decide (s3 = s ∧ b3 = b))) :
    n1 + Rv.gn f s ≤ 1000000000000 ∧ (∀ ag cg v, g0 = some (ag, cg, v) → RowG W (w.heap.size + 3) (k + 1) ag cg v ∧ v < 8 ^ (k + 1)) ∧
    Rv.EE f Q' (s ||| 2 ^ b) r2 = some (r2, n1 + Rv.gn f s, g0m g0 (Rv.gv f s * 8 + b)) ∧
    ∀ s' r', s' < 256 → r' ≤ 200 → ¬ (s' = s ||| 2 ^ b ∧ r' = r2) → Rv.EE f Q' s' r' = Rv.EE f Q s' r' := by
  have h28 : s ||| 2 ^ b < 256 := Nat.or_lt_two_pow (n := 8) hs (Nat.pow_lt_pow_right (by omega) hb)
  have hpk2 : pc (s ||| 2 ^ b) = k + 1 := by rw [Hw.pc_bit hs hb hbs, hpk]
  have hgn := (Rv.G_bound f hs).2
  have hput := Rv.EE_put (f := f) (Q := Q) (Q' := Q') hs hb hbs hQ hQ' h28 r2
  rw [if_pos ⟨rfl, hr2⟩] at hput
  have htr : Rv.tr f s b = (r2, Rv.gn f s, Rv.gv f s * 8 + b) := by rw [hr2]; rfl
  refine ⟨?_, ?_, ?_, fun s' r' hs' hr' hne => ?_⟩
  · cases he : Rv.EE f Q (s ||| 2 ^ b) r2 with
    | none => rw [(hno he).2]; omega
    | some t => have h1 := (hyes t he).1; have h2 := (Rv.EE_bound h28 hpk2 he).1; omega
  · intro ag cg v hg
    cases he : Rv.EE f Q (s ||| 2 ^ b) r2 with
    | none => rw [(hno he).1] at hg; cases hg
    | some t =>
      obtain ⟨_, ag2, cg2, h3, h4⟩ := hyes t he
      rw [h3] at hg
      have h5 := Option.some.inj hg
      simp only [Prod.mk.injEq] at h5
      obtain ⟨rfl, rfl, rfl⟩ := h5
      exact ⟨h4, (Rv.EE_bound h28 hpk2 he).2⟩
  · rw [hput, htr]
    cases he : Rv.EE f Q (s ||| 2 ^ b) r2 with
    | none =>
      obtain ⟨rfl, rfl⟩ := hno he
      show some (r2, Rv.gn f s, Rv.gv f s * 8 + b) = some (r2, 0 + Rv.gn f s, Rv.gv f s * 8 + b)
      rw [Nat.zero_add]
    | some t =>
      obtain ⟨rfl, ag2, cg2, rfl, _⟩ := hyes t he
      have h6 := Rv.EE_first he
      show some (Rv.cm t (r2, Rv.gn f s, Rv.gv f s * 8 + b)) = some (r2, t.2.1 + Rv.gn f s, min t.2.2 (Rv.gv f s * 8 + b))
      unfold Rv.cm
      simp [h6]
  · rw [Rv.EE_put (f := f) (Q := Q) (Q' := Q') hs hb hbs hQ hQ' hs' r', if_neg]
    rintro ⟨h1, h2⟩
    exact hne ⟨h1, by rw [h2, hr2]⟩

/-- The world within a round: the boxes of the entry at hand, and the players who may come next. -/
structure IS (f : Nat → Nat → Bool) (m k : Nat) (a : Option Addr) (cap : Nat) (w W : World) (b0 n : Nat) (M : Nat → Nat → Option Value) (L1 : Nat → Nat → Bool) (cnt1 K s q : Nat) (ak : Option Addr) (ck gn0 ge ce x B5 N : Nat) (Q : Nat → Nat → Bool) : Prop where
  rg : Rg W b0 (w.heap.size + 2) n M L1 cnt1
  ls : LS f m k a cap w W N Q
  k6 : Box W K 108 (.int .i64 (s : Int)) (.int .i64 (q : Int))
  k7 : Box W (K + 1) 73 (.slice ak k ck) (.int .i64 (gn0 : Int))
  el : W.ownsRow B5 3 1 (.slice (some ⟨ge, 0, none⟩) (elems x).length ce) (elems x).length ((elems x).map nv)
  hK : w.heap.size + 2 < K
  hB : K ≤ B5
  hb : b0 < w.heap.size
section
variable {f : Nat → Nat → Bool} {m k : Nat} {a : Option Addr} {cap : Nat} {w W W' : World} {b0 n : Nat} {M : Nat → Nat → Option Value} {L1 : Nat → Nat → Bool} {cnt1 K s q : Nat} {ak : Option Addr} {ck gn0 ge ce x B5 N : Nat} {Q Q' : Nat → Nat → Bool}
theorem IS.on (h : IS f m k a cap w W b0 n M L1 cnt1 K s q ak ck gn0 ge ce x B5 N Q) (hb : RowKit.Below W.heap.size W W') : IS f m k a cap w W' b0 n M L1 cnt1 K s q ak ck gn0 ge ce x B5 N Q :=
  ⟨h.rg.on hb, h.ls.on hb, h.k6.below hb h.k6.lt, h.k7.below hb h.k7.lt, own_below h.el hb, h.hK, h.hB, h.hb⟩
theorem IS.drew (h : IS f m k a cap w W b0 n M L1 cnt1 K s q ak ck gn0 ge ce x B5 N Q) : IS f m k a cap w W.drew b0 n M L1 cnt1 K s q ak ck gn0 ge ce x B5 N Q := h.on (Below.refl _ _).drew
theorem IS.put (h : IS f m k a cap w W b0 n M L1 cnt1 K s q ak ck gn0 ge ce x B5 N Q) {N' : Nat} (hl : LS f m k a cap w W' N' Q') (hg : W.grownBy W' (some (w.heap.size + 1))) : IS f m k a cap w W' b0 n M L1 cnt1 K s q ak ck gn0 ge ce x B5 N' Q' := by
  have h1 := h.hK
  have h2 := h.hB
  have h3 := h.hb
  refine ⟨h.rg.kept hg (by simp <;> omega) (by simp), hl, box_kept h.k6 hg (by simp <;> omega), box_kept h.k7 hg (by simp <;> omega), ?_, h1, h2, h3⟩
  refine own_grown h.el hg fun j hj e => ?_
  have := (World.ownsRow.lt h.el j (by rw [blk_own]; exact hj)).1
  have e2 := Option.some.inj e
  omega
end

set_option maxRecDepth 100000 in
set_option maxHeartbeats 8000000 in
theorem lengthened_any (m k n b0 B0 : Nat) (a : Option Addr) (l : List Int) (cap : Nat) (D : DataW Value) (M : Nat → Nat → Option Value) (w : World) (hm : l.length = m) (hok : Ok m l) (hrow : IntRow w a l) (hk : k < m) (hn : n ≤ 100000000)
    (hown : w.ownsMap Try.prog 108 RV b0 n D) (hv : Vw D M) (hent : Ent w B0 k M (Rv.PK (bt l) m k)) :
    Calls Try.prog 124 #[.agg #[.int .i64 (m : Int), .slice a m cap], .map (some b0)] w fun e w' =>
      e = .returned (.map (some (w.heap.size + 1))) ∧ LS (bt l) m k a cap w w' (8 * n) (Rv.QF m k) := by
  have h8 : m ≤ 8 := by have := hok.2.1; omega
  have HK := Lib.hid hok
  have HM := Lib.hid hm
  have HOWN := Lib.hid hown
  have HV := Lib.hid hv
  have HE := Lib.hid hent
  have HR := Lib.hid hrow
  have hbw : b0 < w.heap.size := hown.lt
  obtain ⟨f, hf⟩ : ∃ f, f = bt l := ⟨_, rfl⟩
  rw [← hf] at HE ⊢
  have HF := Lib.hid hf
  obtain ⟨Wa, hWa⟩ : ∃ Wa, Wa = (w.alloc (.cells #[.int .i64 (m : Int), .slice a m cap] 25)).alloc (.map #[] 0) := ⟨_, rfl⟩
  have HWa := Lib.hid hWa
  have hsz : Wa.heap.size = w.heap.size + 2 := by rw [hWa]; simp
  have hba : RowKit.Below w.heap.size w Wa := by rw [hWa]; exact ((Below.refl _ _).alloc (Nat.le_refl _) _).alloc (by simp) _
  have xa : Box Wa w.heap.size 25 (.int .i64 (m : Int)) (.slice a m cap) := by rw [hWa]; exact (Box.new _ _ _ _).more _
  have hmk : Wa.ownsMap Try.prog 108 RV (w.heap.size + 1) 0 (.map []) := by
    rw [hWa]
    have := World.ownsMap_made (w.alloc (.cells #[.int .i64 (m : Int), .slice a m cap] 25)) Try.prog 108 RV
    simpa using this
  have hownA : Hid (Wa.ownsMap Try.prog 108 RV b0 n D) := hown.kept (below_grown hba) (by simp)
  have HMK := Lib.hid hmk
  have XA := Lib.hid xa
  have HBA := Lib.hid hba
  have HSZ := Lib.hid hsz
  clear hok hm hown hv hent hrow hf hWa hba xa hmk hsz
  have hmm := @run_makeMap Try.prog
  go_enter Try.func124, Try.ntmps124
  go_wp2_with (first | (at_range; rw [← HWa.out]; refine wpList_range_Rg _ rfl _ rfl b0 n M rfl hownA.out HV.out ?_; intro w1 cnt0 hrg hg1 hsz1; rw [HSZ.out] at hrg ⊢) | go_in)
  have hb1 : RowKit.Below Wa.heap.size Wa w1 := ⟨hg1.os, hg1.tape, hg1.output, hg1.size, fun i hi => hg1.block i hi (by simp)⟩
  have hcn := hrg.cnt_le
  have HRG := Lib.hid hrg
  have HLS0 : Hid (LS f m k a cap w w1 (8 * (n - cnt0)) (Rv.QL f m k (fun s q => (M s q).isSome))) := by
    refine LS.on (W := Wa) ⟨HBA.out, XA.out, 0, .map [], fun _ _ => none, Nat.zero_le _, HMK.out, Vw.empty, ?_⟩ hb1
    refine Ent.empty fun s r hs hr => Rv.EE_none hs (fun b hb8 hbt => Rv.QL_start f m k (fun s hs2 hpc => ?_) _ _) r
    rw [HE.out.some_iff (by have := pow_le m h8; omega) (by have := (Rv.G_bound f (show s < 256 by have := pow_le m h8; omega)).1; omega)]
    unfold Rv.PK
    rw [if_pos ⟨hs2, hpc, rfl⟩]; rfl
  clear hrg hg1 hsz1 hb1 hmm
  go_frame
  go_loopw [15] (fun _ wr => ∃ L cnt, cnt ≤ n ∧ Hid (Rg wr b0 (w.heap.size + 2) n M L cnt) ∧ Hid (LS f m k a cap w wr (8 * (n - cnt)) (Rv.QL f m k L))) (fun _ wr => wr.rangeLeft b0 (w.heap.size + 2))
  case atStart => exact ⟨_, cnt0, hcn, HRG, HLS0⟩
  case round =>
    obtain ⟨L, cnt, hcn2, hrg, hls⟩ := hrel
    clear HRG HLS0
    have hml : wr.rangeLeft b0 (w.heap.size + 2) = cnt := hrg.out.left_eq
    go_wp2_with (first | (at_next; refine wpList_next_Rg _ rfl _ rfl b0 (w.heap.size + 2) n _ L cnt rfl hrg.out ?_ ?_) | go_in)
    · intro hl
      have hl := Lib.hid hl
      clear hml
      go_wp2
      go_ret
      exact ⟨rfl, (hls.out.congr fun s b hs hb => (Rv.QL_end f m k hl.out hs b).symm).more (by omega)⟩
    · intro s q v W1 cnt1 hs hq hms hL hrg1 hlt hg1 hsz1 hen
      unfold KV at hen ⊢
      obtain ⟨ak, ck, gn0, rfl, hgk, hs2, hpk, hq2, hgn⟩ : ∃ (ak : Option Addr) (ck gn0 : Nat), v = .agg #[.slice ak k ck, .int .i64 (gn0 : Int)] ∧ RowG w B0 k ak ck (Rv.gv f s) ∧ s < 2 ^ m ∧ pc s = k ∧ q = Rv.gm f s ∧ gn0 = Rv.gn f s := by
        have h1 := HE.out s q hs hq
        cases hp : Rv.PK f m k s q with
        | none => rw [h1.1 hp] at hms; cases hms
        | some t =>
          obtain ⟨a1, c1, h2, h3⟩ := h1.2 t hp
          unfold Rv.PK at hp
          split at hp
          · rename_i h4
            obtain rfl := Option.some.inj hp
            rw [h2] at hms
            exact ⟨a1, c1, _, (Option.some.inj hms).symm, h3, h4.1, h4.2.1, h4.2.2, rfl⟩
          · cases hp
      have hls1 := hls.out.turn hg1
      obtain ⟨K, hKs⟩ : ∃ K, K = W1.heap.size := ⟨_, rfl⟩
      have hKw : w.heap.size + 2 < K := by have := hrg1.ne; omega
      obtain ⟨L1, hL1⟩ : ∃ L1 : Nat → Nat → Bool, L1 = fun a b => L a b && !decide (a = s ∧ b = q) := ⟨_, rfl⟩
      obtain ⟨W3, hW3⟩ : ∃ W3, W3 = (W1.alloc (.cells #[.int .i64 (s : Int), .int .i64 (q : Int)] 108)).alloc (.cells #[.slice ak k ck, .int .i64 (gn0 : Int)] 73) := ⟨_, rfl⟩
      have hb3 : RowKit.Below W1.heap.size W1 W3 := by rw [hW3]; exact ((Below.refl _ _).alloc (Nat.le_refl _) _).alloc (by simp) _
      have x6 : Box W3 K 108 (.int .i64 (s : Int)) (.int .i64 (q : Int)) := by rw [hW3, hKs]; exact (Box.new _ _ _ _).more _
      have x7 : Box W3 (K + 1) 73 (.slice ak k ck) (.int .i64 (gn0 : Int)) := by
        rw [hW3, hKs]
        have := Box.new (W1.alloc (.cells #[.int .i64 (s : Int), .int .i64 (q : Int)] 108)) 73 (.slice ak k ck) (.int .i64 (gn0 : Int))
        simpa using this
      have RG3 : Hid (Rg W3 b0 (w.heap.size + 2) n M L1 cnt1) := (hrg1.on hb3).congr (fun _ _ _ _ => rfl) (fun s2 q2 _ _ => by rw [hL1]; simp)
      have LS3 := Lib.hid (hls1.on hb3)
      have HW3 := Lib.hid hW3
      have X6 := Lib.hid x6
      have X7 := Lib.hid x7
      have HKs := Lib.hid hKs
      have HL1 := Lib.hid hL1
      have HL := Lib.hid hL
      have HQ := Lib.hid hq2
      have HG := Lib.hid hgn
      have HGK := Lib.hid hgk
      have HPK := Lib.hid hpk
      have HS2 := Lib.hid hs2
      have HQ2 := Lib.hid hq
      have HS := Lib.hid hs
      have hszk : Hid (K + 2 ≤ W3.heap.size) := (by have := x7.lt; show K + 2 ≤ W3.heap.size; omega)
      clear hsz1 hrg1 hg1 hrg hls hls1 hW3 hb3 x6 x7 hKs hL1 hL hq2 hgn hgk hpk hs2 hq hms
      go_wp2
      rw [← HKs.out, ← HW3.out]
      obtain ⟨full, hfull⟩ : ∃ full, full = 2 ^ m - 1 := ⟨_, rfl⟩
      obtain ⟨x, hx⟩ : ∃ x, x = full ^^^ (full &&& s) := ⟨_, rfl⟩
      have hf8 : full < 256 := by have := pow_le m h8; have := Nat.one_le_two_pow (n := m); omega
      have hx8 : x < 256 := by rw [hx]; exact Nat.xor_lt_two_pow (n := 8) hf8 (Nat.lt_of_le_of_lt Nat.and_le_left hf8)
      have hand : bits .andNot .i64 (full : Int) (s : Int) = (x : Int) := by rw [hx]; exact i64_andNotQ _ _ (by omega) (by omega)
      have DA : Hid (∀ W, Calls Try.prog 150 #[.agg #[.int .i64 m, .slice a m cap]] W fun e w' => e = .returned (.int .i64 (full : Int)) ∧ RowKit.Below W.heap.size W w') := fun W => by
        rw [hfull]; exact allPlayers_q a m cap m W h8
      have DE := Lib.hid (fun W => elementsOf_any x hx8 W)
      have HX := Lib.hid hx
      have HFU := Lib.hid hfull
      have KEEP : Hid (∀ V, RowKit.Below W3.heap.size W3 V → (V.cell? ⟨w.heap.size, 0, none⟩ = some (.int .i64 (m : Int)) ∧ V.cell? ⟨w.heap.size, 1, none⟩ = some (.slice a m cap) ∧ V.cell? ⟨K, 0, none⟩ = some (.int .i64 (s : Int)))) := fun V hb => by
        have t := (LS3.out.on hb).tour
        have y := X6.out.below hb X6.out.lt
        exact ⟨t.c0, t.c1, y.c0⟩
      have BD : Hid (RowKit.Below W3.heap.size W3 W3.drew) := (Below.refl _ _).drew
      have HXT : Hid (∀ c, c < 8 → x.testBit c = (decide (c < m) && !s.testBit c)) := fun c hc => by
        rw [hx, Nat.testBit_xor, Nat.testBit_and, hfull, Nat.testBit_two_pow_sub_one]
        cases decide (c < m) <;> cases s.testBit c <;> rfl
      clear hx hfull
      go_region_held3 (fun V => V.cell? ⟨w.heap.size, 0, none⟩ = some (.int .i64 (m : Int)) ∧ V.cell? ⟨w.heap.size, 1, none⟩ = some (.slice a m cap) ∧ V.cell? ⟨K, 0, none⟩ = some (.int .i64 (s : Int)))
        (first | (exact KEEP.out _ B6.out) | (exact KEEP.out _ B5.out) | (exact KEEP.out _ BD.out))
        (first
          | (go_at_call 150
             refine (DA.out _).mono ?_
             rintro e w5 ⟨rfl, hb5⟩
             have B5 := Lib.hid (BD.out.trans hb5)
             clear hb5)
          | (go_at_call 116
             refine (DE.out _).mono ?_
             rintro e w6 ⟨⟨ge, ce, rfl, hoe⟩, hb6⟩
             have B6 := Lib.hid (B5.out.trans (hb6.mono B5.out.size))
             have OE := Lib.hid hoe
             have HW5 := Lib.hid (hb6.mono B5.out.size)
             clear hb6 hoe))
      have IS0 : Hid (IS f m k a cap w w6 b0 n M L1 cnt1 K s q ak ck gn0 ge ce x K (8 * (n - cnt) + 0) (Rv.QI f m k L s ((elems x).take 0))) := by
        refine ⟨RG3.out.on B6.out, (LS3.out.on B6.out).congr fun s2 b hs2 hb2 => ?_, X6.out.below B6.out X6.out.lt, X7.out.below B6.out X7.out.lt, OE.out.mono ?_, hKw, Nat.le_refl _, hbw⟩
        · rw [List.take_zero]; exact Rv.QI_zero f m k L s s2 b
        · have h1 := hszk.out
          have h2 := B5.out.size
          omega
      go_wp2
      go_loopw [27] (fun i wi => ∃ j : Nat, j ≤ (elems x).length ∧ i = .int .i64 (j : Int) ∧ Hid (IS f m k a cap w wi b0 n M L1 cnt1 K s q ak ck gn0 ge ce x K (8 * (n - cnt) + j) (Rv.QI f m k L s ((elems x).take j)))) (fun i _ => (elems x).length - (intOf i).toNat)
      case atStart => exact ⟨0, Nat.zero_le _, rfl, IS0⟩
      case round =>
        clear IS0
        obtain ⟨j, hj, rfl, his⟩ := hrel
        by_cases hlt2 : j < (elems x).length
        · obtain ⟨b, hbd⟩ : ∃ b, b = (elems x).getD j 0 := ⟨_, rfl⟩
          have hbm : b ∈ elems x := by rw [hbd, List.getD_eq_getElem?_getD, List.getElem?_eq_getElem hlt2]; exact List.getElem_mem hlt2
          obtain ⟨hb8, hbt⟩ := Hw.mem_elems.1 hbm
          rw [HXT.out b hb8] at hbt
          simp only [Bool.and_eq_true, decide_eq_true_eq, Bool.not_eq_true'] at hbt
          obtain ⟨hbm2, hbs⟩ := hbt
          have hcx := his.out.el.cellAt j (by omega)
          rw [List.getElem?_map, show (elems x)[j]? = some b by rw [hbd, List.getD_eq_getElem?_getD, List.getElem?_eq_getElem hlt2]; rfl] at hcx
          have hcx' : wr.cell? ⟨ge, j, none⟩ = some (.int .i64 (b : Int)) := hcx
          have hbl : b < l.length := by rw [HM.out]; exact hbm2
          obtain ⟨ba, offa, rfl, hba2, hca⟩ := (HR.out.below his.out.ls.below (Nat.le_refl _)).at hbl
          obtain ⟨hw1, _, hw2⟩ := HK.out.ww hbl
          rw [hw1] at hca
          obtain ⟨y, hy⟩ : ∃ y, y = ww l b := ⟨_, rfl⟩
          rw [← hy] at hca hw2
          have hand2 : bits .and .i64 (y : Int) (s : Int) = ((y &&& s : Nat) : Int) := Rv.i64_andW _ _ (by omega) (by have := HS.out; omega)
          obtain ⟨z, hz⟩ : ∃ z, z = y &&& s := ⟨_, rfl⟩
          have hz8 : z < 256 := by rw [hz]; exact Nat.lt_of_le_of_lt Nat.and_le_left hw2
          have hct : pc z = Rv.ct f s b := by
            rw [hz, pc_in (p := elems s) (fun c => ?_) (Rv.elems_nd s) (fun c hc => (Hw.mem_elems.1 hc).1), hy]
            · unfold Rv.ct
              congr 1
              funext c
              rw [HF.out]
              exact (wwBit HK.out hbl).symm
            · rw [Bool.eq_iff_iff, List.contains_iff_mem, Hw.mem_elems]
              constructor
              · intro h
                refine ⟨?_, h⟩
                rcases Nat.lt_or_ge c 8 with h1 | h1
                · exact h1
                · rw [Nat.testBit_lt_two_pow (Nat.lt_of_lt_of_le HS.out (show 256 ≤ 2 ^ c from Nat.pow_le_pow_right (n := 2) (by omega) h1))] at h; cases h
              · exact fun h => h.2
          have hpl := pc_le z
          obtain ⟨p, hp⟩ : ∃ p, p = pc z := ⟨_, rfl⟩
          rw [← hp] at hct hpl
          have hq64 : q ≤ 64 := by rw [HQ.out]; exact (Rv.G_bound f HS.out).1
          obtain ⟨r2, hr2⟩ : ∃ r2, r2 = q + p := ⟨_, rfl⟩
          have hr200 : r2 ≤ 200 := by omega
          have hq0 : (0 : Int) ≤ (q : Int) + (p : Int) := by omega
          have hq1 : (q : Int) + (p : Int) ≤ 200 := by omega
          have hwv : IntKind.i64.wrap ((q : Int) + (p : Int)) = (r2 : Int) := by rw [IntKind.wrap_i64]; omega
          have HRR : Hid (Value.int .i64 (IntKind.i64.wrap ((q : Int) + (p : Int))) = .int .i64 (r2 : Int)) := by show _ = _; rw [hwv]
          have hwp : IntKind.i64.wrap (2 ^ b) = ((2 ^ b : Nat) : Int) := by
            have h1 := pow_le b (by omega)
            have h2 : ((2 : Int) ^ b) = ((2 ^ b : Nat) : Int) := by rw [Int.natCast_pow]; rfl
            rw [h2, IntKind.wrap_i64]
            generalize (2 ^ b : Nat) = P at h1 ⊢
            omega
          have HOR : Hid (bits .or .i64 (s : Int) (IntKind.i64.wrap (2 ^ b)) = ((s ||| 2 ^ b : Nat) : Int)) := by
            show _ = _
            rw [hwp]; exact i64_or _ _ (by have := HS.out; omega) (by have := pow_le b (by omega); omega)
          have hor : bits .or .i64 (s : Int) (wrap64 (2 ^ b)) = ((s ||| 2 ^ b : Nat) : Int) := by rw [wrapPow b (by omega)]; exact i64_or _ _ (by have := HS.out; omega) (by have := pow_le b (by omega); omega)
          obtain ⟨s2, hs2⟩ : ∃ s2, s2 = s ||| 2 ^ b := ⟨_, rfl⟩
          have hs28 : s2 < 256 := by rw [hs2]; exact Nat.or_lt_two_pow (n := 8) HS.out (Nat.pow_lt_pow_right (by omega) hb8)
          rw [← hz] at hand2
          rw [← hs2] at hor HOR
          have HC := Lib.hid (fun W => countElements_any z hz8 W)
          rw [← hp] at HC
          have KEEP8 : Hid (∀ V, RowKit.Below wr.heap.size wr V → (V.cell? ⟨w.heap.size, 1, none⟩ = some (.slice (some ⟨ba, offa, none⟩) m cap) ∧ V.cell? ⟨ba, offa + b, none⟩ = some (.int .i64 (y : Int)) ∧ V.cell? ⟨K, 0, none⟩ = some (.int .i64 (s : Int)) ∧ V.cell? ⟨K, 1, none⟩ = some (.int .i64 (q : Int)))) := fun V hb => by
            have t := his.out.on hb
            exact ⟨t.ls.tour.c1, (hb.cell (p := ⟨ba, offa + b, none⟩) hba2).trans hca, t.k6.c0, t.k6.c1⟩
          have KEEP9 : Hid (∀ V, RowKit.Below wr.heap.size wr V → V.cell? ⟨K, 0, none⟩ = some (.int .i64 (s : Int))) := fun V hb => (KEEP8.out V hb).2.2.1
          have BR8 : Hid (RowKit.Below wr.heap.size wr wr.drew) := (Below.refl _ _).drew
          have HCT := Lib.hid hct
          have HBD := Lib.hid hbd
          have HBS := Lib.hid hbs
          have HR2 := Lib.hid hr2
          have HS2E := Lib.hid hs2
          have hji : (j : Int) < ((elems x).length : Int) := by omega
          have hxi : (b : Int) < (m : Int) := by omega
          have hx0 : ¬ (b : Int) < 0 := by omega
          have hx64 : b < 64 := by omega
          clear hcx hbd hbm hbs hw1 hy hz hct hp hr2 hs2 hw2 hca hz8 hba2 hbl hwv hwp
          go_wp2
          go_region_held3 (fun V => V.cell? ⟨w.heap.size, 1, none⟩ = some (.slice (some ⟨ba, offa, none⟩) m cap) ∧ V.cell? ⟨ba, offa + b, none⟩ = some (.int .i64 (y : Int)) ∧ V.cell? ⟨K, 0, none⟩ = some (.int .i64 (s : Int)) ∧ V.cell? ⟨K, 1, none⟩ = some (.int .i64 (q : Int)))
            (first | (exact KEEP8.out _ BR8.out))
            (first
              | (go_at_call 121
                 refine (HC.out _).mono ?_
                 rintro e w7 ⟨rfl, rfl⟩))
          clear hcx'
          go_wp2
          rw [HRR.out]
          have BR9 : Hid (RowKit.Below wr.heap.size wr wr.drew.drew) := (Below.refl _ _).drew.drew
          go_region_held3 (fun V => V.cell? ⟨K, 0, none⟩ = some (.int .i64 (s : Int)))
            (first | (exact KEEP9.out _ BR9.out) | (exact KEEP9.out _ (BR9.out.alloc BR9.out.size _)) | (exact KEEP9.out _ ((BR9.out.alloc BR9.out.size _).setCell (p := ⟨wr.heap.size, 0, none⟩) (Nat.le_refl _) _)) | (exact KEEP9.out _ (((BR9.out.alloc BR9.out.size _).setCell (p := ⟨wr.heap.size, 0, none⟩) (Nat.le_refl _) _).setCell (p := ⟨wr.heap.size, 1, none⟩) (Nat.le_refl _) _)))
            (first | fail)
          go_wp2
          rw [HOR.out]
          obtain ⟨T, hT⟩ : ∃ T, T = wr.heap.size := ⟨_, rfl⟩
          obtain ⟨W9, hW9⟩ : ∃ W9, W9 = (wr.alloc (.cells #[.int .i64 (s2 : Int), .int .i64 (r2 : Int)] 108)).drew.drew := ⟨_, rfl⟩
          have hb9 : RowKit.Below wr.heap.size wr W9 := by rw [hW9]; exact ((Below.refl _ _).alloc (Nat.le_refl _) _).drew.drew
          have x11 : Box W9 T 108 (.int .i64 (s2 : Int)) (.int .i64 (r2 : Int)) := by
            rw [hW9, hT]
            exact (Box.new wr 108 (.int .i64 (s2 : Int)) (.int .i64 (r2 : Int))).drew.drew
          have IS9 := Lib.hid (his.out.on hb9)
          have hTw : w.heap.size + 2 < T := by have := his.out.k6.lt; have := his.out.hK; omega
          rw [← hT, ← hW9]
          clear KEEP8 KEEP9 BR8 BR9 his hW9 hb9 hT hand2 hor HOR HRR
          obtain ⟨g0, n1, hlk, hno, hyes⟩ := IS9.out.drew.ls.look hs28 hr200
          have hQn : Rv.QI f m k L s ((elems x).take j) s b = false := Rv.QI_not (by rw [← HQ.out]; exact HL.out) (fun hh => by
            obtain ⟨i, hi, he⟩ := List.getElem_of_mem hh
            rw [List.length_take] at hi
            rw [List.getElem_take] at he
            have h1 := (List.getElem_inj (Rv.elems_nd x) (i := i) (j := j) (h₀ := by omega) (h₁ := hlt2)).1 (by rw [he, HBD.out, List.getD_eq_getElem?_getD, List.getElem?_eq_getElem hlt2]; rfl)
            omega)
          obtain ⟨hnn, hg0, hT1, hT2⟩ := IS9.out.drew.ls.step HS.out hb8 HBS.out hQn HPK.out (r2 := r2) (by rw [HR2.out, HCT.out, HQ.out]) (by rw [← HS2E.out]; exact hno) (by rw [← HS2E.out]; exact hyes) (Q' := Rv.QI f m k L s ((elems x).take (j + 1))) (fun s3 b3 => by rw [Rv.take_snocN _ _ hlt2, ← HBD.out]; exact Rv.QI_next f m k L s _ b s3 b3)
          rw [← HG.out] at hnn hT1
          rw [← HS2E.out] at hT1 hT2
          have HT1 := Lib.hid hT1
          have HT2 := Lib.hid hT2
          have HG0 := Lib.hid hg0
          have hlen8 : (elems x).length ≤ 8 := elTo_len x 8
          have hx11 := Lib.hid x11
          have BD9 : Hid (RowKit.Below W9.heap.size W9 W9.drew) := (Below.refl _ _).drew
          have hgv8 : Hid (Rv.gv f s < 8 ^ k) := by have := Rv.gv_lt f HS.out; rw [HPK.out] at this; exact this
          have hk8 : k < 8 := by omega
          have hsz9 : Hid (w.heap.size + 3 ≤ W9.heap.size) := (by have := IS9.out.k6.lt; have := IS9.out.hK; show w.heap.size + 3 ≤ W9.heap.size; omega)
          have DW : Hid (Calls Try.prog 151 #[.agg #[g0v g0 (k + 1), .int .i64 (n1 : Int)], .agg #[.slice ak k ck, .int .i64 (gn0 : Int)], .int .i64 (b : Int)] W9.drew (WithR (w.heap.size + 3) (k + 1) (n1 + gn0) (g0m g0 (Rv.gv f s * 8 + b)) W9.drew)) :=
            with_any (w.heap.size + 3) B0 k n1 gn0 (Rv.gv f s) b ak ck g0 W9.drew hk8 hb8 hnn hgv8.out hsz9.out (HGK.out.below (IS9.out.drew.ls.below)) HG0.out
          have KEEP10 : Hid (∀ V, RowKit.Below W9.heap.size W9 V → (V.cell? ⟨K + 1, 0, none⟩ = some (.slice ak k ck) ∧ V.cell? ⟨K + 1, 1, none⟩ = some (.int .i64 (gn0 : Int)) ∧ V.cell? ⟨T, 0, none⟩ = some (.int .i64 (s2 : Int)) ∧ V.cell? ⟨T, 1, none⟩ = some (.int .i64 (r2 : Int)))) := fun V hb => by
            have t := (IS9.out.on hb).k7
            have u := hx11.out.below hb hx11.out.lt
            exact ⟨t.c0, t.c1, u.c0, u.c1⟩
          have hNN : 8 * (n - cnt) + j < 1000000000000 := by omega
          clear hnn hT1 hT2 hg0 hQn hno hyes x11
          go_region_held3 (fun V => V.cell? ⟨K + 1, 0, none⟩ = some (.slice ak k ck) ∧ V.cell? ⟨K + 1, 1, none⟩ = some (.int .i64 (gn0 : Int)) ∧ V.cell? ⟨T, 0, none⟩ = some (.int .i64 (s2 : Int)) ∧ V.cell? ⟨T, 1, none⟩ = some (.int .i64 (r2 : Int)))
            (first | (exact HS11.out) | (exact KEEP10.out _ B10.out) | (exact KEEP10.out _ BD9.out))
            (first
              | (go_at_call 151
                 refine DW.out.mono ?_
                 rintro e w10 ⟨⟨g11, c11, rfl, hg11⟩, hb10⟩
                 have B10 := Lib.hid (BD9.out.trans hb10)
                 obtain ⟨W11, hrun11, hls11, hgr11⟩ := (IS9.out.ls.on B10.out).store hNN hs28 hr200 (t := (r2, n1 + gn0, g0m g0 (Rv.gv f s * 8 + b))) hg11 HT1.out HT2.out
                 simp only [Int.natCast_add] at hrun11
                 have IS11 := Lib.hid ((IS9.out.on B10.out).put hls11 hgr11)
                 have HS11 : Hid (W11.cell? ⟨K + 1, 0, none⟩ = some (.slice ak k ck) ∧ W11.cell? ⟨K + 1, 1, none⟩ = some (.int .i64 (gn0 : Int)) ∧ W11.cell? ⟨T, 0, none⟩ = some (.int .i64 (s2 : Int)) ∧ W11.cell? ⟨T, 1, none⟩ = some (.int .i64 (r2 : Int))) := by
                   have t := IS11.out.k7
                   have u := box_kept (hx11.out.below B10.out hx11.out.lt) hgr11 (by simp <;> omega)
                   exact ⟨t.c0, t.c1, u.c0, u.c1⟩
                 clear hb10 hg11 hls11 hgr11))
          have IS12 : Hid (IS f m k (some ⟨ba, offa, none⟩) cap w W11 b0 n M L1 cnt1 K s q ak ck gn0 ge ce x K (8 * (n - cnt) + (j + 1)) (Rv.QI f m k L s ((elems x).take (j + 1)))) := IS11.out
          clear IS11 HS11 B10 hrun11 KEEP10 DW hlk
          go_wp2
          go_roundw
          case rel => exact ⟨j + 1, by omega, by go_num, IS12⟩
          case measure => simp [intOf]; omega
        · obtain rfl : j = (elems x).length := by omega
          have hm1 : wr.rangeLeft b0 (w.heap.size + 2) = cnt1 := his.out.rg.left_eq
          have hlen8 : (elems x).length ≤ 8 := elTo_len x 8
          go_wp2
          go_roundw
          case rel =>
            refine ⟨L1, cnt1, by omega, his.out.rg, (his.out.ls.congr fun s3 b3 hs3 hb3 => ?_).more (by omega)⟩
            rw [List.take_length, HL1.out, HQ.out]
            exact Rv.QI_end HS2.out HPK.out HXT.out hb3
          case measure => rw [hm1, hml]; omega
end Go.Proofs.Yteegbkbphfmooaa
namespace Go.Proofs.Yteegbkbphfmooaa
open Go.ChangeShapes Go.WideShapes Go.ChangeAt Go.RowKit Go.Sort
set_option linter.unusedVariables false

theorem pc_all {m s : Nat} (hm : m ≤ 8) (hs : s < 2 ^ m) (h : pc s = m) : s = 2 ^ m - 1 := by
  have : ∀ m : Fin 9, ∀ s : Fin 256, s.val < 2 ^ m.val → pc s.val = m.val → s.val = 2 ^ m.val - 1 := by decide +kernel
  exact this ⟨m, by omega⟩ ⟨s, by have := pow_le m hm; omega⟩ hs h
theorem pc_none {s : Nat} (hs : s < 256) (h : pc s = 0) : s = 0 := by
  have : ∀ s : Fin 256, pc s.val = 0 → s.val = 0 := by decide +kernel
  exact this ⟨s, hs⟩ h
theorem pc_top {m : Nat} (hm : m ≤ 8) : pc (2 ^ m - 1) = m := by
  have : ∀ m : Fin 9, pc (2 ^ m.val - 1) = m.val := by decide +kernel
  exact this ⟨m, by omega⟩
theorem Rv.gm_zero (f : Nat → Nat → Bool) : Rv.gm f 0 = 0 := rfl
theorem Rv.gn_zero (f : Nat → Nat → Bool) : Rv.gn f 0 = 1 := rfl
theorem Rv.gv_zero (f : Nat → Nat → Bool) : Rv.gv f 0 = 0 := rfl
theorem RowG.nil (W : World) (B : Nat) : RowG W B 0 none 0 0 := World.ownsRow_nil _ _ _ _

theorem results_tmp_cellQ {fn : Func} {p u : Tmp} {ty : TypeId} (h : fn.results = #[.tmp u, .cell p ty]) (tmps : Array Value) (P : Program) (w : World) :
    (results fn tmps).run P w =
      ((asAddr (tmps.getD p undef)).run P w).andThen fun a w₁ => ((loadVar ty a).run P w₁).andThen fun v w₂ => .ok (.tuple #[tmps.getD u undef, v]) w₂ := by
  simp only [results, h]
  simp [Sem.run_bind, Result.andThen]
theorem Box.resTG {w : World} {g : Nat} {v0 v1 x : Value} {fn : Func} {p u : Tmp} (hf : fn.results = #[.tmp u, .cell p 73]) (tmps : Array Value) (hp : tmps.getD p undef = .pointer (some ⟨g, 0, none⟩)) (hu : tmps.getD u undef = x) (h : Box w g 73 v0 v1) :
    (results fn tmps).run Try.prog w = .ok (.tuple #[x, .agg #[v0, v1]]) w := by
  rw [results_tmp_cellQ hf, hp, hu, asAddr_ptr]
  simp only [Result.andThen, run_loadVar_row w g 73 73 _ _ _ h Try.underlying73 rfl (by kernel_rfl)]
/-- The map that the program has after j rounds. -/
def MS (f : Nat → Nat → Bool) (m : Nat) (w W : World) (g j : Nat) : Prop :=
  ∃ n D M, n ≤ 8 ^ j ∧ W.ownsMap Try.prog 108 RV g n D ∧ Vw D M ∧ Ent W (g + 1) j M (Rv.PK f m j) ∧ RowKit.Below w.heap.size w W ∧ w.heap.size ≤ g
theorem MS.on {f : Nat → Nat → Bool} {m : Nat} {w W W' : World} {g j : Nat} (h : MS f m w W g j) (hb : RowKit.Below W.heap.size W W') : MS f m w W' g j := by
  obtain ⟨n, D, M, h1, h2, h3, h4, h5, h6⟩ := h
  exact ⟨n, D, M, h1, h2.kept (below_grown hb) (by simp), h3, h4.below hb, h5.trans (hb.mono h5.size), h6⟩

/-- What 'bestOrders' returns. -/
def BestR (f : Nat → Nat → Bool) (m : Nat) (w : World) (e : Ending) (w' : World) : Prop :=
  (∃ a c, e = .returned (.tuple #[.int .i64 ((Rv.gm f (2 ^ m - 1) : Nat) : Int), .agg #[.slice a m c, .int .i64 ((Rv.gn f (2 ^ m - 1) : Nat) : Int)]]) ∧ RowG w' w.heap.size m a c (Rv.gv f (2 ^ m - 1))) ∧ RowKit.Below w.heap.size w w'

set_option maxRecDepth 100000 in
set_option maxHeartbeats 8000000 in
theorem bestOrders_any (m : Nat) (a : Option Addr) (l : List Int) (cap : Nat) (w : World) (hm : l.length = m) (hok : Ok m l) (hrow : IntRow w a l) :
    Calls Try.prog 81 #[.agg #[.int .i64 (m : Int), .slice a m cap]] w (BestR (bt l) m w) := by
  have h8 : m ≤ 8 := by have := hok.2.1; omega
  have HK := Lib.hid hok
  have HM := Lib.hid hm
  have HR := Lib.hid hrow
  obtain ⟨f, hf⟩ : ∃ f, f = bt l := ⟨_, rfl⟩
  rw [← hf]
  have HLEN : Hid (∀ (k n b0 B0 : Nat) (D : DataW Value) (M : Nat → Nat → Option Value) (W : World), IntRow W a l → k < m → n ≤ 100000000 → W.ownsMap Try.prog 108 RV b0 n D → Vw D M → Ent W B0 k M (Rv.PK f m k) →
      Calls Try.prog 124 #[.agg #[.int .i64 (m : Int), .slice a m cap], .map (some b0)] W fun e w' => e = .returned (.map (some (W.heap.size + 1))) ∧ LS f m k a cap W w' (8 * n) (Rv.QF m k)) :=
    fun k n b0 B0 D M W h1 h2 h3 h4 h5 h6 => by rw [hf] at h6 ⊢; exact lengthened_any m k n b0 B0 a l cap D M W hm hok h1 h2 h3 h4 h5 h6
  obtain ⟨Wa, hWa⟩ : ∃ Wa, Wa = ((w.alloc (.cells #[.int .i64 (m : Int), .slice a m cap] 25)).alloc (.cells #[.slice none 0 0, .int .i64 0] 73)).alloc (.map #[] 0) := ⟨_, rfl⟩
  have hsz : Wa.heap.size = w.heap.size + 3 := by rw [hWa]; simp
  have hba : RowKit.Below w.heap.size w Wa := by rw [hWa]; exact (((Below.refl _ _).alloc (Nat.le_refl _) _).alloc (by simp) _).alloc (by simp; omega) _
  have xa : Box Wa w.heap.size 25 (.int .i64 (m : Int)) (.slice a m cap) := by rw [hWa]; exact ((Box.new _ _ _ _).more _).more _
  have xb : Box Wa (w.heap.size + 1) 73 (.slice none 0 0) (.int .i64 0) := by
    rw [hWa]
    have := (Box.new (w.alloc (.cells #[.int .i64 (m : Int), .slice a m cap] 25)) 73 (.slice none 0 0) (.int .i64 0)).more (.map #[] 0)
    simpa using this
  have hmk : Wa.ownsMap Try.prog 108 RV (w.heap.size + 2) 0 (.map []) := by
    rw [hWa]
    have := World.ownsMap_made ((w.alloc (.cells #[.int .i64 (m : Int), .slice a m cap] 25)).alloc (.cells #[.slice none 0 0, .int .i64 0] 73)) Try.prog 108 RV
    simpa using this
  obtain ⟨Wb, D0, hrun0, hown0, hv0, hg0⟩ := store_any hmk Vw.empty (by unfold maxLen; omega) (show 0 < 256 by omega) (show 0 ≤ 200 by omega) (.agg #[.slice none 0 0, .int .i64 1])
  unfold KV at hrun0
  have e0 : ((0 : Nat) : Int) = 0 := rfl
  rw [e0, hWa] at hrun0
  have hb0 : RowKit.Below w.heap.size w Wb := hba.grown hg0 hba.size (fun j hj => by cases hj; omega)
  have XA := Lib.hid (box_kept xa hg0 (by simp))
  have XB := Lib.hid (box_kept xb hg0 (by simp))
  have hms : MS f m w Wb (w.heap.size + 2) 0 := by
    refine ⟨1, D0, _, Nat.le_refl _, hown0, hv0, ?_, hb0, by omega⟩
    refine Ent.put (t := (0, 1, 0)) (P := fun _ _ => none) (Ent.empty fun _ _ _ _ => rfl) (RowG.nil _ _) ?_ fun s r hs hr hne => ?_
    · unfold Rv.PK
      rw [if_pos ⟨Nat.two_pow_pos m, by rfl, (Rv.gm_zero f).symm⟩]; rfl
    · unfold Rv.PK
      rw [if_neg]
      rintro ⟨h1, h2, h3⟩
      obtain rfl := pc_none hs h2
      exact hne ⟨rfl, h3⟩
  have HMS := Lib.hid hms
  have HB0 := Lib.hid hb0
  have hmm := @run_makeMap Try.prog
  have hm0 : 0 < m := by have := hok.1; omega
  clear hok hm hrow hf hWa hsz hba xa xb hmk hown0 hv0 hg0 hb0 hms e0
  go_enter Try.func81, Try.ntmps81
  have c0 := XA.out.c0
  have c1 := XA.out.c1
  go_wp2
  clear hrun0 hmm c0 c1
  go_loopw [4, 15] (fun mp i wr => ∃ j g : Nat, j ≤ m ∧ i = .int .i64 (j : Int) ∧ mp = .map (some g) ∧ w.heap.size + 2 ≤ g ∧ Hid (MS f m w wr g j) ∧ Hid (Box wr w.heap.size 25 (.int .i64 (m : Int)) (.slice a m cap)) ∧ Hid (Box wr (w.heap.size + 1) 73 (.slice none 0 0) (.int .i64 0))) (fun _ i _ => m - (intOf i).toNat)
  case atStart => exact ⟨0, w.heap.size + 2, Nat.zero_le _, rfl, rfl, Nat.le_refl _, HMS, XA, XB⟩
  case round =>
    obtain ⟨j, g, hj, rfl, rfl, hgw, hms, hxa, hxb⟩ := hrel
    by_cases hlt : j < m
    · have hji : (j : Int) < (m : Int) := by omega
      have c0 := hxa.out.c0
      have c1 := hxa.out.c1
      obtain ⟨n, D, M, hn, hown, hv, hent, hbl, hgg⟩ := hms.out
      have hn8 : n ≤ 100000000 := by
        have h1 := Nat.pow_le_pow_right (n := 8) (by omega) (show j ≤ 8 by omega)
        have h2 : (8 : Nat) ^ 8 = 16777216 := by decide
        omega
      have HC := Lib.hid (HLEN.out j n g (g + 1) D M wr (HR.out.below hbl (Nat.le_refl _)) hlt hn8 hown hv hent)
      have HN := Lib.hid hn
      have HBL := Lib.hid hbl
      clear hn hown hv hent hbl hms hn8
      go_wp2_with fail
      refine HC.out.mono ?_
      rintro e w5 ⟨rfl, hls⟩
      have HLS := Lib.hid hls
      obtain ⟨n', D', M', hn', hown', hv', hent'⟩ := hls.out
      have HD := Lib.hid (deleteWorse_any (wr.heap.size + 1) n' D' M' w5 hown' hv' hent'.shape)
      have HE := Lib.hid hent'
      have HN' := Lib.hid hn'
      have hsw : w.heap.size ≤ wr.heap.size := HBL.out.size
      clear hls hn' hown' hv' hent' HC c0 c1
      go_wp2_with fail
      refine HD.out.mono ?_
      rintro e w6 ⟨⟨v, rfl⟩, ⟨D6, hown6, hv6⟩, hg6⟩
      have hwr2 : w.heap.size + 1 < wr.heap.size := hxb.out.lt
      have hx6 := box_kept (hxa.out.below HLS.out.below hxa.out.lt) hg6 (by simp <;> omega)
      have hy6 := box_kept (hxb.out.below HLS.out.below hxb.out.lt) hg6 (by simp <;> omega)
      have hm6 : MS f m w w6 (wr.heap.size + 1) (j + 1) := by
        refine ⟨n', D6, dw M', ?_, hown6, hv6, ?_, ?_, by omega⟩
        · have h1 := HN'.out
          have h2 := HN.out
          rw [Nat.pow_succ]; omega
        · exact ((HE.out.dw.turn hg6 (by omega)).mono (by omega)).congr fun s r hs hr => (Rv.EE_end h8 hs r).symm
        · exact (HBL.out.trans (HLS.out.below.mono hsw)).grown hg6 (Nat.le_trans HBL.out.size HLS.out.below.size) (fun k hk => by cases hk; omega)
      have HM6 := Lib.hid hm6
      have HX6 := Lib.hid hx6
      have HY6 := Lib.hid hy6
      clear hown6 hv6 hg6 hx6 hy6 hm6 HD
      go_wp2
      go_roundw
      case rel => exact ⟨j + 1, wr.heap.size + 1, by omega, by go_num, rfl, by omega, HM6, HX6, HY6⟩
      case measure => simp [intOf]; omega
    · obtain rfl : j = m := by omega
      obtain ⟨n, D, M, hn, hown, hv, hent, hbl, hgg⟩ := hms.out
      obtain ⟨F, hF⟩ : ∃ F, F = 2 ^ j - 1 := ⟨_, rfl⟩
      obtain ⟨G, hG⟩ : ∃ G, G = Rv.gm f F := ⟨_, rfl⟩
      have hF8 : F < 256 := by have := pow_le j h8; have := Nat.one_le_two_pow (n := j); omega
      have hG64 : G ≤ 64 := by rw [hG]; exact (Rv.G_bound f hF8).1
      obtain ⟨ak, ck, gn0, hmf, hrk, hgn⟩ : ∃ (ak : Option Addr) (ck gn0 : Nat), M F G = some (.agg #[.slice ak j ck, .int .i64 (gn0 : Int)]) ∧ RowG wr (g + 1) j ak ck (Rv.gv f F) ∧ gn0 = Rv.gn f F := by
        have h1 := (hent F G hF8 (by omega)).2 (Rv.gm f F, Rv.gn f F, Rv.gv f F) (by
          unfold Rv.PK
          rw [if_pos ⟨by rw [hF]; have := Nat.one_le_two_pow (n := j); omega, by rw [hF]; exact pc_top h8, hG⟩])
        obtain ⟨a1, c1, h2, h3⟩ := h1
        exact ⟨a1, c1, _, h2, h3, rfl⟩
      have honly : Hid (∀ s q v, s < 256 → q ≤ 200 → M s q = some v → s = F ∧ q = G) := fun s q v hs hq hms2 => by
        have h1 := hent s q hs hq
        cases hp : Rv.PK f j j s q with
        | none => rw [h1.1 hp] at hms2; cases hms2
        | some t =>
          unfold Rv.PK at hp
          split at hp
          · rename_i h4
            have h5 := pc_all h8 h4.1 h4.2.1
            exact ⟨by rw [hF]; exact h5, by rw [hG, hF, ← h5]; exact h4.2.2⟩
          · cases hp
      obtain ⟨W0, rfl⟩ : ∃ W0, W0 = wr := ⟨_, rfl⟩
      obtain ⟨A6, hA6⟩ : ∃ A6, A6 = W0.heap.size := ⟨_, rfl⟩
      obtain ⟨WA, hWA⟩ : ∃ WA, WA = W0.alloc (.cells #[.slice none 0 0, .int .i64 0] 73) := ⟨_, rfl⟩
      have hszA : WA.heap.size = A6 + 1 := by rw [hWA, hA6]; simp
      have hbA : RowKit.Below W0.heap.size W0 WA := by rw [hWA]; exact (Below.refl _ _).alloc (Nat.le_refl _) _
      have hxA : Box WA A6 73 (.slice none 0 0) (.int .i64 0) := by rw [hWA, hA6]; exact Box.new _ _ _ _
      have HOA := Lib.hid (hown.kept (below_grown hbA) (by simp))
      have HV := Lib.hid hv
      have HMF := Lib.hid hmf
      have HRK := Lib.hid hrk
      have HGN := Lib.hid hgn
      have HFF := Lib.hid hF
      have HGG := Lib.hid hG
      have HA6 := Lib.hid hA6
      have HWA := Lib.hid hWA
      have HSZA := Lib.hid hszA
      have HBA := Lib.hid hbA
      have HXA := Lib.hid hxA
      have HBL := Lib.hid hbl
      have hgA : g < A6 := by rw [hA6]; exact hown.lt
      have hwA : w.heap.size + 1 < A6 := by rw [hA6]; exact hxb.out.lt
      clear hn hown hv hent hbl hF hG hmf hrk hgn hA6 hWA hszA hbA hxA
      go_wp2_with (first | (at_range; rw [← HA6.out, ← HWA.out]; refine wpList_range_Rg _ rfl _ rfl g n M rfl HOA.out HV.out ?_; intro w1 cnt0 hrg hg1 hsz1; rw [HSZA.out] at hrg ⊢) | go_in)
      have hb1 : RowKit.Below WA.heap.size WA w1 := ⟨hg1.os, hg1.tape, hg1.output, hg1.size, fun i hi => hg1.block i hi (by simp)⟩
      have HRG := Lib.hid hrg
      have HB1 : Hid (RowKit.Below A6 W0 w1) := by rw [HA6.out]; exact HBA.out.trans (hb1.mono HBA.out.size)
      have HX1 := Lib.hid (HXA.out.below hb1 HXA.out.lt)
      clear hrg hg1 hsz1 hb1
      go_frame
      go_loopw [5, 26] (fun fw _ wz => ∃ L cnt, Hid (Rg wz g (A6 + 1) n M L cnt) ∧ Hid (RowKit.Below A6 W0 wz) ∧ Hid (∃ v0 v1, Box wz A6 73 v0 v1 ∧ (L F G = false → fw = .int .i64 (G : Int) ∧ v0 = .slice ak j ck ∧ v1 = .int .i64 (gn0 : Int)))) (fun _ _ wz => wz.rangeLeft g (A6 + 1))
      case atStart => exact ⟨_, cnt0, HRG, HB1, _, _, HX1.out, fun h => by have h2 : (M F G).isSome = false := h; rw [HMF.out] at h2; cases h2⟩
      case round =>
        obtain ⟨L, cnt, hrg, hbz, hfin⟩ := hrel
        clear HRG HB1 HX1
        have hml : wr.rangeLeft g (A6 + 1) = cnt := hrg.out.left_eq
        go_wp2_with (first | (at_next; refine wpList_next_Rg _ rfl _ rfl g (A6 + 1) n _ L cnt rfl hrg.out ?_ ?_) | go_in)
        · intro hl
          obtain ⟨v0, v1, hx, hdone⟩ := hfin.out
          obtain ⟨rfl, rfl, rfl⟩ := hdone (hl F G hF8 (by omega))
          have HX := Lib.hid hx
          have hy := hxb.out.below (HA6.out ▸ hbz.out) hxb.out.lt
          have HY := Lib.hid hy
          have BW : Hid (RowKit.Below w.heap.size w wr) := HBL.out.trans ((HA6.out ▸ hbz.out : RowKit.Below W0.heap.size W0 wr).mono HBL.out.size)
          have HRW := Lib.hid (HRK.out.below (HA6.out ▸ hbz.out : RowKit.Below W0.heap.size W0 wr))
          clear hl hml hx hy hdone hfin
          go_wp2
          have K1 : Hid (wr.drew.cell? ⟨A6, 0, none⟩ = some (.slice ak j ck) ∧ wr.drew.cell? ⟨A6, 1, none⟩ = some (.int .i64 (gn0 : Int))) := ⟨HX.out.drew.c0, HX.out.drew.c1⟩
          have X2 := Lib.hid (HX.out.drew.other ⟨w.heap.size + 1, 0, none⟩ (.slice ak j ck) (by simp <;> omega))
          have K2 : Hid ((wr.drew.setCell ⟨w.heap.size + 1, 0, none⟩ (.slice ak j ck)).cell? ⟨A6, 0, none⟩ = some (.slice ak j ck) ∧ (wr.drew.setCell ⟨w.heap.size + 1, 0, none⟩ (.slice ak j ck)).cell? ⟨A6, 1, none⟩ = some (.int .i64 (gn0 : Int))) := ⟨X2.out.c0, X2.out.c1⟩
          have X3 := Lib.hid (X2.out.other ⟨w.heap.size + 1, 1, none⟩ (.int .i64 (gn0 : Int)) (by simp <;> omega))
          have K3 : Hid (((wr.drew.setCell ⟨w.heap.size + 1, 0, none⟩ (.slice ak j ck)).setCell ⟨w.heap.size + 1, 1, none⟩ (.int .i64 (gn0 : Int))).cell? ⟨A6, 0, none⟩ = some (.slice ak j ck) ∧ ((wr.drew.setCell ⟨w.heap.size + 1, 0, none⟩ (.slice ak j ck)).setCell ⟨w.heap.size + 1, 1, none⟩ (.int .i64 (gn0 : Int))).cell? ⟨A6, 1, none⟩ = some (.int .i64 (gn0 : Int))) := ⟨X3.out.c0, X3.out.c1⟩
          have e0 := HY.out.c0
          have e1 := HY.out.c1
          have f0 := HY.out.f0
          have f1 := HY.out.f1
          go_region_held3 (fun V => V.cell? ⟨A6, 0, none⟩ = some (.slice ak j ck) ∧ V.cell? ⟨A6, 1, none⟩ = some (.int .i64 (gn0 : Int)))
            (first | (exact K1.out) | (exact K2.out) | (exact K3.out))
            (first | fail)
          go_wp2
          refine bodyPost_ret (v := .tuple #[.int .i64 (G : Int), .agg #[.slice ak j ck, .int .i64 (gn0 : Int)]]) (Box.resTG rfl _ rfl rfl ((HY.out.drew.set0 _).set1 _)) rfl ⟨⟨ak, ck, ?_, ?_⟩, ?_⟩
          · rw [HGG.out, HGN.out, HFF.out]
          · rw [← HFF.out]
            exact (own_set (own_set (HRW.out.below (Below.refl _ _).drew) ⟨w.heap.size + 1, 0, none⟩ _ (by show w.heap.size + 1 < g + 1; omega)) ⟨w.heap.size + 1, 1, none⟩ _ (by show w.heap.size + 1 < g + 1; omega)).mono (by omega)
          · exact (BW.out.drew.setCell (p := ⟨w.heap.size + 1, 0, none⟩) (Nat.le_succ _) _).setCell (p := ⟨w.heap.size + 1, 1, none⟩) (Nat.le_succ _) _
        · intro s q v W1 cnt1 hs hq hms2 hL hrg1 hlt hg1 hsz1 hen
          obtain ⟨rfl, rfl⟩ := honly.out s q v hs hq hms2
          rw [HMF.out] at hms2
          obtain rfl := Option.some.inj hms2
          unfold KV at hen ⊢
          obtain ⟨v0, v1, hx, hdone⟩ := hfin.out
          obtain ⟨K, hKs⟩ : ∃ K, K = W1.heap.size := ⟨_, rfl⟩
          have hKw : A6 + 1 < K := by have := hrg1.ne; omega
          obtain ⟨L1, hL1⟩ : ∃ L1 : Nat → Nat → Bool, L1 = fun a b => L a b && !decide (a = s ∧ b = q) := ⟨_, rfl⟩
          obtain ⟨W3, hW3⟩ : ∃ W3, W3 = (W1.alloc (.cells #[.int .i64 (s : Int), .int .i64 (q : Int)] 108)).alloc (.cells #[.slice ak j ck, .int .i64 (gn0 : Int)] 73) := ⟨_, rfl⟩
          have hb3 : RowKit.Below W1.heap.size W1 W3 := by rw [hW3]; exact ((Below.refl _ _).alloc (Nat.le_refl _) _).alloc (by simp) _
          have x6 : Box W3 K 108 (.int .i64 (s : Int)) (.int .i64 (q : Int)) := by rw [hW3, hKs]; exact (Box.new _ _ _ _).more _
          have x7 : Box W3 (K + 1) 73 (.slice ak j ck) (.int .i64 (gn0 : Int)) := by
            rw [hW3, hKs]
            have := Box.new (W1.alloc (.cells #[.int .i64 (s : Int), .int .i64 (q : Int)] 108)) 73 (.slice ak j ck) (.int .i64 (gn0 : Int))
            simpa using this
          have x8 : Box W3 A6 73 v0 v1 := (box_kept hx hg1 (by simp <;> omega)).below hb3 (by omega)
          have RG3 : Hid (Rg W3 g (A6 + 1) n M L1 cnt1) := (hrg1.on hb3).congr (fun _ _ _ _ => rfl) (fun s2 q2 _ _ => by rw [hL1]; simp)
          have hbw3 : RowKit.Below A6 W0 W3 := (hbz.out.grown hg1 (by have := hbz.out.size; have := HA6.out; omega) (fun k hk => by cases hk; omega)).trans (hb3.mono (by omega))
          have BW3 := Lib.hid hbw3
          have HW3 := Lib.hid hW3
          have X6 := Lib.hid x6
          have X7 := Lib.hid x7
          have X8 := Lib.hid x8
          have HKs := Lib.hid hKs
          have HL1 := Lib.hid hL1
          have hA6K : A6 < W3.heap.size := x8.lt
          clear hsz1 hrg1 hg1 hrg hfin hdone hx hW3 hb3 x6 x7 x8 hKs hL1 hbw3 hbz hL
          go_wp2
          rw [← HKs.out, ← HW3.out]
          have S1 : Hid (W3.drew.cell? ⟨K, 1, none⟩ = some (.int .i64 (q : Int)) ∧ W3.drew.cell? ⟨K + 1, 0, none⟩ = some (.slice ak j ck) ∧ W3.drew.cell? ⟨K + 1, 1, none⟩ = some (.int .i64 (gn0 : Int))) := ⟨X6.out.drew.c1, X7.out.drew.c0, X7.out.drew.c1⟩
          have Y6 := Lib.hid (X6.out.drew.other ⟨A6, 0, none⟩ (.slice ak j ck) (by simp <;> omega))
          have Y7 := Lib.hid (X7.out.drew.other ⟨A6, 0, none⟩ (.slice ak j ck) (by simp <;> omega))
          have S2 : Hid ((W3.drew.setCell ⟨A6, 0, none⟩ (.slice ak j ck)).cell? ⟨K, 1, none⟩ = some (.int .i64 (q : Int)) ∧ (W3.drew.setCell ⟨A6, 0, none⟩ (.slice ak j ck)).cell? ⟨K + 1, 0, none⟩ = some (.slice ak j ck) ∧ (W3.drew.setCell ⟨A6, 0, none⟩ (.slice ak j ck)).cell? ⟨K + 1, 1, none⟩ = some (.int .i64 (gn0 : Int))) := ⟨Y6.out.c1, Y7.out.c0, Y7.out.c1⟩
          have Z6 := Lib.hid (Y6.out.other ⟨A6, 1, none⟩ (.int .i64 (gn0 : Int)) (by simp <;> omega))
          have Z7 := Lib.hid (Y7.out.other ⟨A6, 1, none⟩ (.int .i64 (gn0 : Int)) (by simp <;> omega))
          have S3 : Hid (((W3.drew.setCell ⟨A6, 0, none⟩ (.slice ak j ck)).setCell ⟨A6, 1, none⟩ (.int .i64 (gn0 : Int))).cell? ⟨K, 1, none⟩ = some (.int .i64 (q : Int)) ∧ ((W3.drew.setCell ⟨A6, 0, none⟩ (.slice ak j ck)).setCell ⟨A6, 1, none⟩ (.int .i64 (gn0 : Int))).cell? ⟨K + 1, 0, none⟩ = some (.slice ak j ck) ∧ ((W3.drew.setCell ⟨A6, 0, none⟩ (.slice ak j ck)).setCell ⟨A6, 1, none⟩ (.int .i64 (gn0 : Int))).cell? ⟨K + 1, 1, none⟩ = some (.int .i64 (gn0 : Int))) := ⟨Z6.out.c1, Z7.out.c0, Z7.out.c1⟩
          have e0 := X8.out.c0
          have e1 := X8.out.c1
          have f0 := X8.out.f0
          have f1 := X8.out.f1
          go_region_held3 (fun V => V.cell? ⟨K, 1, none⟩ = some (.int .i64 (q : Int)) ∧ V.cell? ⟨K + 1, 0, none⟩ = some (.slice ak j ck) ∧ V.cell? ⟨K + 1, 1, none⟩ = some (.int .i64 (gn0 : Int)))
            (first | (exact S1.out) | (exact S2.out) | (exact S3.out))
            (first | fail)
          clear e0 e1 f0 f1
          obtain ⟨W7, hW7⟩ : ∃ W7, W7 = ((W3.setCell ⟨A6, 0, none⟩ (.slice ak j ck)).setCell ⟨A6, 1, none⟩ (.int .i64 (gn0 : Int))).drew := ⟨_, rfl⟩
          have hg7 : W3.grownBy W7 (some A6) := by
            rw [hW7]
            refine World.grownBy.andThen (b' := (W3.setCell ⟨A6, 0, none⟩ (.slice ak j ck)).setCell ⟨A6, 1, none⟩ (.int .i64 (gn0 : Int))) ⟨rfl, rfl, rfl, by simp [World.setCell], fun k hk hne => ?_⟩ (below_grown (Below.refl _ _).drew) (fun j hj => by cases hj)
            rw [heap_setCell_other _ _ _ _ (fun e => hne (by rw [e])), heap_setCell_other _ _ _ _ (fun e => hne (by rw [e]))]
          have hx7 : Box W7 A6 73 (.slice ak j ck) (.int .i64 (gn0 : Int)) := by rw [hW7]; exact ((X8.out.set0 _).set1 _).drew
          have RG7 := Lib.hid (RG3.out.kept hg7 (by simp <;> omega) (by simp))
          have BW7 : Hid (RowKit.Below A6 W0 W7) := BW3.out.grown hg7 (Nat.le_of_lt hA6K) (fun k hk => by cases hk; exact Nat.le_refl _)
          have HX7 := Lib.hid hx7
          have HW7 := Lib.hid hW7
          have hm7 : W7.rangeLeft g (A6 + 1) = cnt1 := RG7.out.left_eq
          clear hW7 hg7 hx7 S1 S2 S3 Y6 Y7 Z6 Z7
          go_wp2
          rw [← HW7.out]
          exact ⟨⟨L1, cnt1, RG7, BW7, _, _, HX7.out, fun _ => ⟨rfl, rfl, rfl⟩⟩, by rw [hm7, hml]; omega⟩
end Go.Proofs.Yteegbkbphfmooaa
