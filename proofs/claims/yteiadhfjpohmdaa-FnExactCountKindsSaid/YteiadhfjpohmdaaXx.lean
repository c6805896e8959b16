/-
  The program's map of tables, as a list of tours. No conditions else.
-/
import Derived.Test.YteiadhfjpohmdaaXw
import Derived.Test.YteiadhfjpohmdaaXi
import Derived.Maps.OwnSet
import Derived.DeepKeys4
import Derived.WideKeyArgs
namespace Go.Proofs.Yteiadhfjpohmdaa
open Go.ChangeShapes Go.WideShapes Go.ChangeAt Go.RowKit Go.Sort
set_option linter.unusedVariables false

theorem rowKr : (76 : TypeId) < Try.prog.types.size := of_decide_eq_true (by kernel_rfl)
theorem wideKr : (match Try.prog.underlying 76 with | some (.array _ _) | some (.struct _) => true | _ => false) = true := by rw [Try.underlying76]
theorem krAt : Try.prog.keyTypeAt 3 76 = true := by kernel_rfl
set_option maxRecDepth 100000 in
theorem krLaw : Go.WideMaps.KeyLaw Try.prog 76 := deep_law_laid laidOut (m := 3) (by omega) rowKr krAt wideKr
theorem krd : Maps.Keyed Try.prog 76 := Maps.Keyed.of_law krLaw
theorem keyTypeKr : Try.prog.keyType 76 = true := by kernel_rfl
theorem cellsKr : Try.prog.cellsOf 76 = 9 := by kernel_rfl
theorem cellsKa : Try.prog.cellsOf 74 = 8 := by kernel_rfl
theorem cellsKi : Try.prog.cellsOf 3 = 1 := by kernel_rfl
theorem wfNr (z : Nat) (h : z < 1000) : (Lit.int .i64 (z : Int)).wf = true := by
  have e1 : IntKind.i64.min = -9223372036854775808 := by decide
  have e2 : IntKind.i64.max = 9223372036854775807 := by decide
  simp only [Lit.wf, e1, e2, Bool.and_eq_true, decide_eq_true_eq]
  omega
theorem litsIr (D : Nat) (z : Nat) (h : z < 1000) : Try.prog.keyLits (D + 1) 3 [.int .i64 (z : Int)] = some [.int .i64 (z : Int)] := by
  unfold Program.keyLits
  rw [Try.underlying3]
  simp [wfNr z h]
theorem litsAr (D a0 a1 a2 a3 a4 a5 a6 a7 : Nat) (h0 : a0 < 1000) (h1 : a1 < 1000) (h2 : a2 < 1000) (h3 : a3 < 1000) (h4 : a4 < 1000) (h5 : a5 < 1000) (h6 : a6 < 1000) (h7 : a7 < 1000) :
    Try.prog.keyLits (D + 1 + 1) 74 [.int .i64 (a0 : Int), .int .i64 (a1 : Int), .int .i64 (a2 : Int), .int .i64 (a3 : Int), .int .i64 (a4 : Int), .int .i64 (a5 : Int), .int .i64 (a6 : Int), .int .i64 (a7 : Int)] =
      some [.int .i64 (a0 : Int), .int .i64 (a1 : Int), .int .i64 (a2 : Int), .int .i64 (a3 : Int), .int .i64 (a4 : Int), .int .i64 (a5 : Int), .int .i64 (a6 : Int), .int .i64 (a7 : Int)] := by
  unfold Program.keyLits
  rw [underArr]
  simp [cellsKi, cellsKa, show List.range 8 = [0, 1, 2, 3, 4, 5, 6, 7] from rfl, litsIr D a0 h0, litsIr D a1 h1, litsIr D a2 h2, litsIr D a3 h3, litsIr D a4 h4, litsIr D a5 h5, litsIr D a6 h6, litsIr D a7 h7]
theorem litsRr (D s a0 a1 a2 a3 a4 a5 a6 a7 : Nat) (hs : s < 1000) (h0 : a0 < 1000) (h1 : a1 < 1000) (h2 : a2 < 1000) (h3 : a3 < 1000) (h4 : a4 < 1000) (h5 : a5 < 1000) (h6 : a6 < 1000) (h7 : a7 < 1000) :
    Try.prog.keyLits (D + 1 + 1 + 1) 76 [.int .i64 (s : Int), .int .i64 (a0 : Int), .int .i64 (a1 : Int), .int .i64 (a2 : Int), .int .i64 (a3 : Int), .int .i64 (a4 : Int), .int .i64 (a5 : Int), .int .i64 (a6 : Int), .int .i64 (a7 : Int)] =
      some [.int .i64 (s : Int), .int .i64 (a0 : Int), .int .i64 (a1 : Int), .int .i64 (a2 : Int), .int .i64 (a3 : Int), .int .i64 (a4 : Int), .int .i64 (a5 : Int), .int .i64 (a6 : Int), .int .i64 (a7 : Int)] := by
  unfold Program.keyLits
  rw [Try.underlying76]
  simp [cellsKi, cellsKa, cellsKr, litsIr (D + 1) s hs, litsAr D a0 a1 a2 a3 a4 a5 a6 a7 h0 h1 h2 h3 h4 h5 h6 h7]
/-- A key: a size and eight sets. -/
def KR (s : Nat) (l : List Int) : Value := .agg (resV (s : Int) l)
/-- Lists that a key is made of. -/
def Kt (n : Nat) (t : List Nat) : Prop := n ≤ 8 ∧ t.length = n ∧ ∀ y ∈ t, y < 256
theorem eightR {L : List Nat} (h : L.length = 8) : ∃ a0 a1 a2 a3 a4 a5 a6 a7, L = [a0, a1, a2, a3, a4, a5, a6, a7] := by
  match L, h with
  | [a0, a1, a2, a3, a4, a5, a6, a7], _ => exact ⟨_, _, _, _, _, _, _, _, rfl⟩
def padN (t : List Nat) : List Nat := t ++ List.replicate (8 - t.length) 0
theorem padN_eq (t : List Nat) : padX (t.map Int.ofNat) = (padN t).map Int.ofNat := by
  unfold padX padN
  rw [List.map_append, List.map_replicate, List.length_map]
  rfl
theorem padN_len {t : List Nat} (h : t.length ≤ 8) : (padN t).length = 8 := by simp [padN]; omega
theorem padN_lt {t : List Nat} (h : ∀ y ∈ t, y < 256) : ∀ y ∈ padN t, y < 256 := by
  intro y hy
  rcases List.mem_append.1 hy with hy | hy
  · exact h y hy
  · rw [(List.mem_replicate.1 hy).2]; decide
set_option maxRecDepth 100000 in
theorem formedKr {vs : Array Value} (h : vs.size = 9) : (Value.agg vs).formed Try.prog 76 = true := by simp [Value.formed, Try.underlying76, cellsKr, h]
set_option maxRecDepth 100000 in
theorem kr_ex {n : Nat} {t : List Nat} (h : Kt n t) : ∃ l, keyOf Try.prog 76 (KR n (t.map Int.ofNat)) = some l := by
  obtain ⟨h8, hl, hlt⟩ := h
  obtain ⟨D, hD⟩ : ∃ D, Try.prog.types.size = D + 1 + 1 := ⟨Try.prog.types.size - 2, by
    have h1 : (2 : Nat) ≤ 76 := by decide
    have h2 : (76 : Nat) < Try.prog.types.size := rowKr
    omega⟩
  obtain ⟨a0, a1, a2, a3, a4, a5, a6, a7, he⟩ := eightR (padN_len (t := t) (by omega))
  have hb := padN_lt hlt
  rw [he] at hb
  have hc : (Value.agg (resV (n : Int) (t.map Int.ofNat))).cells.toList = [.int .i64 (n : Int), .int .i64 (a0 : Int), .int .i64 (a1 : Int), .int .i64 (a2 : Int), .int .i64 (a3 : Int), .int .i64 (a4 : Int), .int .i64 (a5 : Int), .int .i64 (a6 : Int), .int .i64 (a7 : Int)] := by
    show (resV (n : Int) (t.map Int.ofNat)).toList = _
    unfold resV resL
    rw [padN_eq, he]
    rfl
  have hf := formedKr (vs := resV (n : Int) (t.map Int.ofNat)) (resV_size (by rw [List.length_map]; omega))
  refine ⟨.string (keyBytes [.int .i64 (n : Int), .int .i64 (a0 : Int), .int .i64 (a1 : Int), .int .i64 (a2 : Int), .int .i64 (a3 : Int), .int .i64 (a4 : Int), .int .i64 (a5 : Int), .int .i64 (a6 : Int), .int .i64 (a7 : Int)]), ?_⟩
  unfold keyOf KR
  rw [Try.underlying76]
  simp only [keyTypeKr, hf, Bool.and_self, if_true]
  rw [hD, hc, litsRr D n a0 a1 a2 a3 a4 a5 a6 a7 (by omega) (by have := hb a0 (by simp); omega) (by have := hb a1 (by simp); omega) (by have := hb a2 (by simp); omega) (by have := hb a3 (by simp); omega) (by have := hb a4 (by simp); omega) (by have := hb a5 (by simp); omega) (by have := hb a6 (by simp); omega) (by have := hb a7 (by simp); omega)]
  rfl
/-- What a key reads as. -/
noncomputable def kr (n : Nat) (t : List Nat) : Lit := (keyOf Try.prog 76 (KR n (t.map Int.ofNat))).getD (.string [])
set_option maxRecDepth 100000 in
theorem kr_eq {n : Nat} {t : List Nat} (h : Kt n t) : keyOf Try.prog 76 (KR n (t.map Int.ofNat)) = some (kr n t) := by
  obtain ⟨l, h⟩ := kr_ex h
  unfold kr; rw [h]; rfl
theorem ofN_inj : ∀ {x y : List Nat}, x.map Int.ofNat = y.map Int.ofNat → x = y
  | [], [], _ => rfl
  | [], _ :: _, h => by simp at h
  | _ :: _, [], h => by simp at h
  | x :: xs, y :: ys, h => by
    rw [List.map_cons, List.map_cons, List.cons.injEq] at h
    rw [ofN_inj h.2, Int.ofNat.inj h.1]
theorem iv_inj : ∀ {x y : List Int}, x.map iv = y.map iv → x = y
  | [], [], _ => rfl
  | [], _ :: _, h => by simp at h
  | _ :: _, [], h => by simp at h
  | x :: xs, y :: ys, h => by
    rw [List.map_cons, List.map_cons, List.cons.injEq] at h
    have h1 : x = y := by have := h.1; unfold iv at this; injection this
    rw [iv_inj h.2, h1]
set_option maxRecDepth 100000 in
theorem kr_inj {n : Nat} {t u : List Nat} (ht : Kt n t) (hu : Kt n u) (h : kr n t = kr n u) : t = u := by
  have h1 := kr_eq ht
  have h2 := kr_eq hu
  rw [← h] at h2
  have h3 := krd.inj h1 h2
  unfold KR resV resL at h3
  have h4 : iv (n : Int) :: (padX (t.map Int.ofNat)).map iv = iv (n : Int) :: (padX (u.map Int.ofNat)).map iv := by
    have h5 := Value.agg.inj h3
    have := congrArg Array.toList h5
    simpa using this
  have h6 := iv_inj (List.cons.inj h4).2
  unfold padX at h6
  have h7 := (List.append_inj h6 (by rw [List.length_map, List.length_map, ht.2.1, hu.2.1])).1
  exact ofN_inj h7
set_option maxRecDepth 100000 in
theorem kr_key {n : Nat} {t : List Nat} (h : Kt n t) : WideAt.IsKeyLit (kr n t) := krd.key (kr_eq h)
/-- How an element's value reads: as it is. -/
def RB (v : Value) : Option (DataW Value × List MemPlace) := some (.held v, [])
/-- A datum that holds the tours of a list. -/
structure Vr (n : Nat) (D : DataW Value) (L : List (List Nat)) : Prop where
  isMap : Maps.IsMap D
  no : ∀ t, Kt n t → t ∉ L → Maps.has D (kr n t) = false
  yes : ∀ t, Kt n t → t ∈ L → Maps.has D (kr n t) = true ∧ ∀ z, D.atKey (kr n t) z = .held (.bool true)
section
variable {n : Nat} {D : DataW Value} {L : List (List Nat)}
theorem Vr.empty (n : Nat) : Vr n (.map []) [] := ⟨⟨[], rfl⟩, fun _ _ _ => rfl, (fun _ _ h => by simp at h)⟩
set_option maxRecDepth 100000 in
theorem Vr.put (h : Vr n D L) {t : List Nat} (ht : Kt n t) : Vr n (D.put (kr n t) (.held (.bool true))) (L ++ [t]) := by
  refine ⟨h.isMap.put _ _, fun u hu hm => ?_, fun u hu hm => ?_⟩
  · rw [List.mem_append, List.mem_singleton] at hm
    rw [Maps.has_put_other (fun e => hm (.inr (kr_inj hu ht e)))]
    exact h.no u hu (fun e => hm (.inl e))
  · by_cases e : u = t
    · subst e
      exact ⟨Maps.has_put_same h.isMap (kr_key ht) _, fun z => Maps.atKey_put_same h.isMap (kr_key ht) _ _⟩
    · rw [List.mem_append, List.mem_singleton] at hm
      have hL : u ∈ L := hm.resolve_right e
      obtain ⟨h1, h2⟩ := h.yes u hu hL
      have hne : kr n u ≠ kr n t := fun e2 => e (kr_inj hu ht e2)
      exact ⟨by rw [Maps.has_put_other hne]; exact h1, fun z => by rw [Maps.atKey_put_other hne]; exact h2 z⟩
end
set_option maxRecDepth 100000 in
theorem zeroB_run (w : World) : (zeroValue 4).run Try.prog w = .ok (.bool false) w := by kernel_rfl
set_option maxRecDepth 100000 in
/-- A look-up. -/
theorem look_res {w : World} {b N n : Nat} {D : DataW Value} {L : List (List Nat)} (h : w.ownsMap Try.prog 76 RB b N D) (hv : Vr n D L) {t : List Nat} (ht : Kt n t) :
    (Instr.lookup 78 (.map (some b)) (.agg (resV (n : Int) (t.map Int.ofNat))) false).run Try.prog w = .ok (.bool (Kd.inN t L)) w := by
  obtain ⟨v, ps, hrun, hR⟩ := h.lookup krd Try.underlying78 (zeroB_run w) (zd := .held (.bool false)) (zp := []) rfl (kr_eq ht)
  unfold KR at hrun
  rw [hrun]
  congr 1
  have h1 : DataW.held v = D.atKey (kr n t) (.held (.bool false)) := by
    have := Option.some.inj hR
    exact (Prod.mk.inj this).1
  cases hm : Kd.inN t L
  · rw [Maps.atKey_of_not_has (hv.no t ht (fun e => by rw [Kd.inN_iff.2 e] at hm; cases hm))] at h1
    exact DataW.held.inj h1
  · rw [(hv.yes t ht (Kd.inN_iff.1 hm)).2] at h1
    exact DataW.held.inj h1
set_option maxRecDepth 100000 in
/-- A store. -/
theorem store_res {w : World} {b N n : Nat} {D : DataW Value} {L : List (List Nat)} (h : w.ownsMap Try.prog 76 RB b N D) (hv : Vr n D L) (hN : N < maxLen) {t : List Nat} (ht : Kt n t) :
    ∃ w' D', (Instr.mapUpdate 78 (.map (some b)) (.agg (resV (n : Int) (t.map Int.ofNat))) (.bool true)).run Try.prog w = .ok () w' ∧ w'.ownsMap Try.prog 76 RB b (N + 1) D' ∧ Vr n D' (L ++ [t]) ∧ w.grownBy w' (some b) := by
  obtain ⟨w', h1, h2, h3⟩ := h.update krd Try.underlying78 hN (kr_eq ht) (show RB (.bool true) = some (.held (.bool true), []) from rfl)
  exact ⟨w', _, h1, h2, hv.put ht, h3⟩
end Go.Proofs.Yteiadhfjpohmdaa
