/-
  The map from texts to distances that the program keeps (mathematics of data). Condition: the tours are valid, of one size.
-/
import Derived.Test.YtgdejippddcekaaDoor7R
import Derived.Test.YtgdejippddcekaaDoor4Dx
import Derived.Maps.Views
namespace Go.Proofs.YtgdejippddcekaaDoor
open Go.ChangeShapes Go.WideShapes Go.ChangeAt Go.RowKit
open Go.Maps (IsMap)
set_option linter.unusedVariables false

/-- A tour's key. -/
noncomputable def kyT (m : Nat) (x : List Int) : Lit := .string (fmtR (m : Int) x)
theorem kyT_inj {m : Nat} {x y : List Int} (hx : Ok (m : Int) x) (hy : Ok (m : Int) y) (h : kyT m x = kyT m y) : x = y := by
  unfold kyT at h
  simp only [Lit.string.injEq] at h
  exact fmt_inj hx hy h
theorem ky_lit (m : Nat) (x : List Int) : WideAt.IsKeyLit (kyT m x) := trivial
noncomputable def putT (m : Nat) (M : DataW Unit) (p : List Int × Nat) : DataW Unit := M.put (kyT m p.1) (.lit (.int .i64 (p.2 : Int)))
/-- The map when D has been found. -/
noncomputable def mapT (m : Nat) (D : Bf.Fd (List Int)) : DataW Unit := D.foldl (putT m) (.map [])
theorem mapT_snoc (m : Nat) (D : Bf.Fd (List Int)) (x : List Int) (d : Nat) : mapT m (D ++ [(x, d)]) = (mapT m D).put (kyT m x) (.lit (.int .i64 (d : Int))) := by
  unfold mapT; rw [List.foldl_append]; rfl
theorem fold_is (m : Nat) : ∀ (L : Bf.Fd (List Int)) (M : DataW Unit), IsMap M → IsMap (L.foldl (putT m) M)
  | [], M, h => h
  | p :: L, M, h => fold_is m L _ (h.put _ _)
theorem fold_other (m : Nat) (k : Lit) (z : DataW Unit) : ∀ (L : Bf.Fd (List Int)) (M : DataW Unit), (∀ p ∈ L, kyT m p.1 ≠ k) → (L.foldl (putT m) M).atKey k z = M.atKey k z ∧ Maps.has (L.foldl (putT m) M) k = Maps.has M k
  | [], M, _ => ⟨rfl, rfl⟩
  | p :: L, M, h => by
    obtain ⟨h1, h2⟩ := fold_other m k z L (putT m M p) (fun q hq => h q (by simp [hq]))
    have hne : k ≠ kyT m p.1 := fun e => h p (by simp) e.symm
    refine ⟨h1.trans ?_, h2.trans ?_⟩
    · exact Maps.atKey_put_other hne _ _
    · exact Maps.has_put_other hne _
theorem fold_same (m : Nat) (x : List Int) (d : Nat) (z : DataW Unit) : ∀ (L : Bf.Fd (List Int)) (M : DataW Unit), IsMap M → (∀ p ∈ L, Ok (m : Int) p.1) → (L.map Prod.fst).Nodup → (x, d) ∈ L →
    (L.foldl (putT m) M).atKey (kyT m x) z = .lit (.int .i64 (d : Int)) ∧ Maps.has (L.foldl (putT m) M) (kyT m x) = true
  | [], _, _, _, _, h => by simp at h
  | p :: L, M, hM, hok, hnd, h => by
    rw [List.map_cons, List.nodup_cons] at hnd
    rcases List.mem_cons.1 h with e | h
    · subst e
      have hx := hok (x, d) (by simp)
      obtain ⟨h1, h2⟩ := fold_other m (kyT m x) z L (putT m M (x, d)) (fun q hq e => by
        have := kyT_inj (hok q (by simp [hq])) hx e
        exact hnd.1 (List.mem_map.2 ⟨q, hq, this⟩))
      refine ⟨h1.trans ?_, h2.trans ?_⟩
      · exact Maps.atKey_put_same hM (ky_lit m x) _ _
      · exact Maps.has_put_same hM (ky_lit m x) _
    · exact fold_same m x d z L _ (hM.put _ _) (fun q hq => hok q (by simp [hq])) hnd.2 h
theorem mapT_look {m : Nat} {D : Bf.Fd (List Int)} (hok : ∀ p ∈ D, Ok (m : Int) p.1) (hnd : (D.map Prod.fst).Nodup) {x : List Int} {d : Nat} (h : (x, d) ∈ D) (z : DataW Unit) :
    (mapT m D).atKey (kyT m x) z = .lit (.int .i64 (d : Int)) ∧ Maps.has (mapT m D) (kyT m x) = true := fold_same m x d z D _ Maps.isMap_empty hok hnd h
theorem mapT_no {m : Nat} {D : Bf.Fd (List Int)} (hok : ∀ p ∈ D, Ok (m : Int) p.1) {x : List Int} (hx : Ok (m : Int) x) (h : x ∉ D.map Prod.fst) : Maps.has (mapT m D) (kyT m x) = false := by
  have := (fold_other m (kyT m x) (.lit (.int .i64 0)) D (.map []) (fun p hp e => h (List.mem_map.2 ⟨p, hp, kyT_inj (hok p hp) hx e⟩))).2
  exact this
/-- Whether a tour has been found, as the map says it. -/
theorem mapT_has {m : Nat} {D : Bf.Fd (List Int)} (hok : ∀ p ∈ D, Ok (m : Int) p.1) (hnd : (D.map Prod.fst).Nodup) {x : List Int} (hx : Ok (m : Int) x) : Maps.has (mapT m D) (kyT m x) = decide (x ∈ D.map Prod.fst) := by
  by_cases h : x ∈ D.map Prod.fst
  · rw [decide_eq_true h]
    obtain ⟨⟨y, d⟩, hp, e⟩ := List.mem_map.1 h
    simp only at e
    subst e
    exact (mapT_look hok hnd hp (.lit (.int .i64 0))).2
  · rw [decide_eq_false h]; exact mapT_no hok hx h
end Go.Proofs.YtgdejippddcekaaDoor
