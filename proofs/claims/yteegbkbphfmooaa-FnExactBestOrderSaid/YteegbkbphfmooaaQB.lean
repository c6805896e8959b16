/-
  Ranges over the program's map of beginnings. No conditions else.
-/
import Derived.Test.YteegbkbphfmooaaQA
namespace Go.Proofs.Yteegbkbphfmooaa
open Go.ChangeShapes Go.WideShapes Go.ChangeAt Go.RowKit Go.Sort
set_option linter.unusedVariables false

/-- A range over the map under way: 'L': which entries are still to come. -/
def Rg (W : World) (b r n : Nat) (M : Nat → Nat → Option Value) (L : Nat → Nat → Bool) (cnt : Nat) : Prop :=
  ∃ D left, W.ranges Try.prog 108 RV b r n D left cnt ∧ Vw D M ∧ (∀ s q, s < 256 → q ≤ 200 → left (kl s q) = L s q) ∧ ∀ l, left l = true → Maps.has D l = true
theorem Rg.owns {W : World} {b r n : Nat} {M : Nat → Nat → Option Value} {L : Nat → Nat → Bool} {cnt : Nat} (h : Rg W b r n M L cnt) : ∃ D, W.ownsMap Try.prog 108 RV b n D ∧ Vw D M := by
  obtain ⟨D, left, h1, h2, _⟩ := h
  exact ⟨D, h1.owns, h2⟩
theorem Rg.kept {W W' : World} {b r n : Nat} {M : Nat → Nat → Option Value} {L : Nat → Nat → Bool} {cnt : Nat} {row : Option Nat} (h : Rg W b r n M L cnt) (hg : W.grownBy W' row) (hb : some b ≠ row) (hr : some r ≠ row) : Rg W' b r n M L cnt := by
  obtain ⟨D, left, h1, h2⟩ := h
  exact ⟨D, left, h1.kept hg hb hr, h2⟩
theorem Rg.left_eq {W : World} {b r n : Nat} {M : Nat → Nat → Option Value} {L : Nat → Nat → Bool} {cnt : Nat} (h : Rg W b r n M L cnt) : W.rangeLeft b r = cnt := by
  obtain ⟨D, left, h1, _⟩ := h
  exact h1.left_eq
theorem Rg.ne {W : World} {b r n : Nat} {M : Nat → Nat → Option Value} {L : Nat → Nat → Bool} {cnt : Nat} (h : Rg W b r n M L cnt) : r ≠ b ∧ r < W.heap.size ∧ b < W.heap.size := by
  obtain ⟨D, left, h1, _⟩ := h
  exact ⟨h1.ne, h1.lt, h1.owns.lt⟩
set_option maxRecDepth 100000 in
theorem key_of {l : Lit} {key : Value} {s q : Nat} (hs : s < 256) (hq : q ≤ 200) (hk : keyOf Try.prog 108 key = some l) (e : l = kl s q) : key = KV s q := by
  rw [e] at hk
  exact kyd.inj hk (kl_eq (show s < 1000 by omega) (show q < 1000 by omega))
set_option maxRecDepth 100000 in
theorem same_kl {s q s' q' : Nat} (hs : s < 256) (hq : q ≤ 200) (hs' : s' < 256) (hq' : q' ≤ 200) : (kl s' q').sameKey (kl s q) = decide (s' = s ∧ q' = q) := by
  by_cases e : s' = s ∧ q' = q
  · obtain ⟨rfl, rfl⟩ := e
    rw [WideAt.sameKey_self (kl_key (show s' < 1000 by omega) (show q' < 1000 by omega))]; simp
  · rw [Maps.sameKey_ne (kl_ne hs hq hs' hq' e), decide_eq_false e]

section
variable (w : World) {ops : Array Oper} {rest : List Oper} {o : Oper} {a : Act} {Q : Exit → Act → World → Prop}
theorem wpList_range_Rg (hg : o.guard = none) (m : Operand) (hop : o.op = Op.range 109 m) (b n : Nat) (M : Nat → Nat → Option Value)
    (hm : a.eval m = .map (some b)) {D : DataW Value} (hown : w.ownsMap Try.prog 108 RV b n D) (hv : Vw D M)
    (hK : ∀ w' cnt, Rg w' b w.heap.size n M (fun s q => (M s q).isSome) cnt → w.grownBy w' none → w'.heap.size = w.heap.size + 1 → wpList Try.prog ops Q rest (a.put o.dst (.pointer (some ⟨w.heap.size, 0, none⟩))) w') :
    wpList Try.prog ops Q (o :: rest) a w :=
  wpList_range_own w hg m _ hop 108 73 kyd Try.underlying109 RV b n D hm hown fun w' h1 h2 h3 =>
    hK w' _ ⟨D, _, h1, hv, fun s q hs hq => hv.has hs hq, fun l hl => hl⟩ h2 h3
set_option maxRecDepth 100000 in
theorem wpList_next_Rg (hg : o.guard = none) (it : Operand) (hop : o.op = Op.next it false) (b r n : Nat) (M : Nat → Nat → Option Value) (L : Nat → Nat → Bool) (cnt : Nat)
    (hit : a.eval it = .pointer (some ⟨r, 0, none⟩)) (h : Rg w b r n M L cnt)
    (hDone : (∀ s q, s < 256 → q ≤ 200 → L s q = false) → wpList Try.prog ops Q rest (a.put o.dst (.tuple #[.bool false])) w)
    (hMore : ∀ (s q : Nat) (v : Value) (w' : World) (cnt' : Nat), s < 256 → q ≤ 200 → M s q = some v → L s q = true → Rg w' b r n M (fun s2 q2 => L s2 q2 && !decide (s2 = s ∧ q2 = q)) cnt' → cnt' < cnt →
      w.grownBy w' (some r) → w'.heap.size = w.heap.size → (Instr.entry (.pointer (some ⟨r, 0, none⟩))).run Try.prog w' = .ok (.tuple #[KV s q, v]) w' → wpList Try.prog ops Q rest (a.put o.dst (.tuple #[.bool true, KV s q, v])) w') :
    wpList Try.prog ops Q (o :: rest) a w := by
  obtain ⟨D, left, h1, hv, hL, hh⟩ := h
  refine wpList_next_ranges w hg it hop 108 kyd RV (mkK := id) (mkV := id) (fun key l _ => ⟨key, rfl⟩) (fun v y _ => ⟨v, rfl⟩) b r n D left cnt hit h1 ?_ ?_
  · intro _ hl
    exact hDone fun s q hs hq => by rw [← hL s q hs hq]; exact hl _
  · intro key v l y w' cnt' hkey hlk hR hat hrg hlt hgr hsz hen
    obtain ⟨s, q, hs, hq, e⟩ := hv.only l (hh l hlk)
    have hk := key_of hs hq hkey e
    simp only [id] at hk
    subst hk
    have hLs : L s q = true := by rw [← hL s q hs hq, ← e]; exact hlk
    have hm : M s q = some v := by
      have hhas := hv.has hs hq
      rw [← e, hh l hlk] at hhas
      obtain ⟨u, hu⟩ := Option.isSome_iff_exists.1 hhas.symm
      have h2 := (hv.yes s q u hs hq hu).2 .nil
      rw [← e, hat] at h2
      have h3 : DataW.held v = DataW.held u := by
        have := Option.some.inj hR
        rw [← h2, ← this]; rfl
      rw [hu, DataW.held.inj h3]
    refine hMore s q v w' cnt' hs hq hm hLs ⟨D, _, hrg, hv, fun s2 q2 hs2 hq2 => ?_, fun l2 hl2 => ?_⟩ hlt hgr hsz hen
    · simp only
      rw [hL s2 q2 hs2 hq2, e, same_kl hs hq hs2 hq2]
    · simp only [Bool.and_eq_true] at hl2
      exact hh l2 hl2.1
set_option maxRecDepth 100000 in
theorem wpList_delete_Rg (hg : o.guard = none) (m x : Operand) (hop : o.op = Op.call { callee := Callee.builtin Builtin.delete, args := #[m, x], argTypes := #[109, 108] })
    (b r n : Nat) (M : Nat → Nat → Option Value) (L : Nat → Nat → Bool) (cnt : Nat)
    (hm : a.eval m = .map (some b)) (h : Rg w b r n M L cnt) (s q : Nat) (hs : s < 256) (hq : q ≤ 200) (hx : a.eval x = KV s q)
    (hK : ∀ w' cnt', Rg w' b r n (fun s2 q2 => if s2 = s ∧ q2 = q then none else M s2 q2) (fun s2 q2 => L s2 q2 && !decide (s2 = s ∧ q2 = q)) cnt' → cnt' ≤ cnt → w.grownBy w' (some b) → w'.heap.size = w.heap.size → wpList Try.prog ops Q rest (a.put o.dst (.tuple #[])) w') :
    wpList Try.prog ops Q (o :: rest) a w := by
  obtain ⟨D, left, h1, hv, hL, hh⟩ := h
  refine wpList_delete_ranges w hg m x 109 108 hop 73 kyd Try.underlying109 RV b r n D left cnt hm h1 (KV s q) (kl s q) hx (kl_eq (show s < 1000 by omega) (show q < 1000 by omega)) ?_
  intro w' cnt' h2 h3 h4
  refine hK w' cnt' ⟨_, _, h2, hv.del hs hq, fun s2 q2 hs2 hq2 => ?_, fun l hl => ?_⟩ h3 h4.grown ?_
  · simp only
    rw [hL s2 q2 hs2 hq2, same_kl hs hq hs2 hq2]
  · simp only [Bool.and_eq_true] at hl
    have hne : l ≠ kl s q := fun e => by
      have h5 := hl.2
      rw [e, WideAt.sameKey_self (kl_key (show s < 1000 by omega) (show q < 1000 by omega))] at h5
      simp at h5
    rw [Maps.has_del_other hne]
    exact hh l hl.1
  · obtain ⟨es, c, es', c', _, rfl⟩ := h4
    simp [Go.ChangeMaps.setBlock]
end
end Go.Proofs.Yteegbkbphfmooaa
