/-
  'l06Cycle' of the model: the first cycle that goes on with a way. Condition: the tour is valid.
-/
import Derived.Test.YtnlpfajncpbjpaaJU
import Derived.Deep.AppendLies
namespace Go.Proofs.Ytnlpfajncpbjpaa
open Go.ChangeShapes Go.WideShapes Go.ChangeAt Go.RowKit Go.Shelf
set_option linter.unusedVariables false

/-- A call by its contract as one step of a region that draws its order: three arguments. -/
theorem step_call3 {P : Program} {ops : Array Oper} {o : Oper} {a : Act} {w : World} {K : Act → World → Prop} {Q : Exit → Act → World → Prop} {E : Prop} (hgd : o.guard = none) (f : FuncId) (x y z : Operand) (ts : Array TypeId) (v0 v1 v2 : Value)
    (ho : o.op = .call { callee := .value (.func f), args := #[x, y, z], argTypes := ts }) (hx : a.eval x = v0) (hy : a.eval y = v1) (hz : a.eval z = v2) (ef : ∀ args w, (callFunc f args).run P w = .ok (.enter f args) w)
    {R : Value → World → Prop} (hc : Calls P f #[v0, v1, v2] w fun e w' => ∃ v, e = .returned v ∧ R v w') (h : ∀ v w', R v w' → K (a.put o.dst v) w') :
    if Region.wanted o (yielded ops a.tmps) = true then Oper.wp P o a w K Q else E := by
  have hw : Region.wanted o (yielded ops a.tmps) = true := by simp [Region.wanted, hgd]
  rw [if_pos hw]
  unfold Oper.wp
  have hv : a.eval (.func f) = .func (.func f) #[] #[] := rfl
  have hrun : (execOp a.eval o).run P w = .ok (.enter f #[v0, v1, v2]) w := by
    simp [execOp, ho, resolve, invoke, hx, hy, hz, hv, ef, Deferred.ofValue]
  rw [hrun, Oper.upon_enter]
  refine hc.mono ?_
  rintro e w' ⟨v, rfl, hr⟩
  exact h v w' hr
theorem addr_add (g j : Nat) : (⟨g, 0, none⟩ : Addr).add j = ⟨g, j, none⟩ := by unfold Addr.add; split <;> simp_all
theorem own_src {W : World} {B g n c : Nat} {xs : List Value} (h : W.ownsRow B 3 1 (.slice (some ⟨g, 0, none⟩) n c) n xs) : ∀ j v, xs[j]? = some v → W.cell? ((⟨g, 0, none⟩ : Addr).add j) = some v := by
  intro j v hj
  have hl : xs.length = n := by simpa using h.1
  have hjn : j < n := by
    rcases Nat.lt_or_ge j xs.length with h1 | h1
    · omega
    · rw [List.getElem?_eq_none h1] at hj; cases hj
  rw [addr_add, h.cellAt j (by omega), hj]
/-- Whether the last one beats the first one. -/
def cE (l : List Int) (w : List Nat) : Bool := (ww l (w.getLastD 0)).testBit (w.getD 0 0)
/-- What the search answers. -/
def CyP (B : Nat) (r : Option (List Nat)) (w : World) (e : Ending) (w' : World) : Prop :=
  ∃ v, e = .returned (.tuple #[v, .bool r.isSome]) ∧ (∀ y, r = some y → w'.ownsRow B 3 1 v y.length (y.map nv)) ∧ Below w.heap.size w w'
theorem cyP_ret {B : Nat} {r : Option (List Nat)} {w : World} {e : Ending} {w' : World} (h : CyP B r w e w') : ∃ v, e = .returned v ∧ ∃ u, v = .tuple #[u, .bool r.isSome] ∧ (∀ y, r = some y → w'.ownsRow B 3 1 u y.length (y.map nv)) ∧ Below w.heap.size w w' := by
  obtain ⟨v, h1, h2, h3⟩ := h
  exact ⟨_, h1, v, rfl, h2, h3⟩

/-- What a call of the search does. -/
def CyC (n : Int) (a : Option Addr) (l : List Int) (cap : Nat) (k : Int) (m : Nat) : Prop :=
  ∀ (p : List Nat) (B g c0 : Nat) (w : World), IntRow w a l → p.length + m = 8 → Hw.Way (ww l) p → p ≠ [] → (∀ x ∈ p, x < l.length) → B ≤ w.heap.size →
    w.ownsRow B 3 1 (.slice (some ⟨g, 0, none⟩) p.length c0) p.length (p.map nv) →
    Calls Try.prog 80 #[.agg #[.int .i64 n, .slice a l.length cap], .slice (some ⟨g, 0, none⟩) p.length c0, .int .i64 k] w (CyP B ((Hw.ext (ww l) k m p).find? (cE l)) w)

set_option maxRecDepth 100000 in
set_option maxHeartbeats 4000000 in
theorem l06Cycle_at (n : Int) (a : Option Addr) (l : List Int) (cap : Nat) (k : Int) (hok : Ok n l) (m : Nat) (p : List Nat) (B g c0 : Nat) (w : World) (hrow : IntRow w a l) (hm : p.length + m = 8) (hway : Hw.Way (ww l) p) (hne : p ≠ []) (hlow : ∀ x ∈ p, x < l.length) (hB : B ≤ w.heap.size)
    (hown : w.ownsRow B 3 1 (.slice (some ⟨g, 0, none⟩) p.length c0) p.length (p.map nv)) (hk : (p.length : Int) = k) :
    Calls Try.prog 80 #[.agg #[.int .i64 n, .slice a l.length cap], .slice (some ⟨g, 0, none⟩) p.length c0, .int .i64 k] w (CyP B ((Hw.ext (ww l) k m p).find? (cE l)) w) := by
  have hl8 : l.length ≤ 8 := by have := hok.2.1; have := hok.2.2.1; omega
  have hlm : l.length ≤ maxLen := by unfold maxLen; omega
  have hpos := List.length_pos_iff.2 hne
  have hpl : p.length ≤ l.length := Hw.way_len hway.1 hlow
  obtain ⟨kp, hkp⟩ : ∃ kp, kp = p.length := ⟨_, rfl⟩
  rw [← hkp] at hown hpos hpl hm hk ⊢
  obtain ⟨u, hu⟩ : ∃ u, u = p.getLastD 0 := ⟨_, rfl⟩
  have hul : u < l.length := by rw [hu, Hw.last_getD p hne]; exact hlow _ (getD_mem (by omega))
  obtain ⟨Wa, hWa⟩ : ∃ Wa, Wa = w.alloc (.cells #[.int .i64 n, .slice a l.length cap] 25) := ⟨_, rfl⟩
  have hba : Below w.heap.size w Wa := by rw [hWa]; exact (Below.refl _ _).alloc (Nat.le_refl _) _
  have xa : Box Wa w.heap.size 25 (.int .i64 n) (.slice a l.length cap) := by rw [hWa]; exact Box.new _ _ _ _
  have hrowa : IntRow Wa a l := hrow.below hba (Nat.le_refl _)
  have howa := own_below hown hba
  have hcu : Wa.cell? ⟨g, kp - 1, none⟩ = some (.int .i64 (u : Int)) := by
    rw [howa.cellAt (kp - 1) (by omega), List.getElem?_map, hu, Hw.last_getD p hne, ← hkp, List.getD_eq_getElem?_getD, List.getElem?_eq_getElem (by omega)]; rfl
  have hk1 : (1 : Int) ≤ (kp : Int) := by omega
  have hk3 : ((kp : Int) - 1).toNat = kp - 1 := by omega
  have hkb : ((kp : Int) == k) = true := by rw [hk]; simp
  obtain ⟨v, hv⟩ : ∃ v, v = p.getD 0 0 := ⟨_, rfl⟩
  have hvl : v < l.length := by rw [hv]; exact hlow _ (getD_mem (by omega))
  have hcv : Wa.cell? ⟨g, 0, none⟩ = some (.int .i64 (v : Int)) := by
    rw [howa.cellAt 0 (by omega), List.getElem?_map, hv, List.getD_eq_getElem?_getD, List.getElem?_eq_getElem (by omega)]; rfl
  have hr : (Hw.ext (ww l) k m p).find? (cE l) = if (ww l u).testBit v then some p else none := by
    rw [Hw.ext_at (by rw [← hkp]; exact hk), List.find?_singleton]
    unfold cE; rw [← hu, ← hv]
  have c0' := xa.c0
  have c1' := xa.c1
  have hq0 := fun d os => cell_regrown c0' d os
  have hq1 := fun d os => cell_regrown c1' d os
  have hqv := fun d os => cell_regrown hcv d os
  have hrq : ∀ d os, IntRow (Go.Sort.grow (redrawn Wa d) os) a l := fun d os => hrowa.below (below_regrown Wa d os) (Nat.le_refl _)
  have cB : ∀ d os, Calls Try.prog 74 #[.agg #[.int .i64 n, .slice a l.length cap], .int .i64 (u : Int), .int .i64 (v : Int)] (Go.Sort.grow (redrawn Wa d) os) fun e w'' => e = .returned (.bool ((ww l u).testBit v)) ∧ ∃ p : Regrown, w'' = Go.Sort.grow (redrawn Wa p.d) p.os :=
    fun d os => Calls.regrown_of ((l02Beats_any _ _ l cap u v _ (hrq d os) hlm hul (by omega)).mono fun e w' ⟨he, hw⟩ => ⟨by rw [he, wwBit hok hul], hw⟩)
  have hbs : ((Hw.ext (ww l) k m p).find? (cE l)).isSome = (ww l u).testBit v := by rw [hr]; cases (ww l u).testBit v <;> rfl
  have HBS := Lib.hid hbs
  have HR : Hid (∀ y, (Hw.ext (ww l) k m p).find? (cE l) = some y → y = p) := by
    intro y hy
    rw [hr] at hy
    split at hy
    · exact (Option.some.inj hy).symm
    · cases hy
  have HOA := Lib.hid howa
  have HWa := Lib.hid hWa
  have HKP := Lib.hid hkp
  rw [HWa.out] at hcu
  clear hr hbs hrq hk c0' c1' hcv hu hv hown howa hrowa hrow hWa hway hlow hkp hok hlm xa hne hm
  go_enter Try.func80, Try.ntmps80
  go_wp2
  rw [← HWa.out]
  refine wp_region_quiet_below (by kernel_rfl) (by kernel_rfl) ?_
  repeat (go_big_quiet_step (exact cB _ _))
  refine wpQuiet_nil ?_
  intro wq hw'
  have hbq : Below Wa.heap.size Wa wq := by obtain ⟨⟨dq, osq⟩, hw''⟩ := hw'; rw [hw'']; exact below_regrown Wa dq osq
  have HBQ := Lib.hid (hba.trans (hbq.mono hba.size))
  have HOQ := Lib.hid (own_below HOA.out hbq)
  clear hw' cB hq0 hq1 hqv hbq hba hcu
  go_wp2
  go_ret2
  refine ⟨_, by rw [HBS.out]; rfl, fun y hy => ?_, HBQ.out⟩
  obtain rfl := HR.out y hy
  rw [← HKP.out]; exact HOQ.out
end Go.Proofs.Ytnlpfajncpbjpaa
