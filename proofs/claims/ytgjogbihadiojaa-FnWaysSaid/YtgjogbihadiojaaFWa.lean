/-
  'FnWays', its mathematics over valid tours: the number of full ways is odd and that of full cycles tells who is strong; both are those of the turned and of the renamed tour. No program, no conditions.
-/
import Derived.Test.YtgjogbihadiojaaVP
import Derived.Test.YtgjogbihadiojaaVF
import Derived.Test.YtgjogbihadiojaaJ6
namespace Go.Proofs.Ytgjogbihadiojaa
open Go.ChangeShapes Go.WideShapes Go.ChangeAt Go.RowKit
set_option linter.unusedVariables false

section
variable {m : Nat} {l ns : List Int}
/-- Who beats whom, as a relation. -/
def relW (l : List Int) (x y : Nat) : Bool := (ww l x).testBit y
theorem Vt.rel (h : Vt m l) {x y : Nat} (hx : x < m) : relW l x y = bt l x y := by
  obtain ⟨hok, rfl⟩ := h
  unfold relW
  rw [wwBit hok hx]
theorem Vt.tn (h : Vt m l) : Ry.Tn (relW l) m := fun x y hx hy hxy => by
  rw [h.rel hx, h.rel hy]; exact h.other hx hy hxy
theorem Vt.irr (h : Vt m l) : ∀ x, x < m → relW l x x = false := fun x hx => by rw [h.rel hx]; exact h.self hx
theorem Vt.low (h : Vt m l) : ∀ x, x < m → ww l x < 2 ^ m := fun x hx => by
  obtain ⟨hok, rfl⟩ := h
  exact (hok.ww hx).2.1
/-- The number of full ways. -/
noncomputable def hNum (l : List Int) : Nat := (Hw.full (ww l) l.length).length
theorem Vt.hN (h : Vt m l) : hNum l = (Ry.P m).countP (Ry.ch (relW l)) := by
  have h1 := h.le
  have h2 := h.low
  unfold hNum
  rw [h.2, Ry.full_count h1.2 h1.1 h2]; rfl
theorem Vt.odd (h : Vt m l) : hNum l % 2 = 1 := by
  have h1 := h.le
  unfold hNum
  rw [h.2]
  exact Ry.redei h1.2 h1.1 h.low h.tn
theorem ch_on {g g' : Nat → Nat → Bool} (hg : ∀ x y, x < m → y < m → g x y = g' x y) (p : List Nat) (hp : ∀ x ∈ p, x < m) : Ry.ch g p = Ry.ch g' p := by
  have := Ry.ch_map (g := g') (g' := g) (m := m) (σ := id) (fun x y hx hy => hg x y hx hy) p hp
  simpa using this
theorem Vt.turned (h : Vt m l) : hNum (turnL l) = hNum l := by
  have h1 := h.le
  rw [h.turn.hN, h.hN, ← Ry.turn_count h1.2 h1.1]
  refine Ry.count_same _ fun p hp => ?_
  have hl := ((Ry.mem_P h1.2 h1.1).1 hp).2.2
  rw [ch_on (m := m) (g := fun x y => relW (turnL l) y x) (g' := relW l) (fun x y hx hy => by show relW (turnL l) y x = _; rw [h.turn.rel hy, h.bturn hy hx]; exact (h.rel hx).symm) p hl]
theorem Names.nam (hn : Names m ns) : Ry.Nam m (nm ns) := by
  have hp := hn.perm
  exact ⟨fun x hx => (nm_val hp hx).2, fun x y hx hy e => nm_inj hp hx hy e⟩
theorem Vt.renamed (h : Vt m l) (hn : Names m ns) : hNum (renL l ns) = hNum l := by
  have h1 := h.le
  rw [(h.ren hn).hN, h.hN]
  refine Ry.name_count hn.nam (fun x y hx hy => ?_) h1.2 h1.1
  rw [(h.ren hn).rel (hn.nam.lo x hx), h.bren hn hx hy, h.rel hx]
/-- The number of full cycles. -/
noncomputable def cNum (l : List Int) : Nat := (Hw.ways (ww l) (l.length : Int) 0).countP (Hw.cyc (ww l))
theorem Vt.cN (h : Vt m l) (h3 : 3 ≤ m) : cNum l = (Ry.P m).countP (Ry.cl (relW l) 0) := by
  have h1 := h.le
  unfold cNum
  rw [h.2]
  exact Ry.cyc_count h1.2 h3 h.low
theorem Vt.cN0 (h : Vt m l) (h3 : m < 3) : cNum l = 0 := by
  unfold cNum
  rw [h.2]
  exact Ry.cyc_few h3
theorem cl_on {g g' : Nat → Nat → Bool} {a : Nat} (ha : a < m) (hg : ∀ x y, x < m → y < m → g x y = g' x y) (p : List Nat) (hp : ∀ x ∈ p, x < m) : Ry.cl g a p = Ry.cl g' a p := by
  unfold Ry.cl
  rw [ch_on hg (p ++ [a]) (fun x hx => by
    rcases List.mem_append.1 hx with e | e
    · exact hp x e
    · rw [List.mem_singleton.1 e]; exact ha)]
theorem Vt.cturned (h : Vt m l) : cNum (turnL l) = cNum l := by
  have h1 := h.le
  by_cases h3 : 3 ≤ m
  · rw [h.turn.cN h3, h.cN h3, ← Ry.turn_cyc h1.2 h1.1 0]
    refine Ry.count_same _ fun p hp => ?_
    have hl := ((Ry.mem_P h1.2 h1.1).1 hp).2.2
    rw [cl_on (m := m) (g := fun x y => relW (turnL l) y x) (g' := relW l) (a := 0) (by omega) (fun x y hx hy => by show relW (turnL l) y x = _; rw [h.turn.rel hy, h.bturn hy hx]; exact (h.rel hx).symm) p hl]
  · rw [h.turn.cN0 (by omega), h.cN0 (by omega)]
theorem Vt.crenamed (h : Vt m l) (hn : Names m ns) : cNum (renL l ns) = cNum l := by
  have h1 := h.le
  by_cases h3 : 3 ≤ m
  · rw [(h.ren hn).cN h3, h.cN h3]
    refine Ry.name_cyc hn.nam (fun x y hx hy => ?_) h1.2 h1.1 (by omega)
    rw [(h.ren hn).rel (hn.nam.lo x hx), h.bren hn hx hy, h.rel hx]
  · rw [(h.ren hn).cN0 (by omega), h.cN0 (by omega)]
/-- Camion. -/
theorem Vt.camion (h : Vt m l) (h3 : 3 ≤ m) : (0 < cNum l) ↔ ∀ a, a < l.length → Rc.rs l.length (ww l) a = 2 ^ l.length - 1 := by
  have h1 := h.le
  rw [h.cN h3, Ry.camion h1.2 h3 h.tn h.irr, h.2]
  exact Ry.str_iff h.low
end
end Go.Proofs.Ytgjogbihadiojaa
