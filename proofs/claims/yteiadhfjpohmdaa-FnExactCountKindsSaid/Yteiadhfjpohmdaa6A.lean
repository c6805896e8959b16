/-
  A range over an iterator that hands over values of which something is known in memory (rows that it has just made): the iterator's word, and the caller's law, off the library's law on the statement itself. Conditions: those that the law names.
-/
import Derived.RangeFuncNested
import Derived.RangeFuncBound
import Derived.RangeFuncCalls
import Derived.RangeFuncLeaves
namespace Go.Proofs.Yteiadhfjpohmdaa
open Go.RowKit
set_option linter.unusedVariables false

/-- The iterator's word: whatever the rounds hold is handed on, and of each value that comes Y is known. -/
def SeqY {α : Type} (F : Fence) (n : Nat) (P : Program) (g : Nat) (lb : Array Value) (encs : α → Array Value) (Y : List α → α → World → Prop) (Kp : World → World → Prop) (S Sp : List α → Prop) (Bn : Nat) (w : World) : Prop :=
  ∀ (l : Nat) (J Jx : List α → World → Prop) (W : World), Below w.heap.size w W → Bn ≤ W.heap.size → OwnFrom W.heap.size J → OwnFrom W.heap.size Jx →
    (∀ pre x W1, J pre W1 → Y pre x W1 → YieldAt F (n - 1) P l (encs x) W1 fun e W2 =>
      (e = .returned (.bool true) ∧ J (pre ++ [x]) W2 ∧ Kp W1 W2 ∧ KeepsFrom Bn W1 W2) ∨ (e = .returned (.bool false) ∧ Jx (pre ++ [x]) W2 ∧ KeepsFrom Bn W1 W2)) →
    J [] W →
    CallsIn F n P g (#[.func (.yield l) #[] #[]] ++ lb) W fun e W2 => (∃ v, e = .returned v) ∧ ((∃ xs, S xs ∧ J xs W2) ∨ (∃ pre, Sp pre ∧ Jx pre W2))

abbrev recOf (fn : FuncId) (tmps : Array Value) (ps : Array Tmp) (assign body : Code) (D : Nat) (st : LoopState) (pe : Option Code) : Loop :=
  { state := st, pending := pe, fn := fn, tmps := tmps, params := ps, assign := assign, body := body, defers := D }

/-- The loop's own two blocks: the list of what is deferred, and the record. -/
structure Book (W : World) (D : Nat) (r : Loop) : Prop where
  defs : W.heap[D]? = some (.deferred (some []))
  loop : W.heap[D + 1]? = some (.loop r)
section
variable {W W2 : World} {D : Nat} {r : Loop}
theorem Book.abides (h : Book W D r) {row : Option Nat} (hg : W.grownBy W2 row) (hr : ∀ k, row = some k → D + 1 < k) : Book W2 D r :=
  ⟨(hg.block D (Array.getElem?_eq_some_iff.1 h.defs).1 (fun e => by have := hr _ e.symm; omega)).trans h.defs, (hg.block (D + 1) (Array.getElem?_eq_some_iff.1 h.loop).1 (fun e => by have := hr _ e.symm; omega)).trans h.loop⟩
theorem Book.stays (h : Book W D r) {B : Nat} (hk : KeepsFrom B W W2) (hB : B ≤ D) : Book W2 D r := ⟨hk.same _ _ hB h.defs rfl, hk.same _ _ (by omega) h.loop rfl⟩
theorem Book.put (h : Book W D r) (r2 : Loop) : Book (W.putObj (D + 1) (.loop r2)) D r2 :=
  ⟨(World.putObj_heap_other (by omega)).trans h.defs, World.putObj_heap_same (Array.getElem?_eq_some_iff.1 h.loop).1⟩
theorem Book.new (w : World) (r : Loop) : Book ((w.alloc (.deferred (some []))).alloc (.loop r)) w.heap.size r := by
  refine ⟨?_, ?_⟩
  · exact (Below.heap_alloc _ _ _ (by simp)).trans (World.alloc_heap_new w _)
  · have := World.alloc_heap_new (w.alloc (.deferred (some []))) (.loop r)
    rwa [World.size_alloc] at this
/-- A turn of one block alone keeps what is no cells beyond it. -/
theorem kf_put (B : Nat) (W : World) (l : Nat) (o : Obj) (h : l < B) : KeepsFrom B W (W.putObj l o) :=
  ⟨by simp, fun k ob hB hk _ => (World.putObj_heap_other (by omega)).trans hk⟩
theorem kf_mono {B B2 : Nat} {W W2 : World} (h : KeepsFrom B W W2) (hB : B ≤ B2) : KeepsFrom B2 W W2 := ⟨h.size, fun k o hk ho hc => h.same k o (by omega) ho hc⟩
theorem kf_below {B : Nat} {W W2 : World} (h : Below W.heap.size W W2) : KeepsFrom B W W2 := ⟨h.size, fun k o _ ho _ => (h.block k (Array.getElem?_eq_some_iff.1 ho).1).trans ho⟩
end

variable {F : Fence} {n : Nat} {P : Program}

/-- The caller's law. -/
theorem rangeY {α : Type} {g : Operand} {ps : Array Tmp} {assign body : Code} {Q : Exit → Act → World → Prop} {a : Act} {w : World}
    (hro : F.round = none) (h1 : 1 ≤ n) {gf : Nat} {lb : Array Value} (hg : a.eval g = .func (.func gf) #[] lb) (hFg : F.fn gf) (eg : ∀ args w, (callFunc gf args).run P w = .ok (.enter gf args) w)
    {encs : α → Array Value} {Y : List α → α → World → Prop} {Kp : World → World → Prop} {S Sp : List α → Prop} {w0 : World} (hseq : SeqY F (n - 1) P gf lb encs Y Kp S Sp (w.heap.size + 2) w0)
    (hKt : ∀ {A B C : World}, Kp A B → Kp B C → Kp A C)
    (hKb : ∀ (W : World) (l : Nat) (o o2 : Obj), W.heap[l]? = some o → o.isCells = false → Kp W (W.putObj l o2))
    (hYb : ∀ (pre : List α) (x : α) (W : World) (l : Nat) (o o2 : Obj), w.heap.size ≤ l → W.heap[l]? = some o → o.isCells = false → Y pre x W → Y pre x (W.putObj l o2))
    (hb0 : Below w0.heap.size w0 w) (hps : ∀ x, (encs x).size = ps.size)
    (I : List α → World → Prop) (Ix : Code → List α → World → Prop) (hI : OwnFrom w.heap.size I) (hIx : ∀ c, OwnFrom w.heap.size (Ix c)) (h0 : I [] w) (a1 : α → Act)
    (hassign : ∀ (l : Nat) (x : α) (W : World) (K : Act → World → Prop), K (a1 x) W →
      assign.wpIn (F.inRound l) (n - 1 - 1) P (Exit.then K (fun _ _ _ => False)) { tmps := (ps.zip (encs x)).foldl (fun t (p, v) => t.setIfInBounds p v) a.tmps, defers := [] } W)
    (hbody : ∀ (l : Nat) (pre : List α) (x : α) (W : World), I pre W → Y pre x W → body.wpIn (F.inRound l) (n - 1 - 1) P (ownPostG w.heap.size Kp I Ix (pre ++ [x]) W) (a1 x) W)
    (hdone : ∀ (D : Nat) (xs : List α) (W : World), w.heap.size ≤ D → S xs → I xs W → W.heap[D]? = some (.deferred (some [])) → Q .normal { a with defers := { target := .collected D, args := #[] } :: a.defers } W)
    (hstop : ∀ (D : Nat) (c : Code) (pre : List α) (W : World), w.heap.size ≤ D → Sp pre → Ix c pre W → W.heap[D]? = some (.deferred (some [])) → c.wpIn F n P Q { a with defers := { target := .collected D, args := #[] } :: a.defers } W) :
    (Code.rangeFunc g ps assign body).wpIn F n P Q a w := by
  refine wpIn_rangeFunc fun fn hfn => ?_
  rw [hro]
  obtain ⟨W1, hW1⟩ : ∃ W1, W1 = (w.alloc (.deferred (some []))).alloc (.loop (recOf fn a.tmps ps assign body w.heap.size .ready none)) := ⟨_, rfl⟩
  have bk : Book W1 w.heap.size (recOf fn a.tmps ps assign body w.heap.size .ready none) := by rw [hW1]; exact Book.new w _
  have i1 : I [] W1 := by rw [hW1]; exact hI.alloc _ (hI.alloc _ h0)
  have b1 : Below w0.heap.size w0 W1 := by
    rw [hW1]; exact hb0.trans ((((Below.refl _ w).alloc (Nat.le_refl _) _).alloc (by simp) _).mono hb0.size)
  have s1 : w.heap.size ≤ W1.heap.size := by rw [hW1, World.size_alloc, World.size_alloc]; omega
  refine ⟨w.heap.size + 1, [{ target := .collected w.heap.size, args := #[] }], W1, { target := .fn (.func gf) lb, args := #[.func (.yield (w.heap.size + 1)) #[] #[]] }, W1, gf,
    #[.func (.yield (w.heap.size + 1)) #[] #[]] ++ lb, W1, ?_, ?_, ?_, ?_, fun _ => h1, ?_⟩
  · rw [hW1]; exact run_enterLoop_outer _ _ _ _ _
  · simp only [resolve, hg]
    simp [go_sem]
  · intro f2 hf2
    simp [Target.leads] at hf2
    subst hf2
    exact hFg
  · simp [invoke, go_sem, eg]
  have s2 : W1.heap.size = w.heap.size + 2 := by rw [hW1, World.size_alloc, World.size_alloc]
  refine (hseq (w.heap.size + 1) (fun pre W => I pre W ∧ Book W w.heap.size (recOf fn a.tmps ps assign body w.heap.size .ready none))
    (fun pre W => ∃ c, Ix c pre W ∧ Book W w.heap.size (recOf fn a.tmps ps assign body w.heap.size .done (some c))) W1 b1 (by omega) ?_ ?_ ?_ ⟨i1, bk⟩).mono ?_
  · exact fun s A B row hs hgr hr => ⟨hI s A B row hs.1 hgr (fun k e => ⟨by have := (hr k e).1; omega, (hr k e).2⟩), hs.2.abides hgr (fun k e => by have := (hr k e).1; omega)⟩
  · rintro s A B row ⟨c, hc, hk⟩ hgr hr
    exact ⟨c, hIx c s A B row hc hgr (fun k e => ⟨by have := (hr k e).1; omega, (hr k e).2⟩), hk.abides hgr (fun k e => by have := (hr k e).1; omega)⟩
  · rintro pre x W ⟨hi, hk⟩ hy
    have hsz : w.heap.size ≤ w.heap.size + 1 := Nat.le_succ _
    refine ⟨fn, _, assign, body, run_yield hk.loop (hps x), roundIn_of_wpIn hfn (hassign _ x W _ ⟨_, run_beginRound hk.loop rfl, ?_⟩)⟩
    have hk2 := hk.put (recOf fn a.tmps ps assign body w.heap.size .busy none)
    refine wpIn_mono (hbody _ pre x _ (hI.putObj _ hi hsz hk.loop rfl) (hYb pre x W _ _ (.loop (recOf fn a.tmps ps assign body w.heap.size .busy none)) hsz hk.loop rfl hy)) ?_
    have hkb : Kp W (W.putObj (w.heap.size + 1) (.loop (recOf fn a.tmps ps assign body w.heap.size .busy none))) := hKb _ _ _ _ hk.loop rfl
    have hkf : ∀ W3 o, KeepsFrom w.heap.size (W.putObj (w.heap.size + 1) (.loop (recOf fn a.tmps ps assign body w.heap.size .busy none))) W3 → KeepsFrom (w.heap.size + 2) W (W3.putObj (w.heap.size + 1) o) :=
      fun W3 _ h => ((kf_put (w.heap.size + 2) W (w.heap.size + 1) _ (by omega)).trans (kf_mono h (by omega))).trans (kf_put (w.heap.size + 2) W3 (w.heap.size + 1) _ (by omega))
    rintro e a3 W3 hp
    cases e with
    | normal =>
      have hk3 := hk2.stays hp.1 (Nat.le_refl _)
      exact ⟨_, _, run_endRound none hk3.loop, .inl ⟨rfl, ⟨hI.putObj _ hp.2.2 hsz hk3.loop rfl, hk3.put _⟩, hKt (hKt hkb hp.2.1) (hKb _ _ _ _ hk3.loop rfl), hkf _ _ hp.1⟩⟩
    | ret =>
      have hk3 := hk2.stays hp.1 (Nat.le_refl _)
      exact ⟨_, _, run_endRound (some .ret) hk3.loop, .inr ⟨rfl, ⟨.ret, (hIx _).putObj _ hp.2 hsz hk3.loop rfl, hk3.put _⟩, hkf _ _ hp.1⟩⟩
    | exit id =>
      have hk3 := hk2.stays hp.1 (Nat.le_refl _)
      exact ⟨_, _, run_endRound (some (.exit id)) hk3.loop, .inr ⟨rfl, ⟨.exit id, (hIx _).putObj _ hp.2 hsz hk3.loop rfl, hk3.put _⟩, hkf _ _ hp.1⟩⟩
    | goto t =>
      have hk3 := hk2.stays hp.1 (Nat.le_refl _)
      exact ⟨_, _, run_endRound (some (.goto t)) hk3.loop, .inr ⟨rfl, ⟨.goto t, (hIx _).putObj _ hp.2 hsz hk3.loop rfl, hk3.put _⟩, hkf _ _ hp.1⟩⟩
    | panic ch => exact hp.elim
    | outgrown => exact hp.elim
  · rintro e W2 ⟨⟨v, rfl⟩, (⟨xs, hS, hi, hk⟩ | ⟨pre, hSp, c, hi, hk⟩)⟩
    · exact ⟨none, _, run_endLoop hk.loop (by simp), hdone _ xs _ (Nat.le_refl _) hS (hI.putObj _ hi (Nat.le_succ _) hk.loop rfl) ((World.putObj_heap_other (by omega)).trans hk.defs)⟩
    · exact ⟨some c, _, run_endLoop hk.loop (by simp), hstop _ c pre _ (Nat.le_refl _) hSp ((hIx c).putObj _ hi (Nat.le_succ _) hk.loop rfl) ((World.putObj_heap_other (by omega)).trans hk.defs)⟩
end Go.Proofs.Yteiadhfjpohmdaa
