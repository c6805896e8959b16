/-
  A range over an iterator that goes on writing rows that it made ahead of its first value: the iterator's word, and the caller's law. What the caller makes lies from a number M on, which the iterator names. Conditions: those that the law names.
-/
import Derived.Test.Yteiadhfjpohmdaa6A
namespace Go.Proofs.Yteiadhfjpohmdaa
open Go.RowKit
set_option linter.unusedVariables false

/-- What holds whatever is made, and whatever turns in what is no row, or lies from B up to M. -/
def OwnM {β : Type} (B M : Nat) (I : β → World → Prop) : Prop :=
  ∀ (s : β) (W W' : World) (row : Option Nat), I s W → W.grownBy W' row → (∀ r, row = some r → B ≤ r ∧ ∃ o : Obj, W.heap[r]? = some o ∧ (o.isCells = false ∨ r < M)) → I s W'
theorem OwnM.from {β : Type} {B M : Nat} {I : β → World → Prop} (h : OwnM B M I) : OwnFrom B I :=
  fun s W W' row hs hg hr => h s W W' row hs hg (fun r e => by obtain ⟨h1, o, h2, h3⟩ := hr r e; exact ⟨h1, o, h2, .inl h3⟩)

/-- The iterator's word: whatever the rounds hold is handed on, and of each value that comes Y is known. -/
def SeqM {α : Type} (F : Fence) (n : Nat) (P : Program) (g : Nat) (lb : Array Value) (encs : α → Array Value) (Y : Nat → List α → α → World → Prop) (Kp : Nat → World → World → Prop) (S Sp : List α → Prop) (Bn : Nat) (w : World) : Prop :=
  ∀ (l : Nat) (J Jx : Nat → List α → World → Prop) (W : World), Below w.heap.size w W → Bn ≤ W.heap.size → (∀ M, OwnM W.heap.size M (J M)) → (∀ M, OwnM W.heap.size M (Jx M)) →
    (∀ M pre x W1, J M pre W1 → Y M pre x W1 → YieldAt F (n - 1) P l (encs x) W1 fun e W2 =>
      (e = .returned (.bool true) ∧ J M (pre ++ [x]) W2 ∧ Kp M W1 W2 ∧ KeepsFrom Bn W1 W2) ∨ (e = .returned (.bool false) ∧ Jx M (pre ++ [x]) W2 ∧ KeepsFrom Bn W1 W2)) →
    (∀ M W1, Below W.heap.size W W1 → W.heap.size ≤ M → M ≤ W1.heap.size → J M [] W1) →
    CallsIn F n P g (#[.func (.yield l) #[] #[]] ++ lb) W fun e W2 => (∃ v, e = .returned v) ∧ ((∃ M xs, S xs ∧ J M xs W2) ∨ (∃ M pre, Sp pre ∧ Jx M pre W2))

variable {F : Fence} {n : Nat} {P : Program}

/-- The caller's law. -/
theorem rangeM {α : Type} {g : Operand} {ps : Array Tmp} {assign body : Code} {Q : Exit → Act → World → Prop} {a : Act} {w : World}
    (hro : F.round = none) (h1 : 1 ≤ n) {gf : Nat} {lb : Array Value} (hg : a.eval g = .func (.func gf) #[] lb) (hFg : F.fn gf) (eg : ∀ args w, (callFunc gf args).run P w = .ok (.enter gf args) w)
    {encs : α → Array Value} {Y : Nat → List α → α → World → Prop} {Kp : Nat → World → World → Prop} {S Sp : List α → Prop} {w0 : World} (hseq : SeqM F (n - 1) P gf lb encs Y Kp S Sp (w.heap.size + 2) w0)
    (hKt : ∀ {M : Nat} {A B C : World}, Kp M A B → Kp M B C → Kp M A C)
    (hKb : ∀ (M : Nat) (W : World) (l : Nat) (o o2 : Obj), W.heap[l]? = some o → o.isCells = false → Kp M W (W.putObj l o2))
    (hYb : ∀ (M : Nat) (pre : List α) (x : α) (W : World) (l : Nat) (o o2 : Obj), w.heap.size ≤ l → W.heap[l]? = some o → o.isCells = false → Y M pre x W → Y M pre x (W.putObj l o2))
    (hb0 : Below w0.heap.size w0 w) (hps : ∀ x, (encs x).size = ps.size)
    (I : Nat → List α → World → Prop) (Ix : Nat → Code → List α → World → Prop) (hIZ : ∀ M, OwnM w.heap.size M (I M)) (hIxZ : ∀ M c, OwnM w.heap.size M (Ix M c)) (h0 : ∀ M W1, Below w.heap.size w W1 → w.heap.size + 2 ≤ M → M ≤ W1.heap.size → I M [] W1) (a1 : α → Act)
    (hassign : ∀ (l : Nat) (x : α) (W : World) (K : Act → World → Prop), K (a1 x) W →
      assign.wpIn (F.inRound l) (n - 1 - 1) P (Exit.then K (fun _ _ _ => False)) { tmps := (ps.zip (encs x)).foldl (fun t (p, v) => t.setIfInBounds p v) a.tmps, defers := [] } W)
    (hbody : ∀ (l M : Nat) (pre : List α) (x : α) (W : World), I M pre W → Y M pre x W → body.wpIn (F.inRound l) (n - 1 - 1) P (ownPostG w.heap.size (Kp M) (I M) (Ix M) (pre ++ [x]) W) (a1 x) W)
    (hdone : ∀ (D M : Nat) (xs : List α) (W : World), w.heap.size ≤ D → S xs → I M xs W → W.heap[D]? = some (.deferred (some [])) → Q .normal { a with defers := { target := .collected D, args := #[] } :: a.defers } W)
    (hstop : ∀ (D M : Nat) (c : Code) (pre : List α) (W : World), w.heap.size ≤ D → Sp pre → Ix M c pre W → W.heap[D]? = some (.deferred (some [])) → c.wpIn F n P Q { a with defers := { target := .collected D, args := #[] } :: a.defers } W) :
    (Code.rangeFunc g ps assign body).wpIn F n P Q a w := by
  have hI := fun M => (hIZ M).from
  have hIx := fun M c => (hIxZ M c).from
  refine wpIn_rangeFunc fun fn hfn => ?_
  rw [hro]
  obtain ⟨W1, hW1⟩ : ∃ W1, W1 = (w.alloc (.deferred (some []))).alloc (.loop (recOf fn a.tmps ps assign body w.heap.size .ready none)) := ⟨_, rfl⟩
  have bk : Book W1 w.heap.size (recOf fn a.tmps ps assign body w.heap.size .ready none) := by rw [hW1]; exact Book.new w _
  have bw1 : Below w.heap.size w W1 := by rw [hW1]; exact (((Below.refl _ w).alloc (Nat.le_refl _) _).alloc (by simp) _)
  have b1 : Below w0.heap.size w0 W1 := hb0.trans (bw1.mono hb0.size)
  refine ⟨w.heap.size + 1, [{ target := .collected w.heap.size, args := #[] }], W1, { target := .fn (.func gf) lb, args := #[.func (.yield (w.heap.size + 1)) #[] #[]] }, W1, gf,
    #[.func (.yield (w.heap.size + 1)) #[] #[]] ++ lb, W1, ?_, ?_, ?_, ?_, fun _ => h1, ?_⟩
  · rw [hW1]; exact run_enterLoop_outer _ _ _ _ _
  · simp only [resolve, hg]
    simp [go_sem]
  · intro f2 hf2
    simp [Target.leads] at hf2
    subst hf2
    exact hFg
  · simp [invoke, go_sem, eg]
  have s2 : W1.heap.size = w.heap.size + 2 := by rw [hW1, World.size_alloc, World.size_alloc]
  refine (hseq (w.heap.size + 1) (fun M pre W => I M pre W ∧ Book W w.heap.size (recOf fn a.tmps ps assign body w.heap.size .ready none))
    (fun M pre W => ∃ c, Ix M c pre W ∧ Book W w.heap.size (recOf fn a.tmps ps assign body w.heap.size .done (some c))) W1 b1 (by omega) ?_ ?_ ?_ ?_).mono ?_
  · exact fun M s A B row hs hgr hr => ⟨hIZ M s A B row hs.1 hgr (fun k e => ⟨by have := (hr k e).1; omega, (hr k e).2⟩), hs.2.abides hgr (fun k e => by have := (hr k e).1; omega)⟩
  · rintro M s A B row ⟨c, hc, hk⟩ hgr hr
    exact ⟨c, hIxZ M c s A B row hc hgr (fun k e => ⟨by have := (hr k e).1; omega, (hr k e).2⟩), hk.abides hgr (fun k e => by have := (hr k e).1; omega)⟩
  · rintro M pre x W ⟨hi, hk⟩ hy
    have hsz : w.heap.size ≤ w.heap.size + 1 := Nat.le_succ _
    refine ⟨fn, _, assign, body, run_yield hk.loop (hps x), roundIn_of_wpIn hfn (hassign _ x W _ ⟨_, run_beginRound hk.loop rfl, ?_⟩)⟩
    have hk2 := hk.put (recOf fn a.tmps ps assign body w.heap.size .busy none)
    refine wpIn_mono (hbody _ M pre x _ ((hI M).putObj _ hi hsz hk.loop rfl) (hYb M pre x W _ _ (.loop (recOf fn a.tmps ps assign body w.heap.size .busy none)) hsz hk.loop rfl hy)) ?_
    have hkb : Kp M W (W.putObj (w.heap.size + 1) (.loop (recOf fn a.tmps ps assign body w.heap.size .busy none))) := hKb _ _ _ _ _ hk.loop rfl
    have hkf : ∀ W3 o, KeepsFrom w.heap.size (W.putObj (w.heap.size + 1) (.loop (recOf fn a.tmps ps assign body w.heap.size .busy none))) W3 → KeepsFrom (w.heap.size + 2) W (W3.putObj (w.heap.size + 1) o) :=
      fun W3 _ h => ((kf_put (w.heap.size + 2) W (w.heap.size + 1) _ (by omega)).trans (kf_mono h (by omega))).trans (kf_put (w.heap.size + 2) W3 (w.heap.size + 1) _ (by omega))
    rintro e a3 W3 hp
    cases e with
    | normal =>
      have hk3 := hk2.stays hp.1 (Nat.le_refl _)
      exact ⟨_, _, run_endRound none hk3.loop, .inl ⟨rfl, ⟨(hI M).putObj _ hp.2.2 hsz hk3.loop rfl, hk3.put _⟩, hKt (hKt hkb hp.2.1) (hKb _ _ _ _ _ hk3.loop rfl), hkf _ _ hp.1⟩⟩
    | ret =>
      have hk3 := hk2.stays hp.1 (Nat.le_refl _)
      exact ⟨_, _, run_endRound (some .ret) hk3.loop, .inr ⟨rfl, ⟨.ret, (hIx M _).putObj _ hp.2 hsz hk3.loop rfl, hk3.put _⟩, hkf _ _ hp.1⟩⟩
    | exit id =>
      have hk3 := hk2.stays hp.1 (Nat.le_refl _)
      exact ⟨_, _, run_endRound (some (.exit id)) hk3.loop, .inr ⟨rfl, ⟨.exit id, (hIx M _).putObj _ hp.2 hsz hk3.loop rfl, hk3.put _⟩, hkf _ _ hp.1⟩⟩
    | goto t =>
      have hk3 := hk2.stays hp.1 (Nat.le_refl _)
      exact ⟨_, _, run_endRound (some (.goto t)) hk3.loop, .inr ⟨rfl, ⟨.goto t, (hIx M _).putObj _ hp.2 hsz hk3.loop rfl, hk3.put _⟩, hkf _ _ hp.1⟩⟩
    | panic ch => exact hp.elim
    | outgrown => exact hp.elim
  · exact fun M W2 hb hM1 hM2 => ⟨h0 M W2 (bw1.trans (hb.mono bw1.size)) (by omega) hM2, ⟨(hb.block _ (by omega)).trans bk.defs, (hb.block _ (by omega)).trans bk.loop⟩⟩
  · rintro e W2 ⟨⟨v, rfl⟩, (⟨M, xs, hS, hi, hk⟩ | ⟨M, pre, hSp, c, hi, hk⟩)⟩
    · exact ⟨none, _, run_endLoop hk.loop (by simp), hdone _ M xs _ (Nat.le_refl _) hS ((hI M).putObj _ hi (Nat.le_succ _) hk.loop rfl) ((World.putObj_heap_other (by omega)).trans hk.defs)⟩
    · exact ⟨some c, _, run_endLoop hk.loop (by simp), hstop _ M c pre _ (Nat.le_refl _) hSp ((hIx M c).putObj _ hi (Nat.le_succ _) hk.loop rfl) ((World.putObj_heap_other (by omega)).trans hk.defs)⟩
end Go.Proofs.Yteiadhfjpohmdaa
