/-
  A queue of tours, the map, and what an addition to both leaves of the memory (for the program's search). No conditions but those named.
-/
import Derived.Test.YtgdejippddcekaaDoor7S
import Derived.Test.YtgdejippddcekaaDoor7E
import Derived.Test.YtgdejippddcekaaDoor6D
import Derived.Maps.OwnIn
import Derived.RangeFuncBox
namespace Go.Proofs.YtgdejippddcekaaDoor
open Go.ChangeShapes Go.WideShapes Go.ChangeAt Go.RowKit Go.Shelf
open Go.Maps (Keyed)
attribute [local go_sem] Oper.semAt_some
set_option linter.unusedVariables false

/-- A map literal's entry, for a fenced walk. -/
theorem wpListIn_insert_own {H : Type} {F : Fence} {nF : Nat} {P : Program} (w : World) {ops : Array Oper} {rest : List Oper} {o : Oper} {a : Act} {Q : Exit → Act → World → Prop}
    (hg : o.guard = none) (m x v : Operand) (t : TypeId) (hop : o.op = Op.insert t m x v)
    (k e : TypeId) (K : Keyed P k) (ht : P.underlying t = some (.map k e)) (R : Value → Option (DataW H × List MemPlace)) (b n : Nat) (D : DataW H)
    (hm : a.eval m = .map (some b)) (hown : w.ownsMap P k R b n D) (hn : n < maxLen) (key val : Value) (kl : Lit) (hx : a.eval x = key) (hv : a.eval v = val) (hkey : keyOf P k key = some kl)
    (d : DataW H) (ps : List MemPlace) (hval : R val = some (d, ps))
    (hK : ∀ w', w'.ownsMap P k R b (n + 1) (D.put kl d) → w.grownBy w' (some b) → wpListIn F nF P ops Q rest (a.put o.dst undef) w') :
    wpListIn F nF P ops Q (o :: rest) a w := by
  refine wpListIn_plain hg fun K' hK' => ?_
  obtain ⟨w', hrun, r1, r2⟩ := hown.update K ht hn hkey hval
  unfold Oper.wpIn
  refine ⟨by simp [Oper.about, hop], ?_⟩
  rw [Oper.semAt_plain F _ _ (by rw [hop]; intro c hc'; cases hc')]
  simp [execOp, hop, hm, hx, hv, hrun, Result.andThen]
  exact hK' _ _ (hK w' r1 r2)

/-- A row of numbers: of the caller's memory, or of the call's own. -/
structure IntT (B : Nat) (W : World) (a : Option Addr) (l : List Int) : Prop where
  row : IntRow W a l
  ty : ∀ b, blk a = some b → b < B ∨ ∃ cur, W.heap[b]? = some (.cells cur 3 (0, 0))
theorem IntT.grown {B : Nat} {W W2 : World} {a : Option Addr} {l : List Int} {row : Option Nat} (h : IntT B W a l) (hg : W.grownBy W2 row) (hr : ∀ r, row = some r → B ≤ r ∧ ∀ cur, W.heap[r]? ≠ some (.cells cur 3 (0, 0))) : IntT B W2 a l := by
  have hne : ∀ b, blk a = some b → some b ≠ row := by
    intro b hb e
    obtain ⟨h1, h2⟩ := hr b e.symm
    rcases h.ty b hb with h3 | ⟨cur, h3⟩
    · omega
    · exact h2 cur h3
  refine ⟨?_, fun b hb => ?_⟩
  · rcases h.row with h | ⟨b, off, rfl, hl, hc⟩
    · exact .inl h
    · exact .inr ⟨b, off, rfl, Nat.lt_of_lt_of_le hl hg.size, fun j hj => hg.cell (hc j hj) (hne b rfl)⟩
  · rcases h.ty b hb with h3 | ⟨cur, h3⟩
    · exact .inl h3
    · exact .inr ⟨cur, (hg.block b (Array.getElem?_eq_some_iff.1 h3).1 (hne b hb)).trans h3⟩
theorem IntT.own {B B2 : Nat} {W : World} {a : Option Addr} {c : Nat} {l : List Int} (h : W.ownsRow B2 3 1 (.slice a l.length c) l.length (l.map iv)) : IntT B W a l := by
  refine ⟨own_int h, fun b hb => .inr ?_⟩
  rcases h.2 with ⟨hn, _⟩ | ⟨g, cap, cur, he, _, hg, _⟩
  · simp only [Value.slice.injEq] at hn; rw [hn.1] at hb; cases hb
  · simp only [Value.slice.injEq] at he
    rw [he.1] at hb
    have : g = b := by simpa [blk] using hb
    subst this
    exact ⟨cur, hg⟩
theorem IntT.old {B : Nat} {W : World} {a : Option Addr} {l : List Int} (h : IntRow W a l) (hl : 1 ≤ l.length) (hB : W.heap.size ≤ B) : IntT B W a l := by
  refine ⟨h, fun b hb => .inl ?_⟩
  rcases h with h | ⟨b2, off, rfl, hb2, _⟩
  · rw [h] at hl; simp at hl
  · simp [blk] at hb; omega
theorem IntT.below {B : Nat} {W W2 : World} {a : Option Addr} {l : List Int} (h : IntT B W a l) (hb : Below W.heap.size W W2) : IntT B W2 a l := h.grown (grown_of_below hb) (fun r e => by cases e)

/-- A tour of the queue: its players' wins, where they lie, its capacity. -/
abbrev Qe := List Int × Option Addr × Nat
def encQ (m : Nat) (e : Qe) : List Value := [.int .i64 (m : Int), .slice e.2.1 m e.2.2]
def encQs (m : Nat) (Q : List Qe) : List Value := Q.flatMap (encQ m)
theorem encQs_snoc (m : Nat) (Q : List Qe) (e : Qe) : encQs m (Q ++ [e]) = encQs m Q ++ encQ m e := by simp [encQs]
structure Qs (B : Nat) (W : World) (m g off cap : Nat) (Q : List Qe) : Prop where
  own : OwnT W B 27 2 g off Q.length cap (encQs m Q)
  rows : ∀ e ∈ Q, IntT B W e.2.1 e.1
/-- What the search holds in memory. -/
structure Sr (B bm b3 b4 : Nat) (m k : Nat) (D : Bf.Fd (List Int)) (Q : List Qe) (g off cap : Nat) (W : World) : Prop where
  q : Qs B W m g off cap Q
  qd : Q.map Prod.fst = (D.drop k).map Prod.fst
  x3 : Boxed W b3 45 (.map (some bm))
  x4 : Boxed W b4 52 (.slice (some ⟨g, off, none⟩) Q.length cap)
  mp : W.ownsMap Tryd.prog 9 (plainElem Tryd.prog 3) bm D.length (mapT m D)
  lm : B ≤ bm
  l3 : B ≤ b3
  l4 : B ≤ b4
section
variable {B bm b3 b4 m k g off cap : Nat} {D : Bf.Fd (List Int)} {Q : List Qe} {W W2 : World}
theorem Sr.calm (h : Sr B bm b3 b4 m k D Q g off cap W) {row : Option Nat} (hg : W.grownBy W2 row) (hr : ∀ r, row = some r → B ≤ r ∧ r ≠ bm ∧ ∃ o : Obj, W.heap[r]? = some o ∧ o.isCells = false) : Sr B bm b3 b4 m k D Q g off cap W2 := by
  have hr2 : ∀ r, row = some r → ∃ o : Obj, W.heap[r]? = some o ∧ o.isCells = false := fun r e => (hr r e).2.2
  obtain ⟨cur, hgc, hrest⟩ := h.q.own.row
  refine ⟨⟨h.q.own.kept ((grownBy_keeps_cells hg hr2 hgc rfl)), fun e he => (h.q.rows e he).grown hg (fun r e2 => ⟨(hr r e2).1, fun c e3 => ?_⟩)⟩, h.qd, Boxed.turn h.x3 hg hr2, Boxed.turn h.x4 hg hr2, h.mp.kept hg (fun e => (hr bm e.symm).2.1 rfl), h.lm, h.l3, h.l4⟩
  obtain ⟨o, ho, hc⟩ := hr2 r e2
  rw [ho] at e3; cases e3; cases hc
theorem Sr.below (h : Sr B bm b3 b4 m k D Q g off cap W) (hb : Below W.heap.size W W2) : Sr B bm b3 b4 m k D Q g off cap W2 := h.calm (grown_of_below hb) (fun r e => by cases e)
theorem Sr.head (h : Sr B bm b3 b4 m k D Q g off cap W) {e : Qe} {Q2 : List Qe} (hQ : Q = e :: Q2) : W.cell? ⟨g, off, none⟩ = some (.int .i64 (m : Int)) ∧ W.cell? ⟨g, off + 1, none⟩ = some (.slice e.2.1 m e.2.2) := by
  subst hQ
  exact ⟨h.q.own.cell 0 _ rfl, h.q.own.cell 1 _ rfl⟩
end
/-- What the rounds over the triangles of a tour keep. -/
def R7 (B : Nat) (ax : Option Addr) (k : Nat) (o : Obj) : Prop := k < B ∨ blk ax = some k ∨ (∃ cur, o = .cells cur 3 (0, 0)) ∨ (∃ v0 v1, o = .cells #[v0, v1] 27 (0, 0)) ∨ ∃ v, o = .cells #[v] 70 (0, 0)
theorem R7.fresh (B : Nat) (ax : Option Addr) (B2 : Nat) : FreshR (R7 B ax) B2 := ⟨fun k cur _ => .inr (.inr (.inl ⟨cur, rfl⟩)), fun k v0 v1 _ => .inr (.inr (.inr (.inl ⟨v0, v1, rfl⟩))), fun k v _ => .inr (.inr (.inr (.inr ⟨v, rfl⟩)))⟩
theorem R7.not_cells {B : Nat} {ax : Option Addr} {k : Nat} {cur : Array Value} {t : TypeId} (hk : B ≤ k) (ha : blk ax ≠ some k) (h1 : t ≠ 3) (h2 : t ≠ 70) (h3 : t = 27 → cur.size ≠ 2) : ¬ R7 B ax k (.cells cur t (0, 0)) := by
  rintro (h | h | ⟨c, h⟩ | ⟨v0, v1, h⟩ | ⟨v, h⟩)
  · omega
  · exact ha h
  · simp only [Obj.cells.injEq] at h; exact h1 h.2.1
  · simp only [Obj.cells.injEq] at h
    exact h3 h.2.1 (by rw [h.1]; rfl)
  · simp only [Obj.cells.injEq] at h; exact h2 h.2.1
theorem R7.not_map {B : Nat} {ax : Option Addr} {k : Nat} {es : Array MapEntry} {clock : Nat} (hk : B ≤ k) (ha : blk ax ≠ some k) : ¬ R7 B ax k (.map es clock) := by
  rintro (h | h | ⟨c, h⟩ | ⟨v0, v1, h⟩ | ⟨v, h⟩)
  · omega
  · exact ha h
  · cases h
  · cases h
  · cases h
theorem map_heap {W : World} {P : Program} {k : TypeId} {R : Value → Option (DataW Unit × List MemPlace)} {b n : Nat} {D : DataW Unit} (h : W.ownsMap P k R b n D) : ∃ es clock, W.heap[b]? = some (.map es clock) := by
  obtain ⟨es, clock, hb, _⟩ := h
  exact ⟨es, clock, hb⟩
/-- The map written: the rest stays. -/
theorem Sr.mapped {B bm b3 b4 m k g off cap : Nat} {D : Bf.Fd (List Int)} {Q : List Qe} {W W1 : World} {y : List Int} {d : Nat} (h : Sr B bm b3 b4 m k D Q g off cap W) (hg : W.grownBy W1 (some bm))
    (hm : W1.ownsMap Tryd.prog 9 (plainElem Tryd.prog 3) bm (D.length + 1) ((mapT m D).put (kyT m y) (.lit (.int .i64 ((d + 1 : Nat) : Int))))) :
    Qs B W1 m g off cap Q ∧ Boxed W1 b3 45 (.map (some bm)) ∧ Boxed W1 b4 52 (.slice (some ⟨g, off, none⟩) Q.length cap) ∧ W1.ownsMap Tryd.prog 9 (plainElem Tryd.prog 3) bm (D ++ [(y, d + 1)]).length (mapT m (D ++ [(y, d + 1)])) ∧
      ∀ a l, IntT B W a l → IntT B W1 a l := by
  obtain ⟨es, clock, hb⟩ := map_heap h.mp
  obtain ⟨cur, hgc, hrest⟩ := h.q.own.row
  have hi : ∀ a l, IntT B W a l → IntT B W1 a l := fun a l hI => hI.grown hg (fun r e => ⟨by cases e; exact h.lm, fun c e3 => by cases e; rw [hb] at e3; cases e3⟩)
  have hne : ∀ {x : Nat} {c : Array Value} {t : TypeId}, W.heap[x]? = some (.cells c t (0, 0)) → some x ≠ some bm := by
    intro x c t hx e
    cases e
    rw [hb] at hx; cases hx
  refine ⟨⟨h.q.own.kept (hg.block g (Array.getElem?_eq_some_iff.1 hgc).1 (hne hgc)), fun e he => hi _ _ (h.q.rows e he)⟩, h.x3.kept hg (hne h.x3), h.x4.kept hg (hne h.x4), ?_, hi⟩
  rw [mapT_snoc, List.length_append]
  exact hm
/-- The queue grown by a tour. -/
theorem Sr.queued {B bm b3 b4 m k g off cap g2 off2 cap2 : Nat} {D : Bf.Fd (List Int)} {Q : List Qe} {W W1 W2 : World} {y : List Int} {an : Option Addr} {cn : Nat} {ax : Option Addr} {d0 : Nat} (hQ : 1 ≤ Q.length)
    (hq : Qs B W1 m g off cap Q) (hqd : Q.map Prod.fst = (D.drop k).map Prod.fst) (hk : k ≤ D.length) (hx3 : Boxed W1 b3 45 (.map (some bm))) (hx4 : Boxed W1 b4 52 (.slice (some ⟨g, off, none⟩) Q.length cap))
    (hmp : W1.ownsMap Tryd.prog 9 (plainElem Tryd.prog 3) bm (D ++ [(y, d0)]).length (mapT m (D ++ [(y, d0)]))) (lm : B ≤ bm) (l3 : B ≤ b3) (l4 : B ≤ b4) (hy : IntT B W1 an y) (hax : ∃ lx, IntT B W1 ax lx)
    (hBW : B ≤ W1.heap.size)
    (hown : OwnT W2 B 27 2 g2 off2 (Q.length + 1) cap2 (encQs m Q ++ encQ m (y, an, cn)))
    (hgr : (W1.alloc (.cells #[.int .i64 (m : Int), .slice an m cn] 27)).grownBy W2 none ∨ (Q.length + 1 ≤ cap ∧ (W1.alloc (.cells #[.int .i64 (m : Int), .slice an m cn] 27)).grownBy W2 (some g))) :
    Sr B bm b3 b4 m k (D ++ [(y, d0)]) (Q ++ [(y, an, cn)]) g2 off2 cap2 (W2.setCell ⟨b4, 0, none⟩ (.slice (some ⟨g2, off2, none⟩) (Q.length + 1) cap2)) ∧ Boxed W2 b4 52 (.slice (some ⟨g, off, none⟩) Q.length cap) ∧
      Below B W1 (W2.setCell ⟨b4, 0, none⟩ (.slice (some ⟨g2, off2, none⟩) (Q.length + 1) cap2)) ∧ KeepR (R7 B ax) W1 (W2.setCell ⟨b4, 0, none⟩ (.slice (some ⟨g2, off2, none⟩) (Q.length + 1) cap2)) ∧
      KeepsOthers W1 (W2.setCell ⟨b4, 0, none⟩ (.slice (some ⟨g2, off2, none⟩) (Q.length + 1) cap2)) := by
  obtain ⟨WA, hWA⟩ : ∃ WA, WA = W1.alloc (.cells #[.int .i64 (m : Int), .slice an m cn] 27) := ⟨_, rfl⟩
  rw [← hWA] at hgr
  have hgA : W1.grownBy WA none := by rw [hWA]; exact World.grownBy_alloc _ _ _
  obtain ⟨cur, hgc, hcs, _⟩ := hq.own.row
  have hgcA : WA.heap[g]? = some (.cells cur 27 (0, 0)) := (hgA.block g (Array.getElem?_eq_some_iff.1 hgc).1 (by simp)).trans hgc
  have hlow := hq.own.low
  -- one row turns at the most
  obtain ⟨row, hg2, hrow⟩ : ∃ row : Option Nat, WA.grownBy W2 row ∧ ∀ r, row = some r → r = g ∧ Q.length + 1 ≤ cap := by
    rcases hgr with h | ⟨h1, h2⟩
    · exact ⟨none, h, fun r e => by cases e⟩
    · exact ⟨some g, h2, fun r e => ⟨(Option.some.inj e).symm, h1⟩⟩
  have hrc : ∀ r, row = some r → WA.heap[r]? = some (.cells cur 27 (0, 0)) := fun r e => by rw [(hrow r e).1]; exact hgcA
  have hiT : ∀ a l, IntT B W1 a l → IntT B W2 a l := fun a l hI => (hI.grown hgA (fun r e => by cases e)).grown hg2 (fun r e => ⟨by rw [(hrow r e).1]; exact hlow, fun c e3 => by rw [hrc r e] at e3; simp only [Option.some.injEq, Obj.cells.injEq] at e3; exact absurd e3.2.1 (by decide)⟩)
  have hbx : ∀ {b : Nat} {t : TypeId} {v : Value}, t ≠ 27 → Boxed W1 b t v → Boxed W2 b t v := by
    intro b t v ht hb
    have hA := hb.kept hgA (by simp)
    refine hA.kept hg2 (fun e => ?_)
    have := hrc b e.symm
    rw [show WA.heap[b]? = _ from hA] at this
    simp only [Option.some.injEq, Obj.cells.injEq] at this
    exact ht this.2.1
  have h3 := hbx (by decide) hx3
  have h4 := hbx (by decide) hx4
  have hset := grownBy_setCell' W2 b4 (.slice (some ⟨g2, off2, none⟩) (Q.length + 1) cap2)
  have hb4 : W2.heap[b4]? = some (.cells #[.slice (some ⟨g, off, none⟩) Q.length cap] 52 (0, 0)) := h4
  obtain ⟨cur2, hgc2, _⟩ := hown.row
  have hne2 : ∀ {x : Nat} {c : Array Value} {t : TypeId}, W2.heap[x]? = some (.cells c t (0, 0)) → t ≠ 52 → some x ≠ some b4 := by
    intro x c t hx ht e
    cases e
    rw [hb4] at hx
    simp only [Option.some.injEq, Obj.cells.injEq] at hx
    exact ht hx.2.1.symm
  obtain ⟨es, clock, hmb⟩ := map_heap hmp
  have hmA : WA.heap[bm]? = some (.map es clock) := (hgA.block bm (Array.getElem?_eq_some_iff.1 hmb).1 (by simp)).trans hmb
  have hmp2 := ((hmp.kept hgA (by simp)).kept hg2 (fun e => by have := hrc bm e.symm; rw [hmA] at this; cases this))
  have hmb2 := map_heap hmp2
  have hlen : (Q ++ [(y, an, cn)]).length = Q.length + 1 := by simp
  have haxB : ∀ r, B ≤ r → (∀ c, W1.heap[r]? ≠ some (.cells c 3 (0, 0))) → blk ax ≠ some r := by
    intro r hr hn e
    obtain ⟨lx, hlx⟩ := hax
    rcases hlx.ty r e with h | ⟨c, h⟩
    · omega
    · exact hn c h
  refine ⟨⟨⟨?_, ?_⟩, ?_, ?_, ?_, ?_, lm, l3, l4⟩, h4, ?_, ?_, ?_⟩
  · rw [hlen, encQs_snoc]
    exact hown.kept (hset.block g2 (Array.getElem?_eq_some_iff.1 hgc2).1 (hne2 hgc2 (by decide)))
  · intro e he
    have hI : IntT B W2 e.2.1 e.1 := by
      rcases List.mem_append.1 he with h | h
      · exact hiT _ _ (hq.rows e h)
      · rw [List.mem_singleton] at h
        subst h; exact hiT _ _ hy
    exact hI.grown hset (fun r e2 => ⟨by cases e2; exact l4, fun c e3 => by cases e2; rw [hb4] at e3; simp only [Option.some.injEq, Obj.cells.injEq] at e3; exact absurd e3.2.1 (by decide)⟩)
  · rw [List.map_append, hqd, List.drop_append_of_le_length hk, List.map_append]; rfl
  · exact h3.kept hset (hne2 h3 (by decide))
  · rw [hlen]; exact h4.set _
  · refine hmp2.kept hset (fun e => ?_)
    obtain ⟨es2, cl2, h⟩ := hmb2
    cases e
    rw [hb4] at h; cases h
  · have b1 : Below B W1 WA := by rw [hWA]; exact (Below.refl _ _).alloc hBW _
    have b2 : Below B W1 W2 := b1.grown hg2 (Nat.le_trans hBW b1.size) (fun r e => by rw [(hrow r e).1]; exact hlow)
    exact b2.setCell (p := ⟨b4, 0, none⟩) l4 _
  · refine ((KeepR.grown hgA (fun g o e => by cases e)).trans (KeepR.grown hg2 (fun r o e ho => ?_))).trans (KeepR.grown hset (fun r o e ho => ?_))
    · rw [hrc r e] at ho
      cases ho
      have hrg := (hrow r e).1
      subst hrg
      refine R7.not_cells hlow (haxB _ hlow (fun c e3 => by rw [hgc] at e3; simp only [Option.some.injEq, Obj.cells.injEq] at e3; exact absurd e3.2.1 (by decide))) (by decide) (by decide) (fun _ h2 => ?_)
      have := (hrow _ e).2
      omega
    · cases e
      rw [hb4] at ho; cases ho
      refine R7.not_cells l4 (haxB _ l4 (fun c e3 => ?_)) (by decide) (by decide) (fun h => absurd h (by decide))
      rw [show W1.heap[b4]? = _ from hx4] at e3
      simp only [Option.some.injEq, Obj.cells.injEq] at e3
      exact absurd e3.2.1 (by decide)
  · have k1 : KeepsOthers W1 WA := by rw [hWA]; exact KeepsOthers.alloc W1 _
    refine (k1.trans (KeepsOthers.of_grownBy hg2 fun j o ej hj => ?_)).trans (KeepsOthers.setCell _ _ _)
    rw [hrc j ej] at hj; cases hj; rfl
end Go.Proofs.YtgdejippddcekaaDoor
