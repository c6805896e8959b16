/-
  Games against an order: which they are (mathematics), and 'BackGames' of the program. No conditions but the bounds that Go gives a slice.
-/
import Derived.Test.YteegbkbphfmooaaQf
import Derived.Test.YteegbkbphfmooaaWc
import Derived.Test.Yteegbkbphfmooaa6W
namespace Go.Proofs.Yteegbkbphfmooaa
open Go.ChangeShapes Go.WideShapes Go.ChangeAt Go.RowKit Go.Shelf
attribute [local go_sem] Oper.semAt_some
set_option linter.unusedVariables false

def g2q (a b : Nat) : List Int := [(a : Int), (b : Int)]
/-- The place of a player in an order. -/
def ps (o : List Nat) (a : Nat) : Int := Go.Lib.idxOf (ni o) (a : Int)
theorem ps_at {m : Nat} {o : List Nat} (h : Rv.Od m o) {k : Nat} (hk : k < m) : ps o (o.getD k 0) = (k : Int) := by
  have hl := h.len
  unfold ps Go.Lib.idxOf
  rw [Go.Lib.idxFrom_hit _ (ni o) k 0 (by rw [ni_len]; omega) (ni_at (by omega)) (fun j hj => by rw [ni_at (by omega)]; intro e; exact h.ne hj hk (by omega))]
  simp
/-- Whether a beats b although it is later. -/
def bk (l : List Int) (o : List Nat) (a b : Nat) : Bool := bt l a b && decide (ps o b < ps o a)
def bkB (l : List Int) (o : List Nat) (a b : Nat) : List (List Int) := ((List.range b).filter (bk l o a)).map (g2q a)
def bkA (l : List Int) (o : List Nat) (a : Nat) : List (List Int) := (List.range a).flatMap fun x => bkB l o x l.length
theorem bkB_zero (l : List Int) (o : List Nat) (a : Nat) : bkB l o a 0 = [] := rfl
theorem bkB_yes {l : List Int} {o : List Nat} {a b : Nat} (h : bk l o a b = true) : bkB l o a (b + 1) = bkB l o a b ++ [g2q a b] := by
  unfold bkB; rw [List.range_succ, List.filter_append, List.map_append]; simp [h]
theorem bkB_no {l : List Int} {o : List Nat} {a b : Nat} (h : bk l o a b = false) : bkB l o a (b + 1) = bkB l o a b := by
  unfold bkB; rw [List.range_succ, List.filter_append, List.map_append]; simp [h]
theorem bkA_succ (l : List Int) (o : List Nat) (a : Nat) : bkA l o (a + 1) = bkA l o a ++ bkB l o a l.length := by
  unfold bkA; rw [List.range_succ, List.flatMap_append]; simp
theorem bkB_len (l : List Int) (o : List Nat) (a b : Nat) : (bkB l o a b).length ≤ b := by
  unfold bkB; rw [List.length_map]; exact Nat.le_trans (List.length_filter_le _ _) (by simp)
theorem bkA_len (l : List Int) (o : List Nat) (h : l.length ≤ 8) : ∀ a, (bkA l o a).length ≤ 8 * a
  | 0 => by simp [bkA]
  | a + 1 => by
    have h1 := bkA_len l o h a
    have h2 := bkB_len l o a l.length
    rw [bkA_succ, List.length_append]; omega
theorem bk_row {l : List Int} {o : List Nat} {a : Nat} {r : List Int} (h : r ∈ bkA l o a) : r.length = 2 := by
  obtain ⟨x, _, hx⟩ := List.mem_flatMap.1 h
  unfold bkB at hx
  obtain ⟨y, _, rfl⟩ := List.mem_map.1 hx
  rfl

noncomputable def bkR (n : Int) (l ns : List Int) : List (List Int) := if renB n l ns then bkA l (tn ns) l.length else []
/-- A further row of two. -/
theorem La.push2q {w W W3 : World} {n : Int} {a : Option Addr} {cap : Nat} {l : List Int} {ao : Option Addr} {co : Nat} {gs : List (Nat × Nat)} {Ls : List (List Int)} (h : La w W n a cap l ao co gs Ls) (hrw : IntRow w a l) (x y : Int) {g3 c3 : Nat}
    (hg : ((W.alloc (.cells #[.int .i64 x, .int .i64 y] 3)).alloc (.cells #[.slice (some ⟨W.heap.size, 0, none⟩) 2 2] 23)).grownBy W3 (blk ao))
    (ho : W3.ownsRow (w.heap.size + 1) 23 1 (.slice (some ⟨g3, 0, none⟩) (Ls.length + 1) c3) (Ls.length + 1) (svs gs Ls ++ [.slice (some ⟨W.heap.size, 0, none⟩) 2 2])) :
    La w W3 n a cap l (some ⟨g3, 0, none⟩) c3 (gs ++ [(W.heap.size, 2)]) (Ls ++ [[x, y]]) := by
  have hs := h.hb.size
  have hxl := h.xt.lt
  have g1 : W.grownBy ((W.alloc (.cells #[.int .i64 x, .int .i64 y] 3)).alloc (.cells #[.slice (some ⟨W.heap.size, 0, none⟩) 2 2] 23)) none :=
    (World.grownBy_alloc W _ none).trans (World.grownBy_alloc _ _ _)
  have hrow : ((W.alloc (.cells #[.int .i64 x, .int .i64 y] 3)).alloc (.cells #[.slice (some ⟨W.heap.size, 0, none⟩) 2 2] 23)).ownsRow (w.heap.size + 1) 3 1 (.slice (some ⟨W.heap.size, 0, none⟩) [x, y].length 2) [x, y].length ([x, y].map iv) :=
    (World.ownsRow_lit (base := w.heap.size + 1) (e := 3) (size := 1) W #[.int .i64 x, .int .i64 y] 2 hxl (by unfold maxLen; omega) rfl).alloc _
  have hb1 : Below w.heap.size w ((W.alloc (.cells #[.int .i64 x, .int .i64 y] 3)).alloc (.cells #[.slice (some ⟨W.heap.size, 0, none⟩) 2 2] 23)) := by
    have hA := h.hb.alloc hs (.cells #[.int .i64 x, .int .i64 y] 3)
    exact hA.alloc hA.size _
  have hne : ∀ k, blk ao = some k → w.heap.size + 1 ≤ k := fun k hk => (h.ss.blkO hk).1
  have hb3 : Below w.heap.size w W3 := hb1.grown hg hb1.size (fun k e => by have := hne k e; omega)
  refine ⟨hb3, ?_, hrw.below hb3 (Nat.le_refl _), h.ss.push g1 hrow (Nat.le_refl _) hg ho⟩
  exact (h.xt.grown g1 (by simp)).grown hg (fun e => by have := hne _ e; omega)

theorem mem_gamesQ (m : Nat) (l : List Int) (x : Pl m) : x ∈ gamesL m l ↔ bt l x.1.val x.2.val = true := by
  unfold gamesL gamesTo
  rw [List.take_of_length_le (by simp)]
  simp only [List.mem_flatMap, rowG, losers, List.mem_map, List.mem_filter]
  constructor
  · rintro ⟨a, _, b, ⟨_, hb⟩, rfl⟩; exact hb
  · intro h; exact ⟨x.1, List.mem_finRange _, x.2, ⟨List.mem_finRange _, h⟩, rfl⟩
/-- The pairs that are kept of the games that have come. -/
def bkP (l : List Int) (o : List Nat) {m : Nat} (pre : List (Pl m)) : List (List Int) := (pre.filter fun x => decide (ps o x.2.val < ps o x.1.val)).map fun x => g2q x.1.val x.2.val
theorem bkP_yes {l : List Int} {o : List Nat} {m : Nat} {pre : List (Pl m)} {x : Pl m} (h : ps o x.2.val < ps o x.1.val) : bkP l o (pre ++ [x]) = bkP l o pre ++ [g2q x.1.val x.2.val] := by
  unfold bkP; rw [List.filter_append, List.map_append]; simp [h]
theorem bkP_no {l : List Int} {o : List Nat} {m : Nat} {pre : List (Pl m)} {x : Pl m} (h : ¬ ps o x.2.val < ps o x.1.val) : bkP l o (pre ++ [x]) = bkP l o pre := by
  unfold bkP; rw [List.filter_append, List.map_append]; simp [h]
theorem bkP_row (l : List Int) (o : List Nat) (a : Fin l.length) : bkP l o (rowG l.length l a) = bkB l o a.val l.length := by
  unfold bkP bkB rowG losers
  rw [← show (List.finRange l.length).map Fin.val = List.range l.length from List.ext_getElem (by simp) (by intro i h1 h2; simp)]
  rw [List.filter_map, List.filter_filter, List.filter_map, List.map_map, List.map_map]
  congr 1
  apply List.filter_congr
  intro b _
  simp only [Function.comp, bk]
  rw [Bool.and_comm]
theorem bkP_app (l : List Int) (o : List Nat) {m : Nat} (p q : List (Pl m)) : bkP l o (p ++ q) = bkP l o p ++ bkP l o q := by
  unfold bkP; rw [List.filter_append, List.map_append]
theorem bkP_to (l : List Int) (o : List Nat) : ∀ k, k ≤ l.length → bkP l o (gamesTo l.length l k) = bkA l o k
  | 0, _ => rfl
  | k + 1, h => by rw [gamesTo_succ l.length l k (by omega), bkP_app, bkP_to l o k (by omega), bkP_row, bkA_succ]
theorem bkP_len (l : List Int) (o : List Nat) {m : Nat} (pre : List (Pl m)) : (bkP l o pre).length ≤ pre.length := by
  unfold bkP; rw [List.length_map]; exact List.length_filter_le _ _
theorem games_lenQ (l : List Int) (h : l.length ≤ 8) : (gamesL l.length l).length ≤ 64 := by
  have : ∀ k, k ≤ l.length → (gamesTo l.length l k).length ≤ 8 * k := by
    intro k
    induction k with
    | zero => intro _; simp [gamesTo]
    | succ k ih =>
      intro hk
      have h1 := ih (by omega)
      rw [gamesTo_succ l.length l k (by omega), List.length_append]
      have : (rowG l.length l ⟨k, by omega⟩).length ≤ l.length := by
        unfold rowG losers
        rw [List.length_map]
        exact Nat.le_trans (List.length_filter_le _ _) (by simp)
      omega
  have := this l.length (Nat.le_refl _)
  unfold gamesL; omega

theorem Boxed.turnQ {A C : World} {row : Option Nat} {b : Nat} {t : TypeId} {v : Value} (h : Boxed A b t v) (hg : A.grownBy C row) (hr : ∀ r, row = some r → ∃ o : Obj, A.heap[r]? = some o ∧ o.isCells = false) : Boxed C b t v :=
  boxed_own (β := Unit) b t (fun _ => v) () A C row h hg hr
theorem own_turnQ {A C : World} {row : Option Nat} {B n : Nat} {e : TypeId} {v : Value} {xs : List Value} (h : A.ownsRow B e 1 v n xs) (hg : A.grownBy C row) (hr : ∀ r, row = some r → ∃ o : Obj, A.heap[r]? = some o ∧ o.isCells = false) : C.ownsRow B e 1 v n xs := by
  rcases h.2 with ⟨hn, h0⟩ | ⟨g, cap, cur, he, hB, hgc, q⟩
  · exact ⟨h.1, .inl ⟨hn, h0⟩⟩
  · exact ⟨h.1, .inr ⟨g, cap, cur, he, hB, (grownBy_keeps_cells hg hr hgc rfl).trans hgc, q⟩⟩
theorem OwnSS.turnQ {A C : World} {row : Option Nat} {B : Nat} {a : Option Addr} {c : Nat} {gs : List (Nat × Nat)} {Ls : List (List Int)} (h : OwnSS A B a c gs Ls) (hg : A.grownBy C row) (hr : ∀ r, row = some r → ∃ o : Obj, A.heap[r]? = some o ∧ o.isCells = false) : OwnSS C B a c gs Ls :=
  ⟨h.len, own_turnQ h.out hg hr, fun i hi => own_turnQ (h.inn i hi) hg hr, h.nd⟩
/-- What lies below B, and whatever is no slice of slices, is kept. -/
def RCQ (B : Nat) (k : Nat) (o : Obj) : Prop := k < B ∨ (∀ cur, o ≠ .cells cur 23 (0, 0)) ∧ ∀ cur, o ≠ .cells cur 34 (0, 0)
theorem RCQ.other (B k : Nat) (cur : Array Value) (t : TypeId) (h1 : t ≠ 23) (h2 : t ≠ 34) : RCQ B k (.cells cur t (0, 0)) :=
  .inr ⟨fun c e => h1 (by simp only [Obj.cells.injEq] at e; exact e.2.1), fun c e => h2 (by simp only [Obj.cells.injEq] at e; exact e.2.1)⟩
theorem RCQ.fresh (B B2 : Nat) : FreshR (RCQ B) B2 := ⟨fun k c _ => RCQ.other B k c _ (by decide) (by decide), fun k v0 v1 _ => RCQ.other B k _ _ (by decide) (by decide), fun k v _ => RCQ.other B k _ _ (by decide) (by decide)⟩
theorem RCQ.not (B g : Nat) (cur : Array Value) (t : TypeId) (h : B ≤ g) (ht : t = 23 ∨ t = 34) : ¬ RCQ B g (.cells cur t (0, 0)) := by
  rintro (h1 | ⟨h1, h2⟩)
  · omega
  · rcases ht with rfl | rfl
    · exact h1 _ rfl
    · exact h2 _ rfl
theorem grown_blkQ {A C : World} {a : Option Addr} {n c : Nat} (h : A.grownBy C (Value.slice a n c).ownBlock) : A.grownBy C (blk a) := by rw [← blk_own a n c]; exact h
theorem IntRow.lowQ {w : World} {a : Option Addr} {l : List Int} (h : IntRow w a l) (hl : 1 ≤ l.length) : ∀ b, blk a = some b → b < w.heap.size := by
  intro b e
  rcases h with h | ⟨b2, off, rfl, hb, _⟩
  · rw [h] at hl; simp at hl
  · simp [blk] at e; omega
theorem own_emptyEQ {W : World} {B g : Nat} {e : TypeId} (h : W.heap[g]? = some (.cells #[] e (0, 0))) (hB : B ≤ g) : W.ownsRow B e 1 (.slice (some ⟨g, 0, none⟩) 0 0) 0 [] :=
  ⟨rfl, .inr ⟨g, 0, #[], rfl, hB, h, Nat.le_refl _, by unfold maxLen; omega, rfl, rfl⟩⟩
theorem games_itQ (n : Int) (a : Option Addr) (len cap : Nat) (w : World) : Calls Try.prog 79 #[.agg #[.int .i64 n, .slice a len cap]] w fun e w' => e = .returned (.func (.func 123) #[] #[.pointer (some ⟨w.heap.size, 0, none⟩)]) ∧ w' = w.alloc (.cells #[.int .i64 n, .slice a len cap] 25) := by
  go_enter Try.func79, Try.ntmps79
  go_wp2
  go_ret
  exact ⟨rfl, rfl⟩

/-- What has been collected: the box, the rows. -/
structure WcQ (W : World) (B bx : Nat) (a : Option Addr) (c : Nat) (gs : List (Nat × Nat)) (Ls : List (List Int)) : Prop where
  bx : Boxed W bx 34 (.slice a Ls.length c)
  ss : OwnSS W B a c gs Ls
theorem WcQ.turn {A C : World} {row : Option Nat} {B bx : Nat} {a : Option Addr} {c : Nat} {gs : List (Nat × Nat)} {Ls : List (List Int)} (h : WcQ A B bx a c gs Ls) (hg : A.grownBy C row) (hr : ∀ r, row = some r → ∃ o : Obj, A.heap[r]? = some o ∧ o.isCells = false) : WcQ C B bx a c gs Ls :=
  ⟨Boxed.turnQ h.bx hg hr, h.ss.turnQ hg hr⟩
theorem WcQ.push {W w1 : World} {B bx : Nat} {a : Option Addr} {c : Nat} {gs : List (Nat × Nat)} {Ls : List (List Int)} {x y : Int} {g c2 : Nat} {R : Nat → Obj → Prop} (h : WcQ W B bx a c gs Ls) (hB : B ≤ W.heap.size) (hbx : B ≤ bx)
    (hR : ∀ g cur t, B ≤ g → (t = 23 ∨ t = 34) → ¬ R g (.cells cur t (0, 0)))
    (ho : w1.ownsRow B 23 1 (.slice (some ⟨g, 0, none⟩) (Ls.length + 1) c2) (Ls.length + 1) (svs gs Ls ++ [.slice (some ⟨W.heap.size, 0, none⟩) 2 2]))
    (hg : ((W.alloc (.cells #[.int .i64 x, .int .i64 y] 3)).alloc (.cells #[.slice (some ⟨W.heap.size, 0, none⟩) 2 2] 23)).grownBy w1 (blk a)) :
    WcQ (w1.setCell ⟨bx, 0, none⟩ (.slice (some ⟨g, 0, none⟩) (Ls.length + 1) c2)) B bx (some ⟨g, 0, none⟩) c2 (gs ++ [(W.heap.size, 2)]) (Ls ++ [[x, y]]) ∧ Boxed w1 bx 34 (.slice a Ls.length c) ∧
      (∀ D, KeepsFrom D W (w1.setCell ⟨bx, 0, none⟩ (.slice (some ⟨g, 0, none⟩) (Ls.length + 1) c2))) ∧ Below B W (w1.setCell ⟨bx, 0, none⟩ (.slice (some ⟨g, 0, none⟩) (Ls.length + 1) c2)) ∧
      KeepR R W (w1.setCell ⟨bx, 0, none⟩ (.slice (some ⟨g, 0, none⟩) (Ls.length + 1) c2)) := by
  obtain ⟨WA, hWA⟩ : ∃ WA, WA = W.alloc (.cells #[.int .i64 x, .int .i64 y] 3) := ⟨_, rfl⟩
  have hrow0 : (W.alloc (.cells #[.int .i64 x, .int .i64 y] 3)).ownsRow B 3 1 (.slice (some ⟨W.heap.size, 0, none⟩) [x, y].length 2) [x, y].length ([x, y].map iv) :=
    World.ownsRow_lit (base := B) (e := 3) (size := 1) W #[.int .i64 x, .int .i64 y] 2 hB (by unfold maxLen; omega) rfl
  rw [← hWA] at hg hrow0
  have hgA : W.grownBy WA none := by rw [hWA]; exact World.grownBy_alloc _ _ _
  have hbA : Below W.heap.size W WA := by rw [hWA]; exact (Below.refl _ _).alloc (Nat.le_refl _) _
  have hBA : B ≤ WA.heap.size := Nat.le_trans hB hbA.size
  have hoA : WA.ownsRow B 23 1 (.slice a Ls.length c) Ls.length (svs gs Ls) := own_grE h.ss.out hgA (fun k hk e => by cases e)
  have hbxA : Boxed WA bx 34 (.slice a Ls.length c) := h.bx.kept hgA (by simp)
  have hg0 : (WA.alloc (.cells #[.slice (some ⟨W.heap.size, 0, none⟩) 2 2] 23)).grownBy w1 (Value.slice a Ls.length c).ownBlock := by rw [blk_own]; exact hg
  obtain ⟨k1, k2, k3, k4, k5⟩ := Boxed.appended hbxA (by decide) hoA hBA hbx ho hg0
  have hgB : WA.grownBy (WA.alloc (.cells #[.slice (some ⟨W.heap.size, 0, none⟩) 2 2] 23)) none := World.grownBy_alloc _ _ _
  have hss : OwnSS w1 B (some ⟨g, 0, none⟩) c2 (gs ++ [(W.heap.size, 2)]) (Ls ++ [[x, y]]) :=
    h.ss.push (hgA.trans hgB) (own_grE hrow0 hgB (fun k hk e => by cases e)) (Nat.le_refl _) hg ho
  have hset := grownBy_setCell' w1 bx (.slice (some ⟨g, 0, none⟩) (Ls.length + 1) c2)
  have hnb : ∀ {n : Nat} {a2 : Option Addr} {c3 : Nat} {xs : List Value} {e : TypeId}, w1.ownsRow B e 1 (.slice a2 n c3) n xs → 34 ≠ e → blk a2 ≠ some bx := by
    intro n a2 c3 xs e ho2 hne hk
    exact Boxed.not_row k1 hne ho2 (by rw [blk_own]; exact hk.symm)
  refine ⟨⟨?_, ?_⟩, k1, fun D => (kf_below hbA).trans (k4.from D), (hbA.mono hB).trans k5, ?_⟩
  · have : (Ls ++ [[x, y]]).length = Ls.length + 1 := by simp
    rw [this]; exact k2
  · refine hss.aside hset (fun k e => ?_)
    cases e
    exact ⟨hnb hss.out (by decide), fun i hi e => hnb (hss.inn i hi) (by decide) (by rw [← e]; rfl)⟩
  · refine (((KeepR.grown hgA (fun g o e => by cases e)).trans (KeepR.grown hgB (fun g o e => by cases e))).trans (KeepR.grown hg (fun g2q o e ho2 hn => ?_))).trans (KeepR.grown hset (fun g2q o e ho2 hn => ?_))
    · rcases (own_grE hoA hgB (fun k _ e => by cases e)).2 with ⟨hn2, _⟩ | ⟨g3, cap, cur, he, hb, hgc, _⟩
      · simp only [Value.slice.injEq] at hn2; rw [hn2.1] at e; cases e
      · simp only [Value.slice.injEq] at he
        rw [he.1] at e
        have : g3 = g2q := by simpa [blk] using e
        subst this
        rw [hgc] at ho2; cases ho2
        exact hR _ _ _ hb (.inl rfl) hn
    · cases e
      rw [show w1.heap[bx]? = _ from k1] at ho2; cases ho2
      exact hR _ _ _ hbx (.inr rfl) hn

set_option maxRecDepth 100000 in
set_option maxHeartbeats 4000000 in
theorem implBackGames (n : Int) (a : Option Addr) (l : List Int) (cap : Nat) (an : Option Addr) (ns : List Int) (cn : Nat) (w : World) (hrow : IntRow w a l) (hl : l.length ≤ maxLen) (hrn : IntRow w an ns) (hn : ns.length ≤ maxLen) (hcn : ns.length ≤ cn) (hcm : cn ≤ maxLen) :
    Calls Try.prog 33 #[.agg #[.int .i64 n, .slice a l.length cap], .slice an ns.length cn] w (RetSS w (bkR n l ns)) := by
  have mixed : Try.prog.follows .mixedOrders = true := by kernel_rfl
  obtain ⟨i0, hi, hz0, hz1, hz2⟩ := info_parts infoSl
  obtain ⟨Wb, hWb⟩ : ∃ Wb, Wb = w.alloc (.cells #[.int .i64 n, .slice a l.length cap] 25) := ⟨_, rfl⟩
  obtain ⟨Wa, hWa⟩ : ∃ Wa, Wa = Wb.alloc (.cells #[.slice an ns.length cn] 23) := ⟨_, rfl⟩
  have sb : Wb.heap.size = w.heap.size + 1 := by rw [hWb]; simp
  have hbb : Below w.heap.size w Wb := by rw [hWb]; exact Below.one _ _
  have hba : Below w.heap.size w Wa := by rw [hWa]; exact hbb.alloc hbb.size _
  have xa : Box Wa w.heap.size 25 (.int .i64 n) (.slice a l.length cap) := by
    rw [hWa]; exact (show Box Wb w.heap.size 25 (.int .i64 n) (.slice a l.length cap) by rw [hWb]; exact Box.new _ _ _ _).more _
  have xn : Boxed Wa (w.heap.size + 1) 23 (.slice an ns.length cn) := by rw [hWa, ← sb]; exact Boxed.new _ _ _
  have HWa : Hid (Wa = (w.alloc (.cells #[.int .i64 n, .slice a l.length cap] 25)).alloc (.cells #[.slice an ns.length cn] 23)) := by show _ = _; rw [hWa, hWb]
  have hrowa : IntRow Wa a l := hrow.below hba (Nat.le_refl _)
  have hrna : IntRow Wa an ns := hrn.below hba (Nat.le_refl _)
  have HL := Lib.hid hl
  have HLow : Hid (1 ≤ l.length → ∀ b, blk a = some b → b < w.heap.size) := fun h => hrow.lowQ h
  have HOK := Lib.hid (implOrderOk n a l cap an ns cn Wa hrowa hl hrna hn hcn hcm)
  have hnm : ns.length ≤ 9223372036854775807 := by unfold maxLen at hn; omega
  have c0 := xa.c0
  have c1 := xa.c1
  have c2 := xn.cell
  clear hl hrow hrn hWa hWb hbb hn hcn hcm
  cases hst : renB n l ns
  · have HO := Lib.hid hst
    have HE : Hid (bkR n l ns = []) := by show _ = _; unfold bkR; rw [hst]; rfl
    clear hst
    go_enter Try.func33, Try.ntmps33
    go_wp2_with fail
    rw [← HWa.out]
    refine HOK.out.mono ?_
    rintro e w1 ⟨rfl, hb1⟩
    rw [HO.out]
    go_wp2
    go_ret
    refine ⟨⟨none, 0, [], ?_, ?_⟩, hba.trans (hb1.mono hba.size)⟩
    · rw [HE.out]; rfl
    · rw [HE.out]; exact OwnSS.nil _ _
  have HO := Lib.hid hst
  have HE0 : bkR n l ns = bkA l (tn ns) l.length := by unfold bkR; rw [hst]; rfl
  obtain ⟨hk, hnl0, _, hnsl, hod, hni⟩ := ren_parts hst
  obtain ⟨o, ho⟩ : ∃ o, o = tn ns := ⟨_, rfl⟩
  rw [← ho] at hod hni HE0
  have HE := Lib.hid HE0
  have HK := Lib.hid hk
  have hl8 : l.length ≤ 8 := by have := hk.2.1; have := hk.2.2.1; omega
  have hl1 : 1 ≤ l.length := by have := hk.1; have := hk.2.2.1; omega
  have hlow := HLow.out hl1
  have HIX : Hid (∀ (x : Nat) (W : World), Below Wa.heap.size Wa W → Calls Try.prog 87 #[.slice an ns.length cn, .int .i64 (x : Int)] W fun e w' => e = .returned (.int .i64 (ps o x)) ∧ w' = W) := by
    intro x W hW
    rcases hrna with h0 | ⟨b, off, rfl, hb, hcl⟩
    · rw [h0] at hnsl; simp at hnsl; omega
    · have := Try.slices_Index_int b off ns.length cn ns (x : Int) W (Nat.le_refl _) hnm (fun j hj => (hW.cell (p := ⟨b, off + j, none⟩) hb).trans (hcl j hj))
      rw [List.take_of_length_le (Nat.le_refl _)] at this
      unfold ps; rw [← hni]; exact this
  clear hst hk HLow hnl0 hnsl hod hni ho HE0 hrna
  refine (callsIn_wide (n := 8)).1 ?_
  refine callsIn_of_wp_marks Try.func33 rfl trivial ?_ rfl
  simp only [Try.ntmps33, List.size_toArray, List.length_cons, List.length_nil, Nat.reduceAdd, Nat.reduceSub, Array.replicate_succ, Array.replicate_zero, List.push_toArray, List.append_toArray, List.nil_append, List.cons_append]
  gi_wp2_with fail
  refine ⟨trivial, ?_⟩
  rw [← HWa.out]
  refine (callsIn_wide.2 HOK.out).mono ?_
  rintro e w1 ⟨rfl, hb1⟩
  rw [HO.out]
  have xa1 := xa.below hb1 xa.lt
  have xn1 := xn.kept (grown_of_below hb1) (by simp)
  have hrow1 := hrowa.below hb1 (Nat.le_refl _)
  have bw1 := hba.trans (hb1.mono hba.size)
  obtain ⟨W2, hW2⟩ : ∃ W2, W2 = w1.alloc (.cells #[] 23) := ⟨_, rfl⟩
  obtain ⟨W3, hW3⟩ : ∃ W3, W3 = W2.alloc (.cells #[.slice (some ⟨w1.heap.size, 0, none⟩) 0 0] 34) := ⟨_, rfl⟩
  obtain ⟨W4, hW4⟩ : ∃ W4, W4 = W3.alloc (.cells #[.int .i64 n, .slice a l.length cap] 25) := ⟨_, rfl⟩
  have hb2 : Below w1.heap.size w1 W2 := by rw [hW2]; exact (Below.refl _ _).alloc (Nat.le_refl _) _
  have hb3 : Below W2.heap.size W2 W3 := by rw [hW3]; exact (Below.refl _ _).alloc (Nat.le_refl _) _
  have hb4 : Below W3.heap.size W3 W4 := by rw [hW4]; exact (Below.refl _ _).alloc (Nat.le_refl _) _
  have r2 : W2.heap[w1.heap.size]? = some (.cells #[] 23 (0, 0)) := by rw [hW2]; exact World.alloc_heap_new _ _
  have q2 : w1.heap.size < W2.heap.size := (Array.getElem?_eq_some_iff.1 r2).1
  have x3 : Boxed W3 W2.heap.size 34 (.slice (some ⟨w1.heap.size, 0, none⟩) 0 0) := by rw [hW3]; exact Boxed.new _ _ _
  have q3 : W2.heap.size < W3.heap.size := x3.lt
  have xt : Box W4 W3.heap.size 25 (.int .i64 n) (.slice a l.length cap) := by rw [hW4]; exact Box.new _ _ _ _
  have q4 : W3.heap.size < W4.heap.size := xt.lt
  have x4 : Boxed W4 W2.heap.size 34 (.slice (some ⟨w1.heap.size, 0, none⟩) 0 0) := (hb4.block _ q3).trans x3
  have r4 : W4.heap[w1.heap.size]? = some (.cells #[] 23 (0, 0)) := ((hb4.block _ (Nat.lt_trans q2 q3)).trans (hb3.block _ q2)).trans r2
  have hcol : WcQ W4 w1.heap.size W2.heap.size (some ⟨w1.heap.size, 0, none⟩) 0 [] [] := ⟨x4, ⟨rfl, own_emptyEQ r4 (Nat.le_refl _), fun i h => absurd h (Nat.not_lt_zero _), fun i j h => absurd h (Nat.not_lt_zero _)⟩⟩
  have xa3 := (xa1.below hb2 xa1.lt).below hb3 (xa1.below hb2 xa1.lt).lt
  have b23 := hb2.trans (hb3.mono hb2.size)
  have b24 := b23.trans (hb4.mono b23.size)
  have hrow4 := hrow1.below b24 (Nat.le_refl _)
  have sw2 : Hid (W2.heap.size = w1.heap.size + 1) := by show _ = _; rw [hW2]; simp
  have HW3 : Hid (W3 = (w1.alloc (.cells #[] 23)).alloc (.cells #[.slice (some ⟨w1.heap.size, 0, none⟩) 0 0] 34)) := by show _ = _; rw [hW3, hW2]
  have HW4 := Lib.hid hW4
  have XT := Lib.hid xt
  have HR := Lib.hid hrow4
  have HCOL := Lib.hid hcol
  have BW1 := Lib.hid bw1
  have B24 := Lib.hid b24
  have XA1 := Lib.hid xa1
  have HR1 := Lib.hid hrow1
  have XN1 := Lib.hid xn1
  have HB1 := Lib.hid hb1
  clear c0 c1
  have c0 := xa1.c0
  have c1 := xa1.c1
  have e0 := xa3.c0
  have e1 := xa3.c1
  rw [HW3.out] at e0 e1
  have hsz1 := bw1.size
  have hws : w.heap.size < w1.heap.size := xa1.lt
  clear hW2 hW3 hW4 hb2 hb3 hb4 r2 x3 xt x4 r4 hcol xa1 xa3 xn1 b23 b24 hrow4 hrow1 hba hrowa xa xn bw1 sb c2
  gi_wp2_with fail
  refine ⟨trivial, ?_⟩
  rw [← HW3.out, ← sw2.out]
  refine (callsIn_wide.2 (games_itQ _ a l.length cap W3)).mono ?_
  rintro e w4 ⟨rfl, hw4⟩
  rw [← HW4.out] at hw4
  have hw5 := hw4.symm
  clear hw4
  subst hw5
  clear c0 c1 e0 e1
  gi_wp2
  refine rangeY (F := Fence.wide) rfl (by omega) (gf := 123) (lb := #[.pointer (some ⟨W3.heap.size, 0, none⟩)]) rfl trivial (enters_of Try.func123 (by kernel_rfl) rfl)
    (games_stopsW 7 (by omega) W3.heap.size (W4.heap.size + 2) (RCQ w1.heap.size) n a cap l HK.out W4 XT.out HR.out (RCQ.other _ _ _ _ (by decide) (by decide)) (fun b o e => .inl (by have := hlow b e; omega)) (RCQ.fresh _ _))
    (fun h k => h.trans k) (fun W l o o2 h hc => KeepR.put W l o o2 h hc) (fun _ _ _ _ _ _ _ _ _ h => h) (Below.refl _ _) (fun _ => rfl)
    (fun pre W => (∃ a1 c1 gs, WcQ W w1.heap.size W2.heap.size a1 c1 gs (bkP l o pre)) ∧ Below w1.heap.size w1 W)
    (fun _ _ _ => False)
    (fun s A B row hs hg hr => ⟨by obtain ⟨a1, c1, gs, h⟩ := hs.1; exact ⟨a1, c1, gs, h.turn hg (fun r e => (hr r e).2)⟩, ownFrom_below (β := Unit) (Nat.le_refl _) (by omega) () A B row hs.2 hg hr⟩)
    (fun _ _ _ _ _ hs _ _ => hs)
    ⟨⟨_, _, [], HCOL.out⟩, B24.out⟩
    (fun x => { tmps := #[.agg #[.int .i64 n, .slice a l.length cap], .slice an ns.length cn, .pointer (some ⟨w.heap.size, 0, none⟩), .pointer (some ⟨w.heap.size + 1, 0, none⟩), .slice none 0 0, .pointer (some ⟨W2.heap.size, 0, none⟩), .int .i64 (x.1.val : Int), .int .i64 (x.2.val : Int), .agg #[.int .i64 n, .slice a l.length cap], .slice an ns.length cn, .bool true, .bool false, .slice (some ⟨w1.heap.size, 0, none⟩) 0 0, .agg #[.int .i64 n, .slice a l.length cap], .func (.func 123) #[] #[.pointer (some ⟨W3.heap.size, 0, none⟩)], .int .i64 (x.1.val : Int), .int .i64 (x.2.val : Int), undef, undef, undef, undef, undef, undef, undef, undef, undef, undef, undef, undef, undef, undef], defers := [] }) ?assign ?body ?done ?stop
  case assign =>
    intro lg x W K hK
    unfold encP
    gi_wp2
    exact hK
  case body =>
    rintro lg pre x W ⟨⟨a1, c1, gs, hwc⟩, hB⟩ ⟨rest, hnext⟩
    have hlen : (bkP l o pre).length ≤ 64 := by
      have h1 := games_lenQ l hl8
      have h2 := bkP_len l o pre
      rw [hnext, List.length_append, List.length_cons] at h1
      omega
    have hxn := (XN1.out.kept (grown_of_below hB) (by simp)).cell
    have hsz := hB.size
    obtain ⟨p, hp⟩ : ∃ p, p = x.1.val := ⟨_, rfl⟩
    obtain ⟨q, hq⟩ : ∃ q, q = x.2.val := ⟨_, rfl⟩
    have HIX2 : Hid (∀ (x : Nat) (W2 : World), Below W.heap.size W W2 → Calls Try.prog 87 #[.slice an ns.length cn, .int .i64 (x : Int)] W2 fun e w' => e = .returned (.int .i64 (ps o x)) ∧ w' = W2) := fun x W2 h => by
      have b2 := HB1.out.trans (hB.mono HB1.out.size)
      exact HIX.out x W2 (b2.trans (h.mono b2.size))
    obtain ⟨pp, hpp⟩ : ∃ pp, pp = ps o p := ⟨_, rfl⟩
    obtain ⟨pq, hpq⟩ : ∃ pq, pq = ps o q := ⟨_, rfl⟩
    have HPP := Lib.hid hpp
    have HPQ := Lib.hid hpq
    have hyes : Hid (pq < pp → bkP l o (pre ++ [x]) = bkP l o pre ++ [g2q p q]) := fun h => by rw [bkP_yes (by rw [← hp, ← hq, ← hpp, ← hpq]; exact h), ← hp, ← hq]
    have hno : Hid (¬ pq < pp → bkP l o (pre ++ [x]) = bkP l o pre) := fun h => bkP_no (by rw [← hp, ← hq, ← hpp, ← hpq]; exact h)
    rw [← hp, ← hq]
    have HWC := Lib.hid hwc
    have HB := Lib.hid hB
    have HBD := Lib.hid (Below.refl W.heap.size W).drew
    have HP := Lib.hid hp
    have HQ := Lib.hid hq
    clear hwc hB hnext hp hq hpp hpq
    by_cases hlt : pq < pp
    · have HWK := Lib.hid (hyes.out hlt)
      clear hyes hno
      gi_wp2
      gi_region_with_o (first
        | (refine ⟨trivial, ?_⟩; (with_reducible refine (CallsIn.inRound lg (callsIn_wide.2 (HIX2.out p _ HBD.out))).mono ?_); rintro e w5 ⟨rfl, rfl⟩; rw [← HPP.out])
        | (refine ⟨trivial, ?_⟩; (with_reducible refine (CallsIn.inRound lg (callsIn_wide.2 (HIX2.out q _ HBD.out))).mono ?_); rintro e w5 ⟨rfl, rfl⟩; rw [← HPQ.out]))
      all_goals
        obtain ⟨w7, hw7⟩ : ∃ w7, w7 = W.drew := ⟨_, rfl⟩
        rw [← hw7]
        have b7 : Below W.heap.size W w7 := by rw [hw7]; exact HBD.out
        have HWC7 := Lib.hid (HWC.out.turn (grown_of_below b7) (fun r e => by cases e))
        have HB7 := Lib.hid (HB.out.trans (b7.mono hsz))
        have HKF := Lib.hid b7
        clear b7 hw7 hxn
        obtain ⟨Ls, hLs⟩ : ∃ Ls, Ls = bkP l o pre := ⟨_, rfl⟩
        rw [← hLs] at HWK hlen HWC7
        have hsz7 := HB7.out.size
        have hvb := HWC7.out.bx.cell
        have hOW := ((HWC7.out.ss.out.alloc (.cells #[.int .i64 p, .int .i64 q] 3)).alloc (.cells #[.slice (some ⟨w7.heap.size, 0, none⟩) 2 2] 23))
        have HOW := Lib.hid hOW
        have HCN : Hid (∀ j u, [Value.slice (some ⟨w7.heap.size, 0, none⟩) 2 2][j]? = some u → ((w7.alloc (.cells #[.int .i64 p, .int .i64 q] 3)).alloc (.cells #[.slice (some ⟨w7.heap.size, 0, none⟩) 2 2] 23)).cell? ((⟨w7.heap.size + 1, 0, none⟩ : Addr).add j) = some u) := by
          have h := cell_one_new (w7.alloc (.cells #[.int .i64 p, .int .i64 q] 3)) (.slice (some ⟨w7.heap.size, 0, none⟩) 2 2) 23
          rw [World.size_alloc] at h
          exact h
        clear hOW hLs
        gi_wp2_with (gi_at_builtin; refine wpListIn_append_own _ rfl _ _ 34 rfl w1.heap.size 23 i0 (.slice none 0 0) 1 24 Try.underlying34 hi hz0 hz1 hz2 rfl (by decide) _ _ _ rfl HOW.out ⟨w7.heap.size + 1, 0, none⟩ 1 1 [.slice (some ⟨w7.heap.size, 0, none⟩) 2 2] rfl rfl HCN.out (by intro u hu; simp at hu; subst hu; rfl) (by unfold maxLen; omega) (by omega) (by simp; omega) ?_; intro v' w8 hown' hgrow _; obtain ⟨g', cap', rfl⟩ := ownsRow_succ hown'; replace hgrow := grown_blkQ (a := a1) (n := Ls.length) (c := c1) hgrow; obtain ⟨hcol2, hv1, hk2, hb2, hkr⟩ := HWC7.out.push (R := RCQ w1.heap.size) hsz7 (by omega) (fun g cur t hg ht => RCQ.not w1.heap.size g cur t hg ht) hown' hgrow; have hc1 := hv1.cell; have hf1 := hv1.frozen)
        exact ⟨(kf_below HKF.out).trans (hk2 _), (KeepR.below HKF.out).trans hkr, ⟨_, _, _, by rw [HWK.out]; exact hcol2⟩, HB7.out.trans hb2⟩
    · have HWK := Lib.hid (hno.out hlt)
      clear hyes hno
      gi_wp2
      gi_region_with_o (first
        | (refine ⟨trivial, ?_⟩; (with_reducible refine (CallsIn.inRound lg (callsIn_wide.2 (HIX2.out p _ HBD.out))).mono ?_); rintro e w5 ⟨rfl, rfl⟩; rw [← HPP.out])
        | (refine ⟨trivial, ?_⟩; (with_reducible refine (CallsIn.inRound lg (callsIn_wide.2 (HIX2.out q _ HBD.out))).mono ?_); rintro e w5 ⟨rfl, rfl⟩; rw [← HPQ.out]))
      all_goals
        obtain ⟨w7, hw7⟩ : ∃ w7, w7 = W.drew := ⟨_, rfl⟩
        rw [← hw7]
        have b7 : Below W.heap.size W w7 := by rw [hw7]; exact HBD.out
        have HWC7 := Lib.hid (HWC.out.turn (grown_of_below b7) (fun r e => by cases e))
        have HB7 := Lib.hid (HB.out.trans (b7.mono hsz))
        have HKF := Lib.hid b7
        clear b7 hw7 hxn
        gi_wp2
        exact ⟨kf_below HKF.out, KeepR.below HKF.out, ⟨_, _, _, by rw [HWK.out]; exact HWC7.out⟩, HB7.out⟩
  case done =>
    rintro D ys W hD hS ⟨⟨a1, c1, gs, hwc⟩, hB⟩ hK
    have hys : bkP l o ys = bkA l o l.length := by rw [hS]; exact bkP_to l o l.length (Nat.le_refl _)
    rw [hys] at hwc
    have hvc := hwc.bx.cell
    have HC := Lib.hid hwc
    have HB := Lib.hid hB
    have HKK := Lib.hid hK
    clear hwc hB hK hS hys
    gi_wp2
    refine ⟨by simp, .inl ⟨_, _, rfl, run_takeDeferred HKK.out, ?_⟩⟩
    have hput := HC.out.turn (grownBy_putObj' W D (.deferred none)) (fun r e => by cases e; exact ⟨_, HKK.out, rfl⟩)
    refine ⟨_, results_tmp rfl _ _ _, ⟨a1, c1, gs, by rw [HE.out]; rfl, ?_⟩, BW1.out.trans ((HB.out.trans (belowK_b (w := w1) (Nat.le_refl _) W D _ _ (by omega) HKK.out rfl rfl)).mono hsz1)⟩
    rw [HE.out]; exact hput.ss.mono hsz1
  case stop =>
    rintro D c pre W _ _ h _
    exact h.elim
end Go.Proofs.Yteegbkbphfmooaa
