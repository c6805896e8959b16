/-
  'WeakestGames' of the program. No conditions but the bounds that Go gives a slice.
-/
import Derived.Test.Ytcipffimjaancaa9K
import Derived.Test.Ytcipffimjaancaa6B
namespace Go.Proofs.Ytcipffimjaancaa
open Go.ChangeShapes Go.WideShapes Go.ChangeAt Go.RowKit Go.Shelf
attribute [local go_sem] Oper.semAt_some
set_option linter.unusedVariables false

theorem mem_games9 (m : Nat) (l : List Int) (x : Pl m) : x ∈ gamesL m l ↔ bt l x.1.val x.2.val = true := by
  unfold gamesL gamesTo
  rw [List.take_of_length_le (by simp)]
  simp only [List.mem_flatMap, rowG, losers, List.mem_map, List.mem_filter]
  constructor
  · rintro ⟨a, _, b, ⟨_, hb⟩, rfl⟩; exact hb
  · intro h; exact ⟨x.1, List.mem_finRange _, x.2, ⟨List.mem_finRange _, h⟩, rfl⟩
/-- The pairs that are kept of the games that have come. -/
noncomputable def wkP (l : List Int) {m : Nat} (pre : List (Pl m)) : List (List Int) := (pre.filter fun x => !stB (flipL l x.1.val x.2.val)).map fun x => g2 x.1.val x.2.val
theorem wkP_yes {l : List Int} {m : Nat} {pre : List (Pl m)} {x : Pl m} (h : stB (flipL l x.1.val x.2.val) = false) : wkP l (pre ++ [x]) = wkP l pre ++ [g2 x.1.val x.2.val] := by
  unfold wkP; rw [List.filter_append, List.map_append]; simp [h]
theorem wkP_no {l : List Int} {m : Nat} {pre : List (Pl m)} {x : Pl m} (h : stB (flipL l x.1.val x.2.val) = true) : wkP l (pre ++ [x]) = wkP l pre := by
  unfold wkP; rw [List.filter_append, List.map_append]; simp [h]
theorem wkP_row (l : List Int) (a : Fin l.length) : wkP l (rowG l.length l a) = wkB l a.val l.length := by
  unfold wkP wkB rowG losers
  rw [← show (List.finRange l.length).map Fin.val = List.range l.length from List.ext_getElem (by simp) (by intro i h1 h2; simp)]
  rw [List.filter_map, List.filter_filter, List.filter_map, List.map_map, List.map_map]
  congr 1
  apply List.filter_congr
  intro b _
  simp only [Function.comp, wk]
  rw [Bool.and_comm]
theorem wkP_app (l : List Int) {m : Nat} (p q : List (Pl m)) : wkP l (p ++ q) = wkP l p ++ wkP l q := by
  unfold wkP; rw [List.filter_append, List.map_append]
theorem wkP_to (l : List Int) : ∀ k, k ≤ l.length → wkP l (gamesTo l.length l k) = wkA l k
  | 0, _ => rfl
  | k + 1, h => by rw [gamesTo_succ l.length l k (by omega), wkP_app, wkP_to l k (by omega), wkP_row, wkA_succ]
theorem wkP_len (l : List Int) {m : Nat} (pre : List (Pl m)) : (wkP l pre).length ≤ pre.length := by
  unfold wkP; rw [List.length_map]; exact List.length_filter_le _ _
theorem games_len9 (l : List Int) (h : l.length ≤ 8) : (gamesL l.length l).length ≤ 64 := by
  have : ∀ k, k ≤ l.length → (gamesTo l.length l k).length ≤ 8 * k := by
    intro k
    induction k with
    | zero => intro _; simp [gamesTo]
    | succ k ih =>
      intro hk
      have h1 := ih (by omega)
      rw [gamesTo_succ l.length l k (by omega), List.length_append]
      have : (rowG l.length l ⟨k, by omega⟩).length ≤ l.length := by
        unfold rowG losers
        rw [List.length_map]
        exact Nat.le_trans (List.length_filter_le _ _) (by simp)
      omega
  have := this l.length (Nat.le_refl _)
  unfold gamesL; omega

theorem Boxed.turn9 {A C : World} {row : Option Nat} {b : Nat} {t : TypeId} {v : Value} (h : Boxed A b t v) (hg : A.grownBy C row) (hr : ∀ r, row = some r → ∃ o : Obj, A.heap[r]? = some o ∧ o.isCells = false) : Boxed C b t v :=
  boxed_own (β := Unit) b t (fun _ => v) () A C row h hg hr
theorem own_turn9 {A C : World} {row : Option Nat} {B n : Nat} {e : TypeId} {v : Value} {xs : List Value} (h : A.ownsRow B e 1 v n xs) (hg : A.grownBy C row) (hr : ∀ r, row = some r → ∃ o : Obj, A.heap[r]? = some o ∧ o.isCells = false) : C.ownsRow B e 1 v n xs := by
  rcases h.2 with ⟨hn, h0⟩ | ⟨g, cap, cur, he, hB, hgc, q⟩
  · exact ⟨h.1, .inl ⟨hn, h0⟩⟩
  · exact ⟨h.1, .inr ⟨g, cap, cur, he, hB, (grownBy_keeps_cells hg hr hgc rfl).trans hgc, q⟩⟩
theorem OwnSS.turn9 {A C : World} {row : Option Nat} {B : Nat} {a : Option Addr} {c : Nat} {gs : List (Nat × Nat)} {Ls : List (List Int)} (h : OwnSS A B a c gs Ls) (hg : A.grownBy C row) (hr : ∀ r, row = some r → ∃ o : Obj, A.heap[r]? = some o ∧ o.isCells = false) : OwnSS C B a c gs Ls :=
  ⟨h.len, own_turn9 h.out hg hr, fun i hi => own_turn9 (h.inn i hi) hg hr, h.nd⟩
/-- What lies below B, and whatever is no slice of slices, is kept. -/
def RC9 (B : Nat) (k : Nat) (o : Obj) : Prop := k < B ∨ (∀ cur, o ≠ .cells cur 23 (0, 0)) ∧ ∀ cur, o ≠ .cells cur 48 (0, 0)
theorem RC9.other (B k : Nat) (cur : Array Value) (t : TypeId) (h1 : t ≠ 23) (h2 : t ≠ 48) : RC9 B k (.cells cur t (0, 0)) :=
  .inr ⟨fun c e => h1 (by simp only [Obj.cells.injEq] at e; exact e.2.1), fun c e => h2 (by simp only [Obj.cells.injEq] at e; exact e.2.1)⟩
theorem RC9.fresh (B B2 : Nat) : FreshR (RC9 B) B2 := ⟨fun k c _ => RC9.other B k c _ (by decide) (by decide), fun k v0 v1 _ => RC9.other B k _ _ (by decide) (by decide), fun k v _ => RC9.other B k _ _ (by decide) (by decide)⟩
theorem RC9.not (B g : Nat) (cur : Array Value) (t : TypeId) (h : B ≤ g) (ht : t = 23 ∨ t = 48) : ¬ RC9 B g (.cells cur t (0, 0)) := by
  rintro (h1 | ⟨h1, h2⟩)
  · omega
  · rcases ht with rfl | rfl
    · exact h1 _ rfl
    · exact h2 _ rfl
theorem grown_blk9 {A C : World} {a : Option Addr} {n c : Nat} (h : A.grownBy C (Value.slice a n c).ownBlock) : A.grownBy C (blk a) := by rw [← blk_own a n c]; exact h
theorem IntRow.low9 {w : World} {a : Option Addr} {l : List Int} (h : IntRow w a l) (hl : 1 ≤ l.length) : ∀ b, blk a = some b → b < w.heap.size := by
  intro b e
  rcases h with h | ⟨b2, off, rfl, hb, _⟩
  · rw [h] at hl; simp at hl
  · simp [blk] at e; omega
theorem own_emptyE9 {W : World} {B g : Nat} {e : TypeId} (h : W.heap[g]? = some (.cells #[] e (0, 0))) (hB : B ≤ g) : W.ownsRow B e 1 (.slice (some ⟨g, 0, none⟩) 0 0) 0 [] :=
  ⟨rfl, .inr ⟨g, 0, #[], rfl, hB, h, Nat.le_refl _, by unfold maxLen; omega, rfl, rfl⟩⟩
theorem games_it9 (n : Int) (a : Option Addr) (len cap : Nat) (w : World) : Calls Try.prog 92 #[.agg #[.int .i64 n, .slice a len cap]] w fun e w' => e = .returned (.func (.func 118) #[] #[.pointer (some ⟨w.heap.size, 0, none⟩)]) ∧ w' = w.alloc (.cells #[.int .i64 n, .slice a len cap] 25) := by
  go_enter Try.func92, Try.ntmps92
  go_wp2
  go_ret
  exact ⟨rfl, rfl⟩

/-- What has been collected: the box, the rows. -/
structure Wc9 (W : World) (B bx : Nat) (a : Option Addr) (c : Nat) (gs : List (Nat × Nat)) (Ls : List (List Int)) : Prop where
  bx : Boxed W bx 48 (.slice a Ls.length c)
  ss : OwnSS W B a c gs Ls
theorem Wc9.turn {A C : World} {row : Option Nat} {B bx : Nat} {a : Option Addr} {c : Nat} {gs : List (Nat × Nat)} {Ls : List (List Int)} (h : Wc9 A B bx a c gs Ls) (hg : A.grownBy C row) (hr : ∀ r, row = some r → ∃ o : Obj, A.heap[r]? = some o ∧ o.isCells = false) : Wc9 C B bx a c gs Ls :=
  ⟨Boxed.turn9 h.bx hg hr, h.ss.turn9 hg hr⟩
theorem Wc9.push {W w1 : World} {B bx : Nat} {a : Option Addr} {c : Nat} {gs : List (Nat × Nat)} {Ls : List (List Int)} {x y : Int} {g c2 : Nat} {R : Nat → Obj → Prop} (h : Wc9 W B bx a c gs Ls) (hB : B ≤ W.heap.size) (hbx : B ≤ bx)
    (hR : ∀ g cur t, B ≤ g → (t = 23 ∨ t = 48) → ¬ R g (.cells cur t (0, 0)))
    (ho : w1.ownsRow B 23 1 (.slice (some ⟨g, 0, none⟩) (Ls.length + 1) c2) (Ls.length + 1) (svs gs Ls ++ [.slice (some ⟨W.heap.size, 0, none⟩) 2 2]))
    (hg : ((W.alloc (.cells #[.int .i64 x, .int .i64 y] 3)).alloc (.cells #[.slice (some ⟨W.heap.size, 0, none⟩) 2 2] 23)).grownBy w1 (blk a)) :
    Wc9 (w1.setCell ⟨bx, 0, none⟩ (.slice (some ⟨g, 0, none⟩) (Ls.length + 1) c2)) B bx (some ⟨g, 0, none⟩) c2 (gs ++ [(W.heap.size, 2)]) (Ls ++ [[x, y]]) ∧ Boxed w1 bx 48 (.slice a Ls.length c) ∧
      (∀ D, KeepsFrom D W (w1.setCell ⟨bx, 0, none⟩ (.slice (some ⟨g, 0, none⟩) (Ls.length + 1) c2))) ∧ Below B W (w1.setCell ⟨bx, 0, none⟩ (.slice (some ⟨g, 0, none⟩) (Ls.length + 1) c2)) ∧
      KeepR R W (w1.setCell ⟨bx, 0, none⟩ (.slice (some ⟨g, 0, none⟩) (Ls.length + 1) c2)) := by
  obtain ⟨WA, hWA⟩ : ∃ WA, WA = W.alloc (.cells #[.int .i64 x, .int .i64 y] 3) := ⟨_, rfl⟩
  have hrow0 : (W.alloc (.cells #[.int .i64 x, .int .i64 y] 3)).ownsRow B 3 1 (.slice (some ⟨W.heap.size, 0, none⟩) [x, y].length 2) [x, y].length ([x, y].map iv) :=
    World.ownsRow_lit (base := B) (e := 3) (size := 1) W #[.int .i64 x, .int .i64 y] 2 hB (by unfold maxLen; omega) rfl
  rw [← hWA] at hg hrow0
  have hgA : W.grownBy WA none := by rw [hWA]; exact World.grownBy_alloc _ _ _
  have hbA : Below W.heap.size W WA := by rw [hWA]; exact (Below.refl _ _).alloc (Nat.le_refl _) _
  have hBA : B ≤ WA.heap.size := Nat.le_trans hB hbA.size
  have hoA : WA.ownsRow B 23 1 (.slice a Ls.length c) Ls.length (svs gs Ls) := own_grE h.ss.out hgA (fun k hk e => by cases e)
  have hbxA : Boxed WA bx 48 (.slice a Ls.length c) := h.bx.kept hgA (by simp)
  have hg0 : (WA.alloc (.cells #[.slice (some ⟨W.heap.size, 0, none⟩) 2 2] 23)).grownBy w1 (Value.slice a Ls.length c).ownBlock := by rw [blk_own]; exact hg
  obtain ⟨k1, k2, k3, k4, k5⟩ := Boxed.appended hbxA (by decide) hoA hBA hbx ho hg0
  have hgB : WA.grownBy (WA.alloc (.cells #[.slice (some ⟨W.heap.size, 0, none⟩) 2 2] 23)) none := World.grownBy_alloc _ _ _
  have hss : OwnSS w1 B (some ⟨g, 0, none⟩) c2 (gs ++ [(W.heap.size, 2)]) (Ls ++ [[x, y]]) :=
    h.ss.push (hgA.trans hgB) (own_grE hrow0 hgB (fun k hk e => by cases e)) (Nat.le_refl _) hg ho
  have hset := grownBy_setCell' w1 bx (.slice (some ⟨g, 0, none⟩) (Ls.length + 1) c2)
  have hnb : ∀ {n : Nat} {a2 : Option Addr} {c3 : Nat} {xs : List Value} {e : TypeId}, w1.ownsRow B e 1 (.slice a2 n c3) n xs → 48 ≠ e → blk a2 ≠ some bx := by
    intro n a2 c3 xs e ho2 hne hk
    exact Boxed.not_row k1 hne ho2 (by rw [blk_own]; exact hk.symm)
  refine ⟨⟨?_, ?_⟩, k1, fun D => (kf_below hbA).trans (k4.from D), (hbA.mono hB).trans k5, ?_⟩
  · have : (Ls ++ [[x, y]]).length = Ls.length + 1 := by simp
    rw [this]; exact k2
  · refine hss.aside hset (fun k e => ?_)
    cases e
    exact ⟨hnb hss.out (by decide), fun i hi e => hnb (hss.inn i hi) (by decide) (by rw [← e]; rfl)⟩
  · refine (((KeepR.grown hgA (fun g o e => by cases e)).trans (KeepR.grown hgB (fun g o e => by cases e))).trans (KeepR.grown hg (fun g2 o e ho2 hn => ?_))).trans (KeepR.grown hset (fun g2 o e ho2 hn => ?_))
    · rcases (own_grE hoA hgB (fun k _ e => by cases e)).2 with ⟨hn2, _⟩ | ⟨g3, cap, cur, he, hb, hgc, _⟩
      · simp only [Value.slice.injEq] at hn2; rw [hn2.1] at e; cases e
      · simp only [Value.slice.injEq] at he
        rw [he.1] at e
        have : g3 = g2 := by simpa [blk] using e
        subst this
        rw [hgc] at ho2; cases ho2
        exact hR _ _ _ hb (.inl rfl) hn
    · cases e
      rw [show w1.heap[bx]? = _ from k1] at ho2; cases ho2
      exact hR _ _ _ hbx (.inr rfl) hn

set_option maxRecDepth 100000 in
set_option maxHeartbeats 4000000 in
theorem implWeak (n : Int) (a : Option Addr) (l : List Int) (cap : Nat) (w : World) (hrow : IntRow w a l) (hl : l.length ≤ maxLen) :
    Calls Try.prog 47 #[.agg #[.int .i64 n, .slice a l.length cap]] w (RetSS w (wkR n l)) := by
  obtain ⟨i0, hi, hz0, hz1, hz2⟩ := info_parts infoSl
  obtain ⟨Wa, hWa⟩ : ∃ Wa, Wa = w.alloc (.cells #[.int .i64 n, .slice a l.length cap] 25) := ⟨_, rfl⟩
  have HWa := Lib.hid hWa
  have hba : Below w.heap.size w Wa := by rw [hWa]; exact (Below.refl _ _).alloc (Nat.le_refl _) _
  have xa : Box Wa w.heap.size 25 (.int .i64 n) (.slice a l.length cap) := by rw [hWa]; exact Box.new _ _ _ _
  have hrowa : IntRow Wa a l := hrow.below hba (Nat.le_refl _)
  have HL := Lib.hid hl
  have HLow : Hid (1 ≤ l.length → ∀ b, blk a = some b → b < w.heap.size) := fun h => hrow.low9 h
  clear hl hrow hWa
  cases hst : isB9 n l
  · have HO := Lib.hid hst
    have HE : Hid (wkR n l = []) := by show _ = _; unfold wkR; rw [hst]; rfl
    clear hst
    go_enter Try.func47, Try.ntmps47
    go_wp2_with fail
    rw [← HWa.out]
    refine (implStrong n a l cap Wa hrowa HL.out).mono ?_
    rintro e w1 ⟨rfl, hb1⟩
    rw [HO.out]
    go_wp2
    go_ret
    refine ⟨⟨none, 0, [], ?_, ?_⟩, hba.trans (hb1.mono hba.size)⟩
    · rw [HE.out]; rfl
    · rw [HE.out]; exact OwnSS.nil _ _
  have HO := Lib.hid hst
  have HE : Hid (wkR n l = wkA l l.length) := by show _ = _; unfold wkR; rw [hst]; rfl
  have hok : okB n l = true := by unfold isB9 at hst; exact (Bool.and_eq_true_iff.1 hst).1
  have hk := okB_iff.1 hok
  have HK := Lib.hid hk
  have hl8 : l.length ≤ 8 := by have := hk.2.1; have := hk.2.2.1; omega
  have hlow := HLow.out (by have := hk.1; have := hk.2.2.1; omega)
  clear hst hok hk HLow
  refine (callsIn_wide (n := 8)).1 ?_
  refine callsIn_of_wp_marks Try.func47 rfl trivial ?_ rfl
  simp only [Try.ntmps47, List.size_toArray, List.length_cons, List.length_nil, Nat.reduceAdd, Nat.reduceSub, Array.replicate_succ, Array.replicate_zero, List.push_toArray, List.append_toArray, List.nil_append, List.cons_append]
  gi_wp2_with fail
  refine ⟨trivial, ?_⟩
  rw [← HWa.out]
  refine (callsIn_wide.2 (implStrong n a l cap Wa hrowa HL.out)).mono ?_
  rintro e w1 ⟨rfl, hb1⟩
  rw [HO.out]
  have xa1 := xa.below hb1 xa.lt
  have hrow1 := hrowa.below hb1 (Nat.le_refl _)
  have bw1 := hba.trans (hb1.mono hba.size)
  obtain ⟨W2, hW2⟩ : ∃ W2, W2 = w1.alloc (.cells #[] 23) := ⟨_, rfl⟩
  obtain ⟨W3, hW3⟩ : ∃ W3, W3 = W2.alloc (.cells #[.slice (some ⟨w1.heap.size, 0, none⟩) 0 0] 48) := ⟨_, rfl⟩
  obtain ⟨W4, hW4⟩ : ∃ W4, W4 = W3.alloc (.cells #[.int .i64 n, .slice a l.length cap] 25) := ⟨_, rfl⟩
  have hb2 : Below w1.heap.size w1 W2 := by rw [hW2]; exact (Below.refl _ _).alloc (Nat.le_refl _) _
  have hb3 : Below W2.heap.size W2 W3 := by rw [hW3]; exact (Below.refl _ _).alloc (Nat.le_refl _) _
  have hb4 : Below W3.heap.size W3 W4 := by rw [hW4]; exact (Below.refl _ _).alloc (Nat.le_refl _) _
  have r2 : W2.heap[w1.heap.size]? = some (.cells #[] 23 (0, 0)) := by rw [hW2]; exact World.alloc_heap_new _ _
  have q2 : w1.heap.size < W2.heap.size := (Array.getElem?_eq_some_iff.1 r2).1
  have x3 : Boxed W3 W2.heap.size 48 (.slice (some ⟨w1.heap.size, 0, none⟩) 0 0) := by rw [hW3]; exact Boxed.new _ _ _
  have q3 : W2.heap.size < W3.heap.size := x3.lt
  have xt : Box W4 W3.heap.size 25 (.int .i64 n) (.slice a l.length cap) := by rw [hW4]; exact Box.new _ _ _ _
  have q4 : W3.heap.size < W4.heap.size := xt.lt
  have x4 : Boxed W4 W2.heap.size 48 (.slice (some ⟨w1.heap.size, 0, none⟩) 0 0) := (hb4.block _ q3).trans x3
  have r4 : W4.heap[w1.heap.size]? = some (.cells #[] 23 (0, 0)) := ((hb4.block _ (Nat.lt_trans q2 q3)).trans (hb3.block _ q2)).trans r2
  have hcol : Wc9 W4 w1.heap.size W2.heap.size (some ⟨w1.heap.size, 0, none⟩) 0 [] [] := ⟨x4, ⟨rfl, own_emptyE9 r4 (Nat.le_refl _), fun i h => absurd h (Nat.not_lt_zero _), fun i j h => absurd h (Nat.not_lt_zero _)⟩⟩
  have xa3 := (xa1.below hb2 xa1.lt).below hb3 (xa1.below hb2 xa1.lt).lt
  have b23 := hb2.trans (hb3.mono hb2.size)
  have b24 := b23.trans (hb4.mono b23.size)
  have hrow4 := hrow1.below b24 (Nat.le_refl _)
  have sw2 : Hid (W2.heap.size = w1.heap.size + 1) := by show _ = _; rw [hW2]; simp
  have HW3 : Hid (W3 = (w1.alloc (.cells #[] 23)).alloc (.cells #[.slice (some ⟨w1.heap.size, 0, none⟩) 0 0] 48)) := by show _ = _; rw [hW3, hW2]
  have HW4 := Lib.hid hW4
  have XT := Lib.hid xt
  have HR := Lib.hid hrow4
  have HCOL := Lib.hid hcol
  have BW1 := Lib.hid bw1
  have B24 := Lib.hid b24
  have XA1 := Lib.hid xa1
  have HR1 := Lib.hid hrow1
  have c0 := xa1.c0
  have c1 := xa1.c1
  have e0 := xa3.c0
  have e1 := xa3.c1
  rw [HW3.out] at e0 e1
  have hsz1 := bw1.size
  have hws : w.heap.size < w1.heap.size := xa1.lt
  clear hW2 hW3 hW4 hb2 hb3 hb4 r2 x3 xt x4 r4 hcol xa1 xa3 b23 b24 hrow4 hrow1 hba hb1 hrowa xa bw1
  gi_wp2_with fail
  refine ⟨trivial, ?_⟩
  rw [← HW3.out, ← sw2.out]
  refine (callsIn_wide.2 (games_it9 _ a l.length cap W3)).mono ?_
  rintro e w4 ⟨rfl, hw4⟩
  rw [← HW4.out] at hw4
  have hw5 := hw4.symm
  clear hw4
  subst hw5
  clear c0 c1 e0 e1
  gi_wp2
  refine rangeY (F := Fence.wide) rfl (by omega) (gf := 118) (lb := #[.pointer (some ⟨W3.heap.size, 0, none⟩)]) rfl trivial (enters_of Try.func118 (by kernel_rfl) rfl)
    (games_stops 7 (by omega) W3.heap.size (W4.heap.size + 2) (RC9 w1.heap.size) n a cap l HK.out W4 XT.out HR.out (RC9.other _ _ _ _ (by decide) (by decide)) (fun b o e => .inl (by have := hlow b e; omega)) (RC9.fresh _ _))
    (fun h k => h.trans k) (fun W l o o2 h hc => KeepR.put W l o o2 h hc) (fun _ _ _ _ _ _ _ _ _ h => h) (Below.refl _ _) (fun _ => rfl)
    (fun pre W => (∃ a1 c1 gs, Wc9 W w1.heap.size W2.heap.size a1 c1 gs (wkP l pre)) ∧ Below w1.heap.size w1 W)
    (fun _ _ _ => False)
    (fun s A B row hs hg hr => ⟨by obtain ⟨a1, c1, gs, h⟩ := hs.1; exact ⟨a1, c1, gs, h.turn hg (fun r e => (hr r e).2)⟩, ownFrom_below (β := Unit) (Nat.le_refl _) (by omega) () A B row hs.2 hg hr⟩)
    (fun _ _ _ _ _ hs _ _ => hs)
    ⟨⟨_, _, [], HCOL.out⟩, B24.out⟩
    (fun x => { tmps := #[.agg #[.int .i64 n, .slice a l.length cap], .pointer (some ⟨w.heap.size, 0, none⟩), .slice none 0 0, .pointer (some ⟨W2.heap.size, 0, none⟩), .int .i64 (x.1.val : Int), .int .i64 (x.2.val : Int), undef, undef, .agg #[.int .i64 n, .slice a l.length cap], .bool true, .bool false, .slice (some ⟨w1.heap.size, 0, none⟩) 0 0, .agg #[.int .i64 n, .slice a l.length cap], .func (.func 118) #[] #[.pointer (some ⟨W3.heap.size, 0, none⟩)], .int .i64 (x.1.val : Int), .int .i64 (x.2.val : Int), undef, undef, undef, undef, undef, undef, undef, undef, undef, undef, undef, undef, undef, undef, undef, undef, undef], defers := [] }) ?assign ?body ?done ?stop
  case assign =>
    intro lg x W K hK
    unfold encP
    gi_wp2
    exact hK
  case body =>
    rintro lg pre x W ⟨⟨a1, c1, gs, hwc⟩, hB⟩ ⟨rest, hnext⟩
    have hbt : bt l x.1.val x.2.val = true := (mem_games9 l.length l x).1 (by rw [hnext]; simp)
    have hlen : (wkP l pre).length ≤ 64 := by
      have h1 := games_len9 l hl8
      have h2 := wkP_len l pre
      rw [hnext, List.length_append, List.length_cons] at h1
      omega
    have hne : x.1.val ≠ x.2.val := by
      intro e
      have : bt l x.2.val x.2.val = false := (HK.out.2.2.2 x.2.val x.2.isLt).2.1
      rw [e, this] at hbt; cases hbt
    have hxt := XA1.out.below hB hws
    have hr := HR1.out.below hB (Nat.le_refl _)
    have hsz := hB.size
    obtain ⟨p, hp⟩ : ∃ p, p = x.1.val := ⟨_, rfl⟩
    obtain ⟨q, hq⟩ : ∃ q, q = x.2.val := ⟨_, rfl⟩
    have hpl : p < l.length := by rw [hp]; exact x.1.isLt
    have hql : q < l.length := by rw [hq]; exact x.2.isLt
    rw [← hp, ← hq] at hne ⊢
    have hfb : flipB n l p q = true := by
      unfold flipB
      have h1 : pl n p = true := pl_iff.2 ⟨by omega, by have := HK.out.2.2.1; omega⟩
      have h2 : pl n q = true := pl_iff.2 ⟨by omega, by have := HK.out.2.2.1; omega⟩
      have h3 : ((p : Int) == (q : Int)) = false := by rw [beq_eq_false_iff_ne]; omega
      rw [okB_iff.2 HK.out, h1, h2, h3]; rfl
    obtain ⟨F, hF⟩ : ∃ F, F = flipL l p q := ⟨_, rfl⟩
    have hFok : Ok n F := by rw [hF]; exact flip_ok HK.out hpl hql hne
    have hfr : flipR n l p q = F := by unfold flipR; rw [if_pos hfb, hF]; rfl
    have hfn : flipN n l p q = n := by unfold flipN; rw [if_pos hfb]
    have hcall := implFlip n a l cap p q W hr HL.out
    rw [hfb, hfr, hfn] at hcall
    obtain ⟨sb, hsb⟩ : ∃ sb, sb = stB F := ⟨_, rfl⟩
    have hisb : isB9 n F = sb := by unfold isB9; rw [okB_iff.2 hFok, hsb]; rfl
    have HST : Hid (∀ (a0 : Option Addr) (cp : Nat) (W : World), IntRow W a0 F → Calls Try.prog 32 #[.agg #[.int .i64 n, .slice a0 F.length cp]] W fun e w' => e = .returned (.bool sb) ∧ Below W.heap.size W w') := by
      intro a0 cp W hR
      rw [← hisb]
      exact implStrong n a0 F cp W hR (by have := hFok.2.1; have := hFok.2.2.1; unfold maxLen; omega)
    have HSB : Hid (stB (flipL l x.1.val x.2.val) = sb) := by show _ = _; rw [hsb, hF, hp, hq]
    have hvc := hxt.c0
    have hvd := hxt.c1
    have HC := Lib.hid hcall
    have HWC := Lib.hid hwc
    have HB := Lib.hid hB
    have HP := Lib.hid hp
    have HQ := Lib.hid hq
    clear hcall hwc hB hnext hbt hne hr hfb hF hFok hfr hfn hsb hisb hp hq hxt
    gi_wp2_with fail
    refine ⟨trivial, ?_⟩
    refine (CallsIn.inRound lg (callsIn_wide.2 HC.out)).mono ?_
    rintro e w5 ⟨⟨a0, cp0, rfl, ho⟩, hb5⟩
    obtain ⟨W6, hW6⟩ : ∃ W6, W6 = w5.alloc (.cells #[.int .i64 n, .slice a0 F.length cp0] 25) := ⟨_, rfl⟩
    have HW6 := Lib.hid hW6
    have hb6 : Below w5.heap.size w5 W6 := by rw [hW6]; exact (Below.refl _ _).alloc (Nat.le_refl _) _
    have x6 : Box W6 w5.heap.size 25 (.int .i64 n) (.slice a0 F.length cp0) := by rw [hW6]; exact Box.new _ _ _ _
    have hr6 := (own_int ho).below hb6 (Nat.le_refl _)
    have b56 := hb5.trans (hb6.mono hb5.size)
    have B56 := Lib.hid b56
    clear hvc hvd
    have c0 := x6.c0
    have c1 := x6.c1
    rw [HW6.out] at c0 c1
    clear hW6 hb6 x6 ho hb5 b56
    gi_wp2_with fail
    refine ⟨trivial, ?_⟩
    rw [← HW6.out]
    refine (CallsIn.inRound lg (callsIn_wide.2 (HST.out a0 cp0 W6 hr6))).mono ?_
    rintro e w7 ⟨rfl, hb7⟩
    have b7 := B56.out.trans (hb7.mono B56.out.size)
    have HWC7 := Lib.hid (HWC.out.turn (grown_of_below b7) (fun r e => by cases e))
    have HB7 := Lib.hid (HB.out.trans (b7.mono hsz))
    have HKF := Lib.hid b7
    clear b7 hb7 c0 c1 hr6
    cases sb
    · have HWK : Hid (wkP l (pre ++ [x]) = wkP l pre ++ [g2 p q]) := by show _ = _; rw [wkP_yes HSB.out, HP.out, HQ.out]
      obtain ⟨Ls, hLs⟩ : ∃ Ls, Ls = wkP l pre := ⟨_, rfl⟩
      rw [← hLs] at HWK hlen HWC7
      have hsz7 := HB7.out.size
      have hvb := HWC7.out.bx.cell
      have hOW := ((HWC7.out.ss.out.alloc (.cells #[.int .i64 p, .int .i64 q] 3)).alloc (.cells #[.slice (some ⟨w7.heap.size, 0, none⟩) 2 2] 23))
      have HOW := Lib.hid hOW
      have HCN : Hid (∀ j u, [Value.slice (some ⟨w7.heap.size, 0, none⟩) 2 2][j]? = some u → ((w7.alloc (.cells #[.int .i64 p, .int .i64 q] 3)).alloc (.cells #[.slice (some ⟨w7.heap.size, 0, none⟩) 2 2] 23)).cell? ((⟨w7.heap.size + 1, 0, none⟩ : Addr).add j) = some u) := by
        have h := cell_one_new (w7.alloc (.cells #[.int .i64 p, .int .i64 q] 3)) (.slice (some ⟨w7.heap.size, 0, none⟩) 2 2) 23
        rw [World.size_alloc] at h
        exact h
      clear hOW hLs
      gi_wp2_with (gi_at_builtin; refine wpListIn_append_own _ rfl _ _ 48 rfl w1.heap.size 23 i0 (.slice none 0 0) 1 24 Try.underlying48 hi hz0 hz1 hz2 rfl (by decide) _ _ _ rfl HOW.out ⟨w7.heap.size + 1, 0, none⟩ 1 1 [.slice (some ⟨w7.heap.size, 0, none⟩) 2 2] rfl rfl HCN.out (by intro u hu; simp at hu; subst hu; rfl) (by unfold maxLen; omega) (by omega) (by simp; omega) ?_; intro v' w8 hown' hgrow _; obtain ⟨g', cap', rfl⟩ := ownsRow_succ hown'; replace hgrow := grown_blk9 (a := a1) (n := Ls.length) (c := c1) hgrow; obtain ⟨hcol2, hv1, hk2, hb2, hkr⟩ := HWC7.out.push (R := RC9 w1.heap.size) hsz7 (by omega) (fun g cur t hg ht => RC9.not w1.heap.size g cur t hg ht) hown' hgrow; have hc1 := hv1.cell; have hf1 := hv1.frozen)
      exact ⟨(kf_below HKF.out).trans (hk2 _), (KeepR.below HKF.out).trans hkr, ⟨_, _, _, by rw [HWK.out]; exact hcol2⟩, HB7.out.trans hb2⟩
    · have HWK : Hid (wkP l (pre ++ [x]) = wkP l pre) := wkP_no HSB.out
      gi_wp2
      exact ⟨kf_below HKF.out, KeepR.below HKF.out, ⟨_, _, _, by rw [HWK.out]; exact HWC7.out⟩, HB7.out⟩
  case done =>
    rintro D ys W hD hS ⟨⟨a1, c1, gs, hwc⟩, hB⟩ hK
    have hys : wkP l ys = wkA l l.length := by rw [hS]; exact wkP_to l l.length (Nat.le_refl _)
    rw [hys] at hwc
    have hvc := hwc.bx.cell
    have HC := Lib.hid hwc
    have HB := Lib.hid hB
    have HKK := Lib.hid hK
    clear hwc hB hK hS hys
    gi_wp2
    refine ⟨by simp, .inl ⟨_, _, rfl, run_takeDeferred HKK.out, ?_⟩⟩
    have hput := HC.out.turn (grownBy_putObj' W D (.deferred none)) (fun r e => by cases e; exact ⟨_, HKK.out, rfl⟩)
    refine ⟨_, results_tmp rfl _ _ _, ⟨a1, c1, gs, by rw [HE.out]; rfl, ?_⟩, BW1.out.trans ((HB.out.trans (belowK_b (w := w1) (Nat.le_refl _) W D _ _ (by omega) HKK.out rfl rfl)).mono hsz1)⟩
    rw [HE.out]; exact hput.ss.mono hsz1
  case stop =>
    rintro D c pre W _ _ h _
    exact h.elim
end Go.Proofs.Ytcipffimjaancaa
