/-
  'stepsTo' of the program: the map from texts to distances. Condition: the tour is valid, of at most 5 players.
-/
import Derived.Test.YtgdejippddcekaaDoor7T
import Derived.Test.YtgdejippddcekaaDoor6L
import Derived.Laws.EntriesVeiled
namespace Go.Proofs.YtgdejippddcekaaDoor
open Go.ChangeShapes Go.WideShapes Go.ChangeAt Go.RowKit Go.Shelf
open Go.Maps (Keyed)
attribute [local go_sem] Oper.semAt_some
set_option linter.unusedVariables false

theorem infoTour7 : (Tryd.prog.info? 27).map (fun i => (i.zero, i.size, i.bytes)) = some (some (.agg #[.int .i64 0, .slice none 0 0]), 2, 32) := by kernel_rfl
theorem strK : Keyed Tryd.prog 9 := Go.Maps.string_keyed Tryd.underlying9
theorem zeroI7 (w : World) : (zeroValue 3).run Tryd.prog w = .ok (.int .i64 0) w := by kernel_rfl
theorem fmtR_len7 (n : Int) (l : List Int) : (fmtR n l).length ≤ 200 := by
  unfold fmtR
  cases h : okB n l
  · simp
  · have hk := okB_iff.1 h
    have h8 : l.length ≤ 8 := by have := hk.2.1; have := hk.2.2.1; omega
    exact fmtTo_len l h8 l.length h8 [] (by simp)
theorem key7 (m : Nat) (x : List Int) : keyOf Tryd.prog 9 (.string ⟨(fmtR (m : Int) x).toArray⟩) = some (kyT m x) := by
  rw [Go.WideMaps.keyOf_string_mk Tryd.underlying9 (by have := fmtR_len7 (m : Int) x; simp [ByteArray.size]; unfold maxLen; omega)]
  rfl
theorem fmtC (m : Nat) (x : List Int) (a : Option Addr) (cap : Nat) (W : World) (hx : Ok (m : Int) x) (hr : IntRow W a x) (ht : HasTab W) :
    Calls Tryd.prog 28 #[.agg #[.int .i64 (m : Int), .slice a m cap]] W fun e w' => e = .returned (.string ⟨(fmtR (m : Int) x).toArray⟩) ∧ Below W.heap.size W w' := by
  obtain ⟨_, h8, hl⟩ := hx.m
  have := implFormat (m : Int) a x cap W hr (by unfold maxLen; omega) ht
  rw [hl] at this
  exact this

/-- Where the search stands. -/
def Lp7 (w : World) (m : Nat) (u : List Int) (bm b3 : Nat) (ds : List Deferred) (b4 : Nat) (W : World) : Prop :=
  ∃ (k g off cap : Nat) (Q : List Qe), Sr w.heap.size bm b3 b4 m k (up u k) Q g off cap W ∧ Below w.heap.size w W ∧ ds.length = k ∧ k ≤ (up u k).length ∧ (∀ j, j < k → j < (up u j).length) ∧ ∃ U, Marks w.heap.size U ds W ∧ U ≤ W.heap.size
theorem lp7_start (w w4 : World) (m : Nat) (a : Option Addr) (u : List Int) (cap : Nat) (hrow : IntRow w a u) (hok : Ok (m : Int) u) (hb : Below w.heap.size w w4)
    (hm : w4.ownsMap Tryd.prog 9 (plainElem (H := Unit) Tryd.prog 3) (w.heap.size + 1) (0 + 1) ((DataW.map []).put (kyT m u) (.lit (.int .i64 0)))) :
    Lp7 w m u (w.heap.size + 1) w4.heap.size [] (w4.heap.size + 1 + 1) (((w4.alloc (.cells #[.map (some (w.heap.size + 1))] 45)).alloc (.cells #[.int .i64 (m : Int), .slice a m cap] 27)).alloc (.cells #[.slice (some ⟨w4.heap.size + 1, 0, none⟩) 1 1] 52)) := by
  obtain ⟨W5, hW5⟩ : ∃ W5, W5 = w4.alloc (.cells #[.map (some (w.heap.size + 1))] 45) := ⟨_, rfl⟩
  obtain ⟨W6, hW6⟩ : ∃ W6, W6 = W5.alloc (.cells #[.int .i64 (m : Int), .slice a m cap] 27) := ⟨_, rfl⟩
  obtain ⟨W7, hW7⟩ : ∃ W7, W7 = W6.alloc (.cells #[.slice (some ⟨w4.heap.size + 1, 0, none⟩) 1 1] 52) := ⟨_, rfl⟩
  have s5 : W5.heap.size = w4.heap.size + 1 := by rw [hW5]; simp
  have s6 : W6.heap.size = w4.heap.size + 1 + 1 := by rw [hW6]; simp [s5]
  have b5 : Below w.heap.size w W5 := by rw [hW5]; exact hb.alloc hb.size _
  have b6 : Below w.heap.size w W6 := by rw [hW6]; exact b5.alloc b5.size _
  have b7 : Below w.heap.size w W7 := by rw [hW7]; exact b6.alloc b6.size _
  have x5 : Boxed W5 w4.heap.size 45 (.map (some (w.heap.size + 1))) := by rw [hW5]; exact Boxed.new _ _ _
  have g6 : W6.heap[w4.heap.size + 1]? = some (.cells #[.int .i64 (m : Int), .slice a m cap] 27 (0, 0)) := by rw [hW6, ← s5]; exact World.alloc_heap_new _ _
  have x7 : Boxed W7 (w4.heap.size + 1 + 1) 52 (.slice (some ⟨w4.heap.size + 1, 0, none⟩) 1 1) := by rw [hW7, ← s6]; exact Boxed.new _ _ _
  have e56 : W5.grownBy W6 none := by rw [hW6]; exact World.grownBy_alloc _ _ _
  have e67 : W6.grownBy W7 none := by rw [hW7]; exact World.grownBy_alloc _ _ _
  have e45 : w4.grownBy W5 none := by rw [hW5]; exact World.grownBy_alloc _ _ _
  have hl1 : 1 ≤ u.length := by have := hok.1; have := hok.2.2.1; omega
  rw [← hW5, ← hW6, ← hW7]
  refine ⟨0, w4.heap.size + 1, 0, 1, [(u, a, cap)], ⟨⟨⟨rfl, ?_, Nat.le_refl _, by unfold maxLen; omega, _, (e67.block _ (Array.getElem?_eq_some_iff.1 g6).1 (by simp)).trans g6, by simp, rfl⟩, fun e he => ?_⟩, rfl, (x5.kept e56 (by simp)).kept e67 (by simp), x7, ?_, Nat.le_succ _, hb.size, ?_⟩, b7, rfl, by simp [Bf.upto], fun j h => absurd h (Nat.not_lt_zero _), W7.heap.size, Marks.nil _ _ _, Nat.le_refl _⟩
  · have := hb.size; omega
  · rw [List.mem_singleton] at he
    subst he
    exact (IntT.old hrow hl1 (Nat.le_refl _)).below b7
  · exact ((hm.kept e45 (by simp)).kept e56 (by simp)).kept e67 (by simp)
  · have := hb.size; omega

/-- 'reversed' at a triangle of the tour. -/
theorem revC (m : Nat) (x r : List Int) (a : Option Addr) (cap bt : Nat) (W : World) (hx : Ok (m : Int) x) (hr : IntRow W a x) (hm : r ∈ triL x) (hrb : IntRow W (some ⟨bt, 0, none⟩) r) :
    Calls Tryd.prog 30 #[.agg #[.int .i64 (m : Int), .slice a m cap], .slice (some ⟨bt, 0, none⟩) 3 3] W fun e w' => (∃ a0 c0, e = .returned (.agg #[.int .i64 (m : Int), .slice a0 m c0]) ∧ ∀ B, IntT B w' a0 (rvT x r)) ∧ Below W.heap.size W w' := by
  obtain ⟨_, h8, hl⟩ := hx.m
  have hok := (nbL_ok hx (show rvT x r ∈ nbL x from by unfold nbL; exact List.mem_map.2 ⟨r, hm, rfl⟩)).m.2.2
  obtain ⟨p, q, s, hp, hq, hs, hpq, hps, ht, rfl⟩ := mem_triL.1 hm
  unfold trB at ht
  simp only [Bool.and_eq_true, Bool.not_eq_true', beq_eq_false_iff_ne] at ht
  refine (reversed_any m a x cap (some ⟨bt, 0, none⟩) p q s 3 W hl hr hx hrb (by omega) (by omega) (by omega) (by omega) (fun e => ht.1 e.symm) (by omega)).mono ?_
  rintro e w' ⟨⟨a0, c0, rfl, ho⟩, hb⟩
  refine ⟨⟨a0, c0, rfl, fun B => ?_⟩, hb⟩
  have e1 : revL x p q s = rvT x (t3 p q s) := by unfold rvT t3; simp
  rw [e1, ← hok] at ho
  exact IntT.own ho
theorem IntT.keepR {B : Nat} {W W2 : World} {a : Option Addr} {l : List Int} (h : IntT B W a l) (k : KeepR (R7 B a) W W2) : IntT B W2 a l := by
  refine ⟨h.row.keepR k (fun b o hb => .inr (.inl hb)), fun b hb => ?_⟩
  rcases h.ty b hb with h1 | ⟨cur, h1⟩
  · exact .inl h1
  · exact .inr ⟨cur, k.same b _ h1 rfl (.inr (.inl hb))⟩
/-- What the rounds over a tour's triangles hold. -/
def Bd7 (w : World) (m : Nat) (bm b3 b4 bt : Nat) (k d : Nat) (U : Nat) (ds : List Deferred) (D : Bf.Fd (List Int)) (ex : List Int) (ea : Option Addr) (ec : Nat) (pre : List (List Int)) (W : World) : Prop :=
  (∃ (D2 : Bf.Fd (List Int)) (Q : List Qe) (g off cq : Nat), D2 = Bf.run d (pre.map (rvT ex)) D ∧ Sr w.heap.size bm b3 b4 m k D2 Q g off cq W ∧ 1 ≤ Q.length) ∧ Below w.heap.size w W ∧ Marks w.heap.size U ds W ∧ Box W bt 27 (.int .i64 (m : Int)) (.slice ea m ec) ∧ IntT w.heap.size W ea ex
theorem Bd7.turn {w : World} {m bm b3 b4 bt k d U : Nat} {ds : List Deferred} {D : Bf.Fd (List Int)} {ex : List Int} {ea : Option Addr} {ec : Nat} {pre : List (List Int)} {A C : World} (h : Bd7 w m bm b3 b4 bt k d U ds D ex ea ec pre A)
    {row : Option Nat} (hg : A.grownBy C row) {Z : Nat} (hZ : U ≤ Z ∧ bm < Z ∧ w.heap.size ≤ Z) (hr : ∀ r, row = some r → Z ≤ r ∧ ∃ o : Obj, A.heap[r]? = some o ∧ o.isCells = false) : Bd7 w m bm b3 b4 bt k d U ds D ex ea ec pre C := by
  obtain ⟨⟨D2, Q, g, off, cq, h1, h2, h3⟩, h4, h5, h6, h7⟩ := h
  refine ⟨⟨D2, Q, g, off, cq, h1, h2.calm hg (fun r e => ⟨by have := (hr r e).1; omega, by have := (hr r e).1; omega, (hr r e).2⟩), h3⟩, ?_, h5.beyond hg (fun r e => by have := (hr r e).1; omega), (grownBy_keeps_cells hg (fun r e => (hr r e).2) h6 rfl).trans h6, h7.grown hg (fun r e => ⟨by have := (hr r e).1; omega, fun c e3 => ?_⟩)⟩
  · exact h4.grown hg h4.size (fun r e => by have := (hr r e).1; omega)
  · obtain ⟨o, ho, hc⟩ := (hr r e).2
    rw [ho] at e3; cases e3; cases hc
theorem Bd7.below {w : World} {m bm b3 b4 bt k d U : Nat} {ds : List Deferred} {D : Bf.Fd (List Int)} {ex : List Int} {ea : Option Addr} {ec : Nat} {pre : List (List Int)} {A C : World} (h : Bd7 w m bm b3 b4 bt k d U ds D ex ea ec pre A) (hb : Below A.heap.size A C) : Bd7 w m bm b3 b4 bt k d U ds D ex ea ec pre C := by
  obtain ⟨⟨D2, Q, g, off, cq, h1, h2, h3⟩, h4, h5, h6, h7⟩ := h
  exact ⟨⟨D2, Q, g, off, cq, h1, h2.below hb, h3⟩, h4.trans (hb.mono h4.size), h5.below hb, h6.below hb h6.lt, h7.below hb⟩

theorem run7 {m : Nat} {u ex : List Int} {k d : Nat} (h5 : m ≤ 5) (hu : Ok (m : Int) u) (hx : Ok (m : Int) ex) (hn : ((up u k).map Prod.fst).Nodup) (L : List (List Int)) (hL : ∀ r ∈ L, r ∈ triL ex) :
    (∀ p ∈ Bf.run d (L.map (rvT ex)) (up u k), Ok (m : Int) p.1) ∧ ((Bf.run d (L.map (rvT ex)) (up u k)).map Prod.fst).Nodup ∧ (Bf.run d (L.map (rvT ex)) (up u k)).length ≤ 1024 ∧ (up u k).length ≤ (Bf.run d (L.map (rvT ex)) (up u k)).length ∧ ∀ p ∈ up u k, p ∈ Bf.run d (L.map (rvT ex)) (up u k) := by
  have hnd := Bf.run_nodup (d := d) (L := L.map (rvT ex)) hn
  obtain ⟨A, hA, hA2⟩ := Bf.run_split d (L.map (rvT ex)) (up u k)
  have hok : ∀ p ∈ Bf.run d (L.map (rvT ex)) (up u k), Ok (m : Int) p.1 := by
    rw [hA]
    intro p hp
    rcases List.mem_append.1 hp with h | h
    · exact up_ok hu k p h
    · obtain ⟨r, hr, e⟩ := List.mem_map.1 (hA2 p h).2
      rw [← e]
      exact nbL_ok hx (by unfold nbL; exact List.mem_map.2 ⟨r, hL r hr, rfl⟩)
  refine ⟨hok, hnd, ?_, by rw [hA, List.length_append]; omega, fun p hp => Bf.run_mem hp⟩
  have h := len_sub ((Bf.run d (L.map (rvT ex)) (up u k)).map Prod.fst) ((Cn.E m m).map ofW) hnd (fun x hx => by
    obtain ⟨p, hp, rfl⟩ := List.mem_map.1 hx
    obtain ⟨ws, e, hv⟩ := (hok p hp).va
    rw [e]; exact List.mem_map.2 ⟨ws, hv.mem, rfl⟩)
  have := E_len m h5
  simp only [List.length_map] at h
  omega
theorem dist7 (u : List Int) : ∀ k, ∀ p ∈ up u k, p.2 ≤ k
  | 0, p, hp => by simp [Bf.upto] at hp; rw [hp]; exact Nat.le_refl _
  | k + 1, p, hp => by
    have ih := dist7 u k
    change p ∈ Bf.row nbL (up u k) k at hp
    unfold Bf.row at hp
    split at hp
    · have := ih p hp; omega
    · rename_i q hq
      obtain ⟨A, hA, hA2⟩ := Bf.run_split q.2 (nbL q.1) (up u k)
      rw [hA] at hp
      have hq2 := ih q (List.mem_of_getElem? hq)
      rcases List.mem_append.1 hp with h | h
      · have := ih p h; omega
      · have := (hA2 p h).1; omega
theorem wf7 (n : Nat) (h : n < 2 ^ 62) : (Lit.int .i64 (n : Int)).wf = true := by
  simp only [Lit.wf, Bool.and_eq_true, decide_eq_true_eq]
  have h1 : IntKind.i64.min = -9223372036854775808 := rfl
  have h2 : IntKind.i64.max = 9223372036854775807 := rfl
  omega
theorem look7 {m bm n d : Nat} {D2 : Bf.Fd (List Int)} {W : World} {ex : List Int} (hown : W.ownsMap Tryd.prog 9 (plainElem Tryd.prog 3) bm n (mapT m D2)) (hok : ∀ p ∈ D2, Ok (m : Int) p.1) (hnd : (D2.map Prod.fst).Nodup) (hmem : (ex, d) ∈ D2) {tex : ByteArray}
    (hky : keyOf Tryd.prog 9 (.string tex) = some (kyT m ex)) : (Instr.lookup 45 (.map (some bm)) (.string tex) false).run Tryd.prog W = .ok (.int .i64 (d : Int)) W := by
  obtain ⟨c, hrun, hat, _⟩ := hown.lookup_int strK Tryd.underlying45 Tryd.underlying3 (zeroI7 W) hky
  rw [(mapT_look hok hnd hmem _).1] at hat
  have : c = (d : Int) := by
    simp only [DataW.lit.injEq, Lit.int.injEq, true_and] at hat
    exact hat.symm
  rw [this] at hrun
  exact hrun
theorem cell_two7 (W : World) (v0 v1 : Value) : ∀ j u, [v0, v1][j]? = some u → (W.alloc (.cells #[v0, v1] 27)).cell? ((⟨W.heap.size, 0, none⟩ : Addr).add j) = some u := by
  intro j u hj
  have h := cell_box2 W v0 v1 27
  rw [add_off, Nat.zero_add]
  match j, hj with
  | 0, hj => simp at hj; subst hj; exact h.1
  | 1, hj => simp at hj; subst hj; exact h.2
theorem tail7 {W : World} {B m g off c q : Nat} {L : List Value} (h : OwnT W B 27 2 g off (q + 1) (c + 1) L) : ∃ o2, OwnT W B 27 2 g o2 q c (L.drop 2) ∧ ∀ W : World, (Instr.sliceAt 52 (.slice (some ⟨g, off, none⟩) (q + 1) (c + 1)) (some (.int .i64 1)) none none).run Tryd.prog W = .ok (.slice (some ⟨g, o2, none⟩) q c) W := by
  have hcm := h.cm
  have hnc := h.nc
  unfold maxLen at hcm
  have hmi : (1 : Int) ≤ (q : Int) + 1 := by omega
  by_cases hc : c = 0
  · subst hc
    obtain rfl : q = 0 := by omega
    refine ⟨off, h.gone, fun W => ?_⟩
    simp [go_sem, Tryd.underlying52, Tryd.sizeOf27]
  · refine ⟨off + 2, h.tail, fun W => ?_⟩
    simp [go_sem, Tryd.underlying52, Tryd.sizeOf27]
    rw [if_pos hmi, if_neg hc]

theorem Marks.others {B U : Nat} {ds : List Deferred} {W W2 : World} (h : Marks B U ds W) (hk : KeepsOthers W W2) : Marks B U ds W2 := by
  refine ⟨fun d hd => ?_, h.nd⟩
  obtain ⟨D, h1, h2, h3, h4⟩ := h.all d hd
  exact ⟨D, h1, h2, h3, hk.same D _ h4 rfl⟩
theorem box7_keep {B : Nat} {ea : Option Addr} {W W2 : World} {b : Nat} {v0 v1 : Value} (h : Box W b 27 v0 v1) (k : KeepR (R7 B ea) W W2) : Box W2 b 27 v0 v1 := k.same b _ h rfl (.inr (.inr (.inr (.inl ⟨v0, v1, rfl⟩))))
theorem one7 (m : Nat) (e : Qe) : ∀ u ∈ encQ m e, u.oneCell' = true := by
  intro u hu
  unfold encQ at hu
  simp only [List.mem_cons, List.not_mem_nil, or_false] at hu
  rcases hu with rfl | rfl <;> rfl

theorem lp7_next {w : World} {m : Nat} {u : List Int} {bm b3 b4 k g9 off9 o2 c9 U D : Nat} {ds : List Deferred} {e9 : Qe} {Q92 : List Qe} {W9 : World} (hsr : Sr w.heap.size bm b3 b4 m k (up u (k + 1)) (e9 :: Q92) g9 off9 (c9 + 1) W9) (hb : Below w.heap.size w W9) (hm : Marks w.heap.size U ds W9)
    (hU : U ≤ D) (hB : w.heap.size ≤ D) (hD : W9.heap[D]? = some (.deferred (some []))) (hot : OwnT W9 w.heap.size 27 2 g9 o2 Q92.length c9 ((encQs m (e9 :: Q92)).drop 2)) (hdl : ds.length = k) (hlt : k < (up u k).length) (hge : (up u k).length ≤ (up u (k + 1)).length) (hj : ∀ j, j < k → j < (up u j).length) :
    Lp7 w m u bm b3 ({ target := .collected D, args := #[] } :: ds) W9.heap.size (W9.alloc (.cells #[.slice (some ⟨g9, o2, none⟩) Q92.length c9] 52)) := by
  obtain ⟨W2, hW2⟩ : ∃ W2, W2 = W9.alloc (.cells #[.slice (some ⟨g9, o2, none⟩) Q92.length c9] 52) := ⟨_, rfl⟩
  have hx : Boxed W2 W9.heap.size 52 (.slice (some ⟨g9, o2, none⟩) Q92.length c9) := by rw [hW2]; exact Boxed.new _ _ _
  have hg : W9.grownBy W2 none := by rw [hW2]; exact World.grownBy_alloc _ _ _
  have hbl : Below W9.heap.size W9 W2 := by rw [hW2]; exact (Below.refl _ _).alloc (Nat.le_refl _) _
  have hDs : D < W9.heap.size := (Array.getElem?_eq_some_iff.1 hD).1
  rw [← hW2]
  refine ⟨k + 1, g9, o2, c9, Q92, ⟨⟨?_, fun e he => (hsr.q.rows e (by simp [he])).below hbl⟩, ?_, hsr.x3.kept hg (by simp), hx, hsr.mp.kept hg (by simp), hsr.lm, hsr.l3, hb.size⟩, hb.trans (hbl.mono hb.size), by simp [hdl], by omega, fun j hj2 => ?_, D + 1, (hm.cons hB hU hD).below hbl, Nat.le_trans hDs hg.size⟩
  · exact OwnT.kept hot (hg.block g9 hot.lt (by simp))
  · have h := congrArg List.tail hsr.qd
    rw [List.map_cons, List.tail_cons, ← List.map_tail, List.tail_drop] at h
    exact h
  · rcases Nat.lt_or_ge j k with h | h
    · exact hj j h
    · obtain rfl : j = k := by omega
      exact hlt

set_option maxRecDepth 100000 in
set_option maxHeartbeats 4000000 in
theorem stepsTo_any (m : Nat) (h5 : m ≤ 5) (a : Option Addr) (u : List Int) (cap : Nat) (w : World) (hrow : IntRow w a u) (hok : Ok (m : Int) u) (ht : HasTab w) :
    Calls Tryd.prog 27 #[.agg #[.int .i64 (m : Int), .slice a m cap]] w fun e w' => (∃ bm, e = .returned (.map (some bm)) ∧ w.heap.size ≤ bm ∧ Got m u (all u) ∧ w'.ownsMap Tryd.prog 9 (plainElem Tryd.prog 3) bm (all u).length (mapT m (all u))) ∧ Below w.heap.size w w' := by
  have hmm := @run_makeMap Tryd.prog
  have HInfo := Lib.hid (info_parts infoTour7)
  obtain ⟨W1, hW1⟩ : ∃ W1, W1 = w.alloc (.cells #[.int .i64 (m : Int), .slice a m cap] 27) := ⟨_, rfl⟩
  obtain ⟨W2, hW2⟩ : ∃ W2, W2 = W1.alloc (.map #[] 0) := ⟨_, rfl⟩
  have s1 : W1.heap.size = w.heap.size + 1 := by rw [hW1]; simp
  have b1 : Below w.heap.size w W1 := by rw [hW1]; exact (Below.refl _ _).alloc (Nat.le_refl _) _
  have b2 : Below w.heap.size w W2 := by rw [hW2]; exact b1.alloc b1.size _
  have x1 : Box W1 w.heap.size 27 (.int .i64 (m : Int)) (.slice a m cap) := by rw [hW1]; exact Box.new _ _ _ _
  have x2 : Box W2 w.heap.size 27 (.int .i64 (m : Int)) (.slice a m cap) := by rw [hW2]; exact x1.grown (World.grownBy_alloc _ _ none) (by simp)
  have hm2 : W2.ownsMap Tryd.prog 9 (plainElem (H := Unit) Tryd.prog 3) (w.heap.size + 1) 0 (.map []) := by rw [hW2, ← s1]; exact World.ownsMap_made _ _ _ _
  have HW2 : Hid (W2 = (w.alloc (.cells #[.int .i64 (m : Int), .slice a m cap] 27)).alloc (.map #[] 0)) := by show _ = _; rw [hW2, hW1]
  have HF := Lib.hid (fmtC m u a cap W2 hok (hrow.below b2 (Nat.le_refl _)) (ht.below b2))
  have HROW := Lib.hid hrow
  have HOK := Lib.hid hok
  have HT := Lib.hid ht
  have B2 := Lib.hid b2
  have X2 := Lib.hid x2
  have M2 := Lib.hid hm2
  have hky := key7 m u
  obtain ⟨tx, htx⟩ : ∃ tx : ByteArray, tx = ⟨(fmtR (m : Int) u).toArray⟩ := ⟨_, rfl⟩
  rw [← htx] at HF hky
  have HKY := Lib.hid hky
  have c0 := x2.c0
  have c1 := x2.c1
  rw [HW2.out] at c0 c1
  clear hW1 hW2 s1 b1 b2 x1 x2 hm2 hrow hok ht hky htx
  refine (callsIn_wide (n := 8)).1 ?_
  refine callsIn_of_wp_marks Tryd.func27 rfl trivial ?_ rfl
  simp only [Tryd.ntmps27, List.size_toArray, List.length_cons, List.length_nil, Nat.reduceAdd, Nat.reduceSub, Array.replicate_succ, Array.replicate_zero, List.push_toArray, List.append_toArray, List.nil_append, List.cons_append]
  gi_wp2_with fail
  refine ⟨trivial, ?_⟩
  rw [← HW2.out]
  refine (callsIn_wide.2 HF.out).mono ?_
  rintro e w3 ⟨rfl, hb3⟩
  have M3 := Lib.hid (M2.out.kept (grown_of_below hb3) (by simp))
  have X3 := Lib.hid (X2.out.below hb3 X2.out.lt)
  have B3 := Lib.hid (B2.out.trans (hb3.mono B2.out.size))
  clear hb3 c0 c1
  gi_wp2_with (first | (refine wpListIn_insert_own _ rfl _ _ _ 45 rfl 9 3 strK Tryd.underlying45 (plainElem (H := Unit) Tryd.prog 3) (w.heap.size + 1) 0 (.map []) rfl M3.out (by unfold maxLen; omega) _ _ (kyT m u) rfl rfl HKY.out (.lit (.int .i64 0)) [] (plainElem_int Tryd.underlying3 (by decide)) ?_; intro w4 hm4 hg4; have hx5 := (X3.out.grown hg4 (fun e => by have := Option.some.inj e; omega)).grown (World.grownBy_alloc w4 (.cells #[.map (some (w.heap.size + 1))] 45) none) (by simp); have c0 := hx5.c0; have c1 := hx5.c1) | fail)
  -- LOOP
  have HM4 := Lib.hid hm4
  have B4 : Hid (Below w.heap.size w w4) := B3.out.grown hg4 B3.out.size (fun k e => by cases e; exact Nat.le_succ _)
  obtain ⟨W7, hW7⟩ : ∃ W7, W7 = ((w4.alloc (.cells #[.map (some (w.heap.size + 1))] 45)).alloc (.cells #[.int .i64 (m : Int), .slice a m cap] 27)).alloc (.cells #[.slice (some ⟨w4.heap.size + 1, 0, none⟩) 1 1] 52) := ⟨_, rfl⟩
  have hst : Lp7 w m u (w.heap.size + 1) w4.heap.size [] (w4.heap.size + 1 + 1) W7 := by
    rw [hW7]
    exact lp7_start w w4 m a u cap HROW.out HOK.out B4.out HM4.out
  rw [← hW7]
  have HST := Lib.hid hst
  have hw4s : Hid (w.heap.size < w4.heap.size) := by show _ < _; exact Nat.lt_of_lt_of_le X3.out.lt hg4.size
  clear hm4 hg4 hx5 c0 c1 hW7 hst
  refine wpIn_loop (fun a2 W => ∃ (b4 : Nat) (ds : List Deferred) (v5 v6 v7 v8 v9 v10 v17 v18 v19 v20 v21 v22 v23 v24 v25 v26 v27 v28 v29 v30 v31 v32 v33 v34 v35 v36 v37 v38 v39 v40 v41 v42 v43 v44 v45 v46 v47 v48 v49 v50 v51 v52 v53 : Value), Lp7 w m u (w.heap.size + 1) w4.heap.size ds b4 W ∧ a2 = { tmps := #[Value.agg #[.int .i64 (m : Int), .slice a m cap], .pointer (some ⟨w.heap.size, 0, none⟩), .map none, .pointer (some ⟨w4.heap.size, 0, none⟩), .pointer (some ⟨b4, 0, none⟩), v5, v6, v7, v8, v9, v10, .map (some (w.heap.size + 1)), .agg #[.int .i64 (m : Int), .slice a m cap], .string tx, .map (some (w.heap.size + 1)), .agg #[.int .i64 (m : Int), .slice a m cap], .slice (some ⟨w4.heap.size + 1, 0, none⟩) 1 1, v17, v18, v19, v20, v21, v22, v23, v24, v25, v26, v27, v28, v29, v30, v31, v32, v33, v34, v35, v36, v37, v38, v39, v40, v41, v42, v43, v44, v45, v46, v47, v48, v49, v50, v51, v52, v53], defers := ds }) (fun a2 _ => 2048 - a2.defers.length) ⟨_, [], undef, undef, undef, undef, undef, undef, undef, undef, undef, undef, undef, undef, undef, undef, undef, undef, undef, undef, undef, undef, undef, undef, undef, undef, undef, undef, undef, undef, undef, undef, undef, undef, undef, undef, undef, undef, undef, undef, undef, undef, undef, undef, undef, HST.out, rfl⟩ ?_
  rintro a2 W ⟨b4, ds, v5, v6, v7, v8, v9, v10, v17, v18, v19, v20, v21, v22, v23, v24, v25, v26, v27, v28, v29, v30, v31, v32, v33, v34, v35, v36, v37, v38, v39, v40, v41, v42, v43, v44, v45, v46, v47, v48, v49, v50, v51, v52, v53, hlp, rfl⟩
  clear HST
  obtain ⟨k, g, off, cq, Q, hsr, hbw, hdl, hk, hj, U, hmk, hU⟩ := hlp
  have hinv := Bf.inv_upto nbL u k hj
  have hlen : Q.length = (up u k).length - k := by
    have := congrArg List.length hsr.qd
    rw [List.length_map, List.length_map, List.length_drop] at this
    exact this
  have hul := up_len h5 HOK.out k hinv.nodup
  have hvc := hsr.x4.cell
  have hfc := hsr.x4.frozen
  by_cases hlt : k < (up u k).length
  · obtain ⟨e, Q2, hQ⟩ : ∃ e Q2, Q = e :: Q2 := by
      cases Q with
      | nil => simp at hlen; omega
      | cons e Q2 => exact ⟨e, Q2, rfl⟩
    obtain ⟨h0, h1⟩ := hsr.head hQ
    obtain ⟨ql, hql⟩ : ∃ ql, ql = Q.length := ⟨_, rfl⟩
    have hql0 : 0 < ql := by omega
    have hqi : (0 : Int) < (ql : Int) := by omega
    rw [← hql] at hvc
    obtain ⟨ex, ea, ec⟩ := e
    simp only at h1
    obtain ⟨d, hD⟩ : ∃ d, (up u k)[k]? = some (ex, d) := by
      have h2 := congrArg (fun L => L[0]?) hsr.qd
      rw [hQ] at h2
      simp only [List.map_cons, List.getElem?_cons_zero, List.getElem?_map, List.getElem?_drop, Nat.add_zero] at h2
      rw [List.getElem?_eq_getElem hlt] at h2 ⊢
      simp only [Option.map_some, Option.some.injEq] at h2
      exact ⟨((up u k)[k]).2, by rw [h2]⟩
    have HSR := Lib.hid hsr
    have HBW := Lib.hid hbw
    have HMK := Lib.hid hmk
    have HINV := Lib.hid hinv
    have HDD := Lib.hid hD
    have HQ := Lib.hid hQ
    have HQL := Lib.hid hql
    have HLEN := Lib.hid hlen
    have HDL := Lib.hid hdl
    have HJ := Lib.hid hj
    clear hsr hbw hmk hinv hD hQ hql hlen hdl hj
    obtain ⟨W1, hW1⟩ : ∃ W1, W1 = W.alloc (.cells #[.int .i64 (m : Int), .slice ea m ec] 27) := ⟨_, rfl⟩
    have x5 : Box W1 W.heap.size 27 (.int .i64 (m : Int)) (.slice ea m ec) := by rw [hW1]; exact Box.new _ _ _ _
    have HW1 := Lib.hid hW1
    have c0 := x5.c0
    have c1 := x5.c1
    rw [HW1.out] at c0 c1
    clear hW1
    gi_wp2_with fail
    refine ⟨trivial, ?_⟩
    rw [← HW1.out]
    refine (callsIn_wide.2 (triangles_any _ ea m ec W1)).mono ?_
    rintro e w5 ⟨rfl, hw5⟩
    obtain ⟨W2, hW2⟩ : ∃ W2, W2 = W1.alloc (.cells #[.int .i64 (m : Int), .slice ea m ec] 27) := ⟨_, rfl⟩
    rw [← hW2] at hw5
    subst hw5
    have b1 : Below W.heap.size W W1 := by rw [HW1.out]; exact (Below.refl _ _).alloc (Nat.le_refl _) _
    have b2 : Below W1.heap.size W1 w5 := by rw [hW2]; exact (Below.refl _ _).alloc (Nat.le_refl _) _
    have b12 : Below W.heap.size W w5 := b1.trans (b2.mono b1.size)
    have xt : Box w5 W1.heap.size 27 (.int .i64 (m : Int)) (.slice ea m ec) := by rw [hW2]; exact Box.new _ _ _ _
    have x5' : Box w5 W.heap.size 27 (.int .i64 (m : Int)) (.slice ea m ec) := x5.below b2 x5.lt
    have hexI : IntT w.heap.size w5 ea ex := (HSR.out.q.rows (ex, ea, ec) (by rw [HQ.out]; simp)).below b12
    have hexok : Ok (m : Int) ex := by
      have h2 := up_ok HOK.out k (ex, d) (List.mem_of_getElem? HDD.out)
      exact h2
    have hexl : ex.length = m := hexok.m.2.2
    have hbd : Bd7 w m (w.heap.size + 1) w4.heap.size b4 W.heap.size k d U ds (up u k) ex ea ec [] w5 :=
      ⟨⟨up u k, Q, g, off, cq, rfl, HSR.out.below b12, by rw [← HQL.out]; omega⟩, HBW.out.trans (b12.mono HBW.out.size), HMK.out.below b12, x5', hexI⟩
    have hZ : U ≤ w5.heap.size ∧ w.heap.size + 1 < w5.heap.size ∧ w.heap.size ≤ w5.heap.size := by
      have h2 := b12.size
      have h3 := HSR.out.mp.lt
      have h4 := HBW.out.size
      omega
    have HZ := Lib.hid hZ
    have HBD := Lib.hid hbd
    have HXT := Lib.hid xt
    have HEXI := Lib.hid hexI
    have HEXOK := Lib.hid hexok
    have HEXL := Lib.hid hexl
    have hs15 : Hid (W1.heap.size < w5.heap.size) := xt.lt
    have hsW1 : Hid (W.heap.size < W1.heap.size) := x5.lt
    clear c0 c1 hW2 b1 b2 b12 xt x5' hexI hexok hexl hbd hZ x5
    gi_wp2
    refine rangeY (F := Fence.wide) rfl (by omega) (gf := 46) (lb := #[.pointer (some ⟨W1.heap.size, 0, none⟩)]) rfl trivial (enters_of Tryd.func46 (by kernel_rfl) rfl)
      (tri_stops W1.heap.size (w5.heap.size + 2) (R7 w.heap.size ea) (m : Int) ea ec ex HEXOK.out w5 (by rw [HEXL.out]; exact HXT.out) HEXI.out.row (.inr (.inr (.inr (.inl ⟨_, _, rfl⟩)))) (fun b o e => .inr (.inl e)) (R7.fresh _ _ _))
      (fun h k => h.trans k) (fun W l o o2 h hc => KeepR.put W l o o2 h hc) (fun pre x W l o o2 _ ho hc h => h.put l o o2 ho hc) (Below.refl _ _) (fun _ => rfl)
      (fun pre W' => Bd7 w m (w.heap.size + 1) w4.heap.size b4 W.heap.size k d U ds (up u k) ex ea ec (pre.map Prod.fst) W')
      (fun _ _ _ => False)
      (fun s A B row hs hg hr => hs.turn hg HZ.out hr)
      (fun _ _ _ _ _ hs _ _ => hs)
      HBD.out
      (fun x => { tmps := #[Value.agg #[.int .i64 (m : Int), .slice a m cap], .pointer (some ⟨w.heap.size, 0, none⟩), .map none, .pointer (some ⟨w4.heap.size, 0, none⟩), .pointer (some ⟨b4, 0, none⟩), .pointer (some ⟨W.heap.size, 0, none⟩), .slice (some ⟨x.2, 0, none⟩) 3 3, v7, v8, v9, v10, .map (some (w.heap.size + 1)), .agg #[.int .i64 (m : Int), .slice a m cap], .string tx, .map (some (w.heap.size + 1)), .agg #[.int .i64 (m : Int), .slice a m cap], .slice (some ⟨w4.heap.size + 1, 0, none⟩) 1 1, .slice (some ⟨g, off, none⟩) ql cq, .int .i64 (ql : Int), .bool true, v20, v21, .slice (some ⟨g, off, none⟩) ql cq, .pointer (some ⟨g, off, none⟩), .agg #[.int .i64 (m : Int), .slice ea m ec], .agg #[.int .i64 (m : Int), .slice ea m ec], .func (.func 46) #[] #[.pointer (some ⟨W1.heap.size, 0, none⟩)], .slice (some ⟨x.2, 0, none⟩) 3 3, v28, v29, v30, v31, v32, v33, v34, v35, v36, v37, v38, v39, v40, v41, v42, v43, v44, v45, v46, v47, v48, v49, v50, v51, v52, v53], defers := [] }) ?assign ?body ?done ?stop
    case assign =>
      intro lg x W9 K hK
      unfold encT
      gi_wp2
      exact hK
    case body =>
      rintro lg pre x Wr hbd hy
      have hx3 := hy.len
      obtain ⟨rest9, hnext⟩ := hy.next
      have hmem : x.1 ∈ triL ex := by rw [hnext]; simp
      obtain ⟨⟨D2, Q9, g9, off9, cq9, hD2, hsr9, hQ9⟩, hb9, hm9, hx9, hi9⟩ := id hbd
      have hvc := hx9.c0
      have hvd := hx9.c1
      have HREV := Lib.hid (revC m ex x.1 ea ec x.2 Wr HEXOK.out hi9.row hmem hy.int)
      obtain ⟨yn, hyn⟩ : ∃ yn, yn = rvT ex x.1 := ⟨_, rfl⟩
      have hynok : Ok (m : Int) yn := by rw [hyn]; exact nbL_ok HEXOK.out (by unfold nbL; exact List.mem_map.2 ⟨x.1, hmem, rfl⟩)
      rw [← hyn] at HREV
      have HYN := Lib.hid hyn
      have HYOK := Lib.hid hynok
      have HBD9 := Lib.hid hbd
      have hbs := hb9.size
      have HNX := Lib.hid hnext
      clear hbd hy hx3 hnext hmem hD2 hsr9 hQ9 hb9 hm9 hx9 hi9 hyn hynok
      gi_wp2_with fail
      refine ⟨trivial, ?_⟩
      refine (CallsIn.inRound lg (callsIn_wide.2 HREV.out)).mono ?_
      rintro e wa ⟨⟨an, cn, rfl, hna⟩, hba⟩
      obtain ⟨Wb, hWb⟩ : ∃ Wb, Wb = wa.alloc (.cells #[.int .i64 (m : Int), .slice an m cn] 27) := ⟨_, rfl⟩
      have HWb := Lib.hid hWb
      have hbb : Below wa.heap.size wa Wb := by rw [hWb]; exact (Below.refl _ _).alloc (Nat.le_refl _) _
      have xb : Box Wb wa.heap.size 27 (.int .i64 (m : Int)) (.slice an m cn) := by rw [hWb]; exact Box.new _ _ _ _
      have hna2 : IntT w.heap.size Wb an yn := (hna w.heap.size).below hbb
      have bab := hba.trans (hbb.mono hba.size)
      have HBDb := Lib.hid (HBD9.out.below bab)
      have HFM := Lib.hid (fmtC m yn an cn Wb HYOK.out hna2.row (HT.out.below HBDb.out.2.1))
      have hky9 := key7 m yn
      obtain ⟨ty, hty⟩ : ∃ ty : ByteArray, ty = ⟨(fmtR (m : Int) yn).toArray⟩ := ⟨_, rfl⟩
      rw [← hty] at HFM hky9
      have HKY9 := Lib.hid hky9
      clear hvc hvd
      have c0 := xb.c0
      have c1 := xb.c1
      rw [HWb.out] at c0 c1
      have XB := Lib.hid xb
      have HNA := Lib.hid hna2
      have BAB := Lib.hid bab
      have HSA : Hid (w.heap.size + 1 < wa.heap.size) := by
        show _ < _
        obtain ⟨⟨D0, Q0, g0, off0, cq0, e1, e2, e3⟩, _⟩ := HBD9.out
        exact Nat.lt_of_lt_of_le e2.mp.lt hba.size
      clear hWb hbb xb hna hna2 hba bab hky9 hty
      gi_wp2_with fail
      refine ⟨trivial, ?_⟩
      rw [← HWb.out]
      refine (CallsIn.inRound lg (callsIn_wide.2 HFM.out)).mono ?_
      rintro e wc ⟨rfl, hbc⟩
      have HBDc := Lib.hid (HBDb.out.below hbc)
      have HNAc := Lib.hid (HNA.out.below hbc)
      have XBc := Lib.hid (XB.out.below hbc XB.out.lt)
      have BAC := Lib.hid (BAB.out.trans (hbc.mono BAB.out.size))
      clear hbc c0 c1
      obtain ⟨⟨D2, Q9, g9, off9, cq9, hD2, hsr9, hQ9⟩, hb9, hm9, hx9, hi9⟩ := id HBDc.out
      have hv3 := hsr9.x3.cell
      have hMP := Lib.hid hsr9.mp
      have HSR9 := Lib.hid hsr9
      have HD2 := Lib.hid hD2
      have HQ9 := Lib.hid hQ9
      have HX9 := Lib.hid hx9
      have HI9 := Lib.hid hi9
      have HM9 := Lib.hid hm9
      have HB9 := Lib.hid hb9
      clear hD2 hsr9 hQ9 hb9 hm9 hx9 hi9
      have hpre : ∀ r ∈ pre.map Prod.fst, r ∈ triL ex := fun r hr => by rw [HNX.out]; simp only [List.mem_append]; exact .inl hr
      obtain ⟨hok2, hnd2, hlen2, hge2, hsub2⟩ := run7 (d := d) h5 HOK.out HEXOK.out HINV.out.nodup (pre.map Prod.fst) hpre
      rw [← HD2.out] at hok2 hnd2 hlen2 hge2 hsub2
      have hexm : (ex, d) ∈ D2 := hsub2 _ (List.mem_of_getElem? HDD.out)
      have hhas := mapT_has hok2 hnd2 HYOK.out
      have hmx : Tryd.prog.follows .mixedOrders = true := by kernel_rfl
      have HRUN : Hid (Bf.run d ((pre ++ [x]).map Prod.fst |>.map (rvT ex)) (up u k) = Bf.stp d D2 yn) := by
        show _ = _
        rw [List.map_append, List.map_append, List.map_cons, List.map_cons, List.map_nil, List.map_nil, Bf.run_snoc, ← HD2.out, HYN.out]
      by_cases hmm9 : yn ∈ D2.map Prod.fst
      · rw [decide_eq_true hmm9] at hhas
        have HSTP : Hid (Bf.stp d D2 yn = D2) := by show _ = _; unfold Bf.stp; rw [if_pos hmm9]
        clear hok2 hnd2 hlen2 hge2 hsub2 hexm hpre hmm9
        gi_wp2_with (first | (refine wpListIn_lookup_own_ok_int _ rfl _ _ 45 rfl 9 3 .i64 strK Tryd.underlying45 Tryd.underlying3 (zeroI7 _) (w.heap.size + 1) _ _ rfl hMP.out _ _ rfl HKY9.out ?_; intro cv hat hwc; rw [hhas]; clear hat hwc) | fail)
        exact ⟨kf_below BAC.out, KeepR.below BAC.out, ⟨D2, Q9, g9, off9, cq9, by rw [HRUN.out, HSTP.out], HSR9.out, HQ9.out⟩, HB9.out, HM9.out, HX9.out, HI9.out⟩
      · rw [decide_eq_false hmm9] at hhas
        have HSTP : Hid (Bf.stp d D2 yn = D2 ++ [(yn, d + 1)]) := by show _ = _; unfold Bf.stp; rw [if_neg hmm9]
        have hd9 : d ≤ 1024 := by
          have h2 := dist7 u k (ex, d) (List.mem_of_getElem? HDD.out)
          have h3 := up_len h5 HOK.out k HINV.out.nodup
          simp only at h2
          omega
        have hw9 : IntKind.i64.wrap ((d : Int) + 1) = ((d + 1 : Nat) : Int) := wrap_small (d + 1) (by omega)
        have HFX := Lib.hid (fmtC m ex ea ec wc.drew HEXOK.out HI9.out.row (HT.out.below HB9.out.drew))
        have hkyx := key7 m ex
        obtain ⟨tex, htex⟩ : ∃ tex : ByteArray, tex = ⟨(fmtR (m : Int) ex).toArray⟩ := ⟨_, rfl⟩
        rw [← htex] at HFX hkyx
        have HKYX := Lib.hid hkyx
        have HOK2 := Lib.hid hok2
        have HND2 := Lib.hid hnd2
        have HEXM := Lib.hid hexm
        have hD2l : D2.length < maxLen := by unfold maxLen; omega
        have e0 := HX9.out.c0
        have e1 := HX9.out.c1
        have hge3 : k ≤ D2.length := by omega
        have hq9l : Q9.length ≤ 1024 := by
          have h2 := congrArg List.length HSR9.out.qd
          simp only [List.length_map, List.length_drop] at h2
          omega
        clear hok2 hnd2 hlen2 hge2 hsub2 hexm hpre hmm9 hkyx htex
        gi_wp2_with (first | (refine wpListIn_lookup_own_ok_int _ rfl _ _ 45 rfl 9 3 .i64 strK Tryd.underlying45 Tryd.underlying3 (zeroI7 _) (w.heap.size + 1) _ _ rfl hMP.out _ _ rfl HKY9.out ?_; intro cv hat hwc; rw [hhas]; clear hat hwc) | fail)
        refine Code.wpIn_mono (Q := fun e a' w' => ∃ (wd wE : World), Below wc.heap.size wc wd ∧ Sr w.heap.size (w.heap.size + 1) w4.heap.size b4 m k D2 Q9 g9 off9 cq9 wd ∧ wE.ownsMap Tryd.prog 9 (plainElem Tryd.prog 3) (w.heap.size + 1) (D2.length + 1) ((mapT m D2).put (kyT m yn) (.lit (.int .i64 ((d + 1 : Nat) : Int)))) ∧ wd.grownBy wE (some (w.heap.size + 1)) ∧ e = .normal ∧ a' = { tmps := #[Value.agg #[.int .i64 (m : Int), .slice a m cap], .pointer (some ⟨w.heap.size, 0, none⟩), .map none, .pointer (some ⟨w4.heap.size, 0, none⟩), .pointer (some ⟨b4, 0, none⟩), .pointer (some ⟨W.heap.size, 0, none⟩), .slice (some ⟨x.2, 0, none⟩) 3 3, .pointer (some ⟨wa.heap.size, 0, none⟩), .string ty, .int .i64 cv, .bool false, .map (some (w.heap.size + 1)), .agg #[.int .i64 (m : Int), .slice a m cap], .string tx, .map (some (w.heap.size + 1)), .agg #[.int .i64 (m : Int), .slice a m cap], .slice (some ⟨w4.heap.size + 1, 0, none⟩) 1 1, .slice (some ⟨g, off, none⟩) ql cq, .int .i64 (ql : Int), .bool true, v20, v21, .slice (some ⟨g, off, none⟩) ql cq, .pointer (some ⟨g, off, none⟩), .agg #[.int .i64 (m : Int), .slice ea m ec], .agg #[.int .i64 (m : Int), .slice ea m ec], .func (.func 46) #[] #[.pointer (some ⟨W1.heap.size, 0, none⟩)], .slice (some ⟨x.2, 0, none⟩) 3 3, .agg #[.int .i64 (m : Int), .slice ea m ec], .slice (some ⟨x.2, 0, none⟩) 3 3, .agg #[.int .i64 (m : Int), .slice an m cn], .agg #[.int .i64 (m : Int), .slice an m cn], .string ty, .tuple #[.int .i64 cv, .bool false], .map (some (w.heap.size + 1)), .string ty, .tuple #[.int .i64 cv, .bool false], .int .i64 cv, .bool false, .bool false, .bool true, .map (some (w.heap.size + 1)), .string ty, .map (some (w.heap.size + 1)), .agg #[.int .i64 (m : Int), .slice ea m ec], .string tex, .int .i64 (d : Int), .int .i64 ((d : Int) + 1), v48, v49, v50, v51, v52, v53], defers := [] } ∧ w' = wE) ?_ ?reg
        case reg =>
          gi_region_with_o (refine ⟨trivial, ?_⟩; refine (CallsIn.inRound lg (callsIn_wide.2 HFX.out)).mono ?_; rintro e wd ⟨rfl, hbd⟩; have HBDd := Lib.hid (show Below wc.heap.size wc wd from (Below.refl _ wc).drew.trans hbd); have HSRd := Lib.hid (HSR9.out.below HBDd.out); have v3 := HSRd.out.x3.cell; have hlk := look7 HSRd.out.mp HOK2.out HND2.out HEXM.out HKYX.out; obtain ⟨wE, hup, hmE, hgE⟩ := HSRd.out.mp.update strK Tryd.underlying45 hD2l HKY9.out (plainElem_int (H := Unit) Tryd.underlying3 (wf7 (d + 1) (by omega))); rw [show (((d + 1 : Nat) : Int)) = (d : Int) + 1 from rfl] at hup; have HME := Lib.hid hmE; have HGE := Lib.hid hgE; clear hbd hmE hgE)
          all_goals exact ⟨wd, wE, HBDd.out, HSRd.out, HME.out, HGE.out, rfl, rfl, rfl⟩
        rintro e a' w' ⟨wd, wE, hbd, hsrd, hme, hge, rfl, rfl, rfl⟩
        obtain ⟨hq1, hx31, hx41, hmp1, hiT1⟩ := hsrd.mapped hge hme
        have hiD : IntT w.heap.size wd ea ex := HI9.out.below hbd
        have hkrE : KeepR (R7 w.heap.size ea) wd w' := KeepR.grown hge (fun r o e ho => by
          cases e
          obtain ⟨es, cl, hb⟩ := map_heap hsrd.mp
          rw [hb] at ho
          cases ho
          exact R7.not_map hsrd.lm (fun e2 => by
            rcases hiD.ty _ e2 with h | ⟨c, h⟩
            · omega
            · rw [hb] at h; cases h))
        have xbE : Box w' wa.heap.size 27 (.int .i64 (m : Int)) (.slice an m cn) := (XBc.out.below hbd XBc.out.lt).grown hge (fun e => by have := Option.some.inj e; have := HSA.out; omega)
        have hownA : OwnT (w'.alloc (.cells #[.int .i64 (m : Int), .slice an m cn] 27)) w.heap.size 27 2 g9 off9 Q9.length cq9 (encQs m Q9) := hq1.own.kept ((World.grownBy_alloc _ _ none).block g9 hq1.own.lt (by simp))
        have hszE : w.heap.size ≤ w'.heap.size := Nat.le_trans (Nat.le_trans HB9.out.size hbd.size) hge.size
        have hszA : w.heap.size ≤ (w'.alloc (.cells #[.int .i64 (m : Int), .slice an m cn] 27)).heap.size := Nat.le_trans hszE (World.grownBy_alloc _ _ none).size
        have hyE := hiT1 _ _ (HNAc.out.below hbd)
        have haxE := hiT1 _ _ hiD
        have HKE := Lib.hid ((KeepR.below hbd).trans hkrE)
        have HFE := Lib.hid ((kf_below hbd).trans (KeepsFrom.of_grownBy (B := w5.heap.size) hge (fun j e => by cases e; exact HZ.out.2.1)))
        have HBE : Hid (Below w.heap.size w w') := (HB9.out.trans (hbd.mono HB9.out.size)).grown hge (Nat.le_trans HB9.out.size hbd.size) (fun j e => by cases e; exact Nat.le_succ _)
        have HME : Hid (Marks w.heap.size U ds w') := (HM9.out.below hbd).grown hge (fun r e h => by cases e; obtain ⟨es, cl, hb⟩ := map_heap hsrd.mp; rw [hb] at h; cases h)
        have HXE := Lib.hid (box7_keep (HX9.out.below hbd HX9.out.lt) hkrE)
        have HIE := Lib.hid haxE
        have HYE := Lib.hid hyE
        have HQ1 := Lib.hid hq1
        have HX31 := Lib.hid hx31
        have HX41 := Lib.hid hx41
        have HMP1 := Lib.hid hmp1
        have HOA := Lib.hid hownA
        have HSRD := Lib.hid hsrd
        have c0 := xbE.c0
        have c1 := xbE.c1
        have c4 := hx41.cell
        have HGE9 := Lib.hid hge3
        clear hq1 hx31 hx41 hmp1 hiT1 hiD hkrE xbE hownA hyE haxE hbd hsrd hme hge e0 e1 hge3
        gi_wp2_with (first | (gi_at_builtin; obtain ⟨i0, hi1, hi2, hi3, hi4⟩ := HInfo.out; refine wpListIn_append_tail _ rfl _ _ 52 rfl w.heap.size 27 i0 (.agg #[.int .i64 0, .slice none 0 0]) 2 32 Tryd.underlying52 hi1 hi2 hi3 hi4 rfl (by decide) g9 off9 Q9.length cq9 (encQs m Q9) rfl HOA.out ⟨w'.heap.size, 0, none⟩ 1 1 (encQ m (yn, an, cn)) rfl rfl (cell_two7 _ _ _) (one7 m _) (by unfold maxLen; omega) (by omega) hszA ?_; intro g2 off2 cap2 w2 hown2 hgr2; obtain ⟨hs2, hx2, hb2, hk2, ho2⟩ := Sr.queued (W := wc) HQ9.out HQ1.out HSRD.out.qd HGE9.out HX31.out HX41.out HMP1.out HSRD.out.lm HSRD.out.l3 HSRD.out.l4 HYE.out ⟨ex, HIE.out⟩ hszE hown2 hgr2; have c4 := hx2.cell; have f4 := hx2.frozen; have HS2 := Lib.hid hs2; have HB2 := Lib.hid hb2; have HK2 := Lib.hid hk2; have HO2 := Lib.hid ho2; clear hown2 hgr2 hs2 hx2 hb2 hk2 ho2) | fail)
        exact ⟨((kf_below BAC.out).trans HFE.out).trans (HO2.out.from _), ((KeepR.below BAC.out).trans HKE.out).trans HK2.out, ⟨D2 ++ [(yn, d + 1)], Q9 ++ [(yn, an, cn)], g2, off2, cap2, by rw [HRUN.out, HSTP.out], HS2.out, by simp⟩, HBE.out.trans HB2.out, HME.out.others HO2.out, box7_keep HXE.out HK2.out, HIE.out.keepR HK2.out⟩
    case done =>
      rintro D xs W9 hDz hS hbd hDk
      obtain ⟨⟨D2, Q9, g9, off9, cq9, hD2, hsr9, hQ9⟩, hb9, hm9, hx9, hi9⟩ := hbd
      have hrun := run7 (d := d) h5 HOK.out HEXOK.out HINV.out.nodup (xs.map Prod.fst) (fun r hr => by rw [← hS]; exact hr)
      rw [← hD2] at hrun
      have hup : D2 = up u (k + 1) := by
        rw [hD2, hS]
        show Bf.run d (nbL ex) (up u k) = Bf.row nbL (up u k) k
        unfold Bf.row
        rw [HDD.out]
      obtain ⟨e9, Q92, hQe⟩ : ∃ e9 Q92, Q9 = e9 :: Q92 := by
        cases Q9 with
        | nil => simp at hQ9
        | cons e Q2 => exact ⟨e, Q2, rfl⟩
      obtain ⟨c9, hc9⟩ : ∃ c9, cq9 = c9 + 1 := ⟨cq9 - 1, by have := hsr9.q.own.nc; omega⟩
      subst hQe hc9
      obtain ⟨q9, hq9⟩ : ∃ q9, q9 = Q92.length := ⟨_, rfl⟩
      have hown9 := hsr9.q.own
      have hc4 := hsr9.x4.cell
      rw [List.length_cons, ← hq9] at hown9 hc4
      obtain ⟨o2, hot, hsl⟩ := tail7 (m := m) hown9
      have hu9 : U ≤ D := Nat.le_trans HZ.out.1 hDz
      have HNX := Lib.hid (lp7_next (w := w) (u := u) (U := U) (by rw [← hup]; exact hsr9) hb9 hm9 hu9 (Nat.le_trans HZ.out.2.2 hDz) hDk (by rw [← hq9]; exact hot) HDL.out hlt (by rw [← hup]; exact hrun.2.2.2.1) HJ.out)
      rw [← hq9] at HNX
      have hlk : ds.length = k := HDL.out
      have hk9 : k < 2048 := by omega
      clear hD2 hsr9 hQ9 hb9 hm9 hx9 hi9 hrun hup hown9 hot hu9 hDz hS hDk hq9
      gi_wp2
      refine ⟨⟨W9.heap.size, { target := .collected D, args := #[] } :: ds, _, _, _, _, _, _, _, _, _, _, _, _, _, _, _, _, _, _, _, _, _, _, _, _, _, _, _, _, _, _, _, _, _, _, _, _, _, _, _, _, _, _, _, HNX.out, rfl⟩, ?_⟩
      simp only [List.length_cons]
      omega
    case stop =>
      rintro D c pre W _ _ h _
      exact h.elim
  · have hQ0 : Q.length = 0 := by omega
    rw [hQ0] at hvc
    have hv3 := hsr.x3.cell
    have hkl : (up u k).length = k := by omega
    have HALL := Lib.hid (all_of h5 HOK.out (k := k) (by omega) (by omega))
    have HGOT := Lib.hid (got_of HOK.out (k := k) hj (by omega))
    have HMP := Lib.hid hsr.mp
    have HBW := Lib.hid hbw
    have HMK := Lib.hid hmk
    clear hsr hbw hmk hinv hlen hul hj hdl hU
    gi_wp2
    refine leaves_marks (B := w.heap.size) (U := U) (S := fun W3 => Below w.heap.size w W3 ∧ W3.ownsMap Tryd.prog 9 (plainElem Tryd.prog 3) (w.heap.size + 1) (all u).length (mapT m (all u))) ?_ ?_ ds W HMK.out ⟨HBW.out, by rw [← HALL.out]; exact HMP.out⟩
    · rintro W3 D hB hD ⟨h1, h2⟩
      obtain ⟨es, cl, hb⟩ := map_heap h2
      exact ⟨h1.grown (grownBy_putObj' W3 D _) h1.size (fun j e => by cases e; exact hB), h2.kept (grownBy_putObj' W3 D _) (fun e => by cases e; rw [hb] at hD; cases hD)⟩
    · rintro W3 ⟨h1, h2⟩
      exact ⟨_, results_tmp rfl _ _ _, ⟨_, rfl, Nat.le_succ _, by rw [← HALL.out]; exact HGOT.out, h2⟩, h1⟩
end Go.Proofs.YtgdejippddcekaaDoor
