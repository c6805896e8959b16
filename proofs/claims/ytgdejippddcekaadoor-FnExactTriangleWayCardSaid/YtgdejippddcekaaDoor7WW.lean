/-
  'TriangleWay' and 'TriangleSteps' of the program, whole. No conditions but the bounds that Go gives a slice.
-/
import Derived.Test.YtgdejippddcekaaDoor7V
import Derived.Test.YtgdejippddcekaaDoor6F
import Derived.Test.YtgdejippddcekaaDoor6L
import Derived.Test.YtgdejippddcekaaDoor7PQ
import Derived.Test.YtgdejippddcekaaDoor7U
import Derived.Test.YtgdejippddcekaaDoor7R
namespace Go.Proofs.YtgdejippddcekaaDoor
open Go.ChangeShapes Go.WideShapes Go.ChangeAt Go.RowKit
set_option linter.unusedVariables false

def dN (D : Bf.Fd (List Int)) (l : List Int) : Nat := (Bf.dst D l).getD 0
noncomputable def wayR (u l : List Int) : List (List Int) := wayF (all u) (dN (all u) l) l
theorem dist_up (u : List Int) (k : Nat) (D : Bf.Fd (List Int)) (hD : up u k = D) (x : List Int) (d : Nat) (h : (x, d) ∈ D) : d ≤ k := by
  subst hD
  exact dist7 u k (x, d) h
theorem all_def (u : List Int) : ∃ k, k ≤ 1024 ∧ up u k = all u := ⟨lots, Nat.le_of_eq lots_is, by unfold all; exact Eq.refl _⟩
theorem dist_all (u x : List Int) (d : Nat) (h : (x, d) ∈ all u) : d ≤ 1024 := by
  obtain ⟨k, hk, he⟩ := all_def u
  exact Nat.le_trans (dist_up u k _ he x d h) hk
theorem wayR_len (u l : List Int) : (wayR u l).length ≤ 1024 := by
  refine Nat.le_trans (wayF_len (all u) _ l) ?_
  unfold dN
  cases h : Bf.dst (all u) l with
  | none => simp
  | some d =>
    unfold Bf.dst at h
    obtain ⟨p, hp, e⟩ := Option.map_eq_some_iff.1 h
    have hm := List.mem_of_find?_eq_some hp
    have := dist_all u p.1 p.2 hm
    simp only [Option.getD_some]; omega
theorem got_all {m : Nat} (h5 : m ≤ 5) {u : List Int} (hu : Ok (m : Int) u) : Got m u (all u) := by
  have key : ∀ n, (∀ j, j < n → j < (up u j).length) ∨ ∃ k, k < n ∧ (∀ j, j < k → j < (up u j).length) ∧ (up u k).length ≤ k := by
    intro n
    induction n with
    | zero => exact .inl (fun j h => absurd h (Nat.not_lt_zero _))
    | succ n ih =>
      rcases ih with h | ⟨k, h1, h2, h3⟩
      · rcases Nat.lt_or_ge n (up u n).length with hn | hn
        · refine .inl fun j hj => ?_
          rcases Nat.lt_or_ge j n with h4 | h4
          · exact h j h4
          · obtain rfl : j = n := by omega
            exact hn
        · exact .inr ⟨n, Nat.lt_succ_self n, h, hn⟩
      · exact .inr ⟨k, by omega, h2, h3⟩
  obtain ⟨N, hN⟩ : ∃ N, N = 1024 := ⟨_, rfl⟩
  rcases key (N + 1) with h | ⟨k, h1, h2, h3⟩
  · have hl := h N (Nat.lt_succ_self N)
    have hm := up_len h5 hu N (Bf.inv_upto nbL u N (fun j hj => h j (by omega))).nodup
    omega
  · rw [← all_of h5 hu (k := k) (by omega) h3]
    exact got_of hu h2 h3
end Go.Proofs.YtgdejippddcekaaDoor
namespace Go.Proofs.YtgdejippddcekaaDoor
open Go.ChangeShapes Go.WideShapes Go.ChangeAt Go.RowKit Go.Shelf
open Go.Maps (Keyed)
set_option linter.unusedVariables false

theorem own_not {W : World} {B n c k : Nat} {e t : TypeId} {a : Option Addr} {xs : List Value} {cur : Array Value} (h : W.ownsRow B e 1 (.slice a n c) n xs) (hk : W.heap[k]? = some (.cells cur t (0, 0))) (hne : e ≠ t) : blk a ≠ some k := by
  intro hb
  rcases h.2 with ⟨hn, _⟩ | ⟨g, cap, cur2, e2, _, hg, _⟩
  · simp only [Value.slice.injEq] at hn; rw [hn.1] at hb; cases hb
  · simp only [Value.slice.injEq] at e2
    rw [e2.1] at hb
    have : g = k := by simpa [blk] using hb
    subst this
    rw [hg] at hk
    simp only [Option.some.injEq, Obj.cells.injEq] at hk
    exact hne hk.2.1
theorem Col.tour {A C : World} {B bx k : Nat} {a : Option Addr} {c : Nat} {pre : List Tr} {cur : Array Value} (h : Col A B bx a c pre) (hk : A.heap[k]? = some (.cells cur 27 (0, 0))) (hg : A.grownBy C (some k)) : Col C B bx a c pre := by
  refine ⟨h.bx.kept hg (fun e => ?_), h.ss.aside hg (fun j e => ?_)⟩
  · have e2 := Option.some.inj e
    subst e2
    rw [show A.heap[bx]? = _ from h.bx] at hk
    simp only [Option.some.injEq, Obj.cells.injEq] at hk
    exact absurd hk.2.1 (by decide)
  · have e2 := Option.some.inj e
    subst e2
    exact ⟨own_not h.ss.out hk (by decide), fun i hi e => own_not (h.ss.inn i hi) hk (by decide) (by rw [← e]; rfl)⟩
theorem grownBy_setI (W : World) (b i : Nat) (v : Value) : W.grownBy (W.setCell ⟨b, i, none⟩ v) (some b) :=
  ⟨rfl, rfl, rfl, (KeepsWalks.setCell W _ v).size, fun k _ hk => Below.heap_setCell _ _ _ k (fun e => hk (by rw [e]))⟩
/-- All but the rows of rows. -/
def RQ (B : Nat) (k : Nat) (o : Obj) : Prop := k < B ∨ ∃ cur t, o = .cells cur t (0, 0) ∧ t ≠ 22 ∧ t ≠ 31
theorem RQ.not {B g : Nat} {cur : Array Value} {t : TypeId} (hB : B ≤ g) (ht : t = 22 ∨ t = 31) : ¬ RQ B g (.cells cur t (0, 0)) := by
  rintro (h | ⟨c2, t2, h, h1, h2⟩)
  · omega
  · simp only [Obj.cells.injEq] at h
    rcases ht with rfl | rfl
    · exact h1 h.2.1.symm
    · exact h2 h.2.1.symm
theorem IntT.keepQ {B : Nat} {W W2 : World} {a : Option Addr} {l : List Int} (h : IntT B W a l) (k : KeepR (RQ B) W W2) : IntT B W2 a l := by
  have hq : ∀ (b : Nat) (cur : Array Value), W.heap[b]? = some (.cells cur 3 (0, 0)) → W2.heap[b]? = some (.cells cur 3 (0, 0)) := fun b cur hb => k.same b _ hb rfl (.inr ⟨cur, 3, rfl, by decide, by decide⟩)
  refine ⟨?_, fun b hb => ?_⟩
  · rcases h.row with h0 | ⟨b, off, rfl, hlt, hc⟩
    · exact .inl h0
    · refine .inr ⟨b, off, rfl, Nat.lt_of_lt_of_le hlt k.size, fun j hj => ?_⟩
      rcases h.ty b rfl with h1 | ⟨cur, h1⟩
      · exact cell_keepR (hc j hj) k (fun o => .inl h1)
      · have h2 := hq b cur h1
        have h3 := hc j hj
        unfold World.cell? at h3 ⊢
        simp only at h3 ⊢
        rw [h1] at h3
        rw [h2]; exact h3
  · rcases h.ty b hb with h1 | ⟨cur, h1⟩
    · exact .inl h1
    · exact .inr ⟨cur, hq b cur h1⟩
theorem IntT.tour {B k : Nat} {W W2 : World} {a : Option Addr} {l : List Int} {cur : Array Value} (h : IntT B W a l) (hk : W.heap[k]? = some (.cells cur 27 (0, 0))) (hB : B ≤ k) (hg : W.grownBy W2 (some k)) : IntT B W2 a l :=
  h.grown hg (fun r e => by
    have e2 := Option.some.inj e
    subst e2
    exact ⟨hB, fun c e3 => by rw [hk] at e3; simp only [Option.some.injEq, Obj.cells.injEq] at e3; exact absurd e3.2.1 (by decide)⟩)
theorem Boxed.tour {W W2 : World} {b k : Nat} {t : TypeId} {v : Value} {cur : Array Value} (h : Boxed W b t v) (hk : W.heap[k]? = some (.cells cur 27 (0, 0))) (ht : t ≠ 27) (hg : W.grownBy W2 (some k)) : Boxed W2 b t v :=
  h.kept hg (fun e => by
    have e2 := Option.some.inj e
    subst e2
    rw [show W.heap[b]? = _ from h] at hk
    simp only [Option.some.injEq, Obj.cells.injEq] at hk
    exact ht hk.2.1)

/-- Where the way stands: at the tour lx, with what has been taken. -/
structure Wy (w : World) (m bm b6 b7 b8 : Nat) (u lx : List Int) (ax : Option Addr) (cx : Nat) (a1 : Option Addr) (c1 : Nat) (acc : List Tr) (W : World) : Prop where
  hb : Below w.heap.size w W
  bx : Box W b8 27 (.int .i64 (m : Int)) (.slice ax m cx)
  row : IntT w.heap.size W ax lx
  x6 : Boxed W b6 45 (.map (some bm))
  mp : W.ownsMap Tryd.prog 9 (plainElem Tryd.prog 3) bm (all u).length (mapT m (all u))
  col : Col W w.heap.size b7 a1 c1 acc
  lm : w.heap.size ≤ bm
  l7 : w.heap.size ≤ b7
  l8 : w.heap.size ≤ b8
  alo : ∀ y ∈ acc, y.2 < W.heap.size
structure Wn (w : World) (m bm b6 b7 b8 : Nat) (u lx : List Int) (ax : Option Addr) (cx : Nat) (a1 : Option Addr) (c1 : Nat) (acc : List Tr) (b9 d U : Nat) (ds : List Deferred) (W : World) : Prop where
  y : Wy w m bm b6 b7 b8 u lx ax cx a1 c1 acc W
  x9 : Boxed W b9 3 (.int .i64 (d : Int))
  ms : Marks w.heap.size U ds W
section
variable {w : World} {m bm b6 b7 b8 : Nat} {u lx : List Int} {ax : Option Addr} {cx : Nat} {a1 : Option Addr} {c1 : Nat} {acc : List Tr} {b9 d U : Nat} {ds : List Deferred} {A C : World}
theorem Wy.turn (h : Wy w m bm b6 b7 b8 u lx ax cx a1 c1 acc A) {row : Option Nat} (hg : A.grownBy C row) (hr : ∀ r, row = some r → w.heap.size ≤ r ∧ bm ≠ r ∧ ∃ o : Obj, A.heap[r]? = some o ∧ o.isCells = false) : Wy w m bm b6 b7 b8 u lx ax cx a1 c1 acc C := by
  refine ⟨h.hb.grown hg h.hb.size (fun r e => (hr r e).1), (grownBy_keeps_cells hg (fun r e => (hr r e).2.2) h.bx rfl).trans h.bx, h.row.grown hg (fun r e => ⟨(hr r e).1, fun c e3 => ?_⟩), Boxed.turn h.x6 hg (fun r e => (hr r e).2.2), h.mp.kept hg (fun e => (hr bm e.symm).2.1 rfl), h.col.turn hg (fun r e => (hr r e).2.2), h.lm, h.l7, h.l8, fun y hy => Nat.lt_of_lt_of_le (h.alo y hy) hg.size⟩
  obtain ⟨o, ho, hc⟩ := (hr r e).2.2
  rw [ho] at e3; cases e3; cases hc
theorem Wn.turn (h : Wn w m bm b6 b7 b8 u lx ax cx a1 c1 acc b9 d U ds A) {row : Option Nat} (hg : A.grownBy C row) {Z : Nat} (hZ : U ≤ Z ∧ bm < Z ∧ w.heap.size ≤ Z) (hr : ∀ r, row = some r → Z ≤ r ∧ ∃ o : Obj, A.heap[r]? = some o ∧ o.isCells = false) : Wn w m bm b6 b7 b8 u lx ax cx a1 c1 acc b9 d U ds C :=
  ⟨h.y.turn hg (fun r e => ⟨by have := (hr r e).1; omega, by have := (hr r e).1; omega, (hr r e).2⟩), Boxed.turn h.x9 hg (fun r e => (hr r e).2), h.ms.beyond hg (fun r e => by have := (hr r e).1; omega)⟩
theorem Wn.below (h : Wn w m bm b6 b7 b8 u lx ax cx a1 c1 acc b9 d U ds A) (hb : Below A.heap.size A C) : Wn w m bm b6 b7 b8 u lx ax cx a1 c1 acc b9 d U ds C :=
  ⟨h.y.turn (grown_of_below hb) (fun r e => by cases e), h.x9.kept (grown_of_below hb) (by simp), h.ms.below hb⟩
/-- A step on the way: the triangle is noted, the tour behind it taken. -/
theorem Wn.pushed {w1 : World} {tmp : Obj} {x : Tr} {g c2 bn cn : Nat} {yn : List Int} {an : Option Addr} (h : Wn w m bm b6 b7 b8 u lx ax cx a1 c1 acc b9 d U ds A)
    (hrow : A.heap[x.2]? = some (.cells (x.1.map iv).toArray 3 (0, 0))) (hx3 : x.1.length = 3) (hlow : w.heap.size ≤ x.2) (haf : ∀ y ∈ acc, y.2 < x.2)
    (hn : Box A bn 27 (.int .i64 (m : Int)) (.slice an m cn)) (hy : IntT w.heap.size A an yn)
    (ho : w1.ownsRow w.heap.size 22 1 (.slice (some ⟨g, 0, none⟩) (acc.length + 1) c2) (acc.length + 1) (svs (gsT acc) (acc.map Prod.fst) ++ [.slice (some ⟨x.2, 0, none⟩) 3 3]))
    (hg : (A.alloc tmp).grownBy w1 (blk a1)) :
    Boxed w1 b7 31 (.slice a1 acc.length c1) ∧ Box (w1.setCell ⟨b7, 0, none⟩ (.slice (some ⟨g, 0, none⟩) (acc.length + 1) c2)) bn 27 (.int .i64 (m : Int)) (.slice an m cn) ∧ Box (w1.setCell ⟨b7, 0, none⟩ (.slice (some ⟨g, 0, none⟩) (acc.length + 1) c2)) b8 27 (.int .i64 (m : Int)) (.slice ax m cx) ∧
      Wn w m bm b6 b7 b8 u yn an cn (some ⟨g, 0, none⟩) c2 (acc ++ [x]) b9 d U ds (((w1.setCell ⟨b7, 0, none⟩ (.slice (some ⟨g, 0, none⟩) (acc.length + 1) c2)).setCell ⟨b8, 0, none⟩ (.int .i64 (m : Int))).setCell ⟨b8, 1, none⟩ (.slice an m cn)) ∧
      KeepsOthers A (((w1.setCell ⟨b7, 0, none⟩ (.slice (some ⟨g, 0, none⟩) (acc.length + 1) c2)).setCell ⟨b8, 0, none⟩ (.int .i64 (m : Int))).setCell ⟨b8, 1, none⟩ (.slice an m cn)) := by
  obtain ⟨hcol2, hv1, hk2, hb2, hkr⟩ := h.y.col.push (R := RQ w.heap.size) h.y.hb.size h.y.l7 hrow hx3 hlow haf (fun g cur t hB ht => RQ.not hB ht) ho hg
  obtain ⟨Wp, hWp⟩ : ∃ Wp, Wp = w1.setCell ⟨b7, 0, none⟩ (.slice (some ⟨g, 0, none⟩) (acc.length + 1) c2) := ⟨_, rfl⟩
  rw [← hWp] at hcol2 hk2 hb2 hkr ⊢
  have hsz := h.y.hb.size
  have x8 : Box Wp b8 27 (.int .i64 (m : Int)) (.slice ax m cx) := h.y.bx.keepR hkr (.inr ⟨_, _, rfl, by decide, by decide⟩)
  have xn : Box Wp bn 27 (.int .i64 (m : Int)) (.slice an m cn) := hn.keepR hkr (.inr ⟨_, _, rfl, by decide, by decide⟩)
  have x6 : Boxed Wp b6 45 (.map (some bm)) := hkr.same b6 _ h.y.x6 rfl (.inr ⟨_, _, rfl, by decide, by decide⟩)
  have x9 : Boxed Wp b9 3 (.int .i64 (d : Int)) := hkr.same b9 _ h.x9 rfl (.inr ⟨_, _, rfl, by decide, by decide⟩)
  have hyp : IntT w.heap.size Wp an yn := hy.keepQ hkr
  obtain ⟨Wq, hWq⟩ : ∃ Wq, Wq = Wp.setCell ⟨b8, 0, none⟩ (.int .i64 (m : Int)) := ⟨_, rfl⟩
  have gq : Wp.grownBy Wq (some b8) := by rw [hWq]; exact grownBy_setI Wp b8 0 _
  have y8 : Box Wq b8 27 (.int .i64 (m : Int)) (.slice ax m cx) := by rw [hWq]; exact x8.set0 _
  rw [← hWq]
  obtain ⟨Wr, hWr⟩ : ∃ Wr, Wr = Wq.setCell ⟨b8, 1, none⟩ (.slice an m cn) := ⟨_, rfl⟩
  have gr : Wq.grownBy Wr (some b8) := by rw [hWr]; exact grownBy_setI Wq b8 1 _
  have z8 : Box Wr b8 27 (.int .i64 (m : Int)) (.slice an m cn) := by rw [hWr]; exact y8.set1 _
  have kall : KeepsOthers A Wr := by rw [hWr, hWq]; exact (hk2.trans (KeepsOthers.setCell _ _ _)).trans (KeepsOthers.setCell _ _ _)
  rw [← hWr]
  obtain ⟨es, cl, hmb⟩ := map_heap h.y.mp
  have hmp : Wr.ownsMap Tryd.prog 9 (plainElem Tryd.prog 3) bm (all u).length (mapT m (all u)) := by
    obtain ⟨es2, cl2, h1, h2⟩ := h.y.mp
    exact ⟨es2, cl2, kall.same bm _ h1 rfl, h2⟩
  have hlen : (acc ++ [x]).length = acc.length + 1 := by simp
  refine ⟨hv1, xn, x8, ⟨⟨?_, z8, (hyp.tour x8 h.y.l8 gq).tour y8 h.y.l8 gr, Boxed.tour (Boxed.tour x6 x8 (by decide) gq) y8 (by decide) gr, hmp, (hcol2.tour x8 gq).tour y8 gr, h.y.lm, h.y.l7, h.y.l8, fun y hy => ?_⟩, Boxed.tour (Boxed.tour x9 x8 (by decide) gq) y8 (by decide) gr, h.ms.others kall⟩, kall⟩
  · have b1 : Below w.heap.size w Wp := h.y.hb.trans hb2
    have b2 : Below w.heap.size w Wq := b1.grown gq b1.size (fun j e => by cases e; exact h.y.l8)
    exact b2.grown gr b2.size (fun j e => by cases e; exact h.y.l8)
  · have hxs : x.2 < A.heap.size := (Array.getElem?_eq_some_iff.1 hrow).1
    have hks := kall.size
    rcases List.mem_append.1 hy with h1 | h1
    · have := h.y.alo y h1; omega
    · rw [List.mem_singleton] at h1
      rw [h1]; omega
end
end Go.Proofs.YtgdejippddcekaaDoor
namespace Go.Proofs.YtgdejippddcekaaDoor
open Go.ChangeShapes Go.WideShapes Go.ChangeAt Go.RowKit
set_option linter.unusedVariables false

set_option maxRecDepth 100000 in
set_option maxHeartbeats 1000000 in
theorem way_e (nt : Int) (at' : Option Addr) (lt : List Int) (ct : Nat) (nu : Int) (au : Option Addr) (lu : List Int) (cu : Nat) (w : World) (hrowt : IntRow w at' lt) (hrowu : IntRow w au lu) (hlt : lt.length ≤ maxLen) (hlu : lu.length ≤ maxLen) (ht : okB nt lt = true) (h5 : nt ≤ 5) (he : eqB ((resS nt lt).map Int.ofNat) ((resS nu lu).map Int.ofNat) = false) :
    Calls Tryd.prog 11 #[.agg #[.int .i64 nt, .slice at' lt.length ct], .agg #[.int .i64 nu, .slice au lu.length cu]] w fun e w' => e = .returned (.tuple #[.slice none 0 0, .bool false]) ∧ Below w.heap.size w w' := by
  obtain ⟨Wb, hWb⟩ : ∃ Wb, Wb = w.alloc (.cells #[.int .i64 nt, .slice at' lt.length ct] 27) := ⟨_, rfl⟩
  obtain ⟨Wa, hWa⟩ : ∃ Wa, Wa = Wb.alloc (.cells #[.int .i64 nu, .slice au lu.length cu] 27) := ⟨_, rfl⟩
  have sb : Wb.heap.size = w.heap.size + 1 := by rw [hWb]; simp
  have hbb : Below w.heap.size w Wb := by rw [hWb]; exact (Below.refl _ _).alloc (Nat.le_refl _) _
  have hba : Below w.heap.size w Wa := by rw [hWa]; exact hbb.alloc hbb.size _
  have xt : Box Wa w.heap.size 27 (.int .i64 nt) (.slice at' lt.length ct) := by
    rw [hWa]; exact (show Box Wb w.heap.size 27 (.int .i64 nt) (.slice at' lt.length ct) by rw [hWb]; exact Box.new _ _ _ _).more _
  have xu : Box Wa (w.heap.size + 1) 27 (.int .i64 nu) (.slice au lu.length cu) := by rw [hWa, ← sb]; exact Box.new _ _ _ _
  have HWa : Hid (Wa = (w.alloc (.cells #[.int .i64 nt, .slice at' lt.length ct] 27)).alloc (.cells #[.int .i64 nu, .slice au lu.length cu] 27)) := by rw [hWa, hWb]; exact rfl
  have qa : Hid (R1 w Wa nt at' ct lt nu au cu lu) := ⟨hba, hrowt, hrowu, xt, xu⟩
  have HLT := Lib.hid hlt
  have HLU := Lib.hid hlu
  have HT : Hid (∀ W, IntRow W at' lt → Calls Tryd.prog 24 #[.agg #[.int .i64 nt, .slice at' lt.length ct]] W fun e w' => e = .returned (.bool (okB nt lt)) ∧ Below W.heap.size W w') := fun W h => implTourOk nt at' lt ct W h HLT.out
  clear hlt hlu hrowt hrowu hWa hWb sb hbb hba xt xu
  rw [ht] at HT
  have h5b : ¬ (5 : Int) < nt := by omega
  have HE := Lib.hid he
  have S8T := Lib.hid (res_len8 nt lt)
  have S8U := Lib.hid (res_len8 nu lu)
  clear ht he
  have c0 := qa.out.bT.c0
  have c1 := qa.out.bT.c1
  have c2 := qa.out.bU.c0
  have c3 := qa.out.bU.c1
  go_enter Tryd.func11, Tryd.ntmps11
  go_wp2
  rw [← HWa.out]
  first | (go_region_with (first
      | (go_at_call_of 24 ct; refine (HT.out Wa.drew qa.out.drew.tt).mono ?_; rintro e w1 ⟨rfl, hb1⟩; have q1 := Lib.hid (qa.out.drew.kept hb1); have d0 := q1.out.bT.c0; have d1 := q1.out.bT.c1; have d2 := q1.out.bU.c0; have d3 := q1.out.bU.c1; clear hb1)
      | (go_at_call_of 26 cu; have hx := T3; refine (scP nu au lu cu w3 q3.out.uu HLU.out).mono ?_; rintro e w4 ⟨⟨gu, ku, rfl, hru⟩, hb4⟩; have RU := Lib.hid hru; have RT := Lib.hid (T3.out.below hb4 (Nat.le_refl _)); have q4 := Lib.hid (q3.out.kept hb4); clear hru hb4)
      | (go_at_call_of 26 ct; refine (scP nt at' lt ct w1 q1.out.tt HLT.out).mono ?_; rintro e w3 ⟨⟨gt, kt, rfl, hrt⟩, hb3⟩; have T3 := Lib.hid hrt; have q3 := Lib.hid (q1.out.kept hb3); clear d0 d1 d2 d3; have d0 := q3.out.bT.c0; have d1 := q3.out.bT.c1; have d2 := q3.out.bU.c0; have d3 := q3.out.bU.c1; clear hrt hb3)
      | (go_at_call 25; refine (eqP gt gu (resS nt lt) (resS nu lu) kt ku w4 RT.out RU.out S8T.out S8U.out).mono ?_; rintro e w5 ⟨rfl, h45⟩; have q5 := Lib.hid (q4.out.kept h45); rw [HE.out]; clear h45))) | fail
  all_goals
    go_wp2
    go_ret2
    exact ⟨rfl, q5.out.hb⟩

end Go.Proofs.YtgdejippddcekaaDoor
namespace Go.Proofs.YtgdejippddcekaaDoor
open Go.ChangeShapes Go.WideShapes Go.ChangeAt Go.RowKit Go.Shelf
open Go.Maps (Keyed)
attribute [local go_sem] Oper.semAt_some
set_option linter.unusedVariables false

theorem grown_blk7 {A C : World} {a : Option Addr} {n c : Nat} (h : A.grownBy C (Value.slice a n c).ownBlock) : A.grownBy C (blk a) := by rw [← blk_own a n c]; exact h
/-- A fact that no unification looks into. -/
structure Hx (p : Prop) : Prop where
  o : p
structure Rm (w W : World) (m : Nat) (at' : Option Addr) (ct : Nat) (lt : List Int) (au : Option Addr) (cu : Nat) (lu : List Int) : Prop where
  hb : Below w.heap.size w W
  ht : IntRow w at' lt
  hu : IntRow w au lu
  bT : Box W w.heap.size 27 (.int .i64 (m : Int)) (.slice at' m ct)
  bU : Box W (w.heap.size + 1) 27 (.int .i64 (m : Int)) (.slice au m cu)
section
variable {w W W' : World} {m : Nat} {at' : Option Addr} {ct : Nat} {lt : List Int} {au : Option Addr} {cu : Nat} {lu : List Int}
theorem Rm.kept (h : Rm w W m at' ct lt au cu lu) (hb : Below W.heap.size W W') : Rm w W' m at' ct lt au cu lu :=
  ⟨h.hb.trans (hb.mono h.hb.size), h.ht, h.hu, h.bT.below hb h.bT.lt, h.bU.below hb h.bU.lt⟩
theorem Rm.drew (h : Rm w W m at' ct lt au cu lu) : Rm w W.drew m at' ct lt au cu lu := h.kept (Below.refl _ _).drew
theorem Rm.tt (h : Rm w W m at' ct lt au cu lu) : IntRow W at' lt := h.ht.below h.hb (Nat.le_refl _)
theorem Rm.uu (h : Rm w W m at' ct lt au cu lu) : IntRow W au lu := h.hu.below h.hb (Nat.le_refl _)
end

/-- What the rounds over a tour's triangles hold, before one that leads nearer is met. -/
structure PreW (w : World) (m bm b6 b7 b8 : Nat) (u lx : List Int) (ax : Option Addr) (cx : Nat) (a1 : Option Addr) (c1 : Nat) (acc : List Tr) (b9 e U : Nat) (ds : List Deferred) (pre : List Tr) (W' : World) : Prop where
  n : Wn w m bm b6 b7 b8 u lx ax cx a1 c1 acc b9 (e + 1) U ds W'
  no : ∀ r ∈ pre.map Prod.fst, nearB (all u) e lx r = false
/-- .. and where it has been taken. -/
structure StopW (w : World) (m bm b6 b7 b8 : Nat) (u lx : List Int) (acc : List Tr) (b9 e U : Nat) (ds : List Deferred) (c : Code) (W' : World) : Prop where
  c2 : c = .exit 2
  ex : ∃ (r : List Int) (an : Option Addr) (cn : Nat) (a2 : Option Addr) (c2 : Nat) (x : Tr), (triL lx).find? (nearB (all u) e lx) = some r ∧ x.1 = r ∧ Wn w m bm b6 b7 b8 u (rvT lx r) an cn a2 c2 (acc ++ [x]) b9 (e + 1) U ds W'

/-- Where the search of the way stands. -/
def Lw (w : World) (m bm b6 b7 b8 : Nat) (u lt : List Int) (d0 : Nat) (ds : List Deferred) (b9 : Nat) (W : World) : Prop :=
  ∃ (lx : List Int) (ax : Option Addr) (cx : Nat) (a1 : Option Addr) (c1 : Nat) (acc : List Tr) (d U : Nat), Wn w m bm b6 b7 b8 u lx ax cx a1 c1 acc b9 d U ds W ∧ (lx, d) ∈ all u ∧ Ok (m : Int) lx ∧ acc.map Prod.fst ++ wayF (all u) d lx = wayF (all u) d0 lt ∧ ds.length + d = d0 ∧ U ≤ W.heap.size

set_option maxRecDepth 100000 in
set_option maxHeartbeats 20000000 in
theorem way_y (m : Nat) (h5 : m ≤ 5) (at' : Option Addr) (lt : List Int) (ct : Nat) (au : Option Addr) (lu : List Int) (cu : Nat) (w : World) (hrowt : IntRow w at' lt) (hrowu : IntRow w au lu) (okt : Ok (m : Int) lt) (oku : Ok (m : Int) lu) (hs : scoresL lu = scoresL lt)
    (he : eqB ((resS (m : Int) lt).map Int.ofNat) ((resS (m : Int) lu).map Int.ofNat) = true) (htab : HasTab w) :
    Calls Tryd.prog 11 #[.agg #[.int .i64 (m : Int), .slice at' m ct], .agg #[.int .i64 (m : Int), .slice au m cu]] w fun e w' => (∃ a0 c0 gs, e = .returned (.tuple #[.slice a0 (wayR lu lt).length c0, .bool true]) ∧ OwnSS w' w.heap.size a0 c0 gs (wayR lu lt)) ∧ Below w.heap.size w w' := by
  have HSL := Lib.hid (info_parts infoSl)
  have hmx : Tryd.prog.follows .mixedOrders = true := by kernel_rfl
  obtain ⟨Wb, hWb⟩ : ∃ Wb, Wb = w.alloc (.cells #[.int .i64 (m : Int), .slice at' m ct] 27) := ⟨_, rfl⟩
  obtain ⟨Wa, hWa⟩ : ∃ Wa, Wa = Wb.alloc (.cells #[.int .i64 (m : Int), .slice au m cu] 27) := ⟨_, rfl⟩
  have sb : Wb.heap.size = w.heap.size + 1 := by rw [hWb]; simp
  have hbb : Below w.heap.size w Wb := by rw [hWb]; exact (Below.refl _ _).alloc (Nat.le_refl _) _
  have hba : Below w.heap.size w Wa := by rw [hWa]; exact hbb.alloc hbb.size _
  have xt : Box Wa w.heap.size 27 (.int .i64 (m : Int)) (.slice at' m ct) := by
    rw [hWa]; exact (show Box Wb w.heap.size 27 (.int .i64 (m : Int)) (.slice at' m ct) by rw [hWb]; exact Box.new _ _ _ _).more _
  have xu : Box Wa (w.heap.size + 1) 27 (.int .i64 (m : Int)) (.slice au m cu) := by rw [hWa, ← sb]; exact Box.new _ _ _ _
  have HWa : Hid (Wa = (w.alloc (.cells #[.int .i64 (m : Int), .slice at' m ct] 27)).alloc (.cells #[.int .i64 (m : Int), .slice au m cu] 27)) := by rw [hWa, hWb]; exact rfl
  have qa : Hid (Rm w Wa m at' ct lt au cu lu) := ⟨hba, hrowt, hrowu, xt, xu⟩
  have hmt : lt.length = m := okt.m.2.2
  have hmu : lu.length = m := oku.m.2.2
  have HT : Hid (∀ W, IntRow W at' lt → Calls Tryd.prog 24 #[.agg #[.int .i64 (m : Int), .slice at' m ct]] W fun e w' => e = .returned (.bool true) ∧ Below W.heap.size W w') := fun W h => by
    have := implTourOk (m : Int) at' lt ct W h (by unfold maxLen; omega)
    rw [hmt, okB_iff.2 okt] at this
    exact this
  have HST : Hid (∀ W, IntRow W at' lt → Calls Tryd.prog 26 #[.agg #[.int .i64 (m : Int), .slice at' m ct]] W fun e w' => (∃ a1 c1, e = .returned (.slice a1 (resS (m : Int) lt).length c1) ∧ IntRow w' a1 ((resS (m : Int) lt).map Int.ofNat)) ∧ Below W.heap.size W w') := fun W h => by
    have := scP (m : Int) at' lt ct W h (by unfold maxLen; omega)
    rw [hmt] at this
    exact this
  have HSU : Hid (∀ W, IntRow W au lu → Calls Tryd.prog 26 #[.agg #[.int .i64 (m : Int), .slice au m cu]] W fun e w' => (∃ a1 c1, e = .returned (.slice a1 (resS (m : Int) lu).length c1) ∧ IntRow w' a1 ((resS (m : Int) lu).map Int.ofNat)) ∧ Below W.heap.size W w') := fun W h => by
    have := scP (m : Int) au lu cu W h (by unfold maxLen; omega)
    rw [hmu] at this
    exact this
  have S8T := Lib.hid (res_len8 (m : Int) lt)
  have S8U := Lib.hid (res_len8 (m : Int) lu)
  have HE : Hx _ := ⟨he⟩
  have OKT := Lib.hid okt
  have OKU := Lib.hid oku
  have HS := Lib.hid hs
  have HTAB := Lib.hid htab
  have h5b : ¬ (5 : Int) < (m : Int) := by omega
  clear hrowt hrowu okt oku hs he htab hWa hWb sb hbb hba xt xu hmt hmu
  have c0 := qa.out.bT.c0
  have c1 := qa.out.bT.c1
  have c2 := qa.out.bU.c0
  have c3 := qa.out.bU.c1
  refine (callsIn_wide (n := 8)).1 ?_
  refine callsIn_of_wp_marks Tryd.func11 rfl trivial ?_ rfl
  simp only [Tryd.ntmps11, List.size_toArray, List.length_cons, List.length_nil, Nat.reduceAdd, Nat.reduceSub, Array.replicate_succ, Array.replicate_zero, List.push_toArray, List.append_toArray, List.nil_append, List.cons_append]
  gi_wp2
  rw [← HWa.out]
  refine Code.wpIn_mono (Q := fun e a' w' => ∃ (W1 : World) (x12 x13 x14 x15 x16 x17 x18 x19 x20 x21 x22 x23 x24 x25 x26 : Value), Rm w W1 m at' ct lt au cu lu ∧ e = .normal ∧ a' = { tmps := #[Value.agg #[.int .i64 (m : Int), .slice at' m ct], .agg #[.int .i64 (m : Int), .slice au m cu], .pointer (some ⟨w.heap.size, 0, none⟩), .pointer (some ⟨w.heap.size + 1, 0, none⟩), .slice none 0 0, .bool false, undef, undef, undef, undef, undef, undef, x12, x13, x14, x15, x16, x17, x18, x19, x20, x21, x22, x23, x24, x25, x26, .bool false, undef, undef, undef, undef, undef, undef, undef, undef, undef, undef, undef, undef, undef, undef, undef, undef, undef, undef, undef, undef, undef, undef, undef, undef, undef, undef, undef, undef, undef, undef, undef], defers := [] } ∧ w' = W1) ?_ (wpIn_wide.2 ?reg1)
  case reg1 =>
    first | (go_region_with (first
      | (go_at_call_of 24 ct; refine (HT.out Wa.drew qa.out.drew.tt).mono ?_; rintro e w1 ⟨rfl, hb1⟩; have q1 := Lib.hid (qa.out.drew.kept hb1); have d0 := q1.out.bT.c0; have d1 := q1.out.bT.c1; have d2 := q1.out.bU.c0; have d3 := q1.out.bU.c1; clear hb1)
      | (go_at_call_of 26 cu; have hx := T3; refine (HSU.out w3 q3.out.uu).mono ?_; rintro e w4 ⟨⟨gu, ku, rfl, hru⟩, hb4⟩; have RU := Lib.hid hru; have RT := Lib.hid (T3.out.below hb4 (Nat.le_refl _)); have q4 := Lib.hid (q3.out.kept hb4); clear hru hb4)
      | (go_at_call_of 26 ct; refine (HST.out w1 q1.out.tt).mono ?_; rintro e w3 ⟨⟨gt, kt, rfl, hrt⟩, hb3⟩; have T3 := Lib.hid hrt; have q3 := Lib.hid (q1.out.kept hb3); clear d0 d1 d2 d3; have d0 := q3.out.bT.c0; have d1 := q3.out.bT.c1; have d2 := q3.out.bU.c0; have d3 := q3.out.bU.c1; clear hrt hb3)
      | (go_at_call 25; refine (eqP gt gu (resS (m : Int) lt) (resS (m : Int) lu) kt ku w4 RT.out RU.out S8T.out S8U.out).mono ?_; rintro e w5 ⟨rfl, h45⟩; have q5 := Lib.hid (q4.out.kept h45); rw [HE.o]; clear h45))) | fail
    all_goals
      have h5d : decide ((5 : Int) < (m : Int)) = false := decide_eq_false (by omega)
      rw [h5d]
      exact ⟨_, _, _, _, _, _, _, _, _, _, _, _, _, _, _, _, q5.out, rfl, rfl, rfl⟩
  rintro e a' w' ⟨W1, x12, x13, x14, x15, x16, x17, x18, x19, x20, x21, x22, x23, x24, x25, x26, q1, rfl, rfl, rfl⟩
  have Q1 := Lib.hid q1
  have ST := Lib.hid (stepsTo_any m h5 au lu cu w' Q1.out.uu OKU.out (HTAB.out.below Q1.out.hb))
  clear c0 c1 c2 c3 q1
  have c2 := Q1.out.bU.c0
  have c3 := Q1.out.bU.c1
  gi_wp2_with fail
  refine ⟨trivial, ?_⟩
  refine (callsIn_wide.2 ST.out).mono ?_
  rintro e w2 ⟨⟨bm, rfl, hbm, hgot, hmp⟩, hb2⟩
  have Q2 := Lib.hid (Q1.out.kept hb2)
  clear c2 c3
  obtain ⟨W3, hW3⟩ : ∃ W3, W3 = w2.alloc (.cells #[.map (some bm)] 45) := ⟨_, rfl⟩
  obtain ⟨W4, hW4⟩ : ∃ W4, W4 = W3.alloc (.cells #[] 22) := ⟨_, rfl⟩
  obtain ⟨W5, hW5⟩ : ∃ W5, W5 = W4.alloc (.cells #[.slice (some ⟨w2.heap.size + 1, 0, none⟩) 0 0] 31) := ⟨_, rfl⟩
  have HW5 : Hid (W5 = ((w2.alloc (.cells #[.map (some bm)] 45)).alloc (.cells #[] 22)).alloc (.cells #[.slice (some ⟨w2.heap.size + 1, 0, none⟩) 0 0] 31)) := by show _ = _; rw [hW5, hW4, hW3]
  have b3 : Below w2.heap.size w2 W3 := by rw [hW3]; exact (Below.refl _ _).alloc (Nat.le_refl _) _
  have b4 : Below W3.heap.size W3 W4 := by rw [hW4]; exact (Below.refl _ _).alloc (Nat.le_refl _) _
  have b5 : Below W4.heap.size W4 W5 := by rw [hW5]; exact (Below.refl _ _).alloc (Nat.le_refl _) _
  have b25 := (b3.trans (b4.mono b3.size)).trans (b5.mono (Nat.le_trans b3.size b4.size))
  have Q5 := Lib.hid (Q2.out.kept b25)
  have c0 := Q5.out.bT.c0
  have c1 := Q5.out.bT.c1
  rw [HW5.out] at c0 c1
  have HHW3 := Lib.hid hW3
  have HHW4 := Lib.hid hW4
  have HHW5 := Lib.hid hW5
  have B25 := Lib.hid b25
  have B3 := Lib.hid b3
  have B4 := Lib.hid b4
  have B5 := Lib.hid b5
  have HGOT := Lib.hid hgot
  have HMP := Lib.hid hmp
  have HB2 := Lib.hid hb2
  have HBM := Lib.hid hbm
  clear hW3 hW4 hW5 b3 b4 b5 b25 hgot hmp hb2 hbm
  gi_wp2
  obtain ⟨W6, hW6⟩ : ∃ W6, W6 = W5.alloc (.cells #[.int .i64 (m : Int), .slice at' m ct] 27) := ⟨_, rfl⟩
  have s3 : W3.heap.size = w2.heap.size + 1 := by rw [HHW3.out]; simp
  have s4 : W4.heap.size = w2.heap.size + 1 + 1 := by rw [HHW4.out]; simp [s3]
  have s5 : W5.heap.size = w2.heap.size + 1 + 1 + 1 := by rw [HHW5.out]; simp [s4]
  have b6 : Below W5.heap.size W5 W6 := by rw [hW6]; exact (Below.refl _ _).alloc (Nat.le_refl _) _
  have x3 : Boxed W3 w2.heap.size 45 (.map (some bm)) := by rw [HHW3.out]; exact Boxed.new _ _ _
  have r4 : W4.heap[w2.heap.size + 1]? = some (.cells #[] 22 (0, 0)) := by rw [HHW4.out, ← s3]; exact World.alloc_heap_new _ _
  have x5 : Boxed W5 (w2.heap.size + 1 + 1) 31 (.slice (some ⟨w2.heap.size + 1, 0, none⟩) 0 0) := by rw [HHW5.out, ← s4]; exact Boxed.new _ _ _
  have x8 : Box W6 (w2.heap.size + 1 + 1 + 1) 27 (.int .i64 (m : Int)) (.slice at' m ct) := by rw [hW6, ← s5]; exact Box.new _ _ _ _
  have g34 : W3.grownBy W4 none := grown_of_below B4.out
  have g45 : W4.grownBy W5 none := grown_of_below B5.out
  have g56 : W5.grownBy W6 none := grown_of_below b6
  have x6 : Boxed W6 w2.heap.size 45 (.map (some bm)) := ((x3.kept g34 (by simp)).kept g45 (by simp)).kept g56 (by simp)
  have x7 : Boxed W6 (w2.heap.size + 1 + 1) 31 (.slice (some ⟨w2.heap.size + 1, 0, none⟩) 0 0) := x5.kept g56 (by simp)
  have r6 : W6.heap[w2.heap.size + 1]? = some (.cells #[] 22 (0, 0)) := ((b6.block _ (by omega)).trans (B5.out.block _ (Array.getElem?_eq_some_iff.1 r4).1)).trans r4
  have b26 : Below w2.heap.size w2 W6 := B25.out.trans (b6.mono B25.out.size)
  have hsz2 : w.heap.size ≤ w2.heap.size := Q2.out.hb.size
  have hcol : Col W6 w.heap.size (w2.heap.size + 1 + 1) (some ⟨w2.heap.size + 1, 0, none⟩) 0 [] := ⟨x7, ⟨rfl, ⟨rfl, .inr ⟨w2.heap.size + 1, 0, #[], rfl, by omega, r6, Nat.le_refl _, by unfold maxLen; omega, rfl, rfl⟩⟩, fun i h => absurd h (Nat.not_lt_zero _), fun i j h => absurd h (Nat.not_lt_zero _)⟩⟩
  obtain ⟨d0, hd0⟩ := HGOT.out.has h5 OKU.out OKT.out HS.out
  have hd0k : d0 ≤ 1024 := dist_all lu lt d0 hd0
  have hdn : Hid (wayR lu lt = wayF (all lu) d0 lt) := by
    show _ = _
    unfold wayR dN
    rw [(Bf.dst_some HGOT.out.fin.nodup).2 hd0]; rfl
  have hq6 := Q2.out.kept b26
  have hlt1 : 1 ≤ lt.length := by have := OKT.out.1; have := OKT.out.2.2.1; omega
  have hwy : Wy w m bm w2.heap.size (w2.heap.size + 1 + 1) (w2.heap.size + 1 + 1 + 1) lu lt at' ct (some ⟨w2.heap.size + 1, 0, none⟩) 0 [] W6 :=
    ⟨hq6.hb, x8, (IntT.old hq6.ht hlt1 (Nat.le_refl _)).below hq6.hb, x6, HMP.out.kept (grown_of_below b26) (by simp), hcol, Nat.le_trans Q1.out.hb.size HBM.out, by omega, by omega, fun y hy => absurd hy (by simp)⟩
  have HW6 : Hid (W6 = (((w2.alloc (.cells #[.map (some bm)] 45)).alloc (.cells #[] 22)).alloc (.cells #[.slice (some ⟨w2.heap.size + 1, 0, none⟩) 0 0] 31)).alloc (.cells #[.int .i64 (m : Int), .slice at' m ct] 27)) := by show _ = _; rw [hW6, HW5.out]
  rw [← HW6.out]
  have HWY := Lib.hid hwy
  have HD0 := Lib.hid hd0
  have Q6 := Lib.hid hq6
  have HX6 := Lib.hid x6
  have HF : Hid (∀ V, Below W6.heap.size W6 V → Calls Tryd.prog 28 #[.agg #[.int .i64 (m : Int), .slice at' m ct]] V fun e w' => e = .returned (.string ⟨(fmtR (m : Int) lt).toArray⟩) ∧ Below V.heap.size V w') := fun V hV => by
    have hv := hq6.kept hV
    exact fmtC m lt at' ct V OKT.out hv.tt (HTAB.out.below hv.hb)
  have hky := key7 m lt
  obtain ⟨tx, htx⟩ : ∃ tx : ByteArray, tx = ⟨(fmtR (m : Int) lt).toArray⟩ := ⟨_, rfl⟩
  rw [← htx] at HF hky
  have HKY := Lib.hid hky
  have HLK : Hid (∀ W, Below W6.heap.size W6 W → (Instr.lookup 45 (.map (some bm)) (.string tx) false).run Tryd.prog W = .ok (.int .i64 (d0 : Int)) W) := fun W hW => look7 (HWY.out.mp.kept (grown_of_below hW) (by simp)) (fun p hp => HGOT.out.ok p.1 p.2 hp) HGOT.out.fin.nodup HD0.out HKY.out
  have c8 := hq6.bT.c0
  have c9 := hq6.bT.c1
  have c6 := x6.cell
  clear hW6 s3 s4 s5 b6 x3 r4 x5 x8 g34 g45 g56 x6 x7 r6 b26 hcol hq6 hwy hd0 hky htx c0 c1 HHW3 HHW4 HHW5 HW5 HW6 hlt1
  refine Code.wpIn_mono (Q := fun e a' w' => ∃ (W7 : World) (b9 : Nat), Below W6.heap.size W6 W7 ∧ Boxed W7 b9 3 (.int .i64 (d0 : Int)) ∧ e = .normal ∧ a' = { tmps := #[Value.agg #[.int .i64 (m : Int), .slice at' m ct], .agg #[.int .i64 (m : Int), .slice au m cu], .pointer (some ⟨w.heap.size, 0, none⟩), .pointer (some ⟨w.heap.size + 1, 0, none⟩), .slice none 0 0, .bool false, .pointer (some ⟨w2.heap.size, 0, none⟩), .pointer (some ⟨w2.heap.size + 1 + 1, 0, none⟩), .pointer (some ⟨w2.heap.size + 1 + 1 + 1, 0, none⟩), .pointer (some ⟨b9, 0, none⟩), undef, undef, x12, x13, x14, x15, x16, x17, x18, x19, x20, x21, x22, x23, x24, x25, x26, .bool false, .agg #[.int .i64 (m : Int), .slice au m cu], .map (some bm), .slice (some ⟨w2.heap.size + 1, 0, none⟩) 0 0, .agg #[.int .i64 (m : Int), .slice at' m ct], .map (some bm), .agg #[.int .i64 (m : Int), .slice at' m ct], .string tx, .int .i64 (d0 : Int), undef, undef, undef, undef, undef, undef, undef, undef, undef, undef, undef, undef, undef, undef, undef, undef, undef, undef, undef, undef, undef, undef, undef], defers := [] } ∧ w' = W7) ?_ (wpIn_wide.2 ?reg6)
  case reg6 =>
    have hd0 : Below W6.heap.size W6 W6.drew := (Below.refl _ W6).drew
    have hd1 : Below W6.heap.size W6 (W6.alloc (.cells #[.int .i64 0] 3)).drew := ((Below.refl _ W6).alloc (Nat.le_refl _) _).drew
    have ho6 := Below.one W6 (.cells #[.int .i64 0] 3)
    have k8 := (Q6.out.kept ho6).bT.c0
    have k9 := (Q6.out.kept ho6).bT.c1
    have k6 := (HX6.out.kept (grown_of_below ho6) (by simp)).cell
    clear ho6
    have HD0' := Lib.hid hd0
    have HD1' := Lib.hid hd1
    clear hd0 hd1
    clear HT HST HSU S8T S8U HE OKU HS ST HGOT HWY HD0 hdn HKY hd0k hmx HTAB qa Q1 Q2 Q5 B25 B3 B4 B5 HMP HB2 HBM h5b hsz2
    first | (go_region_with (go_at_call 28; refine (HF.out _ (by with_reducible first | exact HD0'.out | exact HD1'.out)).mono ?_; rintro e wd ⟨rfl, hbd⟩; first
      | (have hq : Below W6.drew.heap.size W6.drew wd := (by with_reducible exact hbd); have HBD := Lib.hid (show Below W6.heap.size W6 wd from HD0'.out.trans hq); clear hq; have hz6 := HX6.out.kept (grown_of_below HBD.out) (by simp); have d6 := hz6.cell; have d7 := (hz6.kept (grown_of_below (Below.one wd (.cells #[.int .i64 0] 3))) (by simp)).cell; have hl1 := HLK.out wd HBD.out; have hl2 := HLK.out (wd.alloc (.cells #[.int .i64 0] 3)) (HBD.out.alloc HBD.out.size _); clear hbd)
      | (have HBD := Lib.hid (show Below W6.heap.size W6 wd from HD1'.out.trans (hbd.mono HD1'.out.size)); have hz6 := HX6.out.kept (grown_of_below HBD.out) (by simp); have d6 := hz6.cell; have hl1 := HLK.out wd HBD.out; have hx9 : Boxed wd W6.heap.size 3 (.int .i64 0) := (hbd.block W6.heap.size (show W6.heap.size < (W6.alloc (.cells #[.int .i64 0] 3)).heap.size from (Boxed.new W6 3 (.int .i64 0)).lt)).trans (Boxed.new W6 3 (.int .i64 0)); have d9 := hx9.cell; have f9 := hx9.frozen; have HX9 := Lib.hid hx9; clear hbd))) | fail
    all_goals first | exact ⟨_, _, HBD.out.setCell (p := ⟨W6.heap.size, 0, none⟩) (Nat.le_refl _) _, Boxed.set _ HX9.out, rfl, rfl, rfl⟩ | exact ⟨_, _, HBD.out.alloc HBD.out.size _, Boxed.new _ _ _, rfl, rfl, rfl⟩
  rintro e a' W7 ⟨_, b9, hb7, hx9, rfl, rfl, rfl⟩
  have HST : Hid (Lw w m bm w2.heap.size (w2.heap.size + 1 + 1) (w2.heap.size + 1 + 1 + 1) lu lt d0 [] b9 W7) :=
    ⟨lt, at', ct, _, _, [], d0, W7.heap.size, ⟨HWY.out.turn (grown_of_below hb7) (fun r e => by cases e), hx9, Marks.nil _ _ _⟩, HD0.out, OKT.out, rfl, by simp, Nat.le_refl _⟩
  clear hb7 hx9 c6 c8 c9
  gi_wp2
  refine wpIn_loop (fun a2 W => ∃ (b9 : Nat) (ds : List Deferred) (v10 v11 v36 v37 v38 v39 v40 v41 v42 v43 v44 v45 v46 v47 v48 v49 v50 v51 v52 v53 v54 v55 v56 v57 v58 : Value), Lw w m bm w2.heap.size (w2.heap.size + 1 + 1) (w2.heap.size + 1 + 1 + 1) lu lt d0 ds b9 W ∧ a2 = { tmps := #[Value.agg #[.int .i64 (m : Int), .slice at' m ct], .agg #[.int .i64 (m : Int), .slice au m cu], .pointer (some ⟨w.heap.size, 0, none⟩), .pointer (some ⟨w.heap.size + 1, 0, none⟩), .slice none 0 0, .bool false, .pointer (some ⟨w2.heap.size, 0, none⟩), .pointer (some ⟨w2.heap.size + 1 + 1, 0, none⟩), .pointer (some ⟨w2.heap.size + 1 + 1 + 1, 0, none⟩), .pointer (some ⟨b9, 0, none⟩), v10, v11, x12, x13, x14, x15, x16, x17, x18, x19, x20, x21, x22, x23, x24, x25, x26, .bool false, .agg #[.int .i64 (m : Int), .slice au m cu], .map (some bm), .slice (some ⟨w2.heap.size + 1, 0, none⟩) 0 0, .agg #[.int .i64 (m : Int), .slice at' m ct], .map (some bm), .agg #[.int .i64 (m : Int), .slice at' m ct], .string tx, .int .i64 (d0 : Int), v36, v37, v38, v39, v40, v41, v42, v43, v44, v45, v46, v47, v48, v49, v50, v51, v52, v53, v54, v55, v56, v57, v58], defers := ds }) (fun a2 _ => d0 - a2.defers.length) ⟨b9, [], undef, undef, undef, undef, undef, undef, undef, undef, undef, undef, undef, undef, undef, undef, undef, undef, undef, undef, undef, undef, undef, undef, undef, undef, undef, HST.out, rfl⟩ ?_
  rintro a2 W ⟨b9, ds, v10, v11, v36, v37, v38, v39, v40, v41, v42, v43, v44, v45, v46, v47, v48, v49, v50, v51, v52, v53, v54, v55, v56, v57, v58, hlw, rfl⟩
  clear HST
  obtain ⟨lx, ax, cx, a1, c1, acc, d, U, hwn, hxd, hxok, hway, hdl, hU⟩ := hlw
  obtain ⟨dv, hdv⟩ : ∃ dv : Int, dv = (d : Int) := ⟨_, rfl⟩
  have HWN := Lib.hid hwn
  have HXD := Lib.hid hxd
  have HXOK := Lib.hid hxok
  have HWAY := Lib.hid hway
  have HDL := Lib.hid hdl
  have HU := Lib.hid hU
  have HDV := Lib.hid hdv
  have hv9 := hwn.x9.cell
  rw [← hdv] at hv9
  cases d with
  | zero =>
    have hdz : ¬ (0 : Int) < dv := by rw [hdv]; decide
    have hc7 := hwn.y.col.bx.cell
    have hacc : acc.map Prod.fst = wayR lu lt := by
      rw [hdn.out, ← hway]
      show _ = _ ++ []
      rw [List.append_nil]
    have hal : acc.length = (wayR lu lt).length := by rw [← hacc, List.length_map]
    rw [hal] at hc7
    have HACC := Lib.hid hacc
    clear hwn hxd hxok hway hdl hU hdv hacc hal
    gi_wp2
    refine leaves_marks (B := w.heap.size) (U := U) (S := fun W3 => Below w.heap.size w W3 ∧ OwnSS W3 w.heap.size a1 c1 (gsT acc) (acc.map Prod.fst)) ?_ ?_ ds W HWN.out.ms ⟨HWN.out.y.hb, HWN.out.y.col.ss⟩
    · rintro W3 D hB hD ⟨h1, h2⟩
      exact ⟨h1.grown (grownBy_putObj' W3 D _) h1.size (fun j e => by cases e; exact hB), h2.turn (grownBy_putObj' W3 D _) (fun r e => by cases e; exact ⟨_, hD, rfl⟩)⟩
    · rintro W3 ⟨h1, h2⟩
      exact ⟨_, results_tmp2 rfl _ _ _, ⟨a1, c1, rfl, gsT acc, by rw [← HACC.out]; exact h2⟩, h1⟩
  | succ e =>
    have hdp : (0 : Int) < dv := by rw [hdv]; omega
    have hwr : IntKind.i64.wrap (dv - 1) = (e : Int) := by
      rw [hdv, show (((e + 1 : Nat) : Int) - 1) = (e : Int) from by omega]
      exact wrap_small e (by have := HDL.out; omega)
    have HWR := Lib.hid hwr
    have c0 := hwn.y.bx.c0
    have c1' := hwn.y.bx.c1
    clear hwr hwn hxd hxok hway hdl hU hdv
    gi_wp2_with fail
    refine ⟨trivial, ?_⟩
    refine (callsIn_wide.2 (triangles_any _ ax m cx W)).mono ?_
    rintro e9 w5 ⟨rfl, hw5⟩
    obtain ⟨W2, hW2⟩ : ∃ W2, W2 = W.alloc (.cells #[.int .i64 (m : Int), .slice ax m cx] 27) := ⟨_, rfl⟩
    rw [← hW2] at hw5
    subst hw5
    have b2 : Below W.heap.size W w5 := by rw [hW2]; exact (Below.refl _ _).alloc (Nat.le_refl _) _
    have xt : Box w5 W.heap.size 27 (.int .i64 (m : Int)) (.slice ax m cx) := by rw [hW2]; exact Box.new _ _ _ _
    have hn5 := HWN.out.below b2
    have hxl : lx.length = m := HXOK.out.m.2.2
    have hZ : U ≤ w5.heap.size ∧ bm < w5.heap.size ∧ w.heap.size ≤ w5.heap.size := by
      have h2 := b2.size
      have h3 := hn5.y.mp.lt
      have h4 := hn5.y.hb.size
      have h5 := HU.out
      omega
    have HN5 := Lib.hid hn5
    have HXT := Lib.hid xt
    have HXL := Lib.hid hxl
    have HZ := Lib.hid hZ
    have HB2' := Lib.hid b2
    have hs5 : Hid (W.heap.size < w5.heap.size) := xt.lt
    clear c0 c1' hv9 b2 xt hn5 hxl hZ hW2
    gi_wp2
    refine rangeY (F := Fence.wide) rfl (by omega) (gf := 46) (lb := #[.pointer (some ⟨W.heap.size, 0, none⟩)]) rfl trivial (enters_of Tryd.func46 (by kernel_rfl) rfl)
      (tri_stops W.heap.size (w5.heap.size + 2) (R7 w.heap.size ax) (m : Int) ax cx lx HXOK.out w5 (by rw [HXL.out]; exact HXT.out) HN5.out.y.row.row (.inr (.inr (.inr (.inl ⟨_, _, rfl⟩)))) (fun b o e => .inr (.inl e)) (R7.fresh _ _ _))
      (fun h k => h.trans k) (fun W l o o2 h hc => KeepR.put W l o o2 h hc) (fun pre x W l o o2 _ ho hc h => h.put l o o2 ho hc) (Below.refl _ _) (fun _ => rfl)
      (fun pre W' => PreW w m bm w2.heap.size (w2.heap.size + 1 + 1) (w2.heap.size + 1 + 1 + 1) lu lx ax cx a1 c1 acc b9 e U ds pre W')
      (fun c _ W' => StopW w m bm w2.heap.size (w2.heap.size + 1 + 1) (w2.heap.size + 1 + 1 + 1) lu lx acc b9 e U ds c W')
      (fun s A B row hs hg hr => ⟨hs.n.turn hg HZ.out hr, hs.no⟩)
      (fun c s A B row hs hg hr => ⟨hs.c2, by obtain ⟨r, an, cn, a2, c2, x, h1, h2, h3⟩ := hs.ex; exact ⟨r, an, cn, a2, c2, x, h1, h2, h3.turn hg HZ.out hr⟩⟩)
      ⟨HN5.out, fun r hr => absurd hr (by simp)⟩
      (fun x => { tmps := #[Value.agg #[.int .i64 (m : Int), .slice at' m ct], .agg #[.int .i64 (m : Int), .slice au m cu], .pointer (some ⟨w.heap.size, 0, none⟩), .pointer (some ⟨w.heap.size + 1, 0, none⟩), .slice none 0 0, .bool false, .pointer (some ⟨w2.heap.size, 0, none⟩), .pointer (some ⟨w2.heap.size + 1 + 1, 0, none⟩), .pointer (some ⟨w2.heap.size + 1 + 1 + 1, 0, none⟩), .pointer (some ⟨b9, 0, none⟩), .slice (some ⟨x.2, 0, none⟩) 3 3, v11, x12, x13, x14, x15, x16, x17, x18, x19, x20, x21, x22, x23, x24, x25, x26, .bool false, .agg #[.int .i64 (m : Int), .slice au m cu], .map (some bm), .slice (some ⟨w2.heap.size + 1, 0, none⟩) 0 0, .agg #[.int .i64 (m : Int), .slice at' m ct], .map (some bm), .agg #[.int .i64 (m : Int), .slice at' m ct], .string tx, .int .i64 (d0 : Int), .int .i64 dv, .bool true, v38, v39, .agg #[.int .i64 (m : Int), .slice ax m cx], .func (.func 46) #[] #[.pointer (some ⟨W.heap.size, 0, none⟩)], .slice (some ⟨x.2, 0, none⟩) 3 3, v43, v44, v45, v46, v47, v48, v49, v50, v51, v52, v53, v54, v55, v56, v57, v58], defers := [] }) ?assign ?body ?done ?stop
    case assign =>
      intro lg x W9 K hK
      unfold encT
      gi_wp2
      exact hK
    case body =>
      rintro lg pre x Wr ⟨hwr, hno⟩ hy
      obtain ⟨rest9, hnext⟩ := hy.next
      have hmem : x.1 ∈ triL lx := by rw [hnext]; simp
      have hvc := hwr.y.bx.c0
      have hvd := hwr.y.bx.c1
      have HREV := Lib.hid (revC m lx x.1 ax cx x.2 Wr HXOK.out hwr.y.row.row hmem hy.int)
      obtain ⟨e2, he2, hyok, hnl, hnl2⟩ := near_iff h5 HGOT.out HXD.out hmem
      clear hnl2
      obtain ⟨yn, hyn⟩ : ∃ yn, yn = rvT lx x.1 := ⟨_, rfl⟩
      rw [← hyn] at HREV he2 hyok
      have HYN := Lib.hid hyn
      have HYOK := Lib.hid hyok
      have HE2 := Lib.hid he2
      have HNL : Hx (nearB (all lu) e lx x.1 = decide (e2 < e + 1)) := ⟨hnl⟩
      have HWRR := Lib.hid hwr
      have HNO := Lib.hid hno
      have HY := Lib.hid hy
      have HMEM := Lib.hid hmem
      have HNX := Lib.hid hnext
      clear hwr hno hy hnext hmem hyn he2 hyok hnl
      gi_wp2_with fail
      refine ⟨trivial, ?_⟩
      refine (CallsIn.inRound lg (callsIn_wide.2 HREV.out)).mono ?_
      rintro e9 wa ⟨⟨an, cn, rfl, hna⟩, hba⟩
      obtain ⟨Wb, hWb⟩ : ∃ Wb, Wb = wa.alloc (.cells #[.int .i64 (m : Int), .slice an m cn] 27) := ⟨_, rfl⟩
      have HWb := Lib.hid hWb
      have hbb : Below wa.heap.size wa Wb := by rw [hWb]; exact (Below.refl _ _).alloc (Nat.le_refl _) _
      have xb : Box Wb wa.heap.size 27 (.int .i64 (m : Int)) (.slice an m cn) := by rw [hWb]; exact Box.new _ _ _ _
      have hna2 : IntT w.heap.size Wb an yn := (hna w.heap.size).below hbb
      have bab := hba.trans (hbb.mono hba.size)
      have HNB := Lib.hid (HWRR.out.below bab)
      have HFM := Lib.hid (fmtC m yn an cn Wb.drew HYOK.out (hna2.below (Below.refl _ _).drew).row (HTAB.out.below HNB.out.y.hb.drew))
      have hky9 := key7 m yn
      obtain ⟨ty, hty⟩ : ∃ ty : ByteArray, ty = ⟨(fmtR (m : Int) yn).toArray⟩ := ⟨_, rfl⟩
      rw [← hty] at HFM hky9
      have HKY9 := Lib.hid hky9
      have XB := Lib.hid xb
      have HNA := Lib.hid hna2
      have BAB := Lib.hid bab
      clear hvc hvd hWb hbb xb hna hna2 hba bab hky9 hty
      have c0 := XB.out.c0
      have c1' := XB.out.c1
      have c6 := HNB.out.y.x6.cell
      have hv9 := HNB.out.x9.cell
      rw [← HDV.out] at hv9
      gi_wp2
      rw [← HWb.out]
      refine Code.wpIn_mono (Q := fun e9 a' w' => ∃ (wd : World), Below Wb.heap.size Wb wd ∧ e9 = .normal ∧ a' = { tmps := #[Value.agg #[.int .i64 (m : Int), .slice at' m ct], .agg #[.int .i64 (m : Int), .slice au m cu], .pointer (some ⟨w.heap.size, 0, none⟩), .pointer (some ⟨w.heap.size + 1, 0, none⟩), .slice none 0 0, .bool false, .pointer (some ⟨w2.heap.size, 0, none⟩), .pointer (some ⟨w2.heap.size + 1 + 1, 0, none⟩), .pointer (some ⟨w2.heap.size + 1 + 1 + 1, 0, none⟩), .pointer (some ⟨b9, 0, none⟩), .slice (some ⟨x.2, 0, none⟩) 3 3, .pointer (some ⟨wa.heap.size, 0, none⟩), x12, x13, x14, x15, x16, x17, x18, x19, x20, x21, x22, x23, x24, x25, x26, .bool false, .agg #[.int .i64 (m : Int), .slice au m cu], .map (some bm), .slice (some ⟨w2.heap.size + 1, 0, none⟩) 0 0, .agg #[.int .i64 (m : Int), .slice at' m ct], .map (some bm), .agg #[.int .i64 (m : Int), .slice at' m ct], .string tx, .int .i64 (d0 : Int), .int .i64 dv, .bool true, v38, v39, .agg #[.int .i64 (m : Int), .slice ax m cx], .func (.func 46) #[] #[.pointer (some ⟨W.heap.size, 0, none⟩)], .slice (some ⟨x.2, 0, none⟩) 3 3, .agg #[.int .i64 (m : Int), .slice ax m cx], .slice (some ⟨x.2, 0, none⟩) 3 3, .agg #[.int .i64 (m : Int), .slice an m cn], .map (some bm), .agg #[.int .i64 (m : Int), .slice an m cn], .string ty, .int .i64 (e2 : Int), .int .i64 dv, .bool (decide ((e2 : Int) < dv)), v52, v53, v54, v55, v56, v57, v58], defers := [] } ∧ w' = wd) ?_ ?reg12
      case reg12 =>
        clear HSL HT HST HSU S8T S8U HE OKT OKU HS HTAB h5b Q1 ST Q2 Q5 B25 B3 B4 B5 HMP HB2 HBM hsz2 hd0k hdn HWY HD0 Q6 HX6 HF HKY HLK HXOK HU HWN HXD HWAY HDL hdp HWR HN5 HXT HXL HZ HB2' hs5 HREV HYN HYOK HNL HWRR HNO HY HMEM HNX HWb XB HNA BAB qa HWa
        gi_region_with_o (refine ⟨trivial, ?_⟩; refine (CallsIn.inRound lg (callsIn_wide.2 HFM.out)).mono ?_; rintro e9 wd ⟨rfl, hbd⟩; have HBDd := Lib.hid (show Below Wb.heap.size Wb wd from (Below.refl _ Wb).drew.trans hbd); have HND := HNB.out.below HBDd.out; have d6 := HND.y.x6.cell; have d9 := HND.x9.cell; rw [← HDV.out] at d9; have hlk := look7 HND.y.mp (fun p hp => HGOT.out.ok p.1 p.2 hp) HGOT.out.fin.nodup HE2.out HKY9.out; clear hbd HND)
        all_goals exact ⟨_, HBDd.out, rfl, rfl, rfl⟩
      rintro e9 a' wd ⟨_, hbd, rfl, rfl, rfl⟩
      cases hnb : nearB (all lu) e lx x.1
      · have hlt9 : ¬ (e2 : Int) < dv := by
          rw [HNL.o] at hnb
          have := of_decide_eq_false hnb
          rw [HDV.out]; omega
        have HNBF : Hx (nearB (all lu) e lx x.1 = false) := ⟨hnb⟩
        clear hnb
        have hltd : decide ((e2 : Int) < dv) = false := decide_eq_false hlt9
        rw [hltd]
        clear hltd
        have hall : ∀ r ∈ (pre ++ [x]).map Prod.fst, nearB (all lu) e lx r = false := by
          intro r hr
          rw [List.map_append, List.mem_append] at hr
          rcases hr with h | h
          · exact HNO.out r h
          · simp only [List.map_cons, List.map_nil, List.mem_singleton] at h
            rw [h]; exact HNBF.o
        have HALL := Lib.hid hall
        clear hall
        gi_wp2
        exact ⟨kf_below (BAB.out.trans (hbd.mono BAB.out.size)), KeepR.below (BAB.out.trans (hbd.mono BAB.out.size)), ⟨HNB.out.below hbd, HALL.out⟩⟩
      · have hlt9 : (e2 : Int) < dv := by
          rw [HNL.o] at hnb
          have := of_decide_eq_true hnb
          rw [HDV.out]; omega
        have HNBT : Hx (nearB (all lu) e lx x.1 = true) := ⟨hnb⟩
        clear hnb
        have hltd : decide ((e2 : Int) < dv) = true := decide_eq_true hlt9
        rw [hltd]
        clear hltd
        have HND := Lib.hid (HNB.out.below hbd)
        have XD := Lib.hid (XB.out.below hbd XB.out.lt)
        have hbrd : Below Wr.heap.size Wr wd := BAB.out.trans (hbd.mono BAB.out.size)
        have HRD : Hid (wd.heap[x.2]? = some (.cells (x.1.map iv).toArray 3 (0, 0))) := (hbrd.block _ (Array.getElem?_eq_some_iff.1 HY.out.row).1).trans HY.out.row
        have HX3 := Lib.hid HY.out.len
        have HLO : Hid (w.heap.size ≤ x.2) := Nat.le_trans HZ.out.2.2 HY.out.low
        have HAF : Hid (∀ y ∈ acc, y.2 < x.2) := fun y hy => Nat.lt_of_lt_of_le (HN5.out.y.alo y hy) HY.out.low
        have HYD := Lib.hid (HNA.out.below hbd)
        have HOO : Hid (wd.ownsRow w.heap.size 22 1 (.slice a1 acc.length c1) acc.length (svs (gsT acc) (acc.map Prod.fst))) := by have := HND.out.y.col.ss.out; rwa [List.length_map] at this
        have hal : acc.length ≤ 1024 := by
          have h2 := congrArg List.length HWAY.out
          rw [List.length_append, List.length_map] at h2
          have h3 := wayF_len (all lu) d0 lt
          omega
        have hszd : w.heap.size ≤ wd.heap.size := HND.out.y.hb.size
        have HBRD := Lib.hid hbrd
        have HFIND : Hid ((triL lx).find? (nearB (all lu) e lx) = some x.1) := by
          show _ = _
          rw [HNX.out]
          rw [List.find?_append, List.find?_eq_none.2 (fun r hr => by rw [HNO.out r hr]; simp), Option.none_or, List.find?_cons_of_pos HNBT.o]
        have c7 := HND.out.y.col.bx.cell
        clear c0 c1' c6 hv9 hbd hbrd
        clear HT HST HSU S8T S8U HE OKT OKU HS HTAB h5b Q1 ST Q2 Q5 B25 B3 B4 B5 HMP HB2 HBM hsz2 hd0k hdn HWY HD0 Q6 HX6 HF HKY HLK HXOK HU HWN HXD HWAY HDL hdp HWR HN5 HXT HXL HZ HB2' hs5 HREV HYOK HWRR HNO HY HMEM HNX HNB HFM HKY9 XB HNA BAB HGOT qa HWa HNBT HWb
        gi_wp2_with (first | (gi_at_builtin; obtain ⟨i0, hi, hz0, hz1, hz2⟩ := HSL.out; refine wpListIn_append_own _ rfl _ _ 31 rfl w.heap.size 22 i0 (.slice none 0 0) 1 24 Tryd.underlying31 hi hz0 hz1 hz2 rfl (by decide) _ _ _ rfl (HOO.out.alloc _) ⟨wd.heap.size, 0, none⟩ 1 1 [.slice (some ⟨x.2, 0, none⟩) 3 3] rfl rfl (cell_one_new _ _ _) (by intro u hu; simp at hu; subst hu; rfl) (by unfold maxLen; omega) (by omega) (by simp; omega) ?_; intro v' w6 hown' hgrow hnil; clear hnil; obtain ⟨g', cap', rfl⟩ := ownsRow_succ hown'; replace hgrow := grown_blk7 (a := a1) (n := acc.length) (c := c1) hgrow; obtain ⟨hv1, hxn, hx8, hwnn, hkk⟩ := HND.out.pushed HRD.out HX3.out HLO.out HAF.out XD.out HYD.out hown' hgrow; have hc1 := hv1.cell; have hf1 := hv1.frozen; have e0 := hxn.c0; have e1 := hxn.c1; have f0 := hx8.f0; have f1 := hx8.f1; have g0 := hx8.c0; have g1 := hx8.c1) | fail)
        exact ⟨(kf_below HBRD.out).trans (hkk.from _), ⟨rfl, x.1, an, cn, _, _, x, HFIND.out, rfl, by rw [← HYN.out]; exact hwnn⟩⟩
    case done =>
      rintro D xs W9 hDz hS ⟨hn9, hno⟩ hDk
      exfalso
      obtain ⟨r, hf, _, hr⟩ := way_some h5 HGOT.out HXD.out
      have h2 := List.find?_some hf
      rw [hno r (by rw [hS]; exact hr)] at h2
      cases h2
    case stop =>
      rintro D c pre W9 hDz hSp ⟨rfl, r, an, cn, a2, c2, x, hf, hxr, hn⟩ hDk
      obtain ⟨r2, hf2, hr2, hr3⟩ := way_some h5 HGOT.out HXD.out
      rw [hf] at hf2
      obtain rfl := Option.some.inj hf2
      have hc9 := hn.x9.cell
      rw [← HDV.out] at hc9
      have hok9 := (nbL_ok HXOK.out (show rvT lx r ∈ nbL lx from by unfold nbL; exact List.mem_map.2 ⟨r, hr3, rfl⟩))
      have hwy9 : (acc ++ [x]).map Prod.fst ++ wayF (all lu) e (rvT lx r) = wayF (all lu) d0 lt := by
        rw [← HWAY.out, wayF_step hf, List.map_append, List.append_assoc, ← hxr]; rfl
      have HNX : Hid (Lw w m bm w2.heap.size (w2.heap.size + 1 + 1) (w2.heap.size + 1 + 1 + 1) lu lt d0 ({ target := .collected D, args := #[] } :: ds) W9.heap.size (W9.alloc (.cells #[.int .i64 (e : Int)] 3))) := by
        have hb1 : Below W9.heap.size W9 (W9.alloc (.cells #[.int .i64 (e : Int)] 3)) := (Below.refl _ _).alloc (Nat.le_refl _) _
        refine ⟨rvT lx r, an, cn, a2, c2, acc ++ [x], e, D + 1, ⟨hn.y.turn (grown_of_below hb1) (fun r e => by cases e), Boxed.new _ _ _, (hn.ms.cons (Nat.le_trans HZ.out.2.2 hDz) (Nat.le_trans HZ.out.1 hDz) hDk).below hb1⟩, hr2, hok9, hwy9, by have := HDL.out; simp only [List.length_cons]; omega, ?_⟩
        have h1 := (Array.getElem?_eq_some_iff.1 hDk).1
        have h2 := hb1.size
        omega
      have hdl9 := HDL.out
      have hwr9 := HWR.out
      clear hDz hSp hf hxr hn hDk hf2 hr2 hr3 hok9 hwy9
      gi_wp2
      refine ⟨⟨W9.heap.size, { target := .collected D, args := #[] } :: ds, _, _, _, _, _, _, _, _, _, _, _, _, _, _, _, _, _, _, _, _, _, _, _, _, _, HNX.out, rfl⟩, ?_⟩
      simp only [List.length_cons]
      omega
end Go.Proofs.YtgdejippddcekaaDoor
namespace Go.Proofs.YtgdejippddcekaaDoor
open Go.ChangeShapes Go.WideShapes Go.ChangeAt Go.RowKit
set_option linter.unusedVariables false

theorem way_no (nt : Int) (at' : Option Addr) (lt : List Int) (ct : Nat) (nu : Int) (au : Option Addr) (lu : List Int) (cu : Nat) (w : World) (hrowt : IntRow w at' lt) (hrowu : IntRow w au lu) (hlt : lt.length ≤ maxLen) (hlu : lu.length ≤ maxLen) (h2 : twoB nt lt nu lu = false) :
    Calls Tryd.prog 11 #[.agg #[.int .i64 nt, .slice at' lt.length ct], .agg #[.int .i64 nu, .slice au lu.length cu]] w fun e w' => e = .returned (.tuple #[.slice none 0 0, .bool false]) ∧ Below w.heap.size w w' := by
  rw [twoP] at h2
  cases ht : okB nt lt
  · exact way_t nt at' lt ct nu au lu cu w hrowt hrowu hlt hlu ht
  by_cases h5 : nt ≤ 5
  · rw [ht, decide_eq_true h5] at h2
    exact way_e nt at' lt ct nu au lu cu w hrowt hrowu hlt hlu ht h5 (by simpa using h2)
  · exact way_5 nt at' lt ct nu au lu cu w hrowt hrowu hlt hlu ht h5
theorem way_yes (nt : Int) (at' : Option Addr) (lt : List Int) (ct : Nat) (nu : Int) (au : Option Addr) (lu : List Int) (cu : Nat) (w : World) (hrowt : IntRow w at' lt) (hrowu : IntRow w au lu) (h2 : twoB nt lt nu lu = true) (htab : HasTab w) :
    Calls Tryd.prog 11 #[.agg #[.int .i64 nt, .slice at' lt.length ct], .agg #[.int .i64 nu, .slice au lu.length cu]] w fun e w' => (∃ a0 c0 gs, e = .returned (.tuple #[.slice a0 (wayR lu lt).length c0, .bool true]) ∧ OwnSS w' w.heap.size a0 c0 gs (wayR lu lt)) ∧ Below w.heap.size w w' := by
  obtain ⟨okt, oku, hn, h5, hs⟩ := twoB_parts h2
  rw [twoP] at h2
  simp only [Bool.and_eq_true] at h2
  have he := h2.2
  have hmu : lu.length = lt.length := by have := oku.2.2.1; have := okt.2.2.1; omega
  have hmt : nt = (lt.length : Int) := okt.2.2.1.symm
  rw [hmu, ← hn]
  rw [← hn] at oku he
  clear h2 hn
  rw [hmt] at okt oku he h5 ⊢
  exact way_y lt.length (by omega) at' lt ct au lu cu w hrowt hrowu okt oku hs.symm he htab
theorem way_st {nt : Int} {lt : List Int} {nu : Int} {lu : List Int} (h2 : twoB nt lt nu lu = true) : ((wayR lu lt).length : Int) = stR nt lt nu lu := by
  obtain ⟨okt, oku, hn, h5, hs⟩ := twoB_parts h2
  unfold stR
  rw [if_pos h2]
  have hmt : nt = (lt.length : Int) := okt.2.2.1.symm
  rw [← hn] at oku
  rw [hmt] at okt oku h5
  have hm5 : lt.length ≤ 5 := by omega
  have hg := got_all hm5 oku
  obtain ⟨d, hd⟩ := hg.has hm5 oku okt hs.symm
  have e1 : wayR lu lt = wayF (all lu) d lt := by
    unfold wayR dN
    rw [(Bf.dst_some hg.fin.nodup).2 hd]; rfl
  rw [e1, way_len hm5 hg d lt hd]
  exact (dI_of hg.fin.nodup hd).symm

set_option maxRecDepth 100000 in
set_option maxHeartbeats 1000000 in
theorem implSteps (nt : Int) (at' : Option Addr) (lt : List Int) (ct : Nat) (nu : Int) (au : Option Addr) (lu : List Int) (cu : Nat) (w : World) (hrowt : IntRow w at' lt) (hrowu : IntRow w au lu) (hlt : lt.length ≤ maxLen) (hlu : lu.length ≤ maxLen) (htab : HasTab w) :
    Calls Tryd.prog 8 #[.agg #[.int .i64 nt, .slice at' lt.length ct], .agg #[.int .i64 nu, .slice au lu.length cu]] w fun e w' => e = .returned (.int .i64 (stR nt lt nu lu)) ∧ Below w.heap.size w w' := by
  obtain ⟨Wa, hWa⟩ : ∃ Wa, Wa = (w.alloc (.cells #[.int .i64 nt, .slice at' lt.length ct] 27)).alloc (.cells #[.int .i64 nu, .slice au lu.length cu] 27) := ⟨_, rfl⟩
  have hba : Below w.heap.size w Wa := by rw [hWa]; exact (Below.one _ _).alloc (by simp) _
  have HWa := Lib.hid hWa
  have HBA := Lib.hid hba
  cases h2 : twoB nt lt nu lu
  · have hc := Lib.hid (way_no nt at' lt ct nu au lu cu Wa (hrowt.below hba (Nat.le_refl _)) (hrowu.below hba (Nat.le_refl _)) hlt hlu h2)
    have HE : Hid (stR nt lt nu lu = -1) := by show _ = _; unfold stR; rw [h2]; rfl
    clear hWa hlt hlu hrowt hrowu h2 hba htab
    go_enter Tryd.func8, Tryd.ntmps8
    go_wp2_with fail
    rw [← HWa.out]
    refine hc.out.mono ?_
    rintro e w1 ⟨rfl, hb1⟩
    have HB1 := Lib.hid hb1
    clear hb1
    go_wp2
    go_ret
    exact ⟨by rw [HE.out]; rfl, HBA.out.trans (HB1.out.mono HBA.out.size)⟩
  · have hc := Lib.hid (way_yes nt at' lt ct nu au lu cu Wa (hrowt.below hba (Nat.le_refl _)) (hrowu.below hba (Nat.le_refl _)) h2 (htab.below hba))
    have HE := Lib.hid (way_st h2)
    clear hWa hlt hlu hrowt hrowu h2 hba htab
    go_enter Tryd.func8, Tryd.ntmps8
    go_wp2_with fail
    rw [← HWa.out]
    refine hc.out.mono ?_
    rintro e w1 ⟨⟨a0, c0, gs, rfl, _⟩, hb1⟩
    have HB1 := Lib.hid hb1
    clear hb1
    go_wp2
    go_ret
    exact ⟨by rw [← HE.out]; rfl, HBA.out.trans (HB1.out.mono HBA.out.size)⟩
end Go.Proofs.YtgdejippddcekaaDoor
