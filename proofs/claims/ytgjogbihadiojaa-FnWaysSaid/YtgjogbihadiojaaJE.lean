/-
  The closure of 'Tour.waysFrom' that lengthens a way, where it is not long enough yet. Condition: the tour is valid.
-/
import Derived.Test.YtgjogbihadiojaaJD
namespace Go.Proofs.Ytgjogbihadiojaa
open Go.ChangeShapes Go.WideShapes Go.ChangeAt Go.RowKit Go.Shelf
attribute [local go_sem] Oper.semAt_some
set_option linter.unusedVariables false

/-- Where the loop over the next ones stands. -/
structure Lp (R : Nat → Obj → Prop) (J : List Wx → World → Prop) (f : Nat → Nat) (k : Int) (m : Nat) (p : List Nat) (Bz gl : Nat) (pre : List Wx) (w1 : World) (j : Nat) (wr : World) : Prop where
  come : ∃ xs, xs.map Prod.fst = extT f k m p j ∧ J (pre ++ xs) wr
  keep : KeepR (But R gl) w1 wr
  last : ∃ nx, Box wr gl 57 (.int .i64 ((p.getLastD 0 : Nat) : Int)) nx
  oth : KeepsFrom Bz w1 wr
theorem lenP_of {R : Nat → Obj → Prop} {J Jx : List Wx → World → Prop} {Ls ext : List (List Nat)} {Bz gl pl : Nat} {pre : List Wx} {W : World} {e : Ending} {W' : World} (h : LenP R J Jx Ls ext Bz gl pl pre W e W') :
    ∃ b, e = .returned (.bool b) ∧ LenP R J Jx Ls ext Bz gl pl pre W (.returned (.bool b)) W' := by
  rcases h with ⟨rfl, h2⟩ | ⟨rfl, h2⟩
  · exact ⟨true, rfl, .inl ⟨rfl, h2⟩⟩
  · exact ⟨false, rfl, .inr ⟨rfl, h2⟩⟩
theorem lenP_cases {R : Nat → Obj → Prop} {J Jx : List Wx → World → Prop} {Ls ext : List (List Nat)} {Bz gl pl : Nat} {pre : List Wx} {W : World} {b : Bool} {W' : World} (h : LenP R J Jx Ls ext Bz gl pl pre W (.returned (.bool b)) W') :
    (b = true ∧ (∃ xs, xs.map Prod.fst = ext ∧ J (pre ++ xs) W') ∧ KeepR (But R gl) W W' ∧ (∃ nx, Box W' gl 57 (.int .i64 ((pl : Nat) : Int)) nx) ∧ KeepsFrom Bz W W') ∨ (b = false ∧ (∃ xs, (∃ rest, Ls = (pre ++ xs).map Prod.fst ++ rest) ∧ Jx (pre ++ xs) W') ∧ KeepsFrom Bz W W') := by
  rcases h with ⟨h1, h2⟩ | ⟨h1, h2⟩
  · exact .inl ⟨by simpa using h1, h2⟩
  · exact .inr ⟨by simpa using h1, h2⟩

theorem grownBy_setAt (W : World) (b i : Nat) (v : Value) : W.grownBy (W.setCell ⟨b, i, none⟩ v) (some b) :=
  ⟨rfl, rfl, rfl, (KeepsWalks.setCell W _ v).size, fun k _ hk => Below.heap_setCell _ _ _ k (fun e => hk (by rw [e]))⟩
theorem wrapPowI (k : Nat) (h : k ≤ 8) : IntKind.i64.wrap (2 ^ k) = ((2 ^ k : Nat) : Int) := by
  have : ∀ k : Fin 9, IntKind.i64.wrap (2 ^ k.val) = ((2 ^ k.val : Nat) : Int) := by decide +kernel
  exact this ⟨k, by omega⟩
theorem set_alloc (w : World) (g i : Nat) (v : Value) (o : Obj) (h : g < w.heap.size) : (w.alloc o).setCell ⟨g, i, none⟩ v = (w.setCell ⟨g, i, none⟩ v).alloc o := by
  go_simp
/-- A further link, and the closure's next call. -/
theorem Le.child {R : Nat → Obj → Prop} {n : Int} {a : Option Addr} {l : List Int} {cap : Nat} {k : Int} {ly Bt Bk By Bf Bl g0 B0 Wb : Nat} {J : List Wx → World → Prop} {Ls : List (List Nat)} {m : Nat} {p gs : List Nat} {s : Nat} {pre : List Wx} {W w1 wr : World} {gl Bz b j : Nat}
    (h : Le R n a l cap k ly Bt Bk By Bf Bl g0 B0 J Ls (m + 1) p gs s pre W) (hok : Ok n l) (hJ : OwnZ Zl Wb J) (hWb : Wb ≤ B0) (hnm : Nm R a Bt Bk By Bf Bl) (hfr : ∀ b o, B0 ≤ b → R b o) (hk : (p.length : Int) ≠ k) (hgl : gl = gs.getLastD 0)
    (hb1 : Below W.heap.size W w1) (lp : Lp R J (ww l) k (m + 1) p Bz gl pre w1 j wr) (hb : (Hw.nx (ww l) p)[j]? = some b) {W3 : World} (hW3 : W3 = (wr.alloc (.cells #[.int .i64 (b : Int), .pointer none] 57)).setCell ⟨gl, 1, none⟩ (.pointer (some ⟨wr.heap.size, 0, none⟩))) :
    ∃ xs, xs.map Prod.fst = extT (ww l) k (m + 1) p j ∧ Le R n a l cap k ly Bt Bk By Bf Bl g0 B0 J Ls m (p ++ [b]) (gs ++ [wr.heap.size]) (s ||| 2 ^ b) (pre ++ xs) W3.drew ∧ KeepR (But R gl) wr W3.drew ∧ Box W3.drew gl 57 (.int .i64 ((p.getLastD 0 : Nat) : Int)) (.pointer (some ⟨wr.heap.size, 0, none⟩)) ∧ KeepsFrom Bz wr W3.drew := by
  have hl8 : l.length ≤ 8 := by have := hok.2.1; have := hok.2.2.1; omega
  have h8 : ∀ x ∈ p, x < 8 := fun x hx => Nat.lt_of_lt_of_le (h.low x hx) hl8
  obtain ⟨hb8, hbt, hbp⟩ := Hw.mem_nx.1 (List.mem_of_getElem? hb)
  have hpl : p.getLastD 0 < l.length := by
    rw [Hw.last_getD p h.ne]
    exact h.low _ (getD_mem (by have := List.length_pos_iff.2 h.ne; omega))
  have hbl : b < l.length := Rc.bit_lt (hok.ww hpl).2.1 hbt
  have hgs : 0 < gs.length := by rw [h.ch.len]; exact List.length_pos_iff.2 h.ne
  have hgm : gl ∈ gs := by
    rw [hgl, Hw.last_getD _ (List.length_pos_iff.1 hgs)]
    exact getD_mem (by omega)
  obtain ⟨hgd, hg0, hgw⟩ := h.gs.ne gl hgm
  have hsz1 : W.heap.size ≤ wr.heap.size := Nat.le_trans hb1.size lp.keep.size
  obtain ⟨xs, hx1, hx2⟩ := lp.come
  obtain ⟨nx, hlast⟩ := lp.last
  obtain ⟨W2, hW2⟩ : ∃ W2, W2 = wr.alloc (.cells #[.int .i64 (b : Int), .pointer none] 57) := ⟨_, rfl⟩
  rw [← hW2] at hW3
  have b2 : Below wr.heap.size wr W2 := by rw [hW2]; exact (Below.refl _ _).alloc (Nat.le_refl _) _
  have xn2 : Box W2 wr.heap.size 57 (.int .i64 (b : Int)) (.pointer none) := by rw [hW2]; exact Box.new _ _ _ _
  have hl2 := hlast.below b2 hlast.lt
  have hg3 : W2.grownBy W3 (some gl) := by rw [hW3]; exact grownBy_setAt W2 gl 1 _
  have hl3 : Box W3 gl 57 (.int .i64 ((p.getLastD 0 : Nat) : Int)) (.pointer (some ⟨wr.heap.size, 0, none⟩)) := by rw [hW3]; exact hl2.set1 _
  have hne : gl ≠ wr.heap.size := by omega
  have xn3 : Box W3 wr.heap.size 57 (.int .i64 (b : Int)) (.pointer none) := xn2.grown hg3 (fun e => hne (Option.some.inj e))
  have e1 := h.env.below hb1
  have e2 := e1.keep lp.keep (hnm.but hgd)
  have e3 := (e2.below b2).keep (KeepR.grown hg3 (fun g o e _ hn => by cases e; exact hn.2 rfl)) (hnm.but hgd)
  have e4 := e3.below (below_drew W3)
  -- the chain
  have c1 := h.ch.below hb1
  have hRall : ∀ g ∈ gs, ∀ o, R g o := fun g hg o => hfr g o (h.gs.ne g hg).2.1
  have cw : Ch wr gs p nx := by
    refine c1.keep h.ne h.gs.nd hRall ?_ ?_
    · rw [← hgl]; exact lp.keep
    · rw [← hgl]; exact hlast
  have c3 : Ch W3 (gs ++ [wr.heap.size]) (p ++ [b]) (.pointer none) := by
    refine (cw.below b2).push h.ne h.gs.nd ?_ ?_ xn3
    · rw [← hgl]; exact hg3
    · rw [← hgl]; exact hl3
  have c4 := c3.below (below_drew W3)
  have j2 : J (pre ++ xs) W2 := hJ _ wr W2 none hx2 (grown_of_below b2) (by simp)
  have j3 : J (pre ++ xs) W3 := hJ _ W2 W3 (some gl) j2 hg3 (fun r e => by cases e; exact ⟨by omega, _, hl2, .inr ⟨_, _, rfl⟩⟩)
  have j4 : J (pre ++ xs) W3.drew := hJ _ W3 W3.drew none j3 (grown_drew W3) (by simp)
  have s3 : W3.heap.size = wr.heap.size + 1 := by
    have h1 : W2.heap.size = wr.heap.size + 1 := by rw [hW2]; simp
    rw [hW3]; simp [h1]
  have hkr : KeepR (But R gl) wr W3.drew := ((KeepR.below b2).trans (KeepR.grown hg3 (fun g o e _ hn => by cases e; exact hn.2 rfl))).trans (KeepR.below (below_drew W3))
  obtain ⟨rest, hrest⟩ := h.rest
  obtain ⟨rest2, hrest2⟩ := extT_part (m := m + 1) hk hb h.way.1 h8 h.lm
  refine ⟨xs, hx1, ⟨by have := h.lm; simp; omega, h.way.snoc hbp (.inr hbt), by simp, fun x hx => ?_, h.set.snoc, c4, ?_, ⟨?_, fun g hg => ?_⟩, e4, j4, ⟨rest2 ++ rest, ?_⟩⟩, hkr, hl3.below (below_drew W3) hl3.lt, ?_⟩
  · rcases List.mem_append.1 hx with h1 | h1
    · exact h.low x h1
    · obtain rfl : x = b := by simpa using h1
      exact hbl
  · rw [Hw.getD_append_lt hgs]; exact h.fst
  · rw [List.nodup_append]
    exact ⟨h.gs.nd, by simp, fun x hx y hy => by simp at hy; subst hy; have := (h.gs.ne x hx).2.2; omega⟩
  · have hsd : W3.drew.heap.size = wr.heap.size + 1 := s3
    rcases List.mem_append.1 hg with h1 | h1
    · have := h.gs.ne g h1
      exact ⟨this.1, this.2.1, by omega⟩
    · obtain rfl : g = wr.heap.size := by simpa using h1
      refine ⟨⟨?_, ?_, ?_, ?_, ?_, ?_⟩, by omega, by omega⟩
      · have := h.env.xt.lt; omega
      · have := h.env.xk.lt; omega
      · have := h.env.xy.lt; omega
      · have := h.env.xf.lt; omega
      · have := h.env.xl.lt; omega
      · intro e
        rcases h.env.hr with h2 | ⟨b2, off, h3, h4, _⟩
        · have := hok.1; have := hok.2.2.1; rw [h2] at this; simp at this; omega
        · rw [h3] at e; simp [blk] at e; omega
  · rw [hrest, hrest2, List.map_append, hx1]; simp [List.append_assoc]
  · exact ((kf_below b2).trans ((by rw [hW3]; exact (KeepsOthers.setCell _ _ _).from _ : KeepsFrom Bz W2 W3))).trans (kf_below (below_drew W3))
end Go.Proofs.Ytgjogbihadiojaa
