/-
  The closure of 'Tour.waysFrom' that lengthens a way: by induction on how many players are left. Every way of k players that goes on with the given one is handed over once, in order, each one in a new row. Condition: the tour is valid.
-/
import Derived.Test.YtgjogbihadiojaaJA
import Derived.Test.YtgjogbihadiojaaJB
import Derived.Test.YtgjogbihadiojaaV6B
namespace Go.Proofs.Ytgjogbihadiojaa
open Go.ChangeShapes Go.WideShapes Go.ChangeAt Go.RowKit Go.Shelf
attribute [local go_sem] Oper.semAt_some
set_option linter.unusedVariables false

theorem i64_andNotW (x y : Nat) (hx : x < 2 ^ 62) (hy : y < 2 ^ 62) : bits .andNot .i64 (x : Int) (y : Int) = ((x ^^^ (x &&& y) : Nat) : Int) := by
  have e : BitVec.ofInt 64 (x : Int) &&& ~~~(BitVec.ofInt 64 (y : Int)) = BitVec.ofInt 64 (x : Int) ^^^ (BitVec.ofInt 64 (x : Int) &&& BitVec.ofInt 64 (y : Int)) := by
    apply BitVec.eq_of_getLsbD_eq
    intro i hi
    simp only [BitVec.getLsbD_and, BitVec.getLsbD_not, BitVec.getLsbD_xor, hi, decide_true, Bool.true_and]
    cases (BitVec.ofInt 64 (x : Int)).getLsbD i <;> cases (BitVec.ofInt 64 (y : Int)).getLsbD i <;> rfl
  show IntKind.i64.wrap ((BitVec.ofInt 64 x &&& ~~~(BitVec.ofInt 64 y)).toNat : Nat) = _
  rw [e, BitVec.toNat_xor, BitVec.toNat_and, ofInt_small x hx, ofInt_small y hy]
  exact wrap_small _ (Nat.xor_lt_two_pow hx (Nat.lt_of_le_of_lt Nat.and_le_left hx))

/-- A way that comes: its players; its row's block and room. -/
abbrev Wx := List Nat × Nat × Nat
def encW (x : Wx) : Array Value := #[.slice (some ⟨x.2.1, 0, none⟩) x.1.length x.2.2]
/-- What is known of a way that comes. -/
structure YW (Ls : List (List Nat)) (B : Nat) (pre : List Wx) (x : Wx) (W : World) : Prop where
  next : ∃ rest, Ls = pre.map Prod.fst ++ x.1 :: rest
  own : W.ownsRow B 3 1 (.slice (some ⟨x.2.1, 0, none⟩) x.1.length x.2.2) x.1.length (x.1.map nv)
theorem own_turnZ {A C : World} {row : Option Nat} {B n : Nat} {e : TypeId} {v : Value} {xs : List Value} (h : A.ownsRow B e 1 v n xs) (hg : A.grownBy C row) (hr : ∀ r, row = some r → ∃ o : Obj, A.heap[r]? = some o ∧ o.isCells = false) : C.ownsRow B e 1 v n xs := by
  rcases h.2 with ⟨hn, h0⟩ | ⟨g, cap, cur, he, hB, hgc, q⟩
  · exact ⟨h.1, .inl ⟨hn, h0⟩⟩
  · exact ⟨h.1, .inr ⟨g, cap, cur, he, hB, (grownBy_keeps_cells hg hr hgc rfl).trans hgc, q⟩⟩
theorem YW.put {Ls : List (List Nat)} {B : Nat} {pre : List Wx} {x : Wx} {W : World} (h : YW Ls B pre x W) (k : Nat) (o o2 : Obj) (ho : W.heap[k]? = some o) (hc : o.isCells = false) : YW Ls B pre x (W.putObj k o2) :=
  ⟨h.next, own_turnZ h.own (grownBy_putObj' W k o2) (fun r e => by cases e; exact ⟨o, ho, hc⟩)⟩

/-- The rows that the iterator turns: links. -/
def Zl (o : Obj) : Prop := ∃ v0 v1, o = .cells #[v0, v1] 57 (0, 0)

theorem KeepR.over {R R2 R3 : Nat → Obj → Prop} {A B C : World} (h : KeepR R A B) (k : KeepR R2 B C) (h1 : ∀ b o, b < A.heap.size → R3 b o → R b o) (h2 : ∀ b o, b < A.heap.size → R3 b o → R2 b o) : KeepR R3 A C :=
  ⟨Nat.le_trans h.size k.size, fun i o hi hc hg => by
    have hl := (Array.getElem?_eq_some_iff.1 hi).1
    exact k.same i o (h.same i o hi hc (h1 i o hl hg)) hc (h2 i o hl hg)⟩
theorem KeepR.weak {R R2 : Nat → Obj → Prop} {A B : World} (h : KeepR R A B) (h1 : ∀ b o, b < A.heap.size → R2 b o → R b o) : KeepR R2 A B :=
  ⟨h.size, fun i o hi hc hg => h.same i o hi hc (h1 i o (Array.getElem?_eq_some_iff.1 hi).1 hg)⟩

/-- What the closures share. -/
structure En (n : Int) (a : Option Addr) (l : List Int) (cap : Nat) (k : Int) (ly Bt Bk By Bf Bl g0 : Nat) (W : World) : Prop where
  xt : Box W Bt 25 (.int .i64 n) (.slice a l.length cap)
  hr : IntRow W a l
  xk : Boxed W Bk 3 (.int .i64 k)
  xy : Boxed W By 92 (.func (.yield ly) #[] #[])
  xf : Boxed W Bf 54 (.pointer (some ⟨g0, 0, none⟩))
  xl : Boxed W Bl 93 (.func (.func 112) #[] #[.pointer (some ⟨Bk, 0, none⟩), .pointer (some ⟨By, 0, none⟩), .pointer (some ⟨Bf, 0, none⟩), .pointer (some ⟨Bt, 0, none⟩), .pointer (some ⟨Bl, 0, none⟩)])
/-- What R must name. -/
structure Nm (R : Nat → Obj → Prop) (a : Option Addr) (Bt Bk By Bf Bl : Nat) : Prop where
  t : ∀ o, R Bt o
  k : ∀ o, R Bk o
  y : ∀ o, R By o
  f : ∀ o, R Bf o
  l : ∀ o, R Bl o
  a : ∀ b o, blk a = some b → R b o
section
variable {n : Int} {a : Option Addr} {l : List Int} {cap : Nat} {k : Int} {ly Bt Bk By Bf Bl g0 : Nat} {W W2 : World} {R : Nat → Obj → Prop}
theorem Boxed.keepR {g : Nat} {e : TypeId} {v : Value} (h : Boxed W g e v) (k : KeepR R W W2) (hp : ∀ o, R g o) : Boxed W2 g e v := k.same g _ h rfl (hp _)
theorem En.keep (h : En n a l cap k ly Bt Bk By Bf Bl g0 W) (kp : KeepR R W W2) (hn : Nm R a Bt Bk By Bf Bl) : En n a l cap k ly Bt Bk By Bf Bl g0 W2 :=
  ⟨h.xt.keepR kp (hn.t _), h.hr.keepR kp hn.a, Boxed.keepR h.xk kp hn.k, Boxed.keepR h.xy kp hn.y, Boxed.keepR h.xf kp hn.f, Boxed.keepR h.xl kp hn.l⟩
theorem En.below (h : En n a l cap k ly Bt Bk By Bf Bl g0 W) (hb : Below W.heap.size W W2) : En n a l cap k ly Bt Bk By Bf Bl g0 W2 :=
  h.keep (R := fun _ _ => True) (KeepR.below hb) ⟨fun _ => trivial, fun _ => trivial, fun _ => trivial, fun _ => trivial, fun _ => trivial, fun _ _ _ => trivial⟩
/-- But one block. -/
def But (R : Nat → Obj → Prop) (g : Nat) (b : Nat) (o : Obj) : Prop := R b o ∧ b ≠ g
theorem Nm.but (h : Nm R a Bt Bk By Bf Bl) {g : Nat} (hg : g ≠ Bt ∧ g ≠ Bk ∧ g ≠ By ∧ g ≠ Bf ∧ g ≠ Bl ∧ blk a ≠ some g) : Nm (But R g) a Bt Bk By Bf Bl :=
  ⟨fun o => ⟨h.t o, fun e => hg.1 e.symm⟩, fun o => ⟨h.k o, fun e => hg.2.1 e.symm⟩, fun o => ⟨h.y o, fun e => hg.2.2.1 e.symm⟩, fun o => ⟨h.f o, fun e => hg.2.2.2.1 e.symm⟩, fun o => ⟨h.l o, fun e => hg.2.2.2.2.1 e.symm⟩,
    fun b o e => ⟨h.a b o e, fun e2 => hg.2.2.2.2.2 (by rw [e, e2])⟩⟩
end

/-- The blocks of a chain: different ones, and none of the closures'. -/
structure Gs (a : Option Addr) (Bt Bk By Bf Bl B0 : Nat) (gs : List Nat) (W : World) : Prop where
  nd : gs.Nodup
  ne : ∀ g ∈ gs, (g ≠ Bt ∧ g ≠ Bk ∧ g ≠ By ∧ g ≠ Bf ∧ g ≠ Bl ∧ blk a ≠ some g) ∧ B0 ≤ g ∧ g < W.heap.size
theorem Gs.mono {a : Option Addr} {Bt Bk By Bf Bl B0 : Nat} {gs : List Nat} {W W2 : World} (h : Gs a Bt Bk By Bf Bl B0 gs W) (hs : W.heap.size ≤ W2.heap.size) : Gs a Bt Bk By Bf Bl B0 gs W2 :=
  ⟨h.nd, fun g hg => ⟨(h.ne g hg).1, (h.ne g hg).2.1, Nat.lt_of_lt_of_le (h.ne g hg).2.2 hs⟩⟩

theorem getD_mem {gs : List Nat} {i : Nat} (h : i < gs.length) : gs.getD i 0 ∈ gs := by
  rw [List.getD_eq_getElem?_getD, List.getElem?_eq_getElem h]; exact List.getElem_mem _
theorem getD_ne {gs : List Nat} (h : gs.Nodup) {i j : Nat} (hi : i < gs.length) (hj : j < gs.length) (hij : i ≠ j) : gs.getD i 0 ≠ gs.getD j 0 := by
  rw [List.getD_eq_getElem?_getD, List.getD_eq_getElem?_getD, List.getElem?_eq_getElem hi, List.getElem?_eq_getElem hj]
  intro e
  exact hij ((List.getElem_inj h).1 e)
/-- A chain, its last link turned elsewhere. -/
theorem Ch.keep {W W2 : World} {gs ps : List Nat} {nx nx2 : Value} {R : Nat → Obj → Prop} (h : Ch W gs ps nx) (hne : ps ≠ []) (hnd : gs.Nodup) (hR : ∀ g ∈ gs, ∀ o, R g o) (kp : KeepR (But R (gs.getLastD 0)) W W2) (hl : Box W2 (gs.getLastD 0) 57 (.int .i64 ((ps.getLastD 0 : Nat) : Int)) nx2) : Ch W2 gs ps nx2 := by
  have hlen := h.len
  have hps : 0 < ps.length := List.length_pos_iff.2 hne
  have hgne : gs ≠ [] := by intro e; rw [e] at hlen; simp at hlen; omega
  have eg := Hw.last_getD gs hgne
  have ep := Hw.last_getD ps hne
  rw [eg] at kp
  rw [eg, ep] at hl
  refine ⟨hlen, fun i hi => ?_⟩
  rcases Nat.lt_or_ge (i + 1) ps.length with h1 | h1
  · have hn := h.node i hi
    rw [pV_lt _ (by omega)] at hn ⊢
    exact kp.same _ _ hn rfl ⟨hR _ (getD_mem (by omega)) _, getD_ne hnd (by omega) (by omega) (by omega)⟩
  · rw [pV_ge _ (by omega)]
    obtain rfl : i = ps.length - 1 := by omega
    rw [show gs.length - 1 = ps.length - 1 by omega] at hl
    exact hl
theorem Ch.last {W : World} {gs ps : List Nat} {nx : Value} (h : Ch W gs ps nx) (hne : ps ≠ []) : Box W (gs.getLastD 0) 57 (.int .i64 ((ps.getLastD 0 : Nat) : Int)) nx := by
  have hlen := h.len
  have hps : 0 < ps.length := List.length_pos_iff.2 hne
  have hgne : gs ≠ [] := by intro e; rw [e] at hlen; simp at hlen; omega
  have hn := h.node (ps.length - 1) (by omega)
  rw [pV_ge _ (by omega)] at hn
  rw [Hw.last_getD gs hgne, Hw.last_getD ps hne, show gs.length - 1 = ps.length - 1 by omega]
  exact hn
/-- A further link behind the last one. -/
theorem Ch.push {W W2 : World} {gs ps : List Nat} {nx nx2 : Value} {g b : Nat} (h : Ch W gs ps nx) (hne : ps ≠ []) (hnd : gs.Nodup) (hg : W.grownBy W2 (some (gs.getLastD 0)))
    (hl : Box W2 (gs.getLastD 0) 57 (.int .i64 ((ps.getLastD 0 : Nat) : Int)) (.pointer (some ⟨g, 0, none⟩))) (hb : Box W2 g 57 (.int .i64 ((b : Nat) : Int)) nx2) : Ch W2 (gs ++ [g]) (ps ++ [b]) nx2 := by
  have hlen := h.len
  have hc : Ch W2 gs ps (.pointer (some ⟨g, 0, none⟩)) := by
    refine h.keep (R := fun _ _ => True) hne hnd (fun _ _ _ => trivial) (KeepR.grown hg (fun g2 o e _ hn => ?_)) hl
    cases e; exact hn.2 rfl
  refine ⟨by simp [hlen], fun i hi => ?_⟩
  rw [List.length_append, List.length_singleton] at hi
  rcases Nat.lt_or_ge i ps.length with h1 | h1
  · have hn := hc.node i h1
    rw [Hw.getD_append_lt (by omega), Hw.getD_append_lt h1]
    rcases Nat.lt_or_ge (i + 1) gs.length with h2 | h2
    · rw [pV_lt _ h2] at hn
      rw [pV_lt _ (by simp; omega), Hw.getD_append_lt h2]
      exact hn
    · rw [pV_ge _ h2] at hn
      rw [pV_lt _ (by simp; omega), show i + 1 = gs.length by omega, Hw.getD_append_at]
      exact hn
  · obtain rfl : i = ps.length := by omega
    rw [pV_ge _ (by simp; omega), Hw.getD_append_at, ← hlen, Hw.getD_append_at]
    exact hb

/-- What is handed over: all ways, or some of them. -/
def LenP (R : Nat → Obj → Prop) (J Jx : List Wx → World → Prop) (Ls : List (List Nat)) (ext : List (List Nat)) (Bz gl pl : Nat) (pre : List Wx) (W : World) (e : Ending) (W' : World) : Prop :=
  (e = .returned (.bool true) ∧ (∃ xs, xs.map Prod.fst = ext ∧ J (pre ++ xs) W') ∧ KeepR (But R gl) W W' ∧ (∃ nx, Box W' gl 57 (.int .i64 ((pl : Nat) : Int)) nx) ∧ KeepsFrom Bz W W') ∨
  (e = .returned (.bool false) ∧ (∃ xs, (∃ rest, Ls = (pre ++ xs).map Prod.fst ++ rest) ∧ Jx (pre ++ xs) W') ∧ KeepsFrom Bz W W')
theorem grown_drew (W : World) : W.grownBy W.drew none := ⟨rfl, rfl, rfl, Nat.le_refl _, fun _ _ _ => rfl⟩
theorem below_drew (W : World) : Below W.heap.size W W.drew := (Below.refl _ W).drew
end Go.Proofs.Ytgjogbihadiojaa
