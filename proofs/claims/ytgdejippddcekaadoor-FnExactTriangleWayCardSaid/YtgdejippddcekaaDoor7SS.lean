/-
  'TriangleWay' of the model, whole, and what the law of two tours holds. No conditions but the bounds that Go gives a slice.
-/
import Derived.Test.YtgdejippddcekaaDoor7WW
import Derived.Test.YtgdejippddcekaaDoorWb
import Derived.Test.YtgdejippddcekaaDoorC
import Derived.Test.YtgdejippddcekaaDoorD
namespace Go.Proofs.YtgdejippddcekaaDoor
open Go.ChangeShapes Go.WideShapes Go.ChangeAt Go.RowKit
set_option linter.unusedVariables false

/-- A list of lists that is not too long for a law's marks. -/
def SmallSS (R : List (List Int)) : Prop := R.length ≤ 4096 ∧ (∀ i, i < R.length → (R.getD i []).length ≤ 4096) ∧ sumLs R ≤ 900000
theorem markSS_1 (a : Option Addr) (c B : Nat) (gs : List (Nat × Nat)) (Ls : List (List Int)) (w : World) (h : OwnSS w B a c gs Ls) (hs : SmallSS Ls) :
    Calls Tryd.prog 14 #[.slice a Ls.length c, .int .i64 1] w fun e w' => e = .returned (.int .i64 ((1 + sumLs Ls : Nat) : Int)) ∧ OwnSS w' B a c gs (mkSS 1 Ls Ls.length) ∧ Below B w w' :=
  markSS1 a c B 1 gs Ls w h hs.1 hs.2.1 (by have := hs.2.2; omega)
theorem heldSS_1 (a : Option Addr) (c B : Nat) (gs : List (Nat × Nat)) (Ls : List (List Int)) (w : World) (h : OwnSS w B a c gs (mkSS 1 Ls Ls.length)) (hs : SmallSS Ls) :
    Calls Tryd.prog 15 #[.slice a Ls.length c, .int .i64 1] w fun e w' => e = .returned (.int .i64 ((1 + sumLs Ls : Nat) : Int)) ∧ Below w.heap.size w w' :=
  heldSS1 a c B 1 gs Ls w h hs.1 hs.2.1 (by have := hs.2.2; omega)
theorem eqSS_1 (a b : Option Addr) (ca cb B B' : Nat) (gs gs' : List (Nat × Nat)) (Ls : List (List Int)) (w : World) (h1 : OwnSS w B a ca gs Ls) (h2 : OwnSS w B' b cb gs' Ls) (hs : SmallSS Ls) :
    Calls Tryd.prog 12 #[.slice a Ls.length ca, .slice b Ls.length cb] w fun e w' => e = .returned (.bool true) ∧ Below w.heap.size w w' := eqSS a b ca cb B B' gs gs' Ls w h1 h2 hs.1 hs.2.1
/-- A row below a bound stays where all that changes lies from it on. -/
theorem own_lowE {e : TypeId} {W W' : World} {B B' n c : Nat} {a : Option Addr} {xs : List Value} (h : W.ownsRow B e 1 (.slice a n c) n xs) (hb : Below B' W W') (ho : ∀ k, blk a = some k → k < B') : W'.ownsRow B e 1 (.slice a n c) n xs := by
  rcases h.2 with ⟨hn, h0⟩ | ⟨g, cap, cur, he, hB, hg, q⟩
  · exact ⟨h.1, .inl ⟨hn, h0⟩⟩
  · refine ⟨h.1, .inr ⟨g, cap, cur, he, hB, ?_, q⟩⟩
    simp only [Value.slice.injEq] at he
    exact (hb.block g (ho g (by rw [he.1]; rfl))).trans hg

structure StS (w W : World) (Bg : Nat) (pA : Nat) (n : Int) (a : Option Addr) (cap : Nat) (l : List Int) (px : Nat) (ax : Option Addr) (cx : Nat) (X : List Int) (a0 : Option Addr) (c0 : Nat) (gs0 : List (Nat × Nat)) (R : List (List Int)) (ag : Option Addr) (cg : Nat) (gsg : List (Nat × Nat)) (G : List (List Int)) : Prop where
  hb : Below w.heap.size w W
  hr : IntRow w a l
  bA : Box W pA 24 (.int .i64 n) (.slice a l.length cap)
  bx : Box W px 27 (.int .i64 n) (.slice ax X.length cx)
  rx : W.ownsRow w.heap.size 3 1 (.slice ax X.length cx) X.length (X.map iv)
  r0 : OwnSS W w.heap.size a0 c0 gs0 R
  rg : OwnSS W Bg ag cg gsg G
  lo : w.heap.size ≤ Bg ∧ Bg ≤ W.heap.size ∧ pA < Bg ∧ px < Bg
  nx : ∀ k, blk ax = some k → k < Bg ∧ k ≠ pA ∧ k ≠ px ∧ blk a0 ≠ some k ∧ ∀ i, i < R.length → (gs0.getD i (0, 0)).1 ≠ k
  n0 : (∀ k, blk a0 = some k → k < Bg) ∧ ∀ i, i < R.length → (gs0.getD i (0, 0)).1 < Bg

section
variable {w W W' : World} {Bg pA : Nat} {n : Int} {a : Option Addr} {cap : Nat} {l : List Int} {px : Nat} {ax : Option Addr} {cx : Nat} {X X' : List Int} {a0 : Option Addr} {c0 : Nat} {gs0 : List (Nat × Nat)} {R : List (List Int)} {ag : Option Addr} {cg : Nat} {gsg : List (Nat × Nat)} {G G' : List (List Int)}
theorem StS.rA (h : StS w W Bg pA n a cap l px ax cx X a0 c0 gs0 R ag cg gsg G) : IntRow W a l := h.hr.below h.hb (Nat.le_refl _)
theorem StS.kept (h : StS w W Bg pA n a cap l px ax cx X a0 c0 gs0 R ag cg gsg G) (hb : Below W.heap.size W W') : StS w W' Bg pA n a cap l px ax cx X a0 c0 gs0 R ag cg gsg G :=
  ⟨h.hb.trans (hb.mono h.hb.size), h.hr, h.bA.below hb h.bA.lt, h.bx.below hb h.bx.lt, own_below h.rx hb, h.r0.below hb, h.rg.below hb, ⟨h.lo.1, Nat.le_trans h.lo.2.1 hb.size, h.lo.2.2⟩, h.nx, h.n0⟩
theorem StS.markX (h : StS w W Bg pA n a cap l px ax cx X a0 c0 gs0 R ag cg gsg G) (hl : X'.length = X.length) (hx : W'.ownsRow w.heap.size 3 1 (.slice ax X.length cx) X.length (X'.map iv)) (hb : Below w.heap.size W W') (hg : W.grownBy W' (blk ax)) :
    StS w W' Bg pA n a cap l px ax cx X' a0 c0 gs0 R ag cg gsg G := by
  refine ⟨h.hb.trans hb, h.hr, h.bA.grown hg (fun e => (h.nx _ e).2.1 rfl), ?_, ?_, h.r0.aside hg (fun k hk => ⟨(h.nx k hk).2.2.2.1, (h.nx k hk).2.2.2.2⟩), h.rg.aside hg (fun k hk => ?_), ⟨h.lo.1, Nat.le_trans h.lo.2.1 hg.size, h.lo.2.2⟩, h.nx, h.n0⟩
  · rw [hl]; exact h.bx.grown hg (fun e => (h.nx _ e).2.2.1 rfl)
  · rw [hl]; exact hx
  · have hk2 := (h.nx k hk).1
    refine ⟨fun e => ?_, fun i hi e => ?_⟩
    · have := (h.rg.blkO e).1; omega
    · have := (h.rg.blkI i hi).1; omega
theorem StS.markG (h : StS w W Bg pA n a cap l px ax cx X a0 c0 gs0 R ag cg gsg G) (hx : OwnSS W' Bg ag cg gsg G') (hb : Below Bg W W') :
    StS w W' Bg pA n a cap l px ax cx X a0 c0 gs0 R ag cg gsg G' :=
  ⟨h.hb.trans (hb.mono h.lo.1), h.hr, h.bA.below hb h.lo.2.2.1, h.bx.below hb h.lo.2.2.2, own_lowE h.rx hb (fun k hk => (h.nx k hk).1), h.r0.kept hb h.n0.1 h.n0.2, hx, ⟨h.lo.1, Nat.le_trans h.lo.2.1 hb.size, h.lo.2.2⟩, h.nx, h.n0⟩
end
end Go.Proofs.YtgdejippddcekaaDoor
namespace Go.Proofs.YtgdejippddcekaaDoor
open Go.ChangeShapes Go.WideShapes Go.ChangeAt Go.RowKit
set_option linter.unusedVariables false

/-- What follows a region that draws its order is walked once, whatever the order. -/
theorem once1 {P : Nat → World → Prop} {S : World → Prop} {Goal : Prop} (main : (∀ g W, S W → P g W) → Goal) (rest : ∀ g W, S W → P g W) : Goal := main rest
theorem once2 {P : Nat → Nat → World → Prop} {S : World → Prop} {Goal : Prop} (main : (∀ g h W, S W → P g h W) → Goal) (rest : ∀ g h W, S W → P g h W) : Goal := main rest

/-- What a law over two tours holds of the memory between its steps. -/
structure Q2 (w W : World) (nt : Int) (at' : Option Addr) (ct : Nat) (lt : List Int) (nu : Int) (au : Option Addr) (cu : Nat) (lu : List Int) (px gx py gy : Nat) : Prop where
  hb : Below w.heap.size w W
  ht : IntRow w at' lt
  hu : IntRow w au lu
  bT : Box W w.heap.size 24 (.int .i64 nt) (.slice at' lt.length ct)
  bU : Box W (w.heap.size + 1) 24 (.int .i64 nu) (.slice au lu.length cu)
  bx : Box W px 27 (.int .i64 nt) (.slice (some ⟨gx, 0, none⟩) lt.length lt.length)
  by' : Box W py 27 (.int .i64 nu) (.slice (some ⟨gy, 0, none⟩) lu.length lu.length)
  rx : IntRow W (some ⟨gx, 0, none⟩) lt
  ry : IntRow W (some ⟨gy, 0, none⟩) lu
section
variable {w W W' : World} {nt : Int} {at' : Option Addr} {ct : Nat} {lt : List Int} {nu : Int} {au : Option Addr} {cu : Nat} {lu : List Int} {px gx py gy : Nat}
theorem Q2.kept (h : Q2 w W nt at' ct lt nu au cu lu px gx py gy) (hb : Below W.heap.size W W') : Q2 w W' nt at' ct lt nu au cu lu px gx py gy :=
  ⟨h.hb.trans (hb.mono h.hb.size), h.ht, h.hu, h.bT.below hb h.bT.lt, h.bU.below hb h.bU.lt, h.bx.below hb h.bx.lt, h.by'.below hb h.by'.lt, h.rx.below hb (Nat.le_refl _), h.ry.below hb (Nat.le_refl _)⟩
theorem Q2.tt (h : Q2 w W nt at' ct lt nu au cu lu px gx py gy) : IntRow W at' lt := h.ht.below h.hb (Nat.le_refl _)
theorem Q2.uu (h : Q2 w W nt at' ct lt nu au cu lu px gx py gy) : IntRow W au lu := h.hu.below h.hb (Nat.le_refl _)
end
/-- .. before the copies are made. -/
structure Q1 (w W : World) (nt : Int) (at' : Option Addr) (ct : Nat) (lt : List Int) (nu : Int) (au : Option Addr) (cu : Nat) (lu : List Int) : Prop where
  hb : Below w.heap.size w W
  ht : IntRow w at' lt
  hu : IntRow w au lu
  bT : Box W w.heap.size 24 (.int .i64 nt) (.slice at' lt.length ct)
  bU : Box W (w.heap.size + 1) 24 (.int .i64 nu) (.slice au lu.length cu)
section
variable {w W W' : World} {nt : Int} {at' : Option Addr} {ct : Nat} {lt : List Int} {nu : Int} {au : Option Addr} {cu : Nat} {lu : List Int}
theorem Q1.kept (h : Q1 w W nt at' ct lt nu au cu lu) (hb : Below W.heap.size W W') : Q1 w W' nt at' ct lt nu au cu lu :=
  ⟨h.hb.trans (hb.mono h.hb.size), h.ht, h.hu, h.bT.below hb h.bT.lt, h.bU.below hb h.bU.lt⟩
theorem Q1.tt (h : Q1 w W nt at' ct lt nu au cu lu) : IntRow W at' lt := h.ht.below h.hb (Nat.le_refl _)
theorem Q1.uu (h : Q1 w W nt at' ct lt nu au cu lu) : IntRow W au lu := h.hu.below h.hb (Nat.le_refl _)
end
end Go.Proofs.YtgdejippddcekaaDoor
namespace Go.Proofs.YtgdejippddcekaaDoor
open Go.ChangeShapes Go.WideShapes Go.ChangeAt Go.RowKit
set_option linter.unusedVariables false

def RetSB (w : World) (R : List (List Int)) (b : Bool) (e : Ending) (w' : World) : Prop := (∃ a0 c0 gs, e = .returned (.tuple #[.slice a0 R.length c0, .bool b]) ∧ OwnSS w' w.heap.size a0 c0 gs R) ∧ Below w.heap.size w w'
theorem once3 {P : Nat → Nat → Option Addr → Nat → World → Prop} {S : Option Addr → Nat → World → Prop} {Goal : Prop} (main : (∀ g h a c W, S a c W → P g h a c W) → Goal) (rest : ∀ g h a c W, S a c W → P g h a c W) : Goal := main rest
theorem markT_i (n0 ki : Int) (B n k : Nat) (a : Option Addr) (cap : Nat) (l : List Value) (w : World) (hki : ki = (k : Int)) (hn : n ≤ 1048577) (hk : k ≤ 4194304) (hB : B ≤ w.heap.size) (hown : w.ownsRow B 3 1 (.slice a n cap) n l) :
    Calls Tryd.prog 13 #[.agg #[.int .i64 n0, .slice a n cap], .int .i64 ki] w fun e w' => e = .returned (.int .i64 (ki + (n : Int))) ∧ (∃ X : List Int, w'.ownsRow B 3 1 (.slice a n cap) n (X.map iv)) ∧ Below B w w' ∧ w.grownBy w' (blk a) := by
  subst hki
  refine (markT n0 B n k a cap l w hn hk hB hown).mono ?_
  rintro e w' ⟨rfl, h1, h2, h3⟩
  rw [blk_own] at h3
  exact ⟨by rw [Int.natCast_add], ⟨_, h1⟩, h2, h3⟩

structure St2 (w W : World) (Bg : Nat) (nt : Int) (at' : Option Addr) (ct : Nat) (lt : List Int) (nu : Int) (au : Option Addr) (cu : Nat) (lu : List Int) (px gx py gy : Nat) (a0 : Option Addr) (c0 : Nat) (gs0 : List (Nat × Nat)) (R : List (List Int)) (ag : Option Addr) (cg : Nat) (gsg : List (Nat × Nat)) (G : List (List Int)) : Prop where
  hb : Below w.heap.size w W
  ht : IntRow w at' lt
  hu : IntRow w au lu
  bT : Box W w.heap.size 24 (.int .i64 nt) (.slice at' lt.length ct)
  bU : Box W (w.heap.size + 1) 24 (.int .i64 nu) (.slice au lu.length cu)
  bx : Box W px 27 (.int .i64 nt) (.slice (some ⟨gx, 0, none⟩) lt.length lt.length)
  by' : Box W py 27 (.int .i64 nu) (.slice (some ⟨gy, 0, none⟩) lu.length lu.length)
  rx : ∃ X : List Int, W.ownsRow w.heap.size 3 1 (.slice (some ⟨gx, 0, none⟩) lt.length lt.length) lt.length (X.map iv)
  ry : ∃ Y : List Int, W.ownsRow w.heap.size 3 1 (.slice (some ⟨gy, 0, none⟩) lu.length lu.length) lu.length (Y.map iv)
  r0 : OwnSS W w.heap.size a0 c0 gs0 R
  rg : OwnSS W Bg ag cg gsg G
  lo : w.heap.size ≤ Bg ∧ Bg ≤ W.heap.size ∧ w.heap.size + 1 < Bg ∧ px < Bg ∧ py < Bg ∧ gx < Bg ∧ gy < Bg
  ne : gx ≠ gy
  nx : ∀ i, i < R.length → (gs0.getD i (0, 0)).1 ≠ gx ∧ (gs0.getD i (0, 0)).1 ≠ gy
  n0 : (∀ k, blk a0 = some k → k < Bg) ∧ ∀ i, i < R.length → (gs0.getD i (0, 0)).1 < Bg
section
variable {w W W' : World} {Bg : Nat} {nt : Int} {at' : Option Addr} {ct : Nat} {lt : List Int} {nu : Int} {au : Option Addr} {cu : Nat} {lu : List Int} {px gx py gy : Nat} {a0 : Option Addr} {c0 : Nat} {gs0 : List (Nat × Nat)} {R : List (List Int)} {ag : Option Addr} {cg : Nat} {gsg : List (Nat × Nat)} {G G' : List (List Int)}
theorem St2.tt (h : St2 w W Bg nt at' ct lt nu au cu lu px gx py gy a0 c0 gs0 R ag cg gsg G) : IntRow W at' lt := h.ht.below h.hb (Nat.le_refl _)
theorem St2.uu (h : St2 w W Bg nt at' ct lt nu au cu lu px gx py gy a0 c0 gs0 R ag cg gsg G) : IntRow W au lu := h.hu.below h.hb (Nat.le_refl _)
theorem St2.kept (h : St2 w W Bg nt at' ct lt nu au cu lu px gx py gy a0 c0 gs0 R ag cg gsg G) (hb : Below W.heap.size W W') : St2 w W' Bg nt at' ct lt nu au cu lu px gx py gy a0 c0 gs0 R ag cg gsg G :=
  ⟨h.hb.trans (hb.mono h.hb.size), h.ht, h.hu, h.bT.below hb h.bT.lt, h.bU.below hb h.bU.lt, h.bx.below hb h.bx.lt, h.by'.below hb h.by'.lt, h.rx.imp fun X hx => own_below hx hb, h.ry.imp fun X hx => own_below hx hb, h.r0.below hb, h.rg.below hb, ⟨h.lo.1, Nat.le_trans h.lo.2.1 hb.size, h.lo.2.2⟩, h.ne, h.nx, h.n0⟩
/-- A row of numbers below the bound is marked. -/
theorem St2.marked (h : St2 w W Bg nt at' ct lt nu au cu lu px gx py gy a0 c0 gs0 R ag cg gsg G) {g : Nat} (hg : g = gx ∨ g = gy) (hb : Below w.heap.size w W') (hgr : W.grownBy W' (some g))
    (hx : ∃ X : List Int, W'.ownsRow w.heap.size 3 1 (.slice (some ⟨gx, 0, none⟩) lt.length lt.length) lt.length (X.map iv)) (hy : ∃ Y : List Int, W'.ownsRow w.heap.size 3 1 (.slice (some ⟨gy, 0, none⟩) lu.length lu.length) lu.length (Y.map iv)) : St2 w W' Bg nt at' ct lt nu au cu lu px gx py gy a0 c0 gs0 R ag cg gsg G := by
  have hown : ∃ n c xs, W.ownsRow w.heap.size 3 1 (.slice (some ⟨g, 0, none⟩) n c) n xs := by
    rcases hg with rfl | rfl
    · exact ⟨_, _, _, h.rx.choose_spec⟩
    · exact ⟨_, _, _, h.ry.choose_spec⟩
  obtain ⟨n, c, xs, ho⟩ := hown
  have hbox : ∀ {p : Nat} {t : TypeId} {v0 v1 : Value}, 3 ≠ t → Box W p t v0 v1 → Box W' p t v0 v1 := fun hne hbx => Box.grown hbx hgr (own_not ho hbx hne)
  have hgB : g < Bg := by rcases hg with rfl | rfl; exact h.lo.2.2.2.2.2.1; exact h.lo.2.2.2.2.2.2
  refine ⟨hb, h.ht, h.hu, hbox (by decide) h.bT, hbox (by decide) h.bU, hbox (by decide) h.bx, hbox (by decide) h.by', hx, hy, h.r0.aside hgr (fun k e => ?_), h.rg.aside hgr (fun k e => ?_), ⟨h.lo.1, Nat.le_trans h.lo.2.1 hgr.size, h.lo.2.2⟩, h.ne, h.nx, h.n0⟩
  · cases e
    refine ⟨fun e2 => own_type2 ho h.r0.out (by decide) rfl e2, fun i hi e2 => ?_⟩
    have := h.nx i hi
    rcases hg with rfl | rfl
    · exact this.1 e2
    · exact this.2 e2
  · cases e
    refine ⟨fun e2 => ?_, fun i hi e2 => ?_⟩
    · have := (h.rg.blkO e2).1; omega
    · have := (h.rg.blkI i hi).1; omega
theorem St2.markX (h : St2 w W Bg nt at' ct lt nu au cu lu px gx py gy a0 c0 gs0 R ag cg gsg G) (hx : ∃ X : List Int, W'.ownsRow w.heap.size 3 1 (.slice (some ⟨gx, 0, none⟩) lt.length lt.length) lt.length (X.map iv)) (hb : Below w.heap.size W W') (hg : W.grownBy W' (blk (some ⟨gx, 0, none⟩))) : St2 w W' Bg nt at' ct lt nu au cu lu px gx py gy a0 c0 gs0 R ag cg gsg G :=
  h.marked (.inl rfl) (h.hb.trans hb) hg hx (h.ry.imp fun Y hy => own_grE hy hg (fun k hk e => h.ne (by simp [blk] at hk e; omega)))
theorem St2.markY (h : St2 w W Bg nt at' ct lt nu au cu lu px gx py gy a0 c0 gs0 R ag cg gsg G) (hy : ∃ Y : List Int, W'.ownsRow w.heap.size 3 1 (.slice (some ⟨gy, 0, none⟩) lu.length lu.length) lu.length (Y.map iv)) (hb : Below w.heap.size W W') (hg : W.grownBy W' (blk (some ⟨gy, 0, none⟩))) : St2 w W' Bg nt at' ct lt nu au cu lu px gx py gy a0 c0 gs0 R ag cg gsg G :=
  h.marked (.inr rfl) (h.hb.trans hb) hg (h.rx.imp fun Y hy => own_grE hy hg (fun k hk e => h.ne (by simp [blk] at hk e; omega))) hy
theorem St2.markG (h : St2 w W Bg nt at' ct lt nu au cu lu px gx py gy a0 c0 gs0 R ag cg gsg G) (hx : OwnSS W' Bg ag cg gsg G') (hb : Below Bg W W') : St2 w W' Bg nt at' ct lt nu au cu lu px gx py gy a0 c0 gs0 R ag cg gsg G' :=
  ⟨h.hb.trans (hb.mono h.lo.1), h.ht, h.hu, h.bT.below hb (by have := h.lo; omega), h.bU.below hb h.lo.2.2.1, h.bx.below hb h.lo.2.2.2.1, h.by'.below hb h.lo.2.2.2.2.1, h.rx.imp fun X h2 => own_lowE h2 hb (fun k hk => by have := h.lo; simp [blk] at hk; omega), h.ry.imp fun X h2 => own_lowE h2 hb (fun k hk => by have := h.lo; simp [blk] at hk; omega), h.r0.kept hb h.n0.1 h.n0.2, hx, ⟨h.lo.1, Nat.le_trans h.lo.2.1 hb.size, h.lo.2.2⟩, h.ne, h.nx, h.n0⟩
end
end Go.Proofs.YtgdejippddcekaaDoor
namespace Go.Proofs.YtgdejippddcekaaDoor
open Go.ChangeShapes Go.WideShapes Go.ChangeAt Go.RowKit
set_option linter.unusedVariables false

def lenS : Value → Nat
  | .slice _ n _ => n
  | _ => 0
/-- What the model's walk along the way holds. -/
structure Ws (w : World) (m go co : Nat) (lx : List Int) (ax : Option Addr) (cx : Nat) (a1 : Option Addr) (c1 : Nat) (gs : List (Nat × Nat)) (acc : List (List Int)) (xs : List Int) (W : World) : Prop where
  hb : Below w.heap.size w W
  bx : Box W w.heap.size 27 (.int .i64 (m : Int)) (.slice ax m cx)
  row : IntT w.heap.size W ax lx
  dst : W.ownsRow w.heap.size 3 1 (.slice (some ⟨go, 0, none⟩) (nN m) co) (nN m) (xs.map iv)
  ss : OwnSS W w.heap.size a1 c1 gs acc
section
variable {w : World} {m go co : Nat} {lx : List Int} {ax : Option Addr} {cx : Nat} {a1 : Option Addr} {c1 : Nat} {gs : List (Nat × Nat)} {acc : List (List Int)} {xs : List Int} {A w8 w2 C : World}
theorem Ws.below (h : Ws w m go co lx ax cx a1 c1 gs acc xs A) (hb : Below A.heap.size A C) : Ws w m go co lx ax cx a1 c1 gs acc xs C :=
  ⟨h.hb.trans (hb.mono h.hb.size), h.bx.below hb h.bx.lt, h.row.below hb, own_below h.dst hb, h.ss.below hb⟩
/-- A step on the way: the triangle is noted, the tour behind it taken. -/
theorem Ws.push {tmp : Obj} {r : List Int} {gn cn g c2 bn : Nat} {yn : List Int} {an : Option Addr} {cy : Nat} (h8 : Ws w m go co lx ax cx a1 c1 gs acc xs w8) (hb8 : Below w8.heap.size w8 A)
    (hrow : A.ownsRow w8.heap.size 3 1 (.slice (some ⟨gn, 0, none⟩) r.length cn) r.length (r.map iv))
    (hn : Box A bn 27 (.int .i64 (m : Int)) (.slice an m cy)) (hy : IntT w.heap.size A an yn)
    (ho : w2.ownsRow w.heap.size 22 1 (.slice (some ⟨g, 0, none⟩) (acc.length + 1) c2) (acc.length + 1) (svs gs acc ++ [.slice (some ⟨gn, 0, none⟩) r.length cn]))
    (hg : (A.alloc tmp).grownBy w2 (blk a1)) :
    Box w2 bn 27 (.int .i64 (m : Int)) (.slice an m cy) ∧ Box w2 w.heap.size 27 (.int .i64 (m : Int)) (.slice ax m cx) ∧
      Ws w m go co yn an cy (some ⟨g, 0, none⟩) c2 (gs ++ [(gn, cn)]) (acc ++ [r]) xs ((w2.setCell ⟨w.heap.size, 0, none⟩ (.int .i64 (m : Int))).setCell ⟨w.heap.size, 1, none⟩ (.slice an m cy)) := by
  have hA := h8.below hb8
  have b1 : Below A.heap.size A (A.alloc tmp) := Below.one _ _
  have hB := hA.below b1
  have hlow : w.heap.size ≤ gn := Nat.le_trans h8.hb.size (hrow.lt gn rfl).1
  -- what the append leaves
  have hba : ∀ k, blk a1 = some k → w.heap.size ≤ k := fun k hk => (hB.ss.blkO hk).1
  have hboxes : ∀ {b : Nat} {v0 v1 : Value}, Box (A.alloc tmp) b 27 v0 v1 → Box w2 b 27 v0 v1 := by
    intro b v0 v1 hbx
    exact Box.grown hbx hg (own_not hB.ss.out hbx (by decide))
  have hints : ∀ {a : Option Addr} {l : List Int}, IntT w.heap.size (A.alloc tmp) a l → IntT w.heap.size w2 a l := by
    intro a l hi
    refine hi.grown hg (fun k e => ⟨hba k e, fun cur hc => ?_⟩)
    exact own_not hB.ss.out hc (by decide) e
  have xn := hboxes (hn.below b1 hn.lt)
  have xt := hboxes hB.bx
  have yr := hints (hy.below b1)
  have ds : w2.ownsRow w.heap.size 3 1 (.slice (some ⟨go, 0, none⟩) (nN m) co) (nN m) (xs.map iv) := by
    refine own_grE hB.dst hg (fun k hk e => own_type2 hB.dst hB.ss.out (by decide) hk e)
  have s2 : OwnSS w2 w.heap.size (some ⟨g, 0, none⟩) c2 (gs ++ [(gn, cn)]) (acc ++ [r]) :=
    h8.ss.push (grown_of_below (hb8.trans (b1.mono hb8.size))) ((own_below hrow b1).mono h8.hb.size) (hrow.lt gn rfl).1 hg ho
  have bb : Below w.heap.size w w2 := hB.hb.grown hg hB.hb.size (fun k e => hba k e)
  refine ⟨xn, xt, ?_⟩
  obtain ⟨Wq, hWq⟩ : ∃ Wq, Wq = w2.setCell ⟨w.heap.size, 0, none⟩ (.int .i64 (m : Int)) := ⟨_, rfl⟩
  have gq : w2.grownBy Wq (some w.heap.size) := by rw [hWq]; exact grownBy_setI w2 w.heap.size 0 _
  have y8 : Box Wq w.heap.size 27 (.int .i64 (m : Int)) (.slice ax m cx) := by rw [hWq]; exact xt.set0 _
  rw [← hWq]
  obtain ⟨Wr, hWr⟩ : ∃ Wr, Wr = Wq.setCell ⟨w.heap.size, 1, none⟩ (.slice an m cy) := ⟨_, rfl⟩
  have gr : Wq.grownBy Wr (some w.heap.size) := by rw [hWr]; exact grownBy_setI Wq w.heap.size 1 _
  have z8 : Box Wr w.heap.size 27 (.int .i64 (m : Int)) (.slice an m cy) := by rw [hWr]; exact y8.set1 _
  rw [← hWr]
  have keepS : ∀ {C D : World}, C.grownBy D (some w.heap.size) → (∃ v0 v1, Box C w.heap.size 27 v0 v1) → OwnSS C w.heap.size (some ⟨g, 0, none⟩) c2 (gs ++ [(gn, cn)]) (acc ++ [r]) → OwnSS D w.heap.size (some ⟨g, 0, none⟩) c2 (gs ++ [(gn, cn)]) (acc ++ [r]) := by
    rintro C D hCD ⟨v0, v1, hb⟩ hs
    refine hs.aside hCD (fun k e => ?_)
    have e2 := Option.some.inj e
    subst e2
    exact ⟨own_not hs.out hb (by decide), fun i hi e => own_not (hs.inn i hi) hb (by decide) (by rw [← e]; rfl)⟩
  have keepD : ∀ {C D : World}, C.grownBy D (some w.heap.size) → (∃ v0 v1, Box C w.heap.size 27 v0 v1) → C.ownsRow w.heap.size 3 1 (.slice (some ⟨go, 0, none⟩) (nN m) co) (nN m) (xs.map iv) → D.ownsRow w.heap.size 3 1 (.slice (some ⟨go, 0, none⟩) (nN m) co) (nN m) (xs.map iv) := by
    rintro C D hCD ⟨v0, v1, hb⟩ hd
    refine own_grE hd hCD (fun k hk e => ?_)
    have e2 := Option.some.inj e
    subst e2
    exact own_not hd hb (by decide) hk
  refine ⟨?_, z8, (yr.tour xt (Nat.le_refl _) gq).tour y8 (Nat.le_refl _) gr, keepD gr ⟨_, _, y8⟩ (keepD gq ⟨_, _, xt⟩ ds), keepS gr ⟨_, _, y8⟩ (keepS gq ⟨_, _, xt⟩ s2)⟩
  exact (bb.grown gq bb.size (fun k e => by cases e; exact Nat.le_refl _)).grown gr (Nat.le_trans bb.size gq.size) (fun k e => by cases e; exact Nat.le_refl _)
end
end Go.Proofs.YtgdejippddcekaaDoor
namespace Go.Proofs.YtgdejippddcekaaDoor
open Go.ChangeShapes Go.WideShapes Go.ChangeAt Go.RowKit
set_option linter.unusedVariables false

set_option maxRecDepth 100000 in
set_option maxHeartbeats 1000000 in
theorem mway_no (nt : Int) (at' : Option Addr) (lt : List Int) (ct : Nat) (nu : Int) (au : Option Addr) (lu : List Int) (cu : Nat) (w : World) (hrowt : IntRow w at' lt) (hrowu : IntRow w au lu) (hlt : lt.length ≤ maxLen) (hlu : lu.length ≤ maxLen) (h2 : twoB nt lt nu lu = false) :
    Calls Tryd.prog 10 #[.agg #[.int .i64 nt, .slice at' lt.length ct], .agg #[.int .i64 nu, .slice au lu.length cu]] w fun e w' => e = .returned (.tuple #[.slice none 0 0, .bool false]) ∧ Below w.heap.size w w' := by
  obtain ⟨Wa, hWa⟩ : ∃ Wa, Wa = (w.alloc (.cells #[.int .i64 nt, .slice at' lt.length ct] 27)).alloc (.cells #[.int .i64 nu, .slice au lu.length cu] 27) := ⟨_, rfl⟩
  have hba : Below w.heap.size w Wa := by rw [hWa]; exact (Below.one _ _).alloc (by simp) _
  have hc := Lib.hid (l04Two_any nt at' lt ct nu au lu cu Wa (hrowt.below hba (Nat.le_refl _)) (hrowu.below hba (Nat.le_refl _)) hlt hlu)
  have HWa := Lib.hid hWa
  have H2 := Lib.hid h2
  have HBA := Lib.hid hba
  clear hWa hlt hlu hrowt hrowu h2 hba
  go_enter Tryd.func10, Tryd.ntmps10
  go_wp2_with fail
  rw [← HWa.out]
  refine hc.out.mono ?_
  rintro e w1 ⟨rfl, hb1⟩
  rw [H2.out]
  go_wp2
  go_ret2
  exact ⟨rfl, HBA.out.trans (hb1.mono HBA.out.size)⟩

set_option maxRecDepth 100000 in
set_option maxHeartbeats 8000000 in
theorem mway_yes (m : Nat) (at' : Option Addr) (lt : List Int) (ct : Nat) (au : Option Addr) (lu : List Int) (cu : Nat) (w : World) (hrowt : IntRow w at' lt) (hrowu : IntRow w au lu) (hmt : lt.length = m) (hmu : lu.length = m) (okt : Ok (m : Int) lt) (oku : Ok (m : Int) lu) (h5 : m ≤ 5) (h2 : twoB (m : Int) lt (m : Int) lu = true) :
    Calls Tryd.prog 10 #[.agg #[.int .i64 (m : Int), .slice at' m ct], .agg #[.int .i64 (m : Int), .slice au m cu]] w fun e w' => (∃ a0 c0 gs, e = .returned (.tuple #[.slice a0 (wayR lu lt).length c0, .bool true]) ∧ OwnSS w' w.heap.size a0 c0 gs (wayR lu lt)) ∧ Below w.heap.size w w' := by
  have HSL := Lib.hid (info_parts infoSl)
  obtain ⟨Wb, hWb⟩ : ∃ Wb, Wb = w.alloc (.cells #[.int .i64 (m : Int), .slice at' m ct] 27) := ⟨_, rfl⟩
  obtain ⟨Wa, hWa⟩ : ∃ Wa, Wa = Wb.alloc (.cells #[.int .i64 (m : Int), .slice au m cu] 27) := ⟨_, rfl⟩
  have sb : Wb.heap.size = w.heap.size + 1 := by rw [hWb]; simp
  have hbb : Below w.heap.size w Wb := by rw [hWb]; exact (Below.refl _ _).alloc (Nat.le_refl _) _
  have hba : Below w.heap.size w Wa := by rw [hWa]; exact hbb.alloc hbb.size _
  have xt : Box Wa w.heap.size 27 (.int .i64 (m : Int)) (.slice at' m ct) := by
    rw [hWa]; exact (show Box Wb w.heap.size 27 (.int .i64 (m : Int)) (.slice at' m ct) by rw [hWb]; exact Box.new _ _ _ _).more _
  have xu : Box Wa (w.heap.size + 1) 27 (.int .i64 (m : Int)) (.slice au m cu) := by rw [hWa, ← sb]; exact Box.new _ _ _ _
  have HWa : Hid (Wa = (w.alloc (.cells #[.int .i64 (m : Int), .slice at' m ct] 27)).alloc (.cells #[.int .i64 (m : Int), .slice au m cu] 27)) := by rw [hWa, hWb]; exact rfl
  have qa0 : R1 w Wa (m : Int) at' ct lt (m : Int) au cu lu := ⟨hba, hrowt, hrowu, by rw [hmt]; exact xt, by rw [hmu]; exact xu⟩
  have qa := Lib.hid qa0
  have hgot := got_all h5 oku
  obtain ⟨d0, hd0⟩ := hgot.has h5 oku okt (twoB_parts h2).2.2.2.2.symm
  have hd0k : d0 ≤ 1024 := dist_all lu lt d0 hd0
  have hdn : wayR lu lt = wayF (all lu) d0 lt := by
    unfold wayR dN
    rw [(Bf.dst_some hgot.fin.nodup).2 hd0]; rfl
  obtain ⟨D, hD⟩ : ∃ D, D = all lu := ⟨_, rfl⟩
  rw [← hD] at hgot hd0 hdn
  obtain ⟨WY, hWY⟩ : ∃ WY, WY = wayR lu lt := ⟨_, rfl⟩
  rw [← hWY]
  rw [← hWY] at hdn
  obtain ⟨N, hN⟩ : ∃ N, N = nN m := ⟨_, rfl⟩
  have hN0 := (nN5 m h5)
  rw [← hN] at hN0
  have HTW : Hid (Calls Tryd.prog 17 #[.agg #[.int .i64 (m : Int), .slice at' m ct], .agg #[.int .i64 (m : Int), .slice au m cu]] Wa fun e w' => e = .returned (.bool true) ∧ Below Wa.heap.size Wa w') := by
    have := l04Two_any (m : Int) at' lt ct (m : Int) au lu cu Wa qa0.tt qa0.uu (by unfold maxLen; omega) (by unfold maxLen; omega)
    rw [h2, hmt, hmu] at this
    exact this
  have HD : Hid (∀ W, IntRow W au lu → Calls Tryd.prog 18 #[.agg #[.int .i64 (m : Int), .slice au m cu]] W fun e w' => (∃ go co xs, e = .returned (.slice (some ⟨go, 0, none⟩) N co) ∧ w'.ownsRow W.heap.size 3 1 (.slice (some ⟨go, 0, none⟩) (nN m) co) (nN m) (xs.map iv) ∧ Dis m (D) xs) ∧ Below W.heap.size W w') := by
    intro W hW
    rw [hN]
    rw [hD]
    exact l04Dist_any m au lu cu W hmu hW oku h5
  have R0 : Hid (∀ V, R1 w V (m : Int) at' ct lt (m : Int) au cu lu → Box V w.heap.size 27 (.int .i64 (m : Int)) (.slice at' m ct) ∧ Box V (w.heap.size + 1) 27 (.int .i64 (m : Int)) (.slice au m cu)) := fun V h => ⟨by have := h.bT; rw [hmt] at this; exact this, by have := h.bU; rw [hmu] at this; exact this⟩
  have HGOT := Lib.hid hgot
  have HDN := Lib.hid hdn
  have HD0 := Lib.hid hd0
  have OKT := Lib.hid okt
  have HRT := Lib.hid hrowt
  have HN := Lib.hid hN
  have H5 := Lib.hid h5
  have HMT := Lib.hid hmt
  have hm1 : Hid (1 ≤ lt.length) := by have := okt.m.1; show _ ≤ _; omega
  clear hWa hWb sb hbb hba xt xu qa0 hrowt hrowu hmt hmu okt oku h2 hN hgot hdn hd0 hWY hD
  have c0 := (R0.out _ qa.out).1.c0
  have c1 := (R0.out _ qa.out).1.c1
  have c2 := (R0.out _ qa.out).2.c0
  have c3 := (R0.out _ qa.out).2.c1
  rw [HWa.out] at c0 c1 c2 c3
  go_enter Tryd.func10, Tryd.ntmps10
  go_wp2_with fail
  rw [← HWa.out]
  refine HTW.out.mono ?_
  rintro e w1 ⟨rfl, hb1⟩
  have q1 := Lib.hid (qa.out.kept hb1)
  clear c0 c1 c2 c3 hb1
  have c2 := (R0.out _ q1.out).2.c0
  have c3 := (R0.out _ q1.out).2.c1
  go_wp2_with fail
  refine (HD.out w1 q1.out.uu).mono ?_
  rintro e w2 ⟨⟨go, co, xs, rfl, ho, hdis⟩, hb2⟩
  have q2 := q1.out.kept hb2
  obtain ⟨W3, hW3⟩ : ∃ W3, W3 = w2.alloc (.cells #[] 22) := ⟨_, rfl⟩
  have b3 : Below w2.heap.size w2 W3 := by rw [hW3]; exact Below.one _ _
  have r3 : W3.heap[w2.heap.size]? = some (.cells #[] 22 (0, 0)) := by rw [hW3]; exact World.alloc_heap_new _ _
  have q3 := q2.kept b3
  have hwl : w.heap.size ≤ w1.heap.size := q1.out.hb.size
  have hwl2 : w.heap.size ≤ w2.heap.size := q2.hb.size
  have hst : Ws w m go co lt at' ct (some ⟨w2.heap.size, 0, none⟩) 0 [] [] xs W3 :=
    ⟨q3.hb, (R0.out _ q3).1, (IntT.old HRT.out hm1.out (Nat.le_refl _)).below q3.hb, (own_below ho b3).mono hwl, ⟨rfl, ⟨rfl, .inr ⟨w2.heap.size, 0, #[], rfl, hwl2, r3, Nat.le_refl _, by unfold maxLen; omega, rfl, rfl⟩⟩, fun i h => absurd h (Nat.not_lt_zero _), fun i j h => absurd h (Nat.not_lt_zero _)⟩⟩
  have HST := Lib.hid hst
  have HDIS := Lib.hid hdis
  have HW3 := Lib.hid hW3
  clear hst hdis hW3 b3 r3 q3 ho hb2 q2 c2 c3 hwl hwl2
  go_wp2
  rw [← HW3.out]
  go_loopw [7] (fun o wr => ∃ (lx : List Int) (ax : Option Addr) (cx : Nat) (a1 : Option Addr) (c1 : Nat) (gs : List (Nat × Nat)) (acc : List (List Int)) (d : Nat), o = .slice a1 acc.length c1 ∧ Hid (Ws w m go co lx ax cx a1 c1 gs acc xs wr) ∧ Hid ((lx, d) ∈ D) ∧ Hid (Ok (m : Int) lx) ∧ Hid (acc ++ wayF (D) d lx = WY) ∧ acc.length + d = d0) (fun o _ => d0 - lenS o)
  case atStart => exact ⟨lt, at', ct, _, 0, [], [], d0, rfl, HST.out, HD0.out, OKT.out, HDN.out.symm, by simp⟩
  case round =>
    obtain ⟨lx, ax, cx, a1, k1, gs, acc, d, rfl, hs, hxd, hok, hway, hlen⟩ := hrel
    have hxm : lx.length = m := hok.out.m.2.2
    obtain ⟨v, hv⟩ : ∃ v, v = numL lx := ⟨_, rfl⟩
    have hNum := l04Number_m m ax lx cx wr hxm hs.out.row.row hok.out H5.out
    rw [← hv] at hNum
    have hvN : v < N := by rw [hv, HN.out]; exact numL_lt hok.out H5.out
    have hvN2 : (v : Int) < (N : Int) := by omega
    have hdi : dI (D) lx = (d : Int) := dI_of (p := (lx, d)) HGOT.out.fin.nodup hxd.out
    obtain ⟨dv, hdv⟩ : ∃ dv : Int, dv = (d : Int) := ⟨_, rfl⟩
    have HCD : Hid (∀ V, Ws w m go co lx ax cx a1 k1 gs acc xs V → V.cell? ⟨go, v, none⟩ = some (.int .i64 dv)) := fun V hV => by rw [hdv, ← hdi]; exact cellD hV.dst HDIS.out rfl hv hok.out H5.out
    have HNU := Lib.hid hNum
    have HV := Lib.hid hv
    have HXM := Lib.hid hxm
    have HDV := Lib.hid hdv
    have HDI := Lib.hid hdi
    clear hNum hv hxm hdi
    have c0 := hs.out.bx.c0
    have c1 := hs.out.bx.c1
    go_wp2_with fail
    refine HNU.out.mono ?_
    rintro e w5 ⟨rfl, hb5⟩
    have hs5 := Lib.hid (hs.out.below hb5)
    have hcd := HCD.out w5 hs5.out
    clear c0 c1 hb5 hs HNU
    have c0 := hs5.out.bx.c0
    have c1 := hs5.out.bx.c1
    cases d with
    | zero =>
      have hdz : ¬ (0 : Int) < dv := by rw [hdv]; decide
      have HA : Hid (acc = WY) := by
        show _ = _
        rw [← hway.out]
        show _ = _ ++ []
        rw [List.append_nil]
      clear hdv hway
      go_wp2
      go_ret2
      refine ⟨⟨a1, k1, gs, ?_, by rw [← HA.out]; exact hs5.out.ss⟩, hs5.out.hb⟩
      rw [← HA.out]; rfl
    | succ e =>
      have hdp : (0 : Int) < dv := by rw [hdv]; omega
      have hwr : IntKind.i64.wrap (dv - 1) = (e : Int) := by
        rw [hdv, show (((e + 1 : Nat) : Int) - 1) = (e : Int) from by omega]
        exact wrap_small e (by omega)
      have hall9 := Lib.hid (l04All_m m ax lx cx w5 HXM.out hs5.out.row.row hok.out)
      have HWR := Lib.hid hwr
      clear hdv hwr
      go_wp2_with fail
      refine hall9.out.mono ?_
      rintro e9 w9 ⟨⟨a9, c9, gs9, rfl, hss9⟩, hb9⟩
      have hs9 := Lib.hid (hs5.out.below hb9)
      have HSS9 := Lib.hid hss9
      have HB9 := Lib.hid hb9
      obtain ⟨T, hT⟩ : ∃ T, T = (triL lx).length := ⟨_, rfl⟩
      rw [← hT]
      have HT := Lib.hid hT
      have hT5 : T ≤ 512 := by rw [hT]; exact triL_len lx (by have := HXM.out; have := H5.out; omega)
      clear c0 c1 hcd hb9 hss9 hT hall9
      go_wp2
      go_loopw [7, 27] (fun o i wr2 => ∃ j : Nat, i = .int .i64 j ∧ j ≤ T ∧ o = .slice a1 acc.length k1 ∧ Hid (Ws w m go co lx ax cx a1 k1 gs acc xs wr2) ∧ Hid (OwnSS wr2 w5.heap.size a9 c9 gs9 (triL lx)) ∧ Hid (Below w5.heap.size w5 wr2) ∧ Hid (∀ r ∈ (triL lx).take j, nearB (D) e lx r = false)) (fun _ i _ => T - (intOf i).toNat)
      case atStart => exact ⟨0, rfl, Nat.zero_le _, rfl, hs9.out, HSS9.out, HB9.out, fun r hr => absurd hr (by simp)⟩
      case round =>
        obtain ⟨j, rfl, hj, rfl, hs2, hss2, hbb2, hno⟩ := hrel
        by_cases hlt2 : j < T
        · have hjl : j < (triL lx).length := by rw [← HT.out]; exact hlt2
          obtain ⟨g9, hg9, _⟩ := hss2.out.base (by omega)
          subst hg9
          have hcr := hss2.out.cell j hjl
          obtain ⟨r, hr⟩ : ∃ r, r = (triL lx).getD j [] := ⟨_, rfl⟩
          have hrj : (triL lx)[j]? = some r := by rw [hr, List.getD_eq_getElem?_getD, List.getElem?_eq_getElem hjl]; rfl
          have hmem : r ∈ triL lx := List.mem_of_getElem? hrj
          obtain ⟨x, y, z, he, hx, hy, hz, hxy, hxz, hyz⟩ := tri_at (l := lx) (r := r) hmem
          have hr0 := hss2.out.at j 0 hjl (by rw [← hr, he]; simp)
          have hr1 := hss2.out.at j 1 hjl (by rw [← hr, he]; simp)
          have hr2 := hss2.out.at j 2 hjl (by rw [← hr, he]; simp)
          have hri := (hss2.out.blkI j hjl).2
          have hin := hss2.out.inn j hjl
          rw [← hr] at hcr hr0 hr1 hr2 hin
          obtain ⟨gr, hgr⟩ : ∃ gr, gr = (gs9.getD j (0, 0)).1 := ⟨_, rfl⟩
          obtain ⟨kr, hkr⟩ : ∃ kr, kr = (gs9.getD j (0, 0)).2 := ⟨_, rfl⟩
          have hin2 : wr.ownsRow w5.heap.size 3 1 (.slice (some ⟨gr, 0, none⟩) r.length kr) r.length (r.map iv) := by rw [hgr, hkr]; exact hin
          rw [← hgr] at hcr hr0 hr1 hr2 hri
          rw [← hkr] at hcr
          rw [he] at hcr hr0 hr1 hr2
          simp only [List.getD_cons_zero, List.getD_cons_succ, List.length_cons, List.length_nil] at hcr hr0 hr1 hr2
          have hml := HXM.out
          have hrev := l04Reverse_any m ax lx cx x y z gr 0 kr wr hml hs2.out.row.row hok.out (by omega) (by omega) (by omega) (by omega) hyz (by omega) hri hr0 hr1 hr2
          obtain ⟨e2, he2, hyok, _, hnl⟩ := near_iff H5.out HGOT.out hxd.out hmem
          obtain ⟨X, hX⟩ : ∃ X, X = rvT lx r := ⟨_, rfl⟩
          have hX2 : revL lx x y z = X := by rw [hX, he]; rfl
          rw [hX2] at hrev
          rw [← hX] at he2 hyok
          have hXm : X.length = m := hyok.m.2.2
          have hjT : (j : Int) < (T : Int) := by omega
          obtain ⟨vx, hvx⟩ : ∃ vx, vx = numL X := ⟨_, rfl⟩
          have hvxN : vx < N := by rw [hvx, HN.out]; exact numL_lt hyok H5.out
          have hvxN2 : (vx : Int) < (N : Int) := by omega
          have hdx : dI (D) X = (e2 : Int) := dI_of (p := (X, e2)) HGOT.out.fin.nodup he2
          obtain ⟨dx, hdxv⟩ : ∃ dx : Int, dx = (e2 : Int) := ⟨_, rfl⟩
          have HCX : Hid (∀ V, Ws w m go co lx ax cx a1 k1 gs acc xs V → V.cell? ⟨go, vx, none⟩ = some (.int .i64 dx)) := fun V hV => by rw [hdxv, ← hdx]; exact cellD hV.dst HDIS.out rfl hvx hyok H5.out
          have HNT : Hid (∀ V, Ws w m go co lx ax cx a1 k1 gs acc xs V → Calls Tryd.prog 19 #[.agg #[.int .i64 (m : Int), .slice ax m cx]] V fun e w' => e = .returned (.int .i64 (v : Int)) ∧ Below V.heap.size V w') := fun V hV => by rw [HV.out]; exact l04Number_m m ax lx cx V HXM.out hV.row.row hok.out H5.out
          have HREV := Lib.hid hrev
          have HR := Lib.hid hrj
          have HE2 := Lib.hid he2
          have HXOK := Lib.hid hyok
          have HX := Lib.hid hX
          have HXL := Lib.hid hXm
          have HVX := Lib.hid hvx
          have HIN := Lib.hid hin2
          have HRL : Hid (r.length = 3) := by rw [he]; exact rfl
          have HNL := Lib.hid hnl
          have HDXV := Lib.hid hdxv
          have HMEM := Lib.hid hmem
          clear hr hrj hmem he hx hy hz hxy hxz hyz hr0 hr1 hr2 hri hin hgr hkr hin2 hml hrev he2 hyok hnl hX hX2 hXm hvx hdx hdxv
          have c0 := hs2.out.bx.c0
          have c1 := hs2.out.bx.c1
          go_wp2_with fail
          refine HREV.out.mono ?_
          rintro e8 w10 ⟨⟨gx, kx, rfl, hox⟩, hb10⟩
          obtain ⟨W11, hW11⟩ : ∃ W11, W11 = w10.alloc (.cells #[.int .i64 (m : Int), .slice (some ⟨gx, 0, none⟩) m kx] 27) := ⟨_, rfl⟩
          have hb11 : Below w10.heap.size w10 W11 := by rw [hW11]; exact (Below.refl _ _).alloc (Nat.le_refl _) _
          have bx11 : Box W11 w10.heap.size 27 (.int .i64 (m : Int)) (.slice (some ⟨gx, 0, none⟩) m kx) := by rw [hW11]; exact Box.new _ _ _ _
          have b1011 := hb10.trans (hb11.mono hb10.size)
          have ho11 := own_below hox hb11
          have hs11 := Lib.hid (hs2.out.below b1011)
          have hss11 := Lib.hid (hss2.out.below b1011)
          have HIN11 := Lib.hid (own_below HIN.out b1011)
          have hsz5 : w5.heap.size ≤ wr.heap.size := hbb2.out.size
          have hbb11 := Lib.hid (hbb2.out.trans (b1011.mono hsz5))
          have BX11 := Lib.hid bx11
          have HO11 : Hid (IntT w.heap.size W11 (some ⟨gx, 0, none⟩) X) := IntT.own (c := kx) (by rw [HXL.out]; exact ho11)
          have HNX : Hid (∀ V, Below W11.heap.size W11 V → Calls Tryd.prog 19 #[.agg #[.int .i64 (m : Int), .slice (some ⟨gx, 0, none⟩) m kx]] V fun e w' => e = .returned (.int .i64 (vx : Int)) ∧ Below V.heap.size V w') := fun V hV => by rw [HVX.out]; exact l04Number_m m _ X kx V HXL.out (HO11.out.row.below hV (Nat.le_refl _)) HXOK.out H5.out
          have HW11 := Lib.hid hW11
          clear c0 c1 hW11 hb10 hb11 bx11 b1011 ho11 hox hs2 hss2 hcr hbb2 hsz5
          have B0 : Hid (Below W11.heap.size W11 W11) := Below.refl _ _
          go_wp2
          rw [← HW11.out]
          have c0 := hs11.out.bx.c0
          have c1 := hs11.out.bx.c1
          have e0 := BX11.out.c0
          have e1 := BX11.out.c1
          have f0 := HCD.out _ hs11.out
          have f1 := HCX.out _ hs11.out
          have hwr := HWR.out
          have BD : Hid (Below W11.heap.size W11 W11.drew) := (Below.refl _ W11).drew
          have HSD := Lib.hid (hs11.out.below BD.out)
          clear B0
          by_cases hnear : e2 = e
          · have hde : dx = (e : Int) := by rw [HDXV.out, hnear]
            have HNR := Lib.hid hnear
            clear hnear
            subst hde
            first | (go_region_with (first
              | (go_at_call_of 19 kx; have hx := T3; refine (HNX.out w3 B3.out).mono ?_; rintro e7 w4 ⟨rfl, hb4⟩; have q4 := Lib.hid (q3.out.below hb4); have f0 := HCD.out _ q4.out; have f1 := HCX.out _ q4.out; have B4 := Lib.hid (B3.out.trans (hb4.mono B3.out.size)); clear hb4)
              | (go_at_call_of 19 cx; have hx := X3; refine (HNT.out w3 q3.out).mono ?_; rintro e7 w4 ⟨rfl, hb4⟩; have q4 := Lib.hid (q3.out.below hb4); have f0 := HCD.out _ q4.out; have f1 := HCX.out _ q4.out; have B4 := Lib.hid (B3.out.trans (hb4.mono B3.out.size)); clear hb4)
              | (go_at_call_of 19 kx; refine (HNX.out W11.drew BD.out).mono ?_; rintro e7 w3 ⟨rfl, hbq⟩; have B3 := Lib.hid (BD.out.trans hbq); have X3 := Lib.hid True.intro; have q3 := Lib.hid (hs11.out.below B3.out); have f1 := HCX.out _ q3.out; have c0 := q3.out.bx.c0; have c1 := q3.out.bx.c1; clear hbq)
              | (go_at_call_of 19 cx; refine (HNT.out W11.drew HSD.out).mono ?_; rintro e7 w3 ⟨rfl, hbq⟩; have B3 := Lib.hid (BD.out.trans hbq); have T3 := Lib.hid True.intro; have q3 := Lib.hid (hs11.out.below B3.out); have f0 := HCD.out _ q3.out; have bx3 := BX11.out.below B3.out BX11.out.lt; have e0 := bx3.c0; have e1 := bx3.c1; clear hbq bx3))) | fail
            all_goals
              have HOO : Hid (w4.ownsRow w.heap.size 22 1 (.slice a1 acc.length k1) acc.length (svs gs acc)) := q4.out.ss.out
              have hal : acc.length ≤ 1024 := by omega
              have hszd : w.heap.size ≤ w4.heap.size := q4.out.hb.size
              have H8 := Lib.hid (hbb11.out.trans (B4.out.mono hbb11.out.size))
              have HRW := Lib.hid (own_below HIN11.out B4.out)
              have HBX := Lib.hid (BX11.out.below B4.out BX11.out.lt)
              have HIT := Lib.hid (HO11.out.below B4.out)
              go_wp2_with (first | (at_builtin; obtain ⟨i0, hi, hz0, hz1, hz2⟩ := HSL.out; refine wpList_append_own _ rfl (.tmp 46) (.tmp 48) 31 rfl w.heap.size 22 i0 (.slice none 0 0) 1 24 Tryd.underlying31 hi hz0 hz1 hz2 rfl (by decide) _ _ _ rfl (HOO.out.alloc _) ⟨w4.heap.size, 0, none⟩ 1 1 [.slice (some ⟨gr, 0, none⟩) 3 kr] rfl rfl (cell_one_new _ _ _) (by intro u hu; simp at hu; subst hu; rfl) (by unfold maxLen; omega) (by omega) (by simp; omega) ?_; intro v' w6 hown' hgrow _; obtain ⟨g', cap', rfl⟩ := ownsRow_succ hown'; replace hgrow := grown_blkE (a := a1) (n := acc.length) (c := k1) hgrow; obtain ⟨hxn, hxt, hws⟩ := Ws.push (r := r) (gn := gr) (cn := kr) hs5.out H8.out HRW.out HBX.out HIT.out (by rw [HRL.out]; exact hown') hgrow; have HWS := Lib.hid hws; have z0 := hxn.c0; have z1 := hxn.c1; have t0 := hxt.f0; have t1 := hxt.f1; have t2 := hxt.c0; have t3 := hxt.c1; clear hws) | fail)
              have hfind : (triL lx).find? (nearB (D) e lx) = some r := by
                obtain ⟨hjj, hrr⟩ := List.getElem?_eq_some_iff.1 HR.out
                have hsplit : triL lx = (triL lx).take j ++ r :: (triL lx).drop (j + 1) := by
                  rw [← hrr, ← List.drop_eq_getElem_cons hjj, List.take_append_drop]
                rw [hsplit, List.find?_append, List.find?_eq_none.2 (fun r hr => by rw [hno.out r hr]; simp), Option.none_or, List.find?_cons_of_pos (by rw [HNL.out, HNR.out]; simp)]
              have hwy9 : Hid (acc ++ [r] ++ wayF (D) e (rvT lx r) = WY) := by
                show _ = _
                rw [← hway.out, wayF_step hfind, List.append_assoc]; rfl
              have hle : (acc ++ [r]).length = acc.length + 1 := by simp
              have HE3 : Hid ((rvT lx r, e) ∈ D) := by have := HE2.out; rw [HX.out, HNR.out] at this; exact this
              have HOK3 : Hid (Ok (m : Int) (rvT lx r)) := by have := HXOK.out; rw [HX.out] at this; exact this
              have HWS3 : Hid (Ws w m go co (rvT lx r) (some ⟨gx, 0, none⟩) kx (some ⟨g', 0, none⟩) cap' (gs ++ [(gr, kr)]) (acc ++ [r]) xs ((w6.setCell ⟨w.heap.size, 0, none⟩ (.int .i64 (m : Int))).setCell ⟨w.heap.size, 1, none⟩ (.slice (some ⟨gx, 0, none⟩) m kx))) := by have := HWS.out; rw [HX.out] at this; exact this
              clear hfind
              go_roundw
              case rel => exact ⟨rvT lx r, _, kx, _, cap', _, acc ++ [r], e, by rw [hle], HWS3.out, HE3.out, HOK3.out, hwy9.out, by rw [hle]; omega⟩
              case measure => simp only [lenS]; omega
          · have hde : ¬ dx = (e : Int) := by rw [HDXV.out]; omega
            have HNR : Hid (nearB (D) e lx r = false) := by show _ = _; rw [HNL.out]; exact decide_eq_false hnear
            clear hnear
            first | (go_region_with (first
              | (go_at_call_of 19 kx; have hx := T3; refine (HNX.out w3 B3.out).mono ?_; rintro e7 w4 ⟨rfl, hb4⟩; have q4 := Lib.hid (q3.out.below hb4); have f0 := HCD.out _ q4.out; have f1 := HCX.out _ q4.out; have B4 := Lib.hid (B3.out.trans (hb4.mono B3.out.size)); clear hb4)
              | (go_at_call_of 19 cx; have hx := X3; refine (HNT.out w3 q3.out).mono ?_; rintro e7 w4 ⟨rfl, hb4⟩; have q4 := Lib.hid (q3.out.below hb4); have f0 := HCD.out _ q4.out; have f1 := HCX.out _ q4.out; have B4 := Lib.hid (B3.out.trans (hb4.mono B3.out.size)); clear hb4)
              | (go_at_call_of 19 kx; refine (HNX.out W11.drew BD.out).mono ?_; rintro e7 w3 ⟨rfl, hbq⟩; have B3 := Lib.hid (BD.out.trans hbq); have X3 := Lib.hid True.intro; have q3 := Lib.hid (hs11.out.below B3.out); have f1 := HCX.out _ q3.out; have c0 := q3.out.bx.c0; have c1 := q3.out.bx.c1; clear hbq)
              | (go_at_call_of 19 cx; refine (HNT.out W11.drew HSD.out).mono ?_; rintro e7 w3 ⟨rfl, hbq⟩; have B3 := Lib.hid (BD.out.trans hbq); have T3 := Lib.hid True.intro; have q3 := Lib.hid (hs11.out.below B3.out); have f0 := HCD.out _ q3.out; have bx3 := BX11.out.below B3.out BX11.out.lt; have e0 := bx3.c0; have e1 := bx3.c1; clear hbq bx3))) | fail
            all_goals
              have HSS4 := Lib.hid (hss11.out.below B4.out)
              have HBB4 := Lib.hid (hbb11.out.trans (B4.out.mono hbb11.out.size))
              have HNO4 : Hid (∀ r2 ∈ (triL lx).take (j + 1), nearB (D) e lx r2 = false) := by
                intro r2 hr2
                obtain ⟨hjj, hrr⟩ := List.getElem?_eq_some_iff.1 HR.out
                rw [List.take_add_one, List.getElem?_eq_getElem hjj, hrr, List.mem_append] at hr2
                rcases hr2 with h | h
                · exact hno.out r2 h
                · simp at h; rw [h]; exact HNR.out
              go_wp2
              go_roundw
              case rel => exact ⟨j + 1, by go_num, by omega, rfl, q4.out, HSS4.out, HBB4.out, HNO4.out⟩
              case measure => simp [intOf]; omega
        · exfalso
          obtain ⟨r, hf, _, hr⟩ := way_some H5.out HGOT.out hxd.out
          have h3 := List.find?_some hf
          rw [hno.out r (by rw [List.take_of_length_le (by have := HT.out; omega)]; exact hr)] at h3
          cases h3
end Go.Proofs.YtgdejippddcekaaDoor
namespace Go.Proofs.YtgdejippddcekaaDoor
open Go.ChangeShapes Go.WideShapes Go.ChangeAt Go.RowKit
set_option linter.unusedVariables false

/-- What 'TriangleWay' answers. -/
noncomputable def wyR (nt : Int) (lt : List Int) (nu : Int) (lu : List Int) : List (List Int) := if twoB nt lt nu lu then wayR lu lt else []
theorem specWay (nt : Int) (at' : Option Addr) (lt : List Int) (ct : Nat) (nu : Int) (au : Option Addr) (lu : List Int) (cu : Nat) (w : World) (hrowt : IntRow w at' lt) (hrowu : IntRow w au lu) (hlt : lt.length ≤ maxLen) (hlu : lu.length ≤ maxLen) :
    Calls Tryd.prog 10 #[.agg #[.int .i64 nt, .slice at' lt.length ct], .agg #[.int .i64 nu, .slice au lu.length cu]] w (RetSB w (wyR nt lt nu lu) (twoB nt lt nu lu)) := by
  cases h2 : twoB nt lt nu lu
  · have hE : wyR nt lt nu lu = [] := by unfold wyR; rw [h2]; exact if_neg (by decide)
    rw [hE]
    refine (mway_no nt at' lt ct nu au lu cu w hrowt hrowu hlt hlu h2).mono ?_
    rintro e w' ⟨rfl, hb⟩
    exact ⟨⟨none, 0, [], rfl, OwnSS.nil _ _⟩, hb⟩
  · have hE : wyR nt lt nu lu = wayR lu lt := by unfold wyR; exact if_pos h2
    rw [hE]
    obtain ⟨h1, h3, h4, h6, h7⟩ := twoB_parts h2
    have e1 : nt = (lt.length : Int) := by have := h1.2.2.1; omega
    have e2 : nu = (lu.length : Int) := by have := h3.2.2.1; omega
    have e3 : lu.length = lt.length := by omega
    subst h4
    subst e1
    have := mway_yes lt.length at' lt ct au lu cu w hrowt hrowu rfl e3 h1 h3 (by omega) h2
    rw [e3]
    exact this
theorem implWay (nt : Int) (at' : Option Addr) (lt : List Int) (ct : Nat) (nu : Int) (au : Option Addr) (lu : List Int) (cu : Nat) (w : World) (hrowt : IntRow w at' lt) (hrowu : IntRow w au lu) (hlt : lt.length ≤ maxLen) (hlu : lu.length ≤ maxLen) (htab : HasTab w) :
    Calls Tryd.prog 11 #[.agg #[.int .i64 nt, .slice at' lt.length ct], .agg #[.int .i64 nu, .slice au lu.length cu]] w (RetSB w (wyR nt lt nu lu) (twoB nt lt nu lu)) := by
  cases h2 : twoB nt lt nu lu
  · have hE : wyR nt lt nu lu = [] := by unfold wyR; rw [h2]; exact if_neg (by decide)
    rw [hE]
    refine (way_no nt at' lt ct nu au lu cu w hrowt hrowu hlt hlu h2).mono ?_
    rintro e w' ⟨rfl, hb⟩
    exact ⟨⟨none, 0, [], rfl, OwnSS.nil _ _⟩, hb⟩
  · have hE : wyR nt lt nu lu = wayR lu lt := by unfold wyR; exact if_pos h2
    rw [hE]
    exact way_yes nt at' lt ct nu au lu cu w hrowt hrowu h2 htab
end Go.Proofs.YtgdejippddcekaaDoor
