/-
  'Tour.waysFrom' of the program: the iterator's contract: for every loop body that keeps the iterator's memory, every way of k players from a given one comes once, in order, each one in a new row. Condition: the tour is valid.
-/
import Derived.Test.YtgjogbihadiojaaJF
namespace Go.Proofs.Ytgjogbihadiojaa
open Go.ChangeShapes Go.WideShapes Go.ChangeAt Go.RowKit Go.Shelf
attribute [local go_sem] Oper.semAt_some
set_option linter.unusedVariables false

theorem waysFrom_any (n : Int) (a : Option Addr) (len cap : Nat) (p k : Int) (w : World) : Calls Try.prog 59 #[.agg #[.int .i64 n, .slice a len cap], .int .i64 p, .int .i64 k] w fun e w' =>
    e = .returned (.func (.func 111) #[] #[.pointer (some ⟨w.heap.size + 1, 0, none⟩), .pointer (some ⟨w.heap.size + 1 + 1, 0, none⟩), .pointer (some ⟨w.heap.size, 0, none⟩)]) ∧
      w' = ((w.alloc (.cells #[.int .i64 n, .slice a len cap] 25)).alloc (.cells #[.int .i64 p] 3)).alloc (.cells #[.int .i64 k] 3) := by
  go_enter Try.func59, Try.ntmps59
  go_wp2
  go_ret
  exact ⟨rfl, rfl⟩

set_option maxRecDepth 100000 in
set_option maxHeartbeats 2000000 in
theorem ways1 (ly Bt Ba Bk Bz : Nat) (R : Nat → Obj → Prop) (n : Int) (a : Option Addr) (cap : Nat) (l : List Int) (q : Nat) (k : Int) (hok : Ok n l) (hq : q < l.length) (J Jx : List Wx → World → Prop) (B0 : Nat) (W : World) (hB0 : B0 ≤ W.heap.size)
    (hJ : OwnZ Zl W.heap.size J)
    (hY : ∀ pre x W1, J pre W1 → YW (Hw.ways (ww l) k q) B0 pre x W1 → YieldAt Fence.wide 6 Try.prog ly (encW x) W1 fun e W' =>
      (e = .returned (.bool true) ∧ J (pre ++ [x]) W' ∧ KeepR R W1 W' ∧ KeepsFrom Bz W1 W') ∨ (e = .returned (.bool false) ∧ Jx (pre ++ [x]) W' ∧ KeepsFrom Bz W1 W'))
    (hxt : Box W Bt 25 (.int .i64 n) (.slice a l.length cap)) (hxa : Boxed W Ba 3 (.int .i64 (q : Int))) (hxk : Boxed W Bk 3 (.int .i64 k)) (hrow : IntRow W a l)
    (hRt : ∀ o, R Bt o) (hRk : ∀ o, R Bk o) (hag : ∀ b o, blk a = some b → R b o) (hfr : ∀ b o, B0 ≤ b → R b o) (h0 : J [] W) :
    Calls Try.prog 111 #[.func (.yield ly) #[] #[], .pointer (some ⟨Ba, 0, none⟩), .pointer (some ⟨Bk, 0, none⟩), .pointer (some ⟨Bt, 0, none⟩)] W fun e W' => (∃ v, e = .returned v) ∧
      ((∃ xs, xs.map Prod.fst = Hw.ways (ww l) k q ∧ J xs W') ∨ (∃ pre, (∃ rest, Hw.ways (ww l) k q = pre.map Prod.fst ++ rest) ∧ Jx pre W')) := by
  have hl8 : l.length ≤ 8 := by have := hok.2.1; have := hok.2.2.1; omega
  have mixed : Try.prog.follows Departure.mixedOrders = true := by kernel_rfl
  obtain ⟨F1, hF1⟩ : ∃ F1, F1 = Value.func (.func 112) #[] #[.pointer (some ⟨Bk, 0, none⟩), .pointer (some ⟨W.heap.size, 0, none⟩), .pointer (some ⟨W.heap.size + 1 + 1, 0, none⟩), .pointer (some ⟨Bt, 0, none⟩), .pointer (some ⟨W.heap.size + 1 + 1 + 1, 0, none⟩)] := ⟨_, rfl⟩
  obtain ⟨W1, hW1⟩ : ∃ W1, W1 = W.alloc (.cells #[.func (.yield ly) #[] #[]] 92) := ⟨_, rfl⟩
  obtain ⟨W2, hW2⟩ : ∃ W2, W2 = W1.alloc (.cells #[.int .i64 (q : Int), .pointer none] 57) := ⟨_, rfl⟩
  obtain ⟨W3, hW3⟩ : ∃ W3, W3 = W2.alloc (.cells #[.pointer (some ⟨W.heap.size + 1, 0, none⟩)] 54) := ⟨_, rfl⟩
  obtain ⟨W4, hW4⟩ : ∃ W4, W4 = W3.alloc (.cells #[F1] 93) := ⟨_, rfl⟩
  have s1 : W1.heap.size = W.heap.size + 1 := by rw [hW1]; simp
  have s2 : W2.heap.size = W.heap.size + 1 + 1 := by rw [hW2]; simp [s1]
  have s3 : W3.heap.size = W.heap.size + 1 + 1 + 1 := by rw [hW3]; simp [s2]
  have s4 : W4.heap.size = W.heap.size + 1 + 1 + 1 + 1 := by rw [hW4]; simp [s3]
  have b1 : Below W.heap.size W W1 := by rw [hW1]; exact (Below.refl _ _).alloc (Nat.le_refl _) _
  have b2 : Below W1.heap.size W1 W2 := by rw [hW2]; exact (Below.refl _ _).alloc (Nat.le_refl _) _
  have b3 : Below W2.heap.size W2 W3 := by rw [hW3]; exact (Below.refl _ _).alloc (Nat.le_refl _) _
  have b4 : Below W3.heap.size W3 W4 := by rw [hW4]; exact (Below.refl _ _).alloc (Nat.le_refl _) _
  have b24 : Below W1.heap.size W1 W4 := (b2.trans (b3.mono b2.size)).trans (b4.mono (Nat.le_trans b2.size b3.size))
  have b04 : Below W.heap.size W W4 := b1.trans (b24.mono b1.size)
  have b34 : Below W2.heap.size W2 W4 := b3.trans (b4.mono b3.size)
  have xy : Boxed W1 W.heap.size 92 (.func (.yield ly) #[] #[]) := by rw [hW1]; exact Boxed.new _ _ _
  have xn : Box W2 (W.heap.size + 1) 57 (.int .i64 (q : Int)) (.pointer none) := by rw [hW2, ← s1]; exact Box.new _ _ _ _
  have xf : Boxed W3 (W.heap.size + 1 + 1) 54 (.pointer (some ⟨W.heap.size + 1, 0, none⟩)) := by rw [hW3, ← s2]; exact Boxed.new _ _ _
  have xl : Boxed W4 (W.heap.size + 1 + 1 + 1) 93 F1 := by rw [hW4, ← s3]; exact Boxed.new _ _ _
  have xt1 : Boxed W1 Ba 3 (.int .i64 (q : Int)) := (b1.block _ hxa.lt).trans hxa
  have xn4 := xn.below b34 xn.lt
  have henv : En n a l cap k ly Bt Bk W.heap.size (W.heap.size + 1 + 1) (W.heap.size + 1 + 1 + 1) (W.heap.size + 1) W4 :=
    ⟨hxt.below b04 hxt.lt, hrow.below b04 (Nat.le_refl _), (b04.block _ hxk.lt).trans hxk, (b24.block _ xy.lt).trans xy, (b4.block _ xf.lt).trans xf, by rw [← hF1]; exact xl⟩
  have hj4 : J [] W4 := hJ _ W W4 none h0 (grown_of_below b04) (by simp)
  have hnm : Nm R a Bt Bk W.heap.size (W.heap.size + 1 + 1) (W.heap.size + 1 + 1 + 1) := ⟨hRt, hRk, fun o => hfr _ o hB0, fun o => hfr _ o (by omega), fun o => hfr _ o (by omega), hag⟩
  have hch : Ch W4 [W.heap.size + 1] [q] (.pointer none) := ⟨rfl, fun i hi => by
    obtain rfl : i = 0 := by simpa using hi
    exact xn4⟩
  have hlow : blk a ≠ some (W.heap.size + 1) := by
    intro e
    rcases hrow with h2 | ⟨b2, off, h3, h4, _⟩
    · rw [h2] at hq; simp at hq
    · rw [h3] at e; simp [blk] at e; omega
  have hd4 := below_drew W4
  have hle : Le R n a l cap k ly Bt Bk W.heap.size (W.heap.size + 1 + 1) (W.heap.size + 1 + 1 + 1) (W.heap.size + 1) W.heap.size J (Hw.ways (ww l) k q) 7 [q] [W.heap.size + 1] (2 ^ q) [] W4.drew :=
    ⟨rfl, Hw.Way.one _ _, by simp, fun x hx => (show x = q from by simpa using hx) ▸ hq, Hw.Sp.one q, hch.below hd4, rfl,
      ⟨by simp, fun g hg => by
        obtain rfl : g = W.heap.size + 1 := by simpa using hg
        have h1 := hxt.lt
        have h2 := hxk.lt
        exact ⟨⟨by omega, by omega, by omega, by omega, by omega, hlow⟩, by omega, by show _ < W4.heap.size; omega⟩⟩, henv.below hd4, hJ _ W4 W4.drew none hj4 (grown_drew W4) (by simp), ⟨[], by simp [Hw.ways]⟩⟩
  have hcall : Calls Try.prog 112 #[.pointer (some ⟨W.heap.size + 1, 0, none⟩), .int .i64 ((2 ^ q : Nat) : Int), .pointer (some ⟨Bk, 0, none⟩), .pointer (some ⟨W.heap.size, 0, none⟩), .pointer (some ⟨W.heap.size + 1 + 1, 0, none⟩), .pointer (some ⟨Bt, 0, none⟩), .pointer (some ⟨W.heap.size + 1 + 1 + 1, 0, none⟩)] W4.drew (LenP R J Jx (Hw.ways (ww l) k q) (Hw.ext (ww l) k 7 [q]) Bz (W.heap.size + 1) q [] W4.drew) := lengthen_any R n a l cap k ly Bt Bk W.heap.size (W.heap.size + 1 + 1) (W.heap.size + 1 + 1 + 1) (W.heap.size + 1) W.heap.size Bz W.heap.size J Jx (Hw.ways (ww l) k q) hok hJ (Nat.le_refl _) hnm (fun b o hb => hfr b o (by omega)) (fun pre x W1 hj hy => hY pre x W1 hj ⟨hy.next, hy.own.mono hB0⟩) 7 [q] [W.heap.size + 1] (2 ^ q) [] W4.drew hle
  have hw2 : IntKind.i64.wrap (2 ^ q) = ((2 ^ q : Nat) : Int) := wrapPowI q (by omega)
  obtain ⟨P2, hP2⟩ : ∃ P2 : Nat, P2 = 2 ^ q := ⟨_, rfl⟩
  rw [← hP2] at hw2 hcall
  have ca := xt1.cell
  have d1 := henv.xl.cell
  have d2 := henv.xf.cell
  have d3 : W4.cell? ⟨Ba, 0, none⟩ = some (.int .i64 (q : Int)) := ((b24.cell (p := ⟨Ba, 0, none⟩) xt1.lt)).trans ca
  rw [hF1] at hW4
  have HW1 := Lib.hid hW1
  have HW4 : Hid (W4 = ((W1.alloc (.cells #[.int .i64 (q : Int), .pointer none] 57)).alloc (.cells #[.pointer (some ⟨W.heap.size + 1, 0, none⟩)] 54)).alloc (.cells #[Value.func (.func 112) #[] #[.pointer (some ⟨Bk, 0, none⟩), .pointer (some ⟨W.heap.size, 0, none⟩), .pointer (some ⟨W.heap.size + 1 + 1, 0, none⟩), .pointer (some ⟨Bt, 0, none⟩), .pointer (some ⟨W.heap.size + 1 + 1 + 1, 0, none⟩)]] 93)) := by show _ = _; rw [hW4, hW3, hW2]
  have HC := Lib.hid hcall
  have HP2 := Lib.hid hP2
  rw [HW1.out] at ca
  rw [HW1.out] at HW4
  clear hcall hle hd4 hlow hch hnm hj4 henv xn4 xt1 xl xf xn xy b34 b04 b24 b4 b3 b2 b1 s4 s3 s2 s1 hW1 hW2 hW3 hW4 hF1 hP2 hxt hxa hxk hrow h0 hRt hRk hag hfr
  refine (callsIn_wide (n := 8)).1 ?_
  refine callsIn_of_wp Try.func111 rfl trivial ?_ rfl
  simp only [Try.ntmps111, List.size_toArray, List.length_cons, List.length_nil, Nat.reduceAdd, Nat.reduceSub, Array.replicate_succ, Array.replicate_zero, List.push_toArray, List.append_toArray, List.nil_append, List.cons_append]
  gi_wp2
  rw [← HW4.out]
  clear ca
  gi_region_with_o (refine ⟨trivial, ?_⟩; (with_reducible refine (callsIn_wide.2 HC.out).mono ?_); rintro e w4 hpost; obtain ⟨bb, rfl, hlen⟩ := lenP_of hpost; have HLEN := Lib.hid hlen; clear hpost hlen)
  all_goals
    have HF : Hid ((∃ xs, xs.map Prod.fst = Hw.ways (ww l) k q ∧ J xs w4) ∨ (∃ pre, (∃ rest, Hw.ways (ww l) k q = pre.map Prod.fst ++ rest) ∧ Jx pre w4)) := by
      rcases lenP_cases HLEN.out with ⟨_, ⟨xs, h1, h2⟩, _⟩ | ⟨_, ⟨xs, h1, h2⟩, _⟩
      · exact .inl ⟨xs, h1, h2⟩
      · exact .inr ⟨xs, h1, h2⟩
    clear HLEN
    gi_wp2
    go_end0
    exact ⟨⟨_, rfl⟩, HF.out⟩

theorem YW.count {Ls : List (List Nat)} {B : Nat} {pre : List Wx} {x : Wx} {W : World} (h : YW Ls B pre x W) : pre.length < Ls.length := by
  obtain ⟨rest, h⟩ := h.next
  have := congrArg List.length h
  simp at this; omega
theorem three_new {W W3 : World} {n : Int} {a : Option Addr} {len cap : Nat} {p k : Int} (h : W3 = ((W.alloc (.cells #[.int .i64 n, .slice a len cap] 25)).alloc (.cells #[.int .i64 p] 3)).alloc (.cells #[.int .i64 k] 3)) :
    Below W.heap.size W W3 ∧ Box W3 W.heap.size 25 (.int .i64 n) (.slice a len cap) ∧ Boxed W3 (W.heap.size + 1) 3 (.int .i64 p) ∧ Boxed W3 (W.heap.size + 1 + 1) 3 (.int .i64 k) ∧ W3.heap.size = W.heap.size + 1 + 1 + 1 := by
  obtain ⟨W1, hW1⟩ : ∃ W1, W1 = W.alloc (.cells #[.int .i64 n, .slice a len cap] 25) := ⟨_, rfl⟩
  obtain ⟨W2, hW2⟩ : ∃ W2, W2 = W1.alloc (.cells #[.int .i64 p] 3) := ⟨_, rfl⟩
  rw [← hW1, ← hW2] at h
  have s1 : W1.heap.size = W.heap.size + 1 := by rw [hW1]; simp
  have s2 : W2.heap.size = W.heap.size + 1 + 1 := by rw [hW2]; simp [s1]
  have b1 : Below W.heap.size W W1 := by rw [hW1]; exact (Below.refl _ _).alloc (Nat.le_refl _) _
  have b2 : Below W1.heap.size W1 W2 := by rw [hW2]; exact (Below.refl _ _).alloc (Nat.le_refl _) _
  have b3 : Below W2.heap.size W2 W3 := by rw [h]; exact (Below.refl _ _).alloc (Nat.le_refl _) _
  have x1 : Box W1 W.heap.size 25 (.int .i64 n) (.slice a len cap) := by rw [hW1]; exact Box.new _ _ _ _
  have x2 : Boxed W2 (W.heap.size + 1) 3 (.int .i64 p) := by rw [hW2, ← s1]; exact Boxed.new _ _ _
  have x3 : Boxed W3 (W.heap.size + 1 + 1) 3 (.int .i64 k) := by rw [h, ← s2]; exact Boxed.new _ _ _
  have b13 := b2.trans (b3.mono b2.size)
  exact ⟨b1.trans (b13.mono b1.size), x1.below b13 x1.lt, (b3.block _ x2.lt).trans x2, x3, by rw [h]; simp [s2]⟩
/-- The iterator's contract. -/
theorem ways_stops (Bt Ba Bk Bz : Nat) (R : Nat → Obj → Prop) (n : Int) (a : Option Addr) (cap : Nat) (l : List Int) (q : Nat) (k : Int) (hok : Ok n l) (hq : q < l.length) (w : World)
    (hxt : Box w Bt 25 (.int .i64 n) (.slice a l.length cap)) (hxa : Boxed w Ba 3 (.int .i64 (q : Int))) (hxk : Boxed w Bk 3 (.int .i64 k)) (hrow : IntRow w a l)
    (hRt : ∀ o, R Bt o) (hRk : ∀ o, R Bk o) (hag : ∀ b o, blk a = some b → R b o) (hfr : ∀ b o, w.heap.size ≤ b → R b o) :
    SeqZ Zl Fence.wide 7 Try.prog 111 #[.pointer (some ⟨Ba, 0, none⟩), .pointer (some ⟨Bk, 0, none⟩), .pointer (some ⟨Bt, 0, none⟩)] encW (YW (Hw.ways (ww l) k q) w.heap.size) (KeepR R) (fun xs => xs.map Prod.fst = Hw.ways (ww l) k q) (fun pre => ∃ rest, Hw.ways (ww l) k q = pre.map Prod.fst ++ rest) Bz w :=
  fun ly J Jx W hW _ hJ hJx hY h0 =>
    callsIn_wide.2 (ways1 ly Bt Ba Bk Bz R n a cap l q k hok hq J Jx w.heap.size W hW.size hJ hY (hxt.below hW hxt.lt) ((hW.block _ hxa.lt).trans hxa) ((hW.block _ hxk.lt).trans hxk) (hrow.below hW (Nat.le_refl _)) hRt hRk hag hfr h0)
end Go.Proofs.Ytgjogbihadiojaa
