/-
  Contracts for the model's draws: tours and orders out of a list of bytes. Every tour is valid; every order is one. Conditions: the bounds of the calls.
-/
import Derived.Test.YtgjogbihadiojaaV5O
import Derived.Test.YtgjogbihadiojaaKg
import Derived.Test.YtgjogbihadiojaaZ
import Derived.Test.YtgjogbihadiojaaI
namespace Go.Proofs.Ytgjogbihadiojaa
open Go.ChangeShapes Go.WideShapes Go.ChangeAt Go.RowKit
set_option linter.unusedVariables false

theorem l02Of_ok (N : Nat) (z : Int) (w : World) (h1 : 1 ≤ N) (h8 : N ≤ 8) (hz0 : 0 ≤ z) (hz : z < 2 ^ 62) :
    Calls Try.prog 104 #[.int .i64 N, .int .i64 z] w fun e w' => (∃ g l, OkL l ∧ l.length = N ∧ e = .returned (.agg #[.int .i64 N, .slice (some ⟨g, 0, none⟩) N N]) ∧ w'.ownsRow w.heap.size 3 1 (.slice (some ⟨g, 0, none⟩) N N) N (l.map iv)) ∧ Below w.heap.size w w' := by
  obtain ⟨b, rfl⟩ : ∃ b : Nat, z = (b : Int) := ⟨z.toNat, by omega⟩
  have hk := tourL_ok N b h1 h8
  refine (l02Of_text _ N b w h8 (by omega) (tourL_text N b h1 h8)).mono ?_
  rintro e w' ⟨⟨g, ys, rfl, hys, ho⟩, hb⟩
  refine ⟨⟨g, (tourL N b).map Int.ofNat, hk, by simp [tourL_len], rfl, ?_⟩, hb⟩
  have e := hys _ (text_L hk)
  have hN : ((tourL N b).map Int.ofNat).length = N := by simp [tourL_len]
  have h2 := tellL_end hk
  rw [hN] at h2
  rw [e, nv_iv, h2] at ho
  exact ho

/-! A cursor in block p: all that is older, but p, stays. -/
theorem gr_below {w w' : World} (p : Nat) (hb : Below w.heap.size w w') : w.grownBy w' (some p) := ⟨hb.os, hb.tape, hb.output, hb.size, fun k hk _ => hb.block k hk⟩
theorem gr_low {B p : Nat} {w w' : World} (hb : Below B w w') (hu : ButK p w w') : w.grownBy w' (some p) := ⟨hb.os, hb.tape, hb.output, hb.size, fun k hk hne => hu k (fun e => hne (by rw [e]))⟩
theorem below_gr {B p : Nat} {w w' : World} (hg : w.grownBy w' (some p)) (hB : B ≤ w.heap.size) (hp : B ≤ p) : Below B w w' := (Below.refl _ w).grown hg hB (fun k hk => by cases hk; exact hp)
theorem Cur.kept {B p : Nat} {w w' : World} {a : Option Addr} {len cap : Nat} (h : Cur B w p a len cap) (hB : B ≤ w.heap.size) (hb : Below w.heap.size w w') : Cur B w' p a len cap := by
  obtain ⟨hBp, hr, i, q, hi, hp⟩ := h
  exact ⟨hBp, hr.below (hb.mono hB), i, q, hi, keep_row hp hb⟩
theorem Cur.base {B p : Nat} {w : World} {a : Option Addr} {len cap : Nat} (h : Cur B w p a len cap) : B ≤ p := h.1

theorem gr_set {w w' : World} {p g o : Nat} {v : Value} (hg : w.grownBy w' (some p)) (hh : w.heap.size ≤ g) : w.grownBy (w'.setCell ⟨g, o, none⟩ v) (some p) :=
  ⟨hg.os, hg.tape, hg.output, by simp [World.setCell]; exact hg.size, fun k hk hne => (heap_setCell_other w' ⟨g, o, none⟩ k v (fun e => by simp at e; omega)).trans (hg.block k hk hne)⟩
theorem Cur.set {B p g o : Nat} {w : World} {v : Value} {a : Option Addr} {len cap : Nat} (h : Cur B w p a len cap) (hg : B ≤ g) (hgp : g ≠ p) : Cur B (w.setCell ⟨g, o, none⟩ v) p a len cap := by
  obtain ⟨hBp, hr, i, q, hi, hp⟩ := h
  exact ⟨hBp, hr.below ((Below.refl B w).setCell (p := ⟨g, o, none⟩) hg v), i, q, hi, (heap_setCell_other w ⟨g, o, none⟩ p v (fun e => hgp e.symm)).trans hp⟩
/-- A tour that a draw answers. -/
def DrawT (B most : Nat) (w : World) (p : Nat) (a : Option Addr) (len cap : Nat) (e : Ending) (w' : World) : Prop :=
  ∃ (l : List Int) (g c : Nat), OkL l ∧ l.length ≤ most ∧ e = .returned (.agg #[.int .i64 (l.length : Int), .slice (some ⟨g, 0, none⟩) l.length c]) ∧ w'.ownsRow w.heap.size 3 1 (.slice (some ⟨g, 0, none⟩) l.length c) l.length (l.map iv) ∧ Cur B w' p a len cap ∧ w.grownBy w' (some p)

set_option maxHeartbeats 2000000 in
theorem draw_any (B most : Nat) (w : World) (p : Nat) (a : Option Addr) (len cap : Nat) (h1 : 1 ≤ most) (h8 : most ≤ 8) (hl : len ≤ 1048576) (hB : B ≤ w.heap.size) (h : Cur B w p a len cap) :
    Calls Try.prog 105 #[.pointer (some ⟨p, 0, none⟩), .int .i64 most] w (DrawT B most w p a len cap) := by
  obtain ⟨W0, hW0⟩ : ∃ W0, W0 = w.alloc (.cells #[.int .i64 0, .slice none 0 0] 25) := ⟨_, rfl⟩
  have hb0 : Below w.heap.size w W0 := by rw [hW0]; exact Below.one _ _
  have x0 : Box W0 w.heap.size 25 (.int .i64 0) (.slice none 0 0) := by rw [hW0]; exact Box.new _ _ _ _
  have c0 := h.kept hB hb0
  have hpw : p < w.heap.size := h.lt
  have g0 := Lib.hid (gr_below p hb0)
  have X0 := Lib.hid x0
  have HW0 := Lib.hid hW0
  have hB0 : B ≤ W0.heap.size := Nat.le_trans hB hb0.size
  have hpx : Hid (w.heap.size ≠ p) := (show _ ≠ p by omega)
  have hpw' := Lib.hid hpw
  have hs0 := Lib.hid hb0.size
  clear hW0 hb0 x0 h hpw
  go_enter Try.func105, Try.ntmps105
  go_wp2_with fail
  rw [← HW0.out]
  refine (below_any B most W0 p a len cap h1 (by omega) hl hB0 c0).mono ?_
  rintro e w1 ⟨x, hx, rfl, c1, hb1, hu1⟩
  have g1 := Lib.hid (g0.out.trans (gr_low hb1 hu1))
  have X1 := Lib.hid (X0.out.grown (gr_low hb1 hu1) (fun e => hpx.out (by injection e with e; exact e.symm)))
  have hB1 := Nat.le_trans hB0 hb1.size
  have hs1 := Lib.hid (Nat.le_trans hs0.out hb1.size)
  clear c0 hb1 hu1
  go_wp2_with fail
  refine (below_any B 256 w1 p a len cap (by omega) (by omega) hl hB1 c1).mono ?_
  rintro e w2 ⟨y1, hy1, rfl, c2, hb2, hu2⟩
  have g2 := Lib.hid (g1.out.trans (gr_low hb2 hu2))
  have X2 := Lib.hid (X1.out.grown (gr_low hb2 hu2) (fun e => hpx.out (by injection e with e; exact e.symm)))
  have hB2 := Nat.le_trans hB1 hb2.size
  have hs2 := Lib.hid (Nat.le_trans hs1.out hb2.size)
  clear c1 hb2 hu2
  go_wp2_with fail
  refine (below_any B 256 w2 p a len cap (by omega) (by omega) hl hB2 c2).mono ?_
  rintro e w3 ⟨y2, hy2, rfl, c3, hb3, hu3⟩
  have g3 := Lib.hid (g2.out.trans (gr_low hb3 hu3))
  have X3 := Lib.hid (X2.out.grown (gr_low hb3 hu3) (fun e => hpx.out (by injection e with e; exact e.symm)))
  have hB3 := Nat.le_trans hB2 hb3.size
  have hs3 := Lib.hid (Nat.le_trans hs2.out hb3.size)
  clear c2 hb3 hu3
  go_wp2_with fail
  refine (below_any B 256 w3 p a len cap (by omega) (by omega) hl hB3 c3).mono ?_
  rintro e w4 ⟨y3, hy3, rfl, c4, hb4, hu4⟩
  have g4 := Lib.hid (g3.out.trans (gr_low hb4 hu4))
  have X4 := Lib.hid (X3.out.grown (gr_low hb4 hu4) (fun e => hpx.out (by injection e with e; exact e.symm)))
  have hB4 := Nat.le_trans hB3 hb4.size
  have hs4 := Lib.hid (Nat.le_trans hs3.out hb4.size)
  clear c3 hb4 hu4
  go_wp2_with fail
  refine (below_any B 16 w4 p a len cap (by omega) (by omega) hl hB4 c4).mono ?_
  rintro e w5 ⟨y4, hy4, rfl, c5, hb5, hu5⟩
  have g5 := Lib.hid (g4.out.trans (gr_low hb5 hu5))
  have X5 := Lib.hid (X4.out.grown (gr_low hb5 hu5) (fun e => hpx.out (by injection e with e; exact e.symm)))
  have hB5 := Nat.le_trans hB4 hb5.size
  have hs5 := Lib.hid (Nat.le_trans hs4.out hb5.size)
  clear c4 hb5 hu5
  obtain ⟨N, hN⟩ : ∃ N : Nat, (1 : Int) + (x : Int) = (N : Int) := ⟨1 + x, by omega⟩
  have hN1 : 1 ≤ N := by omega
  have hN8 : N ≤ most := by omega
  go_wp2_with fail
  refine (l02Of_ok N _ w5 hN1 (by omega) (by omega) (by omega)).mono ?_
  rintro e w6 ⟨⟨g, l, hok, hlen, rfl, ho⟩, hb6⟩
  have c6 := Lib.hid (c5.kept hB5 hb6)
  have x6 := X5.out.below hb6 X5.out.lt
  have g6 := Lib.hid (g5.out.trans (gr_below p hb6))
  have HO := Lib.hid (ho.mono hs5.out)
  have hgx : Hid (g ≠ w.heap.size) := (show g ≠ _ by have := (ho.lt g rfl).1; have := X5.out.lt; omega)
  have HK := Lib.hid hok
  have HLN := Lib.hid hlen
  have e0 := x6.c0
  have e1 := x6.c1
  have e2 := x6.f0
  have e3 := x6.f1
  have X6 := Lib.hid x6
  clear x6 ho hb6 c5 hok hlen hN hx
  go_wp2
  refine bodyPost_ret (v := .agg #[.int .i64 N, .slice (some ⟨g, 0, none⟩) N N]) (Box.res1 rfl _ rfl ((X6.out.set0 _).set1 _)) rfl ?_
  have hl' := HLN.out
  subst hl'
  refine ⟨l, g, l.length, HK.out, hN8, rfl, ?_, ?_, ?_⟩
  · exact own_other (own_other HO.out ⟨w.heap.size, 0, none⟩ _ hgx.out) ⟨w.heap.size, 1, none⟩ _ hgx.out
  · exact (c6.out.set hB hpx.out).set hB hpx.out
  · exact gr_set (gr_set g6.out (Nat.le_refl _)) (Nat.le_refl _)
end Go.Proofs.Ytgjogbihadiojaa
