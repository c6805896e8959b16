/-
  Contracts for the model's draws, last: 'MakeTour' and 'MakeOrder'. Conditions: the bounds of the calls.
-/
import Derived.Test.YtgjogbihadiojaaV5B
import Derived.Deep.RegionWith
namespace Go.Proofs.Ytgjogbihadiojaa
open Go.ChangeShapes Go.WideShapes Go.ChangeAt Go.RowKit
set_option linter.unusedVariables false

theorem rename_ok (N : Nat) (a : Option Addr) (l : List Int) (cap : Nat) (an : Option Addr) (ns : List Int) (cn : Nat) (w : World) (hlen : l.length = N) (hok : OkL l) (hns : Names N ns) (hrow : IntRow w a l) (hrn : IntRow w an ns) :
    Calls Try.prog 107 #[.agg #[.int .i64 N, .slice a N cap], .slice an N cn] w fun e w' => (∃ g l', OkL l' ∧ l'.length = N ∧ e = .returned (.agg #[.int .i64 N, .slice (some ⟨g, 0, none⟩) N N]) ∧ w'.ownsRow w.heap.size 3 1 (.slice (some ⟨g, 0, none⟩) N N) N (l'.map iv)) ∧ Below w.heap.size w w' := by
  subst hlen
  have hp := hns.perm
  have h := l02Rename_any a l cap an ns cn w hrow hrn hok hp
  rw [hns.1] at h
  obtain ⟨h1, h2, _⟩ := renamed0 hok hp
  refine h.mono ?_
  rintro e w' ⟨⟨g, rfl, ho⟩, hb⟩
  refine ⟨⟨g, _, h1, h2, rfl, ?_⟩, hb⟩
  rw [← nv_iv]; exact ho
theorem flip_ok (N : Nat) (a : Option Addr) (l : List Int) (cap i : Nat) (z : Int) (w : World) (hlen : l.length = N) (hok : OkL l) (hrow : IntRow w a l) (hi : i < N) (hz0 : 0 ≤ z) (hz : z < N) (hne : z ≠ i) :
    Calls Try.prog 109 #[.agg #[.int .i64 N, .slice a N cap], .int .i64 i, .int .i64 z] w fun e w' => (∃ g c l', OkL l' ∧ l'.length = N ∧ e = .returned (.agg #[.int .i64 N, .slice (some ⟨g, 0, none⟩) N c]) ∧ w'.ownsRow w.heap.size 3 1 (.slice (some ⟨g, 0, none⟩) N c) N (l'.map iv)) ∧ Below w.heap.size w w' := by
  subst hlen
  obtain ⟨j, rfl⟩ : ∃ j : Nat, z = (j : Int) := ⟨z.toNat, by omega⟩
  obtain ⟨h1, h2⟩ := flipped0 hok hi (show j < l.length by omega) (fun e => hne (by omega))
  refine (l02Flip_any _ a l cap i j w hrow hok hi (by omega) (fun e => hne (by omega))).mono ?_
  rintro e w' ⟨⟨g, c, rfl, ho⟩, hb⟩
  exact ⟨⟨g, c, _, h1, flipL_len _ _ _, rfl, ho⟩, hb⟩

theorem own_gr {W W' : World} {B g n c p : Nat} {xs : List Value} (h : W.ownsRow B 3 1 (.slice (some ⟨g, 0, none⟩) n c) n xs) (hg : W.grownBy W' (some p)) (hp : p < B) : W'.ownsRow B 3 1 (.slice (some ⟨g, 0, none⟩) n c) n xs :=
  own_grown h hg (fun k hk e => by
    have h1 := (h.lt g rfl).1
    injection e with e
    have h2 : g = k := Option.some.inj hk
    omega)

theorem IntRow.of_ownN {w : World} {B g N cap : Nat} {l : List Int} (h : w.ownsRow B 3 1 (.slice (some ⟨g, 0, none⟩) N cap) N (l.map iv)) (hl : l.length = N) : IntRow w (some ⟨g, 0, none⟩) l := by
  subst hl; exact IntRow.of_own h

/-- What 'l05Draw' holds of the memory between its steps. -/
structure D5 (B most : Nat) (w : World) (p pt : Nat) (a : Option Addr) (len cap : Nat) (W : World) (N : Nat) (l : List Int) (g c : Nat) : Prop where
  ok : OkL l
  len' : l.length = N
  le : N ≤ most
  br : Box W w.heap.size 25 (.int .i64 0) (.slice none 0 0)
  bt : Box W pt 25 (.int .i64 N) (.slice (some ⟨g, 0, none⟩) N c)
  ro : W.ownsRow w.heap.size 3 1 (.slice (some ⟨g, 0, none⟩) N c) N (l.map iv)
  cu : Cur B W p a len cap
  gr : w.grownBy W (some p)
  rt : w.heap.size < pt
  tg : pt ≠ g
  rg : w.heap.size ≠ g
  pw : p < w.heap.size
  Bw : B ≤ w.heap.size
section
variable {B most : Nat} {w : World} {p pt : Nat} {a : Option Addr} {len cap : Nat} {W W' : World} {N : Nat} {l : List Int} {g c : Nat}
theorem D5.gl (h : D5 B most w p pt a len cap W N l g c) : w.heap.size ≤ g ∧ g < W.heap.size := ⟨(h.ro.lt g rfl).1, (h.ro.lt g rfl).2⟩
theorem D5.row (h : D5 B most w p pt a len cap W N l g c) : IntRow W (some ⟨g, 0, none⟩) l := by
  have := h.ro
  obtain rfl := h.len'
  exact IntRow.of_own this
theorem D5.kept (h : D5 B most w p pt a len cap W N l g c) (hg : W.grownBy W' (some p)) (hc : Cur B W' p a len cap) : D5 B most w p pt a len cap W' N l g c :=
  ⟨h.ok, h.len', h.le, h.br.grown hg (fun e => by injection e with e; have := h.pw; omega), h.bt.grown hg (fun e => by injection e with e; have := h.pw; have := h.rt; omega),
   own_grown h.ro hg (fun k hk e => by injection e with e; simp [blk] at hk; have := h.pw; have := h.gl; omega), hc, h.gr.trans hg, h.rt, h.tg, h.rg, h.pw, h.Bw⟩
theorem D5.put {l' : List Int} {g' c' : Nat} (h : D5 B most w p pt a len cap W N l g c) (hok : OkL l') (hlen : l'.length = N) (ho : W.ownsRow w.heap.size 3 1 (.slice (some ⟨g', 0, none⟩) N c') N (l'.map iv)) (htg : pt ≠ g') (hrg : w.heap.size ≠ g') :
    D5 B most w p pt a len cap ((W.setCell ⟨pt, 0, none⟩ (.int .i64 N)).setCell ⟨pt, 1, none⟩ (.slice (some ⟨g', 0, none⟩) N c')) N l' g' c' :=
  ⟨hok, hlen, h.le, (h.br.other ⟨pt, 0, none⟩ _ (Nat.ne_of_lt h.rt)).other ⟨pt, 1, none⟩ _ (Nat.ne_of_lt h.rt), (h.bt.set0 _).set1 _,
   own_other (own_other ho ⟨pt, 0, none⟩ _ (fun e => htg e.symm)) ⟨pt, 1, none⟩ _ (fun e => htg e.symm),
   (h.cu.set (by have := h.rt; have := h.Bw; omega) (by have := h.rt; have := h.pw; omega)).set (by have := h.rt; have := h.Bw; omega) (by have := h.rt; have := h.pw; omega),
   gr_set (gr_set h.gr (Nat.le_of_lt h.rt)) (Nat.le_of_lt h.rt), h.rt, htg, hrg, h.pw, h.Bw⟩
theorem D5.putB {W4 : World} {l4 : List Int} {g4 c4 : Nat} {l' : List Int} {g' c' : Nat} (h4 : D5 B most w p pt a len cap W4 N l4 g4 c4) (h : D5 B most w p pt a len cap W N l g c) (hok : OkL l') (hlen : l'.length = N) (ho : W.ownsRow W4.heap.size 3 1 (.slice (some ⟨g', 0, none⟩) N c') N (l'.map iv)) :
    D5 B most w p pt a len cap ((W.setCell ⟨pt, 0, none⟩ (.int .i64 N)).setCell ⟨pt, 1, none⟩ (.slice (some ⟨g', 0, none⟩) N c')) N l' g' c' := by
  have h1 := (ho.lt g' rfl).1
  have h2 := h4.bt.lt
  have h3 := h4.br.lt
  exact h.put hok hlen (ho.mono h4.gr.size) (by omega) (by omega)
theorem D5.finish (h : D5 B most w p pt a len cap W N l g c) : DrawT B most w p a len cap (.returned (.agg #[.int .i64 N, .slice (some ⟨g, 0, none⟩) N c])) ((W.setCell ⟨w.heap.size, 0, none⟩ (.int .i64 N)).setCell ⟨w.heap.size, 1, none⟩ (.slice (some ⟨g, 0, none⟩) N c)) := by
  obtain ⟨ok, hl, le, br, bt, ro, cu, gr, rt, tg, rg, pw, Bw⟩ := h
  subst hl
  exact ⟨l, g, c, ok, le, rfl, own_other (own_other ro ⟨w.heap.size, 0, none⟩ _ (fun e => rg e.symm)) ⟨w.heap.size, 1, none⟩ _ (fun e => rg e.symm),
    (cu.set Bw (Nat.ne_of_gt pw)).set Bw (Nat.ne_of_gt pw), gr_set (gr_set gr (Nat.le_refl _)) (Nat.le_refl _)⟩
end
end Go.Proofs.Ytgjogbihadiojaa
