/-
  Contracts for the model's draws, last: 'l05Draw', 'MakeTour' and 'MakeOrder'. Conditions: the bounds of the calls.
-/
import Derived.Test.YtepladakcepgdaaDoor5C
import Derived.RegionTactic
import Derived.IntWalk
namespace Go.Proofs.YtepladakcepgdaaDoor
open Go.ChangeShapes Go.WideShapes Go.ChangeAt Go.RowKit
set_option linter.unusedVariables false

theorem onceT {P : Nat → Nat → Nat → Nat → World → Prop} {S : Nat → World → Prop} {Goal : Prop} (main : (∀ g g3 g4 c4 W, S g W → P g g3 g4 c4 W) → Goal) (rest : ∀ g g3 g4 c4 W, S g W → P g g3 g4 c4 W) : Goal := main rest

theorem rot_ne {i x N : Nat} (hi : i < N) (hx : x < N - 1) : 0 ≤ ((i : Int) + 1 + (x : Int)) % (N : Int) ∧ ((i : Int) + 1 + (x : Int)) % (N : Int) < (N : Int) ∧ ((i : Int) + 1 + (x : Int)) % (N : Int) ≠ (i : Int) := by
  refine ⟨Int.emod_nonneg _ (by omega), Int.emod_lt_of_pos _ (by omega), ?_⟩
  rcases Nat.lt_or_ge (i + 1 + x) N with h | h
  · rw [Int.emod_eq_of_lt (by omega) (by omega)]; omega
  · have e : ((i : Int) + 1 + (x : Int)) = ((i : Int) + 1 + (x : Int) - N) + N := by omega
    rw [e, Int.add_emod_right, Int.emod_eq_of_lt (by omega) (by omega)]; omega

set_option maxRecDepth 100000 in
set_option maxHeartbeats 4000000 in
theorem l05Draw_any (B most : Nat) (w : World) (p : Nat) (a : Option Addr) (len cap : Nat) (h1 : 1 ≤ most) (h8 : most ≤ 8) (hl : len ≤ 1048576) (hB : B ≤ w.heap.size) (h : Cur B w p a len cap) :
    Calls Tryd.prog 29 #[.pointer (some ⟨p, 0, none⟩), .int .i64 most] w (DrawT B most w p a len cap) := by
  obtain ⟨W0, hW0⟩ : ∃ W0, W0 = w.alloc (.cells #[.int .i64 0, .slice none 0 0] 25) := ⟨_, rfl⟩
  have hb0 : Below w.heap.size w W0 := by rw [hW0]; exact Below.one _ _
  have x0 : Box W0 w.heap.size 25 (.int .i64 0) (.slice none 0 0) := by rw [hW0]; exact Box.new _ _ _ _
  have c0 := h.kept hB hb0
  have hpw : p < w.heap.size := h.lt
  have g0 := Lib.hid (gr_below p hb0)
  have X0 := Lib.hid x0
  have HW0 := Lib.hid hW0
  have hB0 : B ≤ W0.heap.size := Nat.le_trans hB hb0.size
  have hpw' := Lib.hid hpw
  have hs0 := Lib.hid hb0.size
  have HB := Lib.hid hB
  clear hW0 hb0 x0 h hpw
  go_enter Tryd.func29, Tryd.ntmps29
  go_wp2_with fail
  rw [← HW0.out]
  refine (draw_any B most W0 p a len cap h1 h8 hl hB0 c0).mono ?_
  rintro e w1 ⟨l, g, c, hok, hle, rfl, ho, hc1, hg1⟩
  obtain ⟨N, hN⟩ : ∃ N, N = l.length := ⟨_, rfl⟩
  rw [← hN] at hle ho ⊢
  obtain ⟨W1, hW1⟩ : ∃ W1, W1 = w1.alloc (.cells #[.int .i64 N, .slice (some ⟨g, 0, none⟩) N c] 25) := ⟨_, rfl⟩
  have hbW1 : Below w1.heap.size w1 W1 := by rw [hW1]; exact Below.one _ _
  have xt : Box W1 w1.heap.size 25 (.int .i64 N) (.slice (some ⟨g, 0, none⟩) N c) := by rw [hW1]; exact Box.new _ _ _ _
  have hgl := ho.lt g rfl
  have hw1 : w.heap.size < w1.heap.size := Nat.lt_of_lt_of_le X0.out.lt hg1.size
  obtain ⟨pt, hpt⟩ : ∃ pt, pt = w1.heap.size := ⟨_, rfl⟩
  have D1 : Hid (D5 B most w p pt a len cap W1 N l g c) := by
    refine ⟨hok, hN.symm, hle, ?_, by rw [hpt]; exact xt, (own_below ho hbW1).mono hs0.out, ?_, ?_, by omega, by omega, ?_, hpw'.out, HB.out⟩
    · exact (X0.out.grown hg1 (fun e => by injection e with e; have := hpw'.out; omega)).below hbW1 hw1
    · exact hc1.kept (Nat.le_trans hB0 hg1.size) hbW1
    · exact (g0.out.trans hg1).trans (gr_below p hbW1)
    · have := X0.out.lt; omega
  have HW1 := Lib.hid hW1
  have HPT := Lib.hid hpt
  have hN1 : 1 ≤ N := by have := hok.le.1; omega
  have hN8 : N ≤ 8 := by omega
  have hBW1 : B ≤ W1.heap.size := Nat.le_trans (Nat.le_trans hB0 hg1.size) hbW1.size
  clear hok ho hc1 hg1 hN hW1 hbW1 xt hgl hw1 hpt c0
  go_wp2_with fail
  rw [← HW1.out, ← HPT.out]
  refine (once_any B 3 W1 p a len cap (by omega) (by omega) hl hBW1 D1.out.cu).mono ?_
  rintro e w2 ⟨b, rfl, hc2, hg2⟩
  have D2 := Lib.hid (D1.out.kept hg2 hc2)
  have hB2 := Nat.le_trans hBW1 hg2.size
  clear hc2 hg2 D1
  cases b
  · have d0 := D2.out.bt.c0
    have d1 := D2.out.bt.c1
    have e0 := D2.out.br.c0
    have e1 := D2.out.br.c1
    have e2 := D2.out.br.f0
    have e3 := D2.out.br.f1
    go_wp2
    exact bodyPost_ret (v := .agg #[.int .i64 N, .slice (some ⟨g, 0, none⟩) N c]) (Box.res1 rfl _ rfl ((D2.out.br.set0 _).set1 _)) rfl D2.out.finish
  · have hp2 : Hid (p < w2.drew.heap.size) := Nat.lt_of_lt_of_le hpw'.out D2.out.gr.size
    have d0 := D2.out.bt.c0
    have d1 := D2.out.bt.c1
    have d2 := D2.out.bt.f0
    have d3 := D2.out.bt.f1
    go_wp2
    apply onceT (S := fun g W => Hid (∃ l, D5 B most w p pt a len cap W N l g N))
    case main =>
      intro REST
      go_region_with (first
        | (go_at_call 57; refine (l02Of_ok N _ w2.drew hN1 hN8 (by omega) (by omega)).mono ?_; rintro e w3 ⟨⟨g3, l3, hok3, hlen3, rfl, ho3⟩, hbq⟩; have hb3 : Below w2.heap.size w2 w3 := (Below.refl _ w2).drew.trans hbq; have D3 := Lib.hid (D2.out.kept (gr_below p hb3) (D2.out.cu.kept hB2 hb3)); have O3 := Lib.hid ho3; have K3 := Lib.hid hok3; have L3 := Lib.hid hlen3; have hB3 := Nat.le_trans hB2 hb3.size; have S3 := Lib.hid hb3.size; have d0 := D3.out.bt.c0; have d1 := D3.out.bt.c1; clear hok3 hlen3 ho3 hbq hb3)
        | (go_at_call 31; refine (order_any B N w3 p a len cap hN8 hl hB3 D3.out.cu).mono ?_; rintro e w4 ⟨L4, g4, c4, hn4, rfl, ho4, hc4, hg4⟩; have D4 := Lib.hid (D3.out.kept hg4 hc4); have O4 := Lib.hid ho4; have P3 := Lib.hid (own_gr O3.out hg4 hp2.out); have N4 := Lib.hid hn4; have hB4 := Nat.le_trans hB3 hg4.size; have S4 := Lib.hid hg4.size; have d0 := D4.out.bt.c0; have d1 := D4.out.bt.c1; clear hn4 ho4 hc4 hg4)
        | (go_at_call 62; go_loud (refine (rename_ok N _ l3 _ _ L4 _ w4 L3.out K3.out N4.out (IntRow.of_ownN P3.out L3.out) (IntRow.of_ownN O4.out N4.out.1)).mono ?_; rintro e w5 ⟨⟨g5, l5, hok5, hlen5, rfl, ho5⟩, hb5⟩; have D5' := Lib.hid (D4.out.kept (gr_below p hb5) (D4.out.cu.kept hB4 hb5)); have O5 := Lib.hid ho5; have K5 := Lib.hid hok5; have L5 := Lib.hid hlen5; have S5 := Lib.hid hb5.size; have d0 := D5'.out.bt.c0; have d1 := D5'.out.bt.c1; have d2 := D5'.out.bt.f0; have d3 := D5'.out.bt.f1; clear hok5 hlen5 ho5 hb5)))
      all_goals
        obtain ⟨W6, hW6⟩ : ∃ W6, W6 = (w5.setCell ⟨pt, 0, none⟩ (.int .i64 N)).setCell ⟨pt, 1, none⟩ (.slice (some ⟨g5, 0, none⟩) N N) := ⟨_, rfl⟩
        have D6 : Hid (∃ l, D5 B most w p pt a len cap W6 N l g5 N) := ⟨l5, by rw [hW6]; exact D4.out.putB D5'.out K5.out L5.out O5.out⟩
        rw [← hW6]
        exact REST g5 g3 g4 c4 W6 D6
    case rest =>
      intro g6 g3 g4 c4 W6 D6
      obtain ⟨l6, D6⟩ := D6.out
      have hB6 : B ≤ W6.heap.size := Nat.le_trans HB.out D6.gr.size
      have D6 := Lib.hid D6
      clear d0 d1 d2 d3 D2
      go_wp2_with fail
      refine (below_any B 3 W6 p a len cap (by omega) (by omega) hl hB6 D6.out.cu).mono ?_
      rintro e w7 ⟨x, hx, rfl, hc7, hb7, hu7⟩
      have D7 : Hid (∃ l g c, D5 B most w p pt a len cap w7 N l g c) := ⟨_, _, _, D6.out.kept (gr_low hb7 hu7) hc7⟩
      clear D6 hc7 hb7 hu7
      go_wp2
      go_loopw [6] (fun q wr => ∃ k : Nat, k ≤ 3 ∧ q = .int .i64 k ∧ Hid (∃ l g c, D5 B most w p pt a len cap wr N l g c)) (fun q _ => (intOf q).toNat)
      case atStart => exact ⟨x, by omega, rfl, D7⟩
      case round =>
        clear D7 hx
        obtain ⟨k, hk, rfl, Dr⟩ := hrel
        obtain ⟨l, g, c, Dr⟩ := Dr.out
        have Dr := Lib.hid Dr
        have d0 := Dr.out.bt.c0
        have d1 := Dr.out.bt.c1
        by_cases hgo : 0 < k ∧ 1 < N
        · obtain ⟨hk0, hN2⟩ := hgo
          have hk0' : (0 : Int) < (k : Int) := by omega
          have hN2' : (1 : Int) < (N : Int) := by omega
          have hBr : B ≤ wr.heap.size := Nat.le_trans HB.out Dr.out.gr.size
          go_wp2_with fail
          refine (below_any B N wr p a len cap hN1 (by omega) hl hBr Dr.out.cu).mono ?_
          rintro e w8 ⟨i, hi, rfl, hc8, hb8, hu8⟩
          have D8 := Lib.hid (Dr.out.kept (gr_low hb8 hu8) hc8)
          have hB8 := Nat.le_trans hBr hb8.size
          clear d0 d1 Dr hc8 hb8 hu8
          have d0 := D8.out.bt.c0
          have d1 := D8.out.bt.c1
          have d2 := D8.out.bt.f0
          have d3 := D8.out.bt.f1
          have hi1 : IntKind.i64.wrap ((i : Int) + 1) = (i : Int) + 1 := IntWalk.i64_in _ (by omega)
          have hn1 : IntKind.i64.wrap ((N : Int) - 1) = ((N - 1 : Nat) : Int) := by rw [IntWalk.i64_in _ (by omega)]; omega
          have hp8 : Hid (p < w8.drew.heap.size) := Nat.lt_of_lt_of_le hpw'.out D8.out.gr.size
          go_wp2
          go_region_with (first
            | (go_at_call 63; refine (below_any B (N - 1) w8.drew p a len cap (by omega) (by omega) hl hB8 (show Cur B w8.drew p a len cap from D8.out.cu)).mono ?_; rintro e w9 ⟨x, hx, rfl, hc9, hb9, hu9⟩; have D9 := Lib.hid (D8.out.kept ((gr_below p (Below.refl _ w8).drew).trans (gr_low hb9 hu9)) hc9); have hB9 := Nat.le_trans hB8 hb9.size; have d0 := D9.out.bt.c0; have d1 := D9.out.bt.c1; have d2 := D9.out.bt.f0; have d3 := D9.out.bt.f1; have R9 := Lib.hid (rot_ne hi hx); clear hc9 hb9 hu9)
            | (go_at_call 64; refine (flip_ok N _ _ c i _ w9 D9.out.len' D9.out.ok D9.out.row hi R9.out.1 R9.out.2.1 R9.out.2.2).mono ?_; rintro e w10 ⟨⟨g10, c10, l10, hok10, hlen10, rfl, ho10⟩, hb10⟩; have D10 := Lib.hid (D9.out.kept (gr_below p hb10) (D9.out.cu.kept hB9 hb10)); have O10 := Lib.hid ho10; have K10 := Lib.hid hok10; have L10 := Lib.hid hlen10; have d0 := D10.out.bt.c0; have d1 := D10.out.bt.c1; have d2 := D10.out.bt.f0; have d3 := D10.out.bt.f1; clear hok10 hlen10 ho10 hb10))
          all_goals
            obtain ⟨W11, hW11⟩ : ∃ W11, W11 = (w10.setCell ⟨pt, 0, none⟩ (.int .i64 N)).setCell ⟨pt, 1, none⟩ (.slice (some ⟨g10, 0, none⟩) N c10) := ⟨_, rfl⟩
            have D11 : Hid (∃ l g c, D5 B most w p pt a len cap W11 N l g c) := ⟨l10, g10, c10, by rw [hW11]; exact D9.out.putB D10.out K10.out L10.out O10.out⟩
            rw [← hW11]
            clear hW11 d0 d1 d2 d3 hi1 hn1
            go_wp2
            go_roundw
            case rel => exact ⟨k - 1, by omega, by go_num, D11⟩
            case measure => simp [intOf]; omega
        · have hcase : ¬ (0 : Int) < (k : Int) ∨ ((0 : Int) < (k : Int) ∧ ¬ (1 : Int) < (N : Int)) := by omega
          have e0 := Dr.out.br.c0
          have e1 := Dr.out.br.c1
          have e2 := Dr.out.br.f0
          have e3 := Dr.out.br.f1
          clear hgo
          rcases hcase with hq | ⟨hq, hq2⟩
          all_goals
            go_wp2
            exact bodyPost_ret (v := .agg #[.int .i64 N, .slice (some ⟨g, 0, none⟩) N c]) (Box.res1 rfl _ rfl ((Dr.out.br.set0 _).set1 _)) rfl Dr.out.finish
end Go.Proofs.YtepladakcepgdaaDoor
