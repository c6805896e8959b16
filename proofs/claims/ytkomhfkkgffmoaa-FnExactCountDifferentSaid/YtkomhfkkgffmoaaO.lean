/-
  'FnExactTurnTour': the program's TurnTour answers as the model's for every tour, leaves it as it was, and shares no memory with it. No conditions.
-/
import Derived.Test.YtkomhfkkgffmoaaM
import Derived.Test.YtkomhfkkgffmoaaN

namespace Go.Proofs.Ytkomhfkkgffmoaa
open Go.ChangeShapes Go.WideShapes Go.ChangeAt Go.RowKit
set_option linter.unusedVariables false

theorem bt_nat {l : List Int} {i x : Nat} (j : Nat) (hx : l.getD i 0 = (x : Int)) : bt l i j = x.testBit j := by unfold bt; rw [hx, bi_nat]
theorem Ok.other {n : Int} {l : List Int} (h : Ok n l) {a b : Nat} (ha : a < l.length) (hb : b < l.length) (hne : a ≠ b) : bt l a b = !bt l b a := by
  rcases Nat.lt_or_gt_of_ne hne with h1 | h1
  · have := (h.2.2.2 b hb).2.2 a h1
    change bt l b a ≠ bt l a b at this
    revert this
    cases bt l a b <;> cases bt l b a <;> simp
  · have := (h.2.2.2 a ha).2.2 b h1
    change bt l a b ≠ bt l b a at this
    revert this
    cases bt l a b <;> cases bt l b a <;> simp
theorem Ok.self {n : Int} {l : List Int} (h : Ok n l) {a : Nat} (ha : a < l.length) : bt l a a = false := (h.2.2.2 a ha).2.1

theorem mem_games (m : Nat) (l : List Int) (x : Pl m) : x ∈ gamesL m l ↔ bt l x.1.val x.2.val = true := by
  unfold gamesL gamesTo
  rw [List.take_of_length_le (by simp)]
  simp only [List.mem_flatMap, rowG, losers, List.mem_map, List.mem_filter]
  constructor
  · rintro ⟨a, _, b, ⟨_, hb⟩, rfl⟩; exact hb
  · intro h; exact ⟨x.1, List.mem_finRange _, x.2, ⟨List.mem_finRange _, h⟩, rfl⟩

theorem turnStep_len {m : Nat} (ys : List Nat) (x : Pl m) : (turnStep ys x).length = ys.length := by simp [turnStep]
theorem foldl_turn_len {m : Nat} (L : List (Pl m)) : ∀ ys : List Nat, (L.foldl turnStep ys).length = ys.length := by
  induction L with
  | nil => intro ys; rfl
  | cons x L ih => intro ys; rw [List.foldl_cons, ih, turnStep_len]
theorem foldl_turn {m : Nat} (L : List (Pl m)) (b : Fin m) (a : Nat) : ∀ ys : List Nat, ys.length = m → ((L.foldl turnStep ys).getD b.val 0).testBit a = ((ys.getD b.val 0).testBit a || L.any fun x => decide (x.2 = b) && decide (x.1.val = a)) := by
  induction L with
  | nil => intro ys _; simp
  | cons x L ih =>
    intro ys hy
    rw [List.foldl_cons, ih _ (by rw [turnStep_len]; exact hy), List.any_cons, ← Bool.or_assoc]
    congr 1
    unfold turnStep
    by_cases e : x.2 = b
    · subst e
      rw [List.getD_eq_getElem?_getD, List.getElem?_set_self (by rw [hy]; exact x.2.isLt)]
      simp only [Option.getD_some, Nat.testBit_or, Nat.testBit_two_pow, decide_true, Bool.true_and]
    · have hv : x.2.val ≠ b.val := fun h => e (Fin.ext h)
      rw [List.getD_eq_getElem?_getD, List.getElem?_set_ne hv, ← List.getD_eq_getElem?_getD]
      simp [e]
theorem any_games (m : Nat) (l : List Int) (b : Fin m) (a : Nat) : ((gamesL m l).any fun x => decide (x.2 = b) && decide (x.1.val = a)) = (decide (a < m) && bt l a b.val) := by
  by_cases ha : a < m
  · rw [Bool.eq_iff_iff]
    simp only [List.any_eq_true, Bool.and_eq_true, decide_eq_true_eq]
    constructor
    · rintro ⟨x, hx, rfl, rfl⟩; exact ⟨ha, (mem_games m l x).1 hx⟩
    · rintro ⟨_, h⟩; exact ⟨(⟨a, ha⟩, b), (mem_games m l _).2 h, rfl, rfl⟩
  · rw [Bool.eq_iff_iff]
    simp only [List.any_eq_true, Bool.and_eq_true, decide_eq_true_eq]
    constructor
    · rintro ⟨x, _, _, h⟩; exact absurd x.1.isLt (by omega)
    · rintro ⟨h, _⟩; exact absurd h ha
theorem turn_bit (m x b a : Nat) (hm : m ≤ 8) (hx : x < 2 ^ m) (hb : b < m) (hs : x.testBit b = false) : (2 ^ m - 1 - x - 2 ^ b).testBit a = (decide (a < m) && (!x.testBit a && decide (a ≠ b))) := by
  have hx8 : x < 256 := Nat.lt_of_lt_of_le hx (pow_le m hm)
  have e : 2 ^ m - 1 - x - 2 ^ b = 2 ^ m - ((x ||| 2 ^ b) + 1) := by rw [← add_or x b hx8 (by omega) hs]; omega
  have hlt : x ||| 2 ^ b < 2 ^ m := by rw [← add_or x b hx8 (by omega) hs]; exact add_lt m x b hm hx hb hs
  rw [e, Nat.testBit_two_pow_sub_succ hlt, Nat.testBit_or, Nat.testBit_two_pow]
  by_cases hab : a = b
  · subst hab; simp
  · have : ¬ b = a := fun h => hab h.symm
    simp [hab, this]
theorem turn_eq {n : Int} {l : List Int} (h : Ok n l) : turnF (gamesL l.length l) = turnS l := by
  have hm : l.length ≤ 8 := by have := h.2.1; have := h.2.2.1; omega
  have hlen : (turnF (gamesL l.length l)).length = l.length := by unfold turnF; rw [foldl_turn_len]; simp
  apply List.ext_getElem
  · rw [hlen, turnS_len]
  intro b h1 h2
  have hb : b < l.length := by omega
  obtain ⟨x, hx, hx2, hx8⟩ := h.nat hb
  have hR : (turnS l)[b] = 2 ^ l.length - 1 - x - 2 ^ b := by
    have := turnS_at l b x hb hx
    rw [List.getElem?_eq_getElem h2] at this
    exact Option.some.inj this
  rw [hR]
  apply Nat.eq_of_testBit_eq
  intro a
  have hself := h.self hb
  rw [bt_nat b hx] at hself
  rw [turn_bit _ x b a hm hx2 hb hself]
  have hF := foldl_turn (gamesL l.length l) ⟨b, hb⟩ a (List.replicate l.length 0) (by simp)
  rw [any_games] at hF
  have hz : ((List.replicate l.length 0).getD b 0).testBit a = false := by rw [List.getD_eq_getElem?_getD, List.getElem?_eq_getElem (by simpa using hb)]; simp
  have hG : (turnF (gamesL l.length l)).getD b 0 = (turnF (gamesL l.length l))[b] := by rw [List.getD_eq_getElem?_getD, List.getElem?_eq_getElem h1]; rfl
  rw [← hG]
  show ((turnF (gamesL l.length l)).getD b 0).testBit a = _
  rw [show ((turnF (gamesL l.length l)).getD b 0).testBit a = (decide (a < l.length) && bt l a b) from by
    have := hF
    simp only [hz, Bool.false_or] at this
    exact this]
  by_cases ha : a < l.length
  · simp only [ha, decide_true, Bool.true_and]
    by_cases hab : a = b
    · subst hab; rw [h.self ha]; simp
    · rw [h.other ha hb hab, bt_nat a hx]; simp [hab]
  · simp [ha]

theorem turnR_ok {n : Int} {l : List Int} (h : okB n l = true) : turnR n l = (turnS l).map Int.ofNat ∧ turnN n l = n := by
  unfold turnR turnN
  rw [h, ← turn_eq (okB_iff.1 h)]
  exact ⟨rfl, rfl⟩
theorem turnR_le (n : Int) (l : List Int) : (turnR n l).length ≤ 8 := by
  cases h : okB n l
  · unfold turnR; rw [h]; simp
  · rw [(turnR_ok h).1]
    have hk := okB_iff.1 h
    have := hk.2.1
    have := hk.2.2.1
    simp [turnS]
    omega

set_option maxHeartbeats 1000000 in
theorem specTurn (n : Int) (a : Option Addr) (l : List Int) (cap : Nat) (w : World) (hrow : IntRow w a l) (hl : l.length ≤ maxLen) :
    Calls Try.prog 28 #[.agg #[.int .i64 n, .slice a l.length cap]] w fun e w' => (∃ a0 c0, e = .returned (.tuple #[.agg #[.int .i64 (turnN n l), .slice a0 (turnR n l).length c0], .bool (okB n l)]) ∧ w'.ownsRow w.heap.size 3 1 (.slice a0 (turnR n l).length c0) (turnR n l).length ((turnR n l).map iv)) ∧ Below w.heap.size w w' := by
  cases hok : okB n l
  case true => 
    refine (specTurn_ok n a l cap w hrow hl hok).mono fun e w' ⟨⟨a0, c0, he, ho⟩, hb⟩ => ⟨⟨a0, c0, ?_, ?_⟩, hb⟩
    · rw [he, (turnR_ok hok).1, (turnR_ok hok).2]; simp
    · rw [(turnR_ok hok).1, ← nv_iv]; simpa using ho
  have HE : Hid (okB n l = false) := hok
  clear hok
  obtain ⟨Wb, hWb⟩ : ∃ Wb, Wb = w.alloc (.cells #[.int .i64 n, .slice a l.length cap] 27) := ⟨_, rfl⟩
  obtain ⟨Wa, hWa⟩ : ∃ Wa, Wa = Wb.alloc (.cells #[.int .i64 0, .slice none 0 0] 27) := ⟨_, rfl⟩
  have sb : Wb.heap.size = w.heap.size + 1 := by rw [hWb]; simp
  have sa : Wa.heap.size = w.heap.size + 1 + 1 := by rw [hWa]; simp [sb]
  have hbb : Below w.heap.size w Wb := by rw [hWb]; exact (Below.refl _ _).alloc (Nat.le_refl _) _
  have hba : Below w.heap.size w Wa := by rw [hWa]; exact hbb.alloc hbb.size _
  have xt : Box Wa w.heap.size 27 (.int .i64 n) (.slice a l.length cap) := by
    rw [hWa]; exact (show Box Wb w.heap.size 27 (.int .i64 n) (.slice a l.length cap) by rw [hWb]; exact Box.new _ _ _ _).below ((Below.refl Wb.heap.size Wb).alloc (Nat.le_refl _) _) (by omega)
  have xr : Box Wa (w.heap.size + 1) 27 (.int .i64 0) (.slice none 0 0) := by rw [hWa, ← sb]; exact Box.new _ _ _ _
  have HWa : Hid (Wa = (w.alloc (.cells #[.int .i64 n, .slice a l.length cap] 27)).alloc (.cells #[.int .i64 0, .slice none 0 0] 27)) := by rw [hWa, hWb]; exact rfl
  have hrowa : IntRow Wa a l := hrow.below hba (Nat.le_refl _)
  have HL := Lib.hid hl
  clear hl hrow hWa hWb hbb
  go_enter Try.func28, Try.ntmps28
  go_wp2_with fail
  rw [← HWa.out]
  refine (specTourOk n a l cap Wa hrowa HL.out).mono ?_
  rintro e w1 ⟨rfl, hb1⟩
  rw [HE.out]
  have B1 := hba.trans (hb1.mono hba.size)
  have xr1 := xr.below hb1 xr.lt
  clear xr xt hrowa
  have c0 := xr1.c0
  have c1 := xr1.c1
  have f0 := xr1.f0
  have f1 := xr1.f1
  have X := Lib.hid xr1
  have BB := Lib.hid (B1)
  clear xr1
  go_wp2
  refine bodyPost_ret (v := .tuple #[.agg #[.int .i64 0, .slice none 0 0], .bool false]) (Box.res2 rfl _ rfl rfl ((X.out.set0 _).set1 _)) rfl ?_
  refine ⟨⟨none, 0, ?_, ?_⟩, ?_⟩
  · unfold turnN turnR; rw [HE.out]; rfl
  · unfold turnR; rw [HE.out]; exact World.ownsRow_nil _ _ _ _
  · exact (BB.out.setCell (p := ⟨w.heap.size + 1, 0, none⟩) (Nat.le_succ _) _).setCell (p := ⟨w.heap.size + 1, 1, none⟩) (Nat.le_succ _) _

set_option maxHeartbeats 1000000 in
theorem implTurn (n : Int) (a : Option Addr) (l : List Int) (cap : Nat) (w : World) (hrow : IntRow w a l) (hl : l.length ≤ maxLen) :
    Calls Try.prog 29 #[.agg #[.int .i64 n, .slice a l.length cap]] w fun e w' => (∃ a0 c0, e = .returned (.tuple #[.agg #[.int .i64 (turnN n l), .slice a0 (turnR n l).length c0], .bool (okB n l)]) ∧ w'.ownsRow w.heap.size 3 1 (.slice a0 (turnR n l).length c0) (turnR n l).length ((turnR n l).map iv)) ∧ Below w.heap.size w w' := by
  cases hok : okB n l
  case true => exact implTurn_ok n a l cap w hrow hl hok
  have HE : Hid (okB n l = false) := hok
  clear hok
  obtain ⟨Wb, hWb⟩ : ∃ Wb, Wb = w.alloc (.cells #[.int .i64 n, .slice a l.length cap] 27) := ⟨_, rfl⟩
  obtain ⟨Wa, hWa⟩ : ∃ Wa, Wa = Wb.alloc (.cells #[.int .i64 0, .slice none 0 0] 27) := ⟨_, rfl⟩
  have sb : Wb.heap.size = w.heap.size + 1 := by rw [hWb]; simp
  have sa : Wa.heap.size = w.heap.size + 1 + 1 := by rw [hWa]; simp [sb]
  have hbb : Below w.heap.size w Wb := by rw [hWb]; exact (Below.refl _ _).alloc (Nat.le_refl _) _
  have hba : Below w.heap.size w Wa := by rw [hWa]; exact hbb.alloc hbb.size _
  have xt : Box Wa w.heap.size 27 (.int .i64 n) (.slice a l.length cap) := by
    rw [hWa]; exact (show Box Wb w.heap.size 27 (.int .i64 n) (.slice a l.length cap) by rw [hWb]; exact Box.new _ _ _ _).below ((Below.refl Wb.heap.size Wb).alloc (Nat.le_refl _) _) (by omega)
  have xr : Box Wa (w.heap.size + 1) 27 (.int .i64 0) (.slice none 0 0) := by rw [hWa, ← sb]; exact Box.new _ _ _ _
  have HWa : Hid (Wa = (w.alloc (.cells #[.int .i64 n, .slice a l.length cap] 27)).alloc (.cells #[.int .i64 0, .slice none 0 0] 27)) := by rw [hWa, hWb]; exact rfl
  have hrowa : IntRow Wa a l := hrow.below hba (Nat.le_refl _)
  have HL := Lib.hid hl
  clear hl hrow hWa hWb hbb
  go_enter Try.func29, Try.ntmps29
  go_wp2_with fail
  rw [← HWa.out]
  refine (implTourOk n a l cap Wa hrowa HL.out).mono ?_
  rintro e w1 ⟨rfl, hb1⟩
  rw [HE.out]
  have B1 := hba.trans (hb1.mono hba.size)
  have xr1 := xr.below hb1 xr.lt
  clear xr xt hrowa
  have c0 := xr1.c0
  have c1 := xr1.c1
  have f0 := xr1.f0
  have f1 := xr1.f1
  have X := Lib.hid xr1
  have BB := Lib.hid (B1)
  clear xr1
  go_wp2
  refine bodyPost_ret (v := .tuple #[.agg #[.int .i64 0, .slice none 0 0], .bool false]) (Box.res2 rfl _ rfl rfl ((X.out.set0 _).set1 _)) rfl ?_
  refine ⟨⟨none, 0, ?_, ?_⟩, ?_⟩
  · unfold turnN turnR; rw [HE.out]; rfl
  · unfold turnR; rw [HE.out]; exact World.ownsRow_nil _ _ _ _
  · exact (BB.out.setCell (p := ⟨w.heap.size + 1, 0, none⟩) (Nat.le_succ _) _).setCell (p := ⟨w.heap.size + 1, 1, none⟩) (Nat.le_succ _) _

set_option maxHeartbeats 1000000 in
theorem walkTurnTour (n : Int) (a : Option Addr) (cap : Nat) (l : List Int) (w : World) (hl : l.length ≤ maxLen) (hrow : IntRow w a l) :
    Calls Try.prog 7 #[.agg #[.int .i64 n, .slice a l.length cap]] w fun e w' => e = .returned (.bool true) ∧ Below w.heap.size w w' := by
  have HL := Lib.hid hl
  by_cases hbig : (1048576 : Int) < l.length
  · have HS : Hid (szR 1048576 l = -1) := if_pos hbig
    clear hl
    go_enter Try.func7, Try.ntmps7
    go_wp2_with fail
    refine (szT n a cap l 1048576 _ HL.out (by omega) (by omega)).mono ?_
    rintro e w1 ⟨rfl, hb⟩
    rw [HS.out]
    go_wp2
    go_ret
    exact ⟨rfl, (((Below.refl _ _).alloc (Nat.le_refl _) _).trans (hb.mono (by simp)))⟩
  · have HS : Hid (szR 1048576 l = 1048576 - l.length) := if_neg hbig
    have hl20 : l.length ≤ 1048576 := by omega
    have hsz0 : ¬ (1048576 : Int) - l.length < 0 := by omega
    have hRl := turnR_le n l
    obtain ⟨R, hR⟩ : ∃ R : List Int, R = turnR n l := ⟨_, rfl⟩
    obtain ⟨rn, hrn⟩ : ∃ rn : Int, rn = turnN n l := ⟨_, rfl⟩
    obtain ⟨rb, hrb⟩ : ∃ rb : Bool, rb = okB n l := ⟨_, rfl⟩
    have CS : ∀ (a : Option Addr) (cap : Nat) (W : World), IntRow W a l → Calls Try.prog 28 #[.agg #[.int .i64 n, .slice a l.length cap]] W fun e w' => (∃ a0 c0, e = .returned (.tuple #[.agg #[.int .i64 rn, .slice a0 R.length c0], .bool rb]) ∧ w'.ownsRow W.heap.size 3 1 (.slice a0 R.length c0) R.length (R.map iv)) ∧ Below W.heap.size W w' := by
      intro a cap W hr
      have := specTurn n a l cap W hr HL.out
      rw [← hR, ← hrn, ← hrb] at this
      exact this
    have CI : ∀ (a : Option Addr) (cap : Nat) (W : World), IntRow W a l → Calls Try.prog 29 #[.agg #[.int .i64 n, .slice a l.length cap]] W fun e w' => (∃ a0 c0, e = .returned (.tuple #[.agg #[.int .i64 rn, .slice a0 R.length c0], .bool rb]) ∧ w'.ownsRow W.heap.size 3 1 (.slice a0 R.length c0) R.length (R.map iv)) ∧ Below W.heap.size W w' := by
      intro a cap W hr
      have := implTurn n a l cap W hr HL.out
      rw [← hR, ← hrn, ← hrb] at this
      exact this
    rw [← hR] at hRl
    have hRm : R.length ≤ maxLen := by unfold maxLen; omega
    have HRM := Lib.hid hRm
    have HCS := Lib.hid CS
    have HCI := Lib.hid CI
    obtain ⟨Wa, hWa⟩ : ∃ Wa, Wa = w.alloc (.cells #[.int .i64 n, .slice a l.length cap] 24) := ⟨_, rfl⟩
    have HWa := Lib.hid hWa
    have hba : Below w.heap.size w Wa := by rw [hWa]; exact (Below.refl _ _).alloc (Nat.le_refl _) _
    have sa : Wa.heap.size = w.heap.size + 1 := by rw [hWa]; simp
    have xa : Box Wa w.heap.size 24 (.int .i64 n) (.slice a l.length cap) := by rw [hWa]; exact Box.new _ _ _ _
    have hrowa : IntRow Wa a l := hrow.below hba (Nat.le_refl _)
    clear hl hWa hbig CS CI hR hRm hrn hrb
    go_enter Try.func7, Try.ntmps7
    go_wp2_with fail
    rw [← HWa.out]
    refine (szT n a cap l 1048576 Wa HL.out (by omega) (by omega)).mono ?_
    rintro e w1 ⟨rfl, hb1⟩
    rw [HS.out]
    have xa1 := xa.below hb1 xa.lt
    have c0 := xa1.c0
    have c1 := xa1.c1
    have hrow1 := hrowa.below hb1 (Nat.le_refl _)
    go_wp2_with fail
    refine (toT n a cap l w1 hl20 hrow1).mono ?_
    rintro e w2 ⟨⟨g2, rfl, ho2⟩, hb2⟩
    go_wp2_with fail
    refine (HCS.out _ _ w2 (IntRow.of_own ho2)).mono ?_
    rintro e w3 ⟨⟨a0, ca0, rfl, ho3⟩, hb3⟩
    obtain ⟨W3, hW3⟩ : ∃ W3, W3 = w3.alloc (.cells #[.int .i64 rn, .slice a0 R.length ca0] 27) := ⟨_, rfl⟩
    have HW3 := Lib.hid hW3
    have hbW3 : Below w3.heap.size w3 W3 := by rw [hW3]; exact (Below.refl _ _).alloc (Nat.le_refl _) _
    have s3 : W3.heap.size = w3.heap.size + 1 := by rw [hW3]; simp
    have xp0 : Box W3 w3.heap.size 27 (.int .i64 rn) (.slice a0 R.length ca0) := by rw [hW3]; exact Box.new _ _ _ _
    clear hW3
    have xa3w := (xa1.below hb2 xa1.lt).below hb3 (Nat.lt_of_lt_of_le xa1.lt hb2.size)
    have xa3 := xa3w.below hbW3 xa3w.lt
    have hrow3 := ((hrow1.below hb2 (Nat.le_refl _)).below hb3 (Nat.le_refl _)).below hbW3 (Nat.le_refl _)
    clear c0 c1 ho2
    have c0 := xa3.c0
    have c1 := xa3.c1
    rw [HW3.out] at c0 c1
    go_wp2_with fail
    rw [← HW3.out]
    refine (toT n a cap l W3 hl20 hrow3).mono ?_
    rintro e w4 ⟨⟨g4, rfl, ho4⟩, hb4⟩
    obtain ⟨W4, hW4⟩ : ∃ W4, W4 = w4.alloc (.cells #[.int .i64 n, .slice (some ⟨g4, 0, none⟩) l.length l.length] 27) := ⟨_, rfl⟩
    have HW4 := Lib.hid hW4
    have hbW4 : Below w4.heap.size w4 W4 := by rw [hW4]; exact (Below.refl _ _).alloc (Nat.le_refl _) _
    have s4 : W4.heap.size = w4.heap.size + 1 := by rw [hW4]; simp
    have xx : Box W4 w4.heap.size 27 (.int .i64 n) (.slice (some ⟨g4, 0, none⟩) l.length l.length) := by rw [hW4]; exact Box.new _ _ _ _
    have hx4 := (IntRow.of_own ho4).below hbW4 (Nat.le_refl _)
    clear hW4 c0 c1
    go_wp2_with fail
    rw [← HW4.out]
    refine (HCI.out _ _ W4 hx4).mono ?_
    rintro e w5 ⟨⟨ag, cg, rfl, ho5⟩, hb5⟩
    obtain ⟨W5, hW5⟩ : ∃ W5, W5 = w5.alloc (.cells #[.int .i64 rn, .slice ag R.length cg] 27) := ⟨_, rfl⟩
    have HW5 := Lib.hid hW5
    have hbW5 : Below w5.heap.size w5 W5 := by rw [hW5]; exact (Below.refl _ _).alloc (Nat.le_refl _) _
    have xpg : Box W5 w5.heap.size 27 (.int .i64 rn) (.slice ag R.length cg) := by rw [hW5]; exact Box.new _ _ _ _
    clear hW5
    have t1 := hb1.size
    have t2 := hb2.size
    have t3 := hb3.size
    have t4 := hb4.size
    have t5 := hb5.size
    have t6 := hbW5.size
    have B1 := hba.trans (hb1.mono hba.size)
    have B2 := B1.trans (hb2.mono B1.size)
    have B3 := B2.trans (hb3.mono B2.size)
    have B4 := B3.trans (hbW3.mono B3.size)
    have B5 := B4.trans (hb4.mono B4.size)
    have B6 := B5.trans (hbW4.mono B5.size)
    have B7 := B6.trans (hb5.mono B6.size)
    have B8 := B7.trans (hbW5.mono B7.size)
    have st : St w W5 w.heap.size n a cap l w4.heap.size (some ⟨g4, 0, none⟩) l.length l a0 ca0 R ag cg R := by
      refine ⟨B8, hrow, ?_, ?_, ?_, ?_, ?_, ?_, ?_⟩
      · exact (((xa3.below hb4 xa3.lt).below hbW4 (Nat.lt_of_lt_of_le xa3.lt t4)).below hb5 (by omega)).below hbW5 (by omega)
      · exact (xx.below hb5 xx.lt).below hbW5 (by omega)
      · exact (own_below (own_below (own_below ho4 hbW4) hb5) hbW5).mono B4.size
      · exact (own_below (own_below (own_below (own_below (own_below ho3 hbW3) hb4) hbW4) hb5) hbW5).mono B2.size
      · exact (own_below ho5 hbW5).mono B6.size
      · intro k hk
        have h4 := own_blk ho4 hk
        refine ⟨by omega, by omega, fun e => ?_, fun e => ?_⟩
        · have := own_blk ho3 e; omega
        · have := own_blk ho5 e; omega
      · intro k hk
        have h5 := own_blk ho5 hk
        refine ⟨by omega, by omega, fun e => ?_, fun e => ?_⟩
        · have := own_blk ho3 e; omega
        · have := own_blk ho4 e; omega
    have y0 := ((xp0.below hb4 xp0.lt).below hbW4 (by omega)).below hb5 (by omega)
    have bs : Bs W5 w3.heap.size w5.heap.size rn a0 ca0 R.length ag cg R.length (some ⟨g4, 0, none⟩) := by
      refine ⟨(((xp0.below hb4 xp0.lt).below hbW4 (by omega)).below hb5 (by omega)).below hbW5 (by omega), xpg, ?_⟩
      intro k hk
      rcases hk with hk | hk
      · have := own_blk ho4 hk; omega
      · have := own_blk ho5 hk; omega
    clear xa3w B1 B2 B3 B4 B5 B6 B7 B8 t1 t2 t3 t4 t5 t6 xa xa1 xa3 xx hrowa hrow1 hrow3 hx4 ho3 ho4 ho5 hba hb1 hb2 hb3 hbW3 hb4 hbW4 hb5 hbW5 sa s3 s4 xp0 xpg
    have S5 := Lib.hid st
    have B5 := Lib.hid bs
    clear bs
    have e0 := B5.out.b0.c0
    have e1 := B5.out.b0.c1
    rw [HW5.out] at e0 e1
    clear y0
    clear st
    go_wp2_with fail
    rw [← HW5.out]
    refine (eqT_same rn _ _ _ _ R W5 HRM.out (own_int S5.out.rg) (own_int S5.out.r0)).mono ?_
    rintro e w6 ⟨rfl, hb6⟩
    have S6 := Lib.hid (S5.out.kept hb6)
    have B6 := Lib.hid (B5.out.kept hb6)
    clear e0 e1
    clear hb6
    have c0 := S6.out.bA.c0
    have c1 := S6.out.bA.c1
    have d0 := S6.out.bx.c0
    have d1 := S6.out.bx.c1
    go_wp2
    go_region_with (first
      | (go_at_call 15; refine (toT n a cap l w6.drew hl20 S6.out.rA).mono ?_; rintro e w7 ⟨⟨g7, rfl, ho7⟩, hbq⟩; have hb7 : Below w6.heap.size w6 w7 := (Below.refl _ w6).drew.trans hbq; have S7 := Lib.hid (S6.out.kept hb7); have hy7 := IntRow.of_own ho7; have d0 := S7.out.bx.c0; have d1 := S7.out.bx.c1; clear ho7 hbq)
      | (go_at_call 17; refine (eqT_same n _ _ _ _ l _ HL.out (own_int S7.out.rx) hy7).mono ?_; rintro e w8 ⟨rfl, hb8⟩))
    all_goals
      have S8 := Lib.hid (S7.out.kept hb8)
      have B8 := Lib.hid ((B6.out.kept hb7).kept hb8)
      clear hb7 hb8 c0 c1 d0 d1
      try clear hy7
      have d0 := S8.out.bx.c0
      have d1 := S8.out.bx.c1
      go_wp2_with fail
      refine (markT1 n w.heap.size l.length (some ⟨g4, 0, none⟩) l.length (l.map iv) w8 (by omega) S8.out.hb.size S8.out.rx).mono ?_
      rintro e w9 ⟨rfl, ho9, hb9, hg9⟩
      have S9 := Lib.hid (S8.out.markX (X' := marks 1 l.length) (marks_len 1 _) ho9 hb9 hg9)
      have B9 := Lib.hid (B8.out.grown hg9 (.inl rfl))
      clear d0 d1 ho9 hb9 hg9
      have e0 := B9.out.b0.c0
      have e1 := B9.out.b0.c1
      have e2 := B9.out.bg.c0
      have e3 := B9.out.bg.c1
      go_wp2_with fail
      refine (eqT_same rn _ _ _ _ R w9 HRM.out (own_int S9.out.rg) (own_int S9.out.r0)).mono ?_
      rintro e w10 ⟨rfl, hb10⟩
      have S10 := Lib.hid (S9.out.kept hb10)
      have B10 := Lib.hid (B9.out.kept hb10)
      clear e0 e1 e2 e3
      clear hb10
      have e2 := B10.out.bg.c0
      have e3 := B10.out.bg.c1
      go_wp2_with fail
      refine (markT1 rn w.heap.size R.length ag cg (R.map iv) w10 (by omega) S10.out.hb.size S10.out.rg).mono ?_
      rintro e w11 ⟨rfl, ho11, hb11, hg11⟩
      have S11 := Lib.hid (S10.out.markG (G' := marks 1 R.length) (marks_len 1 _) ho11 hb11 hg11)
      have hG : Hid ((marks 1 R.length).length = R.length) := marks_len 1 _
      have B11 := Lib.hid (B10.out.grown hg11 (.inr rfl))
      clear e2 e3
      clear ho11 hb11 hg11
      have e2 := B11.out.bg.c0
      have e3 := B11.out.bg.c1
      go_wp2_with fail
      refine (heldT1 rn w.heap.size R.length ag cg w11 (by omega) (by have := S11.out.rg; rw [hG.out] at this; exact this)).mono ?_
      rintro e w12 ⟨rfl, hb12⟩
      have S12 := Lib.hid (S11.out.kept hb12)
      have B12 := Lib.hid (B11.out.kept hb12)
      clear e2 e3
      clear hb12
      have c0 := S12.out.bA.c0
      have c1 := S12.out.bA.c1
      go_wp2_with fail
      refine (toT n a cap l w12 hl20 S12.out.rA).mono ?_
      rintro e w13 ⟨⟨g13, rfl, ho13⟩, hb13⟩
      have S13 := Lib.hid (S12.out.kept hb13)
      have B13 := Lib.hid (B12.out.kept hb13)
      clear c0 c1 hb13
      go_wp2_with fail
      refine (HCI.out _ _ w13 (IntRow.of_own ho13)).mono ?_
      rintro e w14 ⟨⟨ah, ch, rfl, ho14⟩, hb14⟩
      have S14 := Lib.hid (S13.out.kept hb14)
      have B14 := Lib.hid (B13.out.kept hb14)
      obtain ⟨W14, hW14⟩ : ∃ W14, W14 = w14.alloc (.cells #[.int .i64 rn, .slice ah R.length ch] 27) := ⟨_, rfl⟩
      have HW14 := Lib.hid hW14
      have hbW14 : Below w14.heap.size w14 W14 := by rw [hW14]; exact (Below.refl _ _).alloc (Nat.le_refl _) _
      have xh : Box W14 w14.heap.size 27 (.int .i64 rn) (.slice ah R.length ch) := by rw [hW14]; exact Box.new _ _ _ _
      have hh14 := (own_int ho14).below hbW14 (Nat.le_refl _)
      have S15 := Lib.hid (S14.out.kept hbW14)
      have B15 := Lib.hid (B14.out.kept hbW14)
      have e0 := B15.out.b0.c0
      have e1 := B15.out.b0.c1
      rw [HW14.out] at e0 e1
      clear hW14 hbW14 hb14 ho13 ho14 xh
      go_wp2_with fail
      rw [← HW14.out]
      refine (eqT_same rn _ _ _ _ R W14 HRM.out hh14 (own_int S15.out.r0)).mono ?_
      rintro e w16 ⟨rfl, hb16⟩
      have S16 := Lib.hid (S15.out.kept hb16)
      have B16 := Lib.hid (B15.out.kept hb16)
      clear e0 e1 hb16 hh14
      have e2 := B16.out.bg.c0
      have e3 := B16.out.bg.c1
      go_wp2_with fail
      refine (heldT1 rn w.heap.size R.length ag cg w16 (by omega) (by have := S16.out.rg; rw [hG.out] at this; exact this)).mono ?_
      rintro e w17 ⟨rfl, hb17⟩
      have S17 := Lib.hid (S16.out.kept hb17)
      clear hb17
      go_wp2
      go_ret
      exact ⟨rfl, S17.out.hb⟩


end Go.Proofs.Ytkomhfkkgffmoaa

namespace Go.Proofs.Ytkomhfkkgffmoaa.fnExactTurnTour
open Go.ChangeShapes Go.WideShapes Go.ChangeAt Go.RowKit
open Go.ChangeMaps (open_string shut_string)
set_option linter.unusedVariables false
set_option maxRecDepth 100000 in
theorem lifted (os : Os) (started : os.Started) (H : Type) (enc : TypeId × Value → H) :
    ReturnsInHanded {} Try.checked os 7 .any (Rows.fnExactTurnTourSpec.pre6 enc Try.prog Try.f7 Rows.fnExactTurnTourRow.domain false) (Rows.fnExactTurnTourSpec.post enc Try.prog Try.f7 false true false false) := by
  refine returnsInHanded_of_change (C := Try.checked) own started (by kernel_rfl) Try.func7
    (ChangeSpec.witness6 (enc := enc) (C := Try.checked) false ⟨#[], #[.agg #[.int .i64 0, .slice none 0 0]], []⟩ 8 (by kernel_rfl) (by kernel_rfl) (by kernel_rfl) (by kernel_rfl)) ?_
  intro W base args ds gs before hval0 hW hcnd _
  have hval : ∀ (j : Nat) t v, Try.f7.params[j]? = some t → args[j]? = some v → Value.okWide Try.prog W .any base t v := hval0
  have hW' := hW
  obtain ⟨p, q, hA0, hV, rfl, hfz, hnd⟩ := hW
  have hA : DataW.TrodAll enc Try.prog W 0 (fun _ => true) true Try.f7.params.toList args.toList ds p := hA0
  rw [Try.params7] at hA hval
  obtain ⟨v0, vs0, d0, ds0, p0, q0, hargs, rfl, rfl, h0, r0⟩ := trodAll_cons hA
  obtain ⟨rfl, rfl, rfl⟩ := trodAll_nil r0
  obtain rfl : args = #[v0] := by cases args; simp_all
  obtain ⟨rfl, rfl⟩ := trodVars_none hV
  have k0 := h0
  have lt0 : ∀ x ∈ p0, x.block < W.heap.size := by obtain ⟨m, hm⟩ := k0; exact DataW.trod_lt m _ _ _ hm
  obtain ⟨n0, a0, cap0, l0, rfl, hl0, hr0⟩ := openTour (hval 0 24 v0 rfl rfl) h0
  clear hA0 hval0
  refine (walkTurnTour n0 a0 cap0 l0 W hl0 hr0).mono fun e W' ⟨he, bel⟩ => ?_
  subst he
  exact ⟨_, rfl, _, _, _, [], _, [], hW', trodAll_mk1 (shut_bool Try.underlying4 _), (trodAll_cons_mk (Below.trod laidOut (by kernel_rfl) (of_decide_eq_true (by kernel_rfl)) k0 bel lt0) trodAll_mk0), rfl, bel.frame _, fun h => by cases h⟩

theorem proved : Rows.FnExactTurnTourSaid :=
  OpenClaim.holds_of_wide 7 Try.f7 rfl rfl rfl rfl rfl rfl rfl ⟨rfl, rfl, rfl, rfl, rfl⟩ rfl rfl rfl rfl rfl (by kernel_rfl) Try.func7 (by kernel_rfl)
    (of_decide_eq_true (by kernel_rfl)) (by unfold Func.isWrapper; first | (rw [if_pos (by decide +kernel)]; kernel_rfl) | (rw [if_neg (by decide +kernel)]; exact ⟨rfl, rfl⟩))
    (fun os started H enc _ => lifted os started H enc)
end Go.Proofs.Ytkomhfkkgffmoaa.fnExactTurnTour
