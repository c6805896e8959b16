/-
  'FnExactTurnTour': the program's TurnTour answers as the model's for every tour, leaves it as it was, and shares no memory with it. No conditions.
-/
import Derived.Test.YteiadhfjpohmdaaM
import Derived.Test.YteiadhfjpohmdaaN
namespace Go.Proofs.Yteiadhfjpohmdaa
open Go.ChangeShapes Go.WideShapes Go.ChangeAt Go.RowKit
set_option linter.unusedVariables false

theorem bt_nat {l : List Int} {i x : Nat} (j : Nat) (hx : l.getD i 0 = (x : Int)) : bt l i j = x.testBit j := by unfold bt; rw [hx, bi_nat]
theorem Ok.other {n : Int} {l : List Int} (h : Ok n l) {a b : Nat} (ha : a < l.length) (hb : b < l.length) (hne : a ≠ b) : bt l a b = !bt l b a := by
  rcases Nat.lt_or_gt_of_ne hne with h1 | h1
  · have := (h.2.2.2 b hb).2.2 a h1
    change bt l b a ≠ bt l a b at this
    revert this
    cases bt l a b <;> cases bt l b a <;> simp
  · have := (h.2.2.2 a ha).2.2 b h1
    change bt l a b ≠ bt l b a at this
    revert this
    cases bt l a b <;> cases bt l b a <;> simp
theorem Ok.self {n : Int} {l : List Int} (h : Ok n l) {a : Nat} (ha : a < l.length) : bt l a a = false := (h.2.2.2 a ha).2.1

theorem mem_games (m : Nat) (l : List Int) (x : Pl m) : x ∈ gamesL m l ↔ bt l x.1.val x.2.val = true := by
  unfold gamesL gamesTo
  rw [List.take_of_length_le (by simp)]
  simp only [List.mem_flatMap, rowG, losers, List.mem_map, List.mem_filter]
  constructor
  · rintro ⟨a, _, b, ⟨_, hb⟩, rfl⟩; exact hb
  · intro h; exact ⟨x.1, List.mem_finRange _, x.2, ⟨List.mem_finRange _, h⟩, rfl⟩

theorem turnStep_len {m : Nat} (ys : List Nat) (x : Pl m) : (turnStep ys x).length = ys.length := by simp [turnStep]
theorem foldl_turn_len {m : Nat} (L : List (Pl m)) : ∀ ys : List Nat, (L.foldl turnStep ys).length = ys.length := by
  induction L with
  | nil => intro ys; rfl
  | cons x L ih => intro ys; rw [List.foldl_cons, ih, turnStep_len]
theorem foldl_turn {m : Nat} (L : List (Pl m)) (b : Fin m) (a : Nat) : ∀ ys : List Nat, ys.length = m → ((L.foldl turnStep ys).getD b.val 0).testBit a = ((ys.getD b.val 0).testBit a || L.any fun x => decide (x.2 = b) && decide (x.1.val = a)) := by
  induction L with
  | nil => intro ys _; simp
  | cons x L ih =>
    intro ys hy
    rw [List.foldl_cons, ih _ (by rw [turnStep_len]; exact hy), List.any_cons, ← Bool.or_assoc]
    congr 1
    unfold turnStep
    by_cases e : x.2 = b
    · subst e
      rw [List.getD_eq_getElem?_getD, List.getElem?_set_self (by rw [hy]; exact x.2.isLt)]
      simp only [Option.getD_some, Nat.testBit_or, Nat.testBit_two_pow, decide_true, Bool.true_and]
    · have hv : x.2.val ≠ b.val := fun h => e (Fin.ext h)
      rw [List.getD_eq_getElem?_getD, List.getElem?_set_ne hv, ← List.getD_eq_getElem?_getD]
      simp [e]
theorem any_games (m : Nat) (l : List Int) (b : Fin m) (a : Nat) : ((gamesL m l).any fun x => decide (x.2 = b) && decide (x.1.val = a)) = (decide (a < m) && bt l a b.val) := by
  by_cases ha : a < m
  · rw [Bool.eq_iff_iff]
    simp only [List.any_eq_true, Bool.and_eq_true, decide_eq_true_eq]
    constructor
    · rintro ⟨x, hx, rfl, rfl⟩; exact ⟨ha, (mem_games m l x).1 hx⟩
    · rintro ⟨_, h⟩; exact ⟨(⟨a, ha⟩, b), (mem_games m l _).2 h, rfl, rfl⟩
  · rw [Bool.eq_iff_iff]
    simp only [List.any_eq_true, Bool.and_eq_true, decide_eq_true_eq]
    constructor
    · rintro ⟨x, _, _, h⟩; exact absurd x.1.isLt (by omega)
    · rintro ⟨h, _⟩; exact absurd h ha
theorem turn_bit (m x b a : Nat) (hm : m ≤ 8) (hx : x < 2 ^ m) (hb : b < m) (hs : x.testBit b = false) : (2 ^ m - 1 - x - 2 ^ b).testBit a = (decide (a < m) && (!x.testBit a && decide (a ≠ b))) := by
  have hx8 : x < 256 := Nat.lt_of_lt_of_le hx (pow_le m hm)
  have e : 2 ^ m - 1 - x - 2 ^ b = 2 ^ m - ((x ||| 2 ^ b) + 1) := by rw [← add_or x b hx8 (by omega) hs]; omega
  have hlt : x ||| 2 ^ b < 2 ^ m := by rw [← add_or x b hx8 (by omega) hs]; exact add_lt m x b hm hx hb hs
  rw [e, Nat.testBit_two_pow_sub_succ hlt, Nat.testBit_or, Nat.testBit_two_pow]
  by_cases hab : a = b
  · subst hab; simp
  · have : ¬ b = a := fun h => hab h.symm
    simp [hab, this]
theorem turn_eq {n : Int} {l : List Int} (h : Ok n l) : turnF (gamesL l.length l) = turnS l := by
  have hm : l.length ≤ 8 := by have := h.2.1; have := h.2.2.1; omega
  have hlen : (turnF (gamesL l.length l)).length = l.length := by unfold turnF; rw [foldl_turn_len]; simp
  apply List.ext_getElem
  · rw [hlen, turnS_len]
  intro b h1 h2
  have hb : b < l.length := by omega
  obtain ⟨x, hx, hx2, hx8⟩ := h.nat hb
  have hR : (turnS l)[b] = 2 ^ l.length - 1 - x - 2 ^ b := by
    have := turnS_at l b x hb hx
    rw [List.getElem?_eq_getElem h2] at this
    exact Option.some.inj this
  rw [hR]
  apply Nat.eq_of_testBit_eq
  intro a
  have hself := h.self hb
  rw [bt_nat b hx] at hself
  rw [turn_bit _ x b a hm hx2 hb hself]
  have hF := foldl_turn (gamesL l.length l) ⟨b, hb⟩ a (List.replicate l.length 0) (by simp)
  rw [any_games] at hF
  have hz : ((List.replicate l.length 0).getD b 0).testBit a = false := by rw [List.getD_eq_getElem?_getD, List.getElem?_eq_getElem (by simpa using hb)]; simp
  have hG : (turnF (gamesL l.length l)).getD b 0 = (turnF (gamesL l.length l))[b] := by rw [List.getD_eq_getElem?_getD, List.getElem?_eq_getElem h1]; rfl
  rw [← hG]
  show ((turnF (gamesL l.length l)).getD b 0).testBit a = _
  rw [show ((turnF (gamesL l.length l)).getD b 0).testBit a = (decide (a < l.length) && bt l a b) from by
    have := hF
    simp only [hz, Bool.false_or] at this
    exact this]
  by_cases ha : a < l.length
  · simp only [ha, decide_true, Bool.true_and]
    by_cases hab : a = b
    · subst hab; rw [h.self ha]; simp
    · rw [h.other ha hb hab, bt_nat a hx]; simp [hab]
  · simp [ha]

theorem turnR_ok {n : Int} {l : List Int} (h : okB n l = true) : turnR n l = (turnS l).map Int.ofNat ∧ turnN n l = n := by
  unfold turnR turnN
  rw [h, ← turn_eq (okB_iff.1 h)]
  exact ⟨rfl, rfl⟩
theorem turnR_le (n : Int) (l : List Int) : (turnR n l).length ≤ 8 := by
  cases h : okB n l
  · unfold turnR; rw [h]; simp
  · rw [(turnR_ok h).1]
    have hk := okB_iff.1 h
    have := hk.2.1
    have := hk.2.2.1
    simp [turnS]
    omega

end Go.Proofs.Yteiadhfjpohmdaa


