/-
  Chapter 3's tests on both sides: 'hasElement', 'isSetOf', 'hasPlayer', 'beats', 'l01In', 'l02Beats', both 'TourOk'. No conditions but the bounds that Go gives a slice.
-/
import Derived.Test.YteiadhfjpohmdaaRows
import Derived.WalkKit
import Derived.ProofKit
import Derived.OpenShut
import Derived.ChangeOld
import Derived.Below
import Derived.Lib.Hide
import Derived.Lib.QuietBelow
import Derived.BigQuiet
import Derived.Carry
namespace Go.Proofs.Yteiadhfjpohmdaa
open Go.ChangeShapes Go.WideShapes Go.ChangeAt Go.RowKit
set_option linter.unusedVariables false

theorem own : ownKnob Try.prog.godebug = none := by kernel_rfl
theorem laidOut : laidOutB Try.prog = true := by kernel_rfl

theorem andOne (z : Int) : bits .and .i64 z 1 = z % 2 := by
  have h1 : (BitVec.ofInt 64 1).toNat = 2 ^ 1 - 1 := by decide
  have key : (BitVec.ofInt 64 z &&& BitVec.ofInt 64 1).toNat = (z % ((2 ^ 64 : Nat) : Int)).toNat % 2 ^ 1 := by
    rw [BitVec.toNat_and, BitVec.toNat_ofInt, h1, Nat.and_two_pow_sub_one_eq_mod]
  show IntKind.i64.wrap ((BitVec.ofInt 64 z &&& BitVec.ofInt 64 1).toNat : Nat) = z % 2
  rw [key, IntKind.wrap_i64]
  omega

/-- Whether a set has an element, as Go reckons it. -/
def bi (x : Int) (k : Nat) : Bool := bits .and .i64 (x / 2 ^ k) 1 == 1
theorem bi_nat (x k : Nat) : bi (x : Int) k = x.testBit k := by
  unfold bi
  rw [andOne, Nat.testBit_eq_decide_div_mod_eq]
  have : ((x : Int) / 2 ^ k % 2) = ((x / 2 ^ k % 2 : Nat) : Int) := by
    rw [Int.natCast_emod, Int.natCast_ediv]; simp
  rw [this]
  by_cases h : x / 2 ^ k % 2 = 1
  · rw [h]; rfl
  · have h0 : x / 2 ^ k % 2 = 0 := by omega
    rw [h0]; rfl
/-- The number that Go compares, by its bit. -/
theorem bi_num (x : Int) (k : Nat) : bits .and .i64 (x / 2 ^ k) 1 = if bi x k then 1 else 0 := by
  unfold bi
  rw [andOne]
  have h := Int.emod_two_eq (x / 2 ^ k)
  rcases h with h | h <;> rw [h] <;> rfl

theorem hasElement_any (x : Int) (k : Nat) (w : World) (hk : k < 64) : Calls Try.prog 80 #[.int .i64 x, .int .i64 k] w fun e w' => e = .returned (.bool (bi x k)) ∧ w = w' := by
  go_enter Try.func80, Try.ntmps80
  go_wp2
  go_ret
  exact ⟨rfl, rfl⟩

theorem wrapPow (k : Nat) (h : k ≤ 8) : wrap64 (2 ^ k) = ((2 ^ k : Nat) : Int) := by
  have : ∀ k : Fin 9, wrap64 (2 ^ k.val) = ((2 ^ k.val : Nat) : Int) := by decide +kernel
  exact this ⟨k, by omega⟩
theorem pow_le (k : Nat) (h : k ≤ 8) : 2 ^ k ≤ 256 := by
  have : ∀ k : Fin 9, 2 ^ k.val ≤ 256 := by decide
  exact this ⟨k, by omega⟩

def inSet (x : Int) (k : Nat) : Bool := decide (0 ≤ x) && decide (x < (2 ^ k : Nat))
theorem isSetOf_any (x : Int) (k : Nat) (w : World) (hk : k ≤ 8) : Calls Try.prog 136 #[.int .i64 x, .int .i64 k] w fun e w' => e = .returned (.bool (inSet x k)) ∧ w = w' := by
  have hw := wrapPow k hk
  by_cases h0 : 0 ≤ x
  · have HE : Hid (inSet x k = decide (x < wrap64 (2 ^ k))) := by simp [Hid, inSet, h0, hw]
    clear hw
    go_enter Try.func136, Try.ntmps136
    go_wp2
    go_ret
    exact ⟨by rw [HE.out]; rfl, rfl⟩
  · have HE : Hid (inSet x k = false) := by simp [Hid, inSet, h0]
    clear hw
    go_enter Try.func136, Try.ntmps136
    go_wp2
    go_ret
    exact ⟨by rw [HE.out]; rfl, rfl⟩

/-- A slice of numbers that can be read. -/
def IntRow (w : World) (a : Option Addr) (l : List Int) : Prop := l = [] ∨ ∃ b off, a = some ⟨b, off, none⟩ ∧ b < w.heap.size ∧ ∀ j, j < l.length → w.cell? ⟨b, off + j, none⟩ = some (.int .i64 (l.getD j 0))
theorem IntRow.below {w w' : World} {a : Option Addr} {l : List Int} {B : Nat} (h : IntRow w a l) (hb : Below B w w') (hB : w.heap.size ≤ B) : IntRow w' a l := by
  rcases h with h | ⟨b, off, rfl, hl, hc⟩
  · exact .inl h
  · exact .inr ⟨b, off, rfl, Nat.lt_of_lt_of_le hl hb.size, fun j hj => (hb.cell (p := ⟨b, off + j, none⟩) (Nat.lt_of_lt_of_le hl hB)).trans (hc j hj)⟩
theorem IntRow.at {w : World} {a : Option Addr} {l : List Int} (h : IntRow w a l) {k : Nat} (hk : k < l.length) : ∃ b off, a = some ⟨b, off, none⟩ ∧ b < w.heap.size ∧ w.cell? ⟨b, off + k, none⟩ = some (.int .i64 (l.getD k 0)) := by
  rcases h with h | ⟨b, off, rfl, hl, hc⟩
  · rw [h] at hk; exact absurd hk (Nat.not_lt_zero _)
  · exact ⟨b, off, rfl, hl, hc k hk⟩

theorem hasPlayer_any (n : Int) (a : Option Addr) (len cap : Nat) (k : Int) (w : World) : Calls Try.prog 111 #[.agg #[.int .i64 n, .slice a len cap], .int .i64 k] w fun e w' => e = .returned (.bool (decide (0 ≤ k) && decide (k < n))) ∧ Below w.heap.size w w' := by
  by_cases h0 : 0 ≤ k
  · go_enter Try.func111, Try.ntmps111
    go_wp2
    go_ret
    exact ⟨by simp [h0], (Below.refl _ _).alloc (Nat.le_refl _) _⟩
  · go_enter Try.func111, Try.ntmps111
    go_wp2
    go_ret
    exact ⟨by rw [decide_eq_false (Int.not_le.2 h0)]; rfl, (Below.refl _ _).alloc (Nat.le_refl _) _⟩

/-- Whether the one player beats the other one. -/
def bt (l : List Int) (i j : Nat) : Bool := bi (l.getD i 0) j
theorem beats_any (n : Int) (a : Option Addr) (l : List Int) (cap i j : Nat) (w : World) (hrow : IntRow w a l) (hl : l.length ≤ maxLen) (hi : i < l.length) (hj : j < 64) :
    Calls Try.prog 110 #[.agg #[.int .i64 n, .slice a l.length cap], .int .i64 i, .int .i64 j] w fun e w' => e = .returned (.bool (bt l i j)) ∧ Below w.heap.size w w' := by
  obtain ⟨b, off, rfl, hb, hc⟩ := hrow.at hi
  unfold bt
  obtain ⟨x, hx⟩ : ∃ x, x = l.getD i 0 := ⟨_, rfl⟩
  rw [← hx] at hc ⊢
  clear hx hrow
  unfold maxLen at hl
  have hib : (i : Int) < (l.length : Int) := by omega
  go_enter Try.func110, Try.ntmps110
  go_wp2_with fail
  refine (hasElement_any x j _ hj).mono ?_
  rintro e w' ⟨rfl, rfl⟩
  go_wp2
  go_ret
  exact ⟨rfl, (Below.refl _ _).alloc (Nat.le_refl _) _⟩

theorem l01In_any (x lo hi : Int) (w : World) : Calls Try.prog 78 #[.int .i64 x, .int .i64 lo, .int .i64 hi] w fun e w' => e = .returned (.bool (decide (lo ≤ x) && decide (x ≤ hi))) ∧ w = w' := by
  by_cases h0 : lo ≤ x
  · go_enter Try.func78, Try.ntmps78
    go_wp2
    go_ret
    exact ⟨by simp [h0], rfl⟩
  · go_enter Try.func78, Try.ntmps78
    go_wp2
    go_ret
    exact ⟨by rw [decide_eq_false (Int.not_le.2 h0)]; rfl, rfl⟩

/-- A valid tour. -/
def rowOk (l : List Int) (a : Nat) : Prop := inSet (l.getD a 0) l.length = true ∧ bi (l.getD a 0) a = false ∧ ∀ b, b < a → bi (l.getD a 0) b ≠ bi (l.getD b 0) a
def Ok (n : Int) (l : List Int) : Prop := 1 ≤ n ∧ n ≤ 8 ∧ (l.length : Int) = n ∧ ∀ a, a < l.length → rowOk l a
noncomputable def okB (n : Int) (l : List Int) : Bool := by classical exact decide (Ok n l)
theorem okB_false {n : Int} {l : List Int} (h : ¬ Ok n l) : okB n l = false := by simp [okB, h]
theorem okB_true {n : Int} {l : List Int} (h : Ok n l) : okB n l = true := by simp [okB, h]

theorem cell_box2 (w : World) (v0 v1 : Value) (t : TypeId) : (w.alloc (.cells #[v0, v1] t)).cell? ⟨w.heap.size, 0, none⟩ = some v0 ∧ (w.alloc (.cells #[v0, v1] t)).cell? ⟨w.heap.size, 1, none⟩ = some v1 := by
  have hh : (w.alloc (.cells #[v0, v1] t)).heap[w.heap.size]? = some (.cells #[v0, v1] t) := by show (w.heap.push _)[w.heap.size]? = _; simp
  constructor <;> (unfold World.cell?; simp only; rw [hh]; rfl)

/-- Whether there can be so many players. -/
def isz (n : Int) : Bool := decide (1 ≤ n) && decide (n ≤ 8)
theorem isSize_any (n : Int) (w : World) : Calls Try.prog 79 #[.int .i64 n] w fun e w' => e = .returned (.bool (isz n)) ∧ w = w' := by
  by_cases h0 : 1 ≤ n
  · go_enter Try.func79, Try.ntmps79
    go_wp2
    go_ret
    exact ⟨by simp [isz, h0], rfl⟩
  · go_enter Try.func79, Try.ntmps79
    go_wp2
    go_ret
    exact ⟨by unfold isz; rw [decide_eq_false (Int.not_le.2 h0)]; rfl, rfl⟩

set_option maxHeartbeats 400000 in
theorem implTourOk (n : Int) (a : Option Addr) (l : List Int) (cap : Nat) (w : World) (hrow : IntRow w a l) (hl : l.length ≤ maxLen) :
    Calls Try.prog 90 #[.agg #[.int .i64 n, .slice a l.length cap]] w fun e w' => e = .returned (.bool (okB n l)) ∧ Below w.heap.size w w' := by
  cases hz : isz n
  · have HE : Hid (okB n l = false) := okB_false (fun h => by have := h.1; have := h.2.1; simp [isz] at hz; omega)
    have HS := Lib.hid hz
    clear hz
    go_enter Try.func90, Try.ntmps90
    go_wp2_with fail
    refine (isSize_any n _).mono ?_
    rintro e w' ⟨rfl, rfl⟩
    rw [HS.out]
    go_wp2
    go_ret
    exact ⟨by rw [HE.out]; rfl, (Below.refl _ _).alloc (Nat.le_refl _) _⟩
  by_cases h3 : (l.length : Int) = n
  · obtain ⟨W1, hW1⟩ : ∃ W1, W1 = w.alloc (.cells #[.int .i64 (l.length : Int), .slice a l.length cap] 27) := ⟨_, rfl⟩
    subst h3
    have hb01 : Below w.heap.size w W1 := by rw [hW1]; exact (Below.refl _ _).alloc (Nat.le_refl _) _
    have hsz : w.heap.size < W1.heap.size := by rw [hW1]; simp
    have hrow1 : IntRow W1 a l := hrow.below hb01 (Nat.le_refl _)
    have hc0 : W1.cell? ⟨w.heap.size, 0, none⟩ = some (.int .i64 (l.length : Int)) := by rw [hW1]; exact (cell_box2 _ _ _ _).1
    have hc1 : W1.cell? ⟨w.heap.size, 1, none⟩ = some (.slice a l.length cap) := by rw [hW1]; exact (cell_box2 _ _ _ _).2
    have HW := Lib.hid hW1
    have HL := Lib.hid hl
    have hl8 : l.length ≤ 8 := by simp [isz] at hz; omega
    have hl1 : 1 ≤ l.length := by simp [isz] at hz; omega
    have HS := Lib.hid hz
    clear hW1 hl hrow hz
    go_enter Try.func90, Try.ntmps90
    go_wp2_with fail
    refine (isSize_any _ _).mono ?_
    rintro e w' ⟨rfl, rfl⟩
    rw [HS.out]
    go_wp2
    rw [← HW.out]
    go_loopw [19] (fun i wr => ∃ k : Nat, k ≤ l.length ∧ i = .int .i64 k ∧ Hid (∀ a, a < k → rowOk l a) ∧ Below W1.heap.size W1 wr) (fun i _ => l.length - (intOf i).toNat)
    case atStart => exact ⟨0, Nat.zero_le _, rfl, fun a h => absurd h (Nat.not_lt_zero _), Below.refl _ _⟩
    case round =>
      obtain ⟨k, hk, rfl, hto, hb⟩ := hrel
      by_cases hlt : k < l.length
      · have hd0 : wr.cell? ⟨w.heap.size, 0, none⟩ = some (.int .i64 (l.length : Int)) := (hb.cell (p := ⟨w.heap.size, 0, none⟩) hsz).trans hc0
        have hd1 : wr.cell? ⟨w.heap.size, 1, none⟩ = some (.slice a l.length cap) := (hb.cell (p := ⟨w.heap.size, 1, none⟩) hsz).trans hc1
        have hrowr : IntRow wr a l := hrow1.below hb (Nat.le_refl _)
        obtain ⟨b, off, rfl, hbb, hcx⟩ := hrowr.at hlt
        obtain ⟨x, hx⟩ : ∃ x, x = l.getD k 0 := ⟨_, rfl⟩
        rw [← hx] at hcx
        have hq0 := fun d os => cell_regrown hd0 d os
        have hq1 := fun d os => cell_regrown hd1 d os
        have hqx := fun d os => cell_regrown hcx d os
        have hrq : ∀ d os, IntRow (Go.Sort.grow (redrawn wr d) os) (some ⟨b, off, none⟩) l := fun d os => hrowr.below (below_regrown wr d os) (Nat.le_refl _)
        have hib : (k : Int) < (l.length : Int) := by omega
        have hmx : l.length ≤ 9223372036854775807 := by omega
        have hk64 : k < 64 := by omega
        cases hin : inSet x l.length
        · have HE : Hid (okB (l.length : Int) l = false) := okB_false (fun h => by have := (h.2.2.2 k hlt).1; rw [← hx, hin] at this; cases this)
          have cS : ∀ d os, Calls Try.prog 136 #[.int .i64 x, .int .i64 l.length] (Go.Sort.grow (redrawn wr d) os) fun e w'' => e = .returned (.bool false) ∧ ∃ p : Regrown, w'' = Go.Sort.grow (redrawn wr p.d) p.os :=
            fun d os => Calls.regrown_of ((isSetOf_any _ _ _ hl8).mono fun e w' ⟨he, hw⟩ => ⟨by rw [he, hin], hw ▸ Below.refl _ _⟩)
          clear hrq hin hcx hd0 hd1 hx
          go_wp2
          refine wp_region_quiet_below (by kernel_rfl) (by kernel_rfl) ?_
          repeat (go_big_quiet_step (exact cS _ _))
          refine wpQuiet_nil ?_
          intro wq hw'
          have hbq : Below wr.heap.size wr wq := by obtain ⟨⟨dq, osq⟩, hw''⟩ := hw'; rw [hw'']; exact below_regrown wr dq osq
          clear hw' cS hq0 hq1 hqx
          go_wp2
          go_ret
          exact ⟨by rw [HE.out]; rfl, hb01.trans ((hb.trans (hbq.mono hb.size)).mono (Nat.le_of_lt hsz))⟩
        · have cS : ∀ d os, Calls Try.prog 136 #[.int .i64 x, .int .i64 l.length] (Go.Sort.grow (redrawn wr d) os) fun e w'' => e = .returned (.bool true) ∧ ∃ p : Regrown, w'' = Go.Sort.grow (redrawn wr p.d) p.os :=
            fun d os => Calls.regrown_of ((isSetOf_any _ _ _ hl8).mono fun e w' ⟨he, hw⟩ => ⟨by rw [he, hin], hw ▸ Below.refl _ _⟩)
          have cB : ∀ d os, Calls Try.prog 110 #[.agg #[.int .i64 (l.length : Int), .slice (some ⟨b, off, none⟩) l.length cap], .int .i64 k, .int .i64 k] (Go.Sort.grow (redrawn wr d) os) fun e w'' => e = .returned (.bool (bi x k)) ∧ ∃ p : Regrown, w'' = Go.Sort.grow (redrawn wr p.d) p.os :=
            fun d os => Calls.regrown_of ((beats_any _ _ l cap k k _ (hrq d os) HL.out hlt hk64).mono fun e w' ⟨he, hw⟩ => ⟨by rw [he, hx]; rfl, hw⟩)
          cases hself : bi x k
          · rw [hself] at cB
            have hcond : Hid (inSet (l.getD k 0) l.length = true ∧ bi (l.getD k 0) k = false) := by rw [← hx]; exact ⟨hin, hself⟩
            have HX := Lib.hid hx
            clear hrq hin hcx hd0 hd1 hx hself
            go_wp2
            refine wp_region_quiet_below (by kernel_rfl) (by kernel_rfl) ?_
            repeat (go_big_quiet_step (first | exact cS _ _ | exact cB _ _))
            refine wpQuiet_nil ?_
            intro wq hw'
            have hbq : Below wr.heap.size wr wq := by obtain ⟨⟨dq, osq⟩, hw''⟩ := hw'; rw [hw'']; exact below_regrown wr dq osq
            clear hw' cS cB hq0 hq1 hqx
            have hb2 : Below W1.heap.size W1 wq := hb.trans (hbq.mono hb.size)
            clear hbq hb hrowr
            go_wp2
            go_loopw [38] (fun j wr => ∃ m : Nat, m ≤ k ∧ j = .int .i64 m ∧ Hid (∀ b, b < m → bi x b ≠ bi (l.getD b 0) k) ∧ Below W1.heap.size W1 wr) (fun j _ => k - (intOf j).toNat)
            case atStart => exact ⟨0, Nat.zero_le _, rfl, fun a h => absurd h (Nat.not_lt_zero _), hb2⟩
            case round =>
              obtain ⟨m, hm, rfl, hmt, hb3⟩ := hrel
              by_cases hlt2 : m < k
              · have hd0 : wr.cell? ⟨w.heap.size, 0, none⟩ = some (.int .i64 (l.length : Int)) := (hb3.cell (p := ⟨w.heap.size, 0, none⟩) hsz).trans hc0
                have hd1 : wr.cell? ⟨w.heap.size, 1, none⟩ = some (.slice (some ⟨b, off, none⟩) l.length cap) := (hb3.cell (p := ⟨w.heap.size, 1, none⟩) hsz).trans hc1
                have hrowj : IntRow wr (some ⟨b, off, none⟩) l := hrow1.below hb3 (Nat.le_refl _)
                have hq0 := fun d os => cell_regrown hd0 d os
                have hq1 := fun d os => cell_regrown hd1 d os
                have hrq : ∀ d os, IntRow (Go.Sort.grow (redrawn wr d) os) (some ⟨b, off, none⟩) l := fun d os => hrowj.below (below_regrown wr d os) (Nat.le_refl _)
                have hm64 : m < 64 := by omega
                have hml : m < l.length := by omega
                have cP : ∀ (i j : Nat), i < l.length → j < 64 → ∀ d os, Calls Try.prog 110 #[.agg #[.int .i64 (l.length : Int), .slice (some ⟨b, off, none⟩) l.length cap], .int .i64 i, .int .i64 j] (Go.Sort.grow (redrawn wr d) os) fun e w'' => e = .returned (.bool (bt l i j)) ∧ ∃ p : Regrown, w'' = Go.Sort.grow (redrawn wr p.d) p.os :=
                  fun i j hi hj d os => Calls.regrown_of (beats_any _ _ l cap i j _ (hrq d os) HL.out hi hj)
                have hki : (m : Int) < (k : Int) := by omega
                clear hrq hd0 hd1 hrowj
                cases hpq : (bt l k m == bt l m k)
                · have hmt2 : Hid (∀ b, b < m + 1 → bi x b ≠ bi (l.getD b 0) k) := by
                    intro b hb
                    by_cases e : b = m
                    · subst e; rw [HX.out]; exact (show bt l k b ≠ bt l b k by simpa using hpq)
                    · exact hmt.out b (by omega)
                  go_wp2
                  refine wp_region_quiet_below (by kernel_rfl) (by kernel_rfl) ?_
                  repeat (go_big_quiet_step (exact cP _ _ (by omega) (by omega) _ _))
                  refine wpQuiet_nil ?_
                  intro wq hw'
                  have hbq : Below wr.heap.size wr wq := by obtain ⟨⟨dq, osq⟩, hw''⟩ := hw'; rw [hw'']; exact below_regrown wr dq osq
                  clear hw' cP hq0 hq1
                  have hb4 : Below W1.heap.size W1 wq := hb3.trans (hbq.mono hb3.size)
                  go_wp2
                  go_roundw
                  case rel => exact ⟨m + 1, by omega, by go_num, hmt2, hb4⟩
                  case measure => simp [intOf]; omega
                · have HE : Hid (okB (l.length : Int) l = false) := okB_false (fun h => by
                    have := (h.2.2.2 k hlt).2.2 m hlt2
                    exact this (show bt l k m = bt l m k by simpa using hpq))
                  go_wp2
                  refine wp_region_quiet_below (by kernel_rfl) (by kernel_rfl) ?_
                  repeat (go_big_quiet_step (exact cP _ _ (by omega) (by omega) _ _))
                  refine wpQuiet_nil ?_
                  intro wq hw'
                  have hbq : Below wr.heap.size wr wq := by obtain ⟨⟨dq, osq⟩, hw''⟩ := hw'; rw [hw'']; exact below_regrown wr dq osq
                  clear hw' cP hq0 hq1
                  have hb4 : Below W1.heap.size W1 wq := hb3.trans (hbq.mono hb3.size)
                  go_wp2
                  go_ret
                  exact ⟨by rw [HE.out]; rfl, hb01.trans (hb4.mono (Nat.le_of_lt hsz))⟩
              · obtain rfl : m = k := by omega
                have hto2 : Hid (∀ a, a < m + 1 → rowOk l a) := by
                  intro a ha
                  by_cases e : a = m
                  · subst e
                    refine ⟨hcond.out.1, hcond.out.2, fun b hb => ?_⟩
                    have := hmt.out b hb
                    rw [HX.out] at this; exact this
                  · exact hto.out a (by omega)
                go_wp2
                go_roundw
                case rel => exact ⟨m + 1, by omega, by go_num, hto2, hb3⟩
                case measure => simp [intOf]; omega
          · rw [hself] at cB
            have HE : Hid (okB (l.length : Int) l = false) := okB_false (fun h => by have := (h.2.2.2 k hlt).2.1; rw [← hx, hself] at this; cases this)
            clear hrq hin hcx hd0 hd1 hx hself
            go_wp2
            refine wp_region_quiet_below (by kernel_rfl) (by kernel_rfl) ?_
            repeat (go_big_quiet_step (first | exact cS _ _ | exact cB _ _))
            refine wpQuiet_nil ?_
            intro wq hw'
            have hbq : Below wr.heap.size wr wq := by obtain ⟨⟨dq, osq⟩, hw''⟩ := hw'; rw [hw'']; exact below_regrown wr dq osq
            clear hw' cS cB hq0 hq1 hqx
            go_wp2
            go_ret
            exact ⟨by rw [HE.out]; rfl, hb01.trans ((hb.trans (hbq.mono hb.size)).mono (Nat.le_of_lt hsz))⟩
      · obtain rfl : k = l.length := by omega
        have HE : Hid (okB (l.length : Int) l = true) := okB_true ⟨by omega, by omega, rfl, hto.out⟩
        go_wp2
        go_ret
        exact ⟨by rw [HE.out]; rfl, hb01.trans (hb.mono (by omega))⟩
  · have HE : Hid (okB n l = false) := okB_false (fun h => by have := h.2.2.1; omega)
    have HS := Lib.hid hz
    clear hz
    go_enter Try.func90, Try.ntmps90
    go_wp2_with fail
    refine (isSize_any n _).mono ?_
    rintro e w' ⟨rfl, rfl⟩
    rw [HS.out]
    go_wp2
    go_ret
    exact ⟨by rw [HE.out]; rfl, (Below.refl _ _).alloc (Nat.le_refl _) _⟩

theorem inSet_le (x : Int) (k P : Nat) (hP : P = 2 ^ k) : (decide (0 ≤ x) && decide (x ≤ (P : Int) - 1)) = inSet x k := by
  subst hP
  unfold inSet
  have : (x ≤ ((2 ^ k : Nat) : Int) - 1) = (x < ((2 ^ k : Nat) : Int)) := propext (by generalize ((2 ^ k : Nat) : Int) = z; omega)
  simp only [this]
theorem below_drewN {B : Nat} {a w : World} (h : Below B a w) (n : Nat) : Below B a (w.drewN n) := ⟨h.os, h.tape, h.output, h.size, h.block⟩

set_option maxHeartbeats 400000 in
theorem specTourOk (n : Int) (a : Option Addr) (l : List Int) (cap : Nat) (w : World) (hrow : IntRow w a l) (hl : l.length ≤ maxLen) :
    Calls Try.prog 86 #[.agg #[.int .i64 n, .slice a l.length cap]] w fun e w' => e = .returned (.bool (okB n l)) ∧ Below w.heap.size w w' := by
  cases h12 : (decide (1 ≤ n) && decide (n ≤ 8))
  · have HE : Hid (okB n l = false) := okB_false (fun h => by have := h.1; have := h.2.1; simp at h12; omega)
    have HL := Lib.hid h12
    clear h12
    go_enter Try.func86, Try.ntmps86
    go_wp2_with fail
    refine (l01In_any n 1 8 _).mono ?_
    rintro e w' ⟨rfl, rfl⟩
    rw [HL.out]
    go_wp2
    go_ret
    exact ⟨by rw [HE.out]; rfl, (Below.refl _ _).alloc (Nat.le_refl _) _⟩
  by_cases h3 : (l.length : Int) = n
  · obtain ⟨W1, hW1⟩ : ∃ W1, W1 = w.alloc (.cells #[.int .i64 (l.length : Int), .slice a l.length cap] 27) := ⟨_, rfl⟩
    subst h3
    have hb01 : Below w.heap.size w W1 := by rw [hW1]; exact (Below.refl _ _).alloc (Nat.le_refl _) _
    have hsz : w.heap.size < W1.heap.size := by rw [hW1]; simp
    have hrow1 : IntRow W1 a l := hrow.below hb01 (Nat.le_refl _)
    have hc0 : W1.cell? ⟨w.heap.size, 0, none⟩ = some (.int .i64 (l.length : Int)) := by rw [hW1]; exact (cell_box2 _ _ _ _).1
    have hc1 : W1.cell? ⟨w.heap.size, 1, none⟩ = some (.slice a l.length cap) := by rw [hW1]; exact (cell_box2 _ _ _ _).2
    have HW := Lib.hid hW1
    have HL := Lib.hid hl
    have HB := Lib.hid h12
    have hl8 : l.length ≤ 8 := by simp at h12; omega
    have hl1 : 1 ≤ l.length := by simp at h12; omega
    clear hW1 hl hrow h12
    go_enter Try.func86, Try.ntmps86
    go_wp2_with fail
    refine (l01In_any _ 1 8 _).mono ?_
    rintro e w' ⟨rfl, rfl⟩
    rw [HB.out]
    go_wp2
    rw [← HW.out]
    go_loopw [21] (fun i wr => ∃ k : Nat, k ≤ l.length ∧ i = .int .i64 k ∧ Hid (∀ a, a < k → rowOk l a) ∧ Below W1.heap.size W1 wr) (fun i _ => l.length - (intOf i).toNat)
    case atStart => exact ⟨0, Nat.zero_le _, rfl, fun a h => absurd h (Nat.not_lt_zero _), Below.refl _ _⟩
    case round =>
      obtain ⟨k, hk, rfl, hto, hb⟩ := hrel
      by_cases hlt : k < l.length
      · have hd0 : wr.cell? ⟨w.heap.size, 0, none⟩ = some (.int .i64 (l.length : Int)) := (hb.cell (p := ⟨w.heap.size, 0, none⟩) hsz).trans hc0
        have hd1 : wr.cell? ⟨w.heap.size, 1, none⟩ = some (.slice a l.length cap) := (hb.cell (p := ⟨w.heap.size, 1, none⟩) hsz).trans hc1
        have hrowr : IntRow wr a l := hrow1.below hb (Nat.le_refl _)
        obtain ⟨b, off, rfl, hbb, hcx⟩ := hrowr.at hlt
        obtain ⟨x, hx⟩ : ∃ x, x = l.getD k 0 := ⟨_, rfl⟩
        rw [← hx] at hcx
        have hib : (k : Int) < (l.length : Int) := by omega
        have hmx : l.length ≤ 9223372036854775807 := by omega
        have hk64 : k < 64 := by omega
        obtain ⟨P, hP⟩ : ∃ P, P = 2 ^ l.length := ⟨_, rfl⟩
        have hw64 : wrap64 (2 ^ l.length) = (P : Int) := by rw [hP]; exact wrapPow _ hl8
        have hP1 : P ≤ 256 := by rw [hP]; exact pow_le _ hl8
        have hset : Hid ((decide (0 ≤ x) && decide (x ≤ (P : Int) - 1)) = inSet x l.length) := inSet_le x _ P hP
        have HX := Lib.hid hx
        clear hx hP
        cases hin : inSet x l.length
        · have HE : Hid (okB (l.length : Int) l = false) := okB_false (fun h => by have := (h.2.2.2 k hlt).1; rw [← HX.out, hin] at this; cases this)
          have HI := Lib.hid hin
          clear hin
          go_wp2_with fail
          refine (l01In_any _ _ _ _).mono ?_
          rintro e w' ⟨rfl, rfl⟩
          rw [hset.out, HI.out]
          go_wp2
          go_ret
          exact ⟨by rw [HE.out]; rfl, hb01.trans (hb.mono (Nat.le_of_lt hsz))⟩
        · have HI := Lib.hid hin
          clear hin
          cases hself : (bits .and .i64 (x / 2 ^ k) 1 == 1)
          · have hcond : Hid (inSet (l.getD k 0) l.length = true ∧ bi (l.getD k 0) k = false) := by rw [← HX.out]; exact ⟨HI.out, hself⟩
            go_wp2_with fail
            refine (l01In_any _ _ _ _).mono ?_
            rintro e w' ⟨rfl, rfl⟩
            rw [hset.out, HI.out]
            go_wp2
            have hb2 := hb
            clear hself hb hrowr hd0 hd1 hcx
            go_loopw [5] (fun j wr => ∃ m : Nat, m ≤ k ∧ j = .int .i64 m ∧ Hid (∀ b, b < m → bi x b ≠ bi (l.getD b 0) k) ∧ Below W1.heap.size W1 wr) (fun j _ => k - (intOf j).toNat)
            case atStart => exact ⟨0, Nat.zero_le _, rfl, fun a h => absurd h (Nat.not_lt_zero _), hb2⟩
            case round =>
              clear hb2
              obtain ⟨m, hm, rfl, hmt, hb3⟩ := hrel
              by_cases hlt2 : m < k
              · have hd1 : wr.cell? ⟨w.heap.size, 1, none⟩ = some (.slice (some ⟨b, off, none⟩) l.length cap) := (hb3.cell (p := ⟨w.heap.size, 1, none⟩) hsz).trans hc1
                have hrowj : IntRow wr (some ⟨b, off, none⟩) l := hrow1.below hb3 (Nat.le_refl _)
                have hml : m < l.length := by omega
                obtain ⟨b', off', he, _, hcy⟩ := hrowj.at hml
                obtain ⟨rfl, rfl⟩ : b = b' ∧ off = off' := by simpa using he
                obtain ⟨y, hy⟩ : ∃ y, y = l.getD m 0 := ⟨_, rfl⟩
                rw [← hy] at hcy
                have HY := Lib.hid hy
                have hmb : (m : Int) < (l.length : Int) := by omega
                have hki : (m : Int) < (k : Int) := by omega
                clear hy he hrowj
                cases hpq : (bits .and .i64 (x / 2 ^ m) 1 == bits .and .i64 (y / 2 ^ k) 1)
                · have hmt2 : Hid (∀ b, b < m + 1 → bi x b ≠ bi (l.getD b 0) k) := by
                    intro b hb
                    by_cases e : b = m
                    · subst e; rw [← HY.out]; intro h2; rw [bi_num, bi_num, h2] at hpq; simp at hpq
                    · exact hmt.out b (by omega)
                  go_wp2
                  go_quiet (fail)
                  go_wp2
                  go_roundw
                  case rel => exact ⟨m + 1, by omega, by go_num, hmt2, below_drewN hb3 _⟩
                  case measure => simp [intOf]; omega
                · have HE : Hid (okB (l.length : Int) l = false) := okB_false (fun h => by
                    have := (h.2.2.2 k hlt).2.2 m hlt2
                    rw [← HX.out, ← HY.out] at this
                    rw [bi_num, bi_num] at hpq
                    revert this hpq
                    cases bi x m <;> cases bi y k <;> simp)
                  go_wp2
                  go_quiet (fail)
                  go_wp2
                  go_ret
                  exact ⟨by rw [HE.out]; rfl, hb01.trans ((below_drewN hb3 _).mono (Nat.le_of_lt hsz))⟩
              · obtain rfl : m = k := by omega
                have hto2 : Hid (∀ a, a < m + 1 → rowOk l a) := by
                  intro a ha
                  by_cases e : a = m
                  · subst e
                    refine ⟨hcond.out.1, hcond.out.2, fun b hb => ?_⟩
                    have := hmt.out b hb
                    rw [HX.out] at this; exact this
                  · exact hto.out a (by omega)
                go_wp2
                go_roundw
                case rel => exact ⟨m + 1, by omega, by go_num, hto2, hb3⟩
                case measure => simp [intOf]; omega
          · have HE : Hid (okB (l.length : Int) l = false) := okB_false (fun h => by have := (h.2.2.2 k hlt).2.1; rw [← HX.out] at this; unfold bi at this; rw [hself] at this; cases this)
            go_wp2_with fail
            refine (l01In_any _ _ _ _).mono ?_
            rintro e w' ⟨rfl, rfl⟩
            rw [hset.out, HI.out]
            go_wp2
            go_ret
            exact ⟨by rw [HE.out]; rfl, hb01.trans (hb.mono (Nat.le_of_lt hsz))⟩
      · obtain rfl : k = l.length := by omega
        have HE : Hid (okB (l.length : Int) l = true) := okB_true ⟨by omega, by omega, rfl, hto.out⟩
        go_wp2
        go_ret
        exact ⟨by rw [HE.out]; rfl, hb01.trans (hb.mono (Nat.le_of_lt hsz))⟩
  · have HE : Hid (okB n l = false) := okB_false (fun h => by have := h.2.2.1; omega)
    have HL := Lib.hid h12
    clear h12
    go_enter Try.func86, Try.ntmps86
    go_wp2_with fail
    refine (l01In_any n 1 8 _).mono ?_
    rintro e w' ⟨rfl, rfl⟩
    rw [HL.out]
    go_wp2
    go_ret
    exact ⟨by rw [HE.out]; rfl, (Below.refl _ _).alloc (Nat.le_refl _) _⟩
end Go.Proofs.Yteiadhfjpohmdaa
