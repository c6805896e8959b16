/-
  Contracts for 'MakeTour', 'MakeOrder' and 'MakeNum', and for the laws' own sums. Conditions: the bounds of the calls.
-/
import Derived.Test.YtepladakcepgdaaDoor5D
namespace Go.Proofs.YtepladakcepgdaaDoor
open Go.ChangeShapes Go.WideShapes Go.ChangeAt Go.RowKit
set_option linter.unusedVariables false

theorem Row.mono {B B' : Nat} {w : World} {a : Option Addr} {len : Nat} (h : Row B w a len) (hB : B ≤ B') : Row B' w a len := by
  rcases h with h | ⟨b, off, ha, hlt, hc⟩
  · exact .inl h
  · exact .inr ⟨b, off, ha, by omega, hc⟩
/-- A tour that 'MakeTour' answers. -/
def MadeT (most : Nat) (w : World) (e : Ending) (w' : World) : Prop :=
  ∃ (l : List Int) (g c : Nat), OkL l ∧ l.length ≤ most ∧ e = .returned (.agg #[.int .i64 (l.length : Int), .slice (some ⟨g, 0, none⟩) l.length c]) ∧ w'.ownsRow w.heap.size 3 1 (.slice (some ⟨g, 0, none⟩) l.length c) l.length (l.map iv) ∧ Below w.heap.size w w'

set_option maxHeartbeats 2000000 in
theorem makeTour_any (B n most : Nat) (w : World) (a : Option Addr) (len cap : Nat) (hn : n ≤ 1000) (h1 : 1 ≤ most) (h8 : most ≤ 8) (hl : len ≤ 1048576) (hB : B ≤ w.heap.size) (h : Row B w a len) :
    Calls Tryd.prog 6 #[.slice a len cap, .int .i64 n, .int .i64 most] w (MadeT most w) := by
  obtain ⟨W0, hW0⟩ : ∃ W0, W0 = w.alloc (.cells #[.int .i64 0, .slice none 0 0] 25) := ⟨_, rfl⟩
  have hb0 : Below w.heap.size w W0 := by rw [hW0]; exact Below.one _ _
  have x0 : Box W0 w.heap.size 25 (.int .i64 0) (.slice none 0 0) := by rw [hW0]; exact Box.new _ _ _ _
  have hr0 : Row W0.heap.size W0 a len := ((h.below (hb0.mono hB)).mono (Nat.le_trans hB hb0.size))
  have X0 := Lib.hid x0
  have HW0 := Lib.hid hW0
  have HB0 := Lib.hid hb0
  have hmin : min (most : Int) 8 = (most : Int) := by omega
  have hmax : max 1 (most : Int) = (most : Int) := by omega
  clear hW0 hb0 x0 h
  go_enter Tryd.func6, Tryd.ntmps6
  go_wp2_with fail
  rw [← HW0.out]
  refine (newSkip_any W0.heap.size W0 a len cap n hn hl (Nat.le_refl _) hr0).mono ?_
  rintro e w1 ⟨p, rfl, hc1, hb1⟩
  have X1 := Lib.hid (X0.out.below hb1 X0.out.lt)
  have HB1 := Lib.hid (HB0.out.trans (hb1.mono HB0.out.size))
  have hs1 := Lib.hid hb1.size
  have hp0 := Lib.hid hc1.base
  clear hr0 hb1
  go_wp2_with fail
  refine (l05Draw_any W0.heap.size most w1 p a len cap h1 h8 hl hs1.out hc1).mono ?_
  rintro e w2 ⟨l, g, c, hok, hle, rfl, ho, hc2, hg2⟩
  have x2 := X1.out.grown hg2 (fun e => by injection e with e; have := X0.out.lt; have := hp0.out; omega)
  have B2 := Lib.hid (HB1.out.trans ((below_gr hg2 hs1.out hp0.out).mono HB0.out.size))
  have hgl := ho.lt g rfl
  have hgr : Hid (g ≠ w.heap.size) := (show g ≠ _ by have := X1.out.lt; omega)
  have O2 := Lib.hid (ho.mono HB1.out.size)
  have K2 := Lib.hid hok
  have L2 := Lib.hid hle
  have e0 := x2.c0
  have e1 := x2.c1
  have e2 := x2.f0
  have e3 := x2.f1
  have X2 := Lib.hid x2
  clear x2 ho hc1 hc2 hg2 hok hle hgl
  go_wp2
  refine bodyPost_ret (v := .agg #[.int .i64 (l.length : Int), .slice (some ⟨g, 0, none⟩) l.length c]) (Box.res1 rfl _ rfl ((X2.out.set0 _).set1 _)) rfl ?_
  refine ⟨l, g, c, K2.out, L2.out, rfl, ?_, ?_⟩
  · exact own_other (own_other O2.out ⟨w.heap.size, 0, none⟩ _ hgr.out) ⟨w.heap.size, 1, none⟩ _ hgr.out
  · exact (B2.out.setCell (p := ⟨w.heap.size, 0, none⟩) (Nat.le_refl _) _).setCell (p := ⟨w.heap.size, 1, none⟩) (Nat.le_refl _) _

/-- An order that 'MakeOrder' answers. -/
def MadeO (n : Nat) (w : World) (e : Ending) (w' : World) : Prop :=
  ∃ (L : List Int) (g c : Nat), Names n L ∧ e = .returned (.slice (some ⟨g, 0, none⟩) n c) ∧ w'.ownsRow w.heap.size 3 1 (.slice (some ⟨g, 0, none⟩) n c) n (L.map iv) ∧ Below w.heap.size w w'
set_option maxHeartbeats 2000000 in
theorem makeOrder_any (B n size : Nat) (w : World) (a : Option Addr) (len cap : Nat) (hn : n ≤ 1000) (h1 : 1 ≤ size) (h8 : size ≤ 8) (hl : len ≤ 1048576) (hB : B ≤ w.heap.size) (h : Row B w a len) :
    Calls Tryd.prog 7 #[.slice a len cap, .int .i64 n, .int .i64 size] w (MadeO size w) := by
  have hr0 : Row w.heap.size w a len := h.mono hB
  have hmin : min (size : Int) 8 = (size : Int) := by omega
  have hmax : max 1 (size : Int) = (size : Int) := by omega
  clear h
  go_enter Tryd.func7, Tryd.ntmps7
  go_wp2_with fail
  refine (newSkip_any w.heap.size w a len cap n hn hl (Nat.le_refl _) hr0).mono ?_
  rintro e w1 ⟨p, rfl, hc1, hb1⟩
  have HB1 := Lib.hid hb1
  have hp0 := Lib.hid hc1.base
  clear hr0 hb1
  go_wp2_with fail
  refine (order_any w.heap.size size w1 p a len cap h8 hl HB1.out.size hc1).mono ?_
  rintro e w2 ⟨L, g, c, hnm, rfl, ho, hc2, hg2⟩
  have P : Hid (MadeO size w (.returned (.slice (some ⟨g, 0, none⟩) size c)) w2) := ⟨L, g, c, hnm, rfl, ho.mono HB1.out.size, HB1.out.trans (below_gr hg2 HB1.out.size hp0.out)⟩
  clear hnm ho hc1 hc2 hg2
  go_wp2
  go_ret
  exact P.out

set_option maxHeartbeats 400000 in
theorem lawBits_any (x : Nat) (hx : x < 256) (w : World) : Calls Tryd.prog 20 #[.int .i64 x] w fun e w' => e = .returned (.int .i64 (pc x)) ∧ w = w' := by
  have hx8 := pc_le x
  go_enter Tryd.func20, Tryd.ntmps20
  go_wp2
  go_loop [0, 3] (fun n k => ∃ m q : Nat, n = .int .i64 m ∧ k = .int .i64 q ∧ m < 256 ∧ Hid (q + pc m = pc x)) (fun n _ => (intOf n).toNat)
  case atStart => exact ⟨x, 0, rfl, rfl, hx, by simp [Hid]⟩
  case round =>
    obtain ⟨m, q, rfl, rfl, hm, hq⟩ := hrel
    by_cases h0 : 0 < m
    · have hi : (0 : Int) < (m : Int) := by omega
      obtain ⟨d, hd⟩ : ∃ d, d = m / 2 := ⟨_, rfl⟩
      obtain ⟨r, hr⟩ : ∃ r, r = m % 2 := ⟨_, rfl⟩
      have hb : bits .and .i64 (m : Int) 1 = (r : Int) := by rw [andOne]; omega
      have hdd : (m : Int) / 2 = (d : Int) := by omega
      have hq2 : Hid (q + r + pc d = pc x) := by
        have h1 := hq.out
        have h2 := pc_half m hm
        rw [← hd, ← hr] at h2
        show _ = _
        omega
      have hq9 : q ≤ 8 := by have := hq.out; omega
      have hdm : d < m := by omega
      have hr1 : r ≤ 1 := by omega
      clear hq hd hr
      go_wp2
      go_round
      case rel => exact ⟨d, q + r, rfl, by go_num, by omega, hq2⟩
      case measure => simp [intOf]; omega
    · obtain rfl : m = 0 := by omega
      have hq0 : Hid (q = pc x) := (show q = pc x from by
        have h1 := hq.out
        rw [show pc 0 = 0 from rfl] at h1
        omega)
      go_wp2
      go_ret
      exact ⟨by rw [← hq0.out]; rfl, rfl⟩

/-- The sum of the first k numbers. -/
def sumTo (ys : List Nat) (k : Nat) : Nat := sumN (fun i => ys.getD i 0) k
theorem sumTo_succ (ys : List Nat) (k : Nat) : sumTo ys (k + 1) = sumTo ys k + ys.getD k 0 := rfl
theorem sumTo_le (ys : List Nat) (h : ∀ i, ys.getD i 0 ≤ 100) : ∀ k, sumTo ys k ≤ 100 * k
  | 0 => Nat.le_refl _
  | k + 1 => by have := sumTo_le ys h k; have := h k; rw [sumTo_succ]; omega
set_option maxHeartbeats 400000 in
theorem lawSum_any (a : Option Addr) (m cap : Nat) (ys : List Nat) (w : World) (hm : m ≤ 100) (hlen : (ys.map Int.ofNat).length = m) (hy : ∀ i, ys.getD i 0 ≤ 100) (hrow : IntRow w a (ys.map Int.ofNat)) :
    Calls Tryd.prog 12 #[.slice a m cap] w fun e w' => e = .returned (.int .i64 (sumTo ys m : Nat)) ∧ w = w' := by
  have HL := Lib.hid hlen
  have HR := Lib.hid hrow
  have HY := Lib.hid hy
  clear hlen hrow hy
  go_enter Tryd.func12, Tryd.ntmps12
  go_wp2
  go_loop [3, 8] (fun n i => ∃ k : Nat, k ≤ m ∧ i = .int .i64 k ∧ n = .int .i64 (sumTo ys k : Nat)) (fun _ i => m - (intOf i).toNat)
  case atStart => exact ⟨0, Nat.zero_le _, rfl, rfl⟩
  case round =>
    obtain ⟨k, hk, rfl, rfl⟩ := hrel
    have hs := sumTo_le ys HY.out k
    by_cases hlt : k < m
    · obtain ⟨b, off, rfl, hbb, hc⟩ := HR.out.at (k := k) (by rw [HL.out]; exact hlt)
      rw [getD_map_ofNat] at hc
      have hx := HY.out k
      have hn : Hid (sumTo ys (k + 1) = sumTo ys k + ys.getD k 0) := sumTo_succ ys k
      obtain ⟨x, hxx⟩ : ∃ x, x = ys.getD k 0 := ⟨_, rfl⟩
      obtain ⟨q, hqq⟩ : ∃ q, q = sumTo ys k := ⟨_, rfl⟩
      have hn2 : Hid (sumTo ys (k + 1) = q + x) := by rw [hxx, hqq]; exact hn
      rw [← hxx] at hc hx
      rw [← hqq] at hs ⊢
      have hib : (k : Int) < (m : Int) := by omega
      clear hn hxx hqq
      go_wp2
      go_round
      case rel => exact ⟨k + 1, by omega, by go_num, by rw [hn2.out]; go_num⟩
      case measure => simp [intOf]; omega
    · obtain rfl : k = m := by omega
      go_wp2
      go_ret
      exact ⟨rfl, rfl⟩
end Go.Proofs.YtepladakcepgdaaDoor
