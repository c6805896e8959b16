/-
  'BanksSet' of the program. No conditions but the bounds that Go gives a slice.
-/
import Derived.Test.YtgjogbihadiojaaUm
namespace Go.Proofs.Ytgjogbihadiojaa
open Go.ChangeShapes Go.WideShapes Go.ChangeAt Go.RowKit
set_option linter.unusedVariables false

/-- The part of a set. -/
def prt (l : List Int) (x : Nat) : List Int := (partL l (elems x)).map Int.ofNat
theorem prt_len (l : List Int) (x : Nat) : (prt l x).length = (elems x).length := partP_len l x
/-- Whether a set has no triangle and cannot grow at its head. -/
noncomputable def ckB (l : List Int) (x : Nat) : Bool := by classical exact decide (1 ≤ x) && (decide (triL (prt l x) = []) && !bbo (ww l) l.length x)
/-- The Banks set of the sets below k. -/
noncomputable def banksTo (l : List Int) : Nat → Nat
  | 0 => 0
  | k + 1 => if ckB l k then banksTo l k ||| firstTo (ww l) k l.length else banksTo l k
/-- What both 'BanksSet' answer. -/
noncomputable def banksR (n : Int) (l : List Int) : Int := if okB n l then ((banksTo l (2 ^ l.length) : Nat) : Int) else 0
theorem banks_one (l : List Int) : banksTo l 1 = 0 := by
  show (if ckB l 0 then _ else _) = _
  have : ckB l 0 = false := by unfold ckB; simp
  rw [this]; rfl
theorem banks_no {l : List Int} {k : Nat} (h : ckB l k = false) : banksTo l (k + 1) = banksTo l k := by show (if ckB l k then _ else _) = _; rw [h]; rfl
theorem banks_yes {l : List Int} {k : Nat} (h : ckB l k = true) : banksTo l (k + 1) = banksTo l k ||| firstTo (ww l) k l.length := by show (if ckB l k then _ else _) = _; rw [h]; rfl
theorem ck_tri {l : List Int} {k : Nat} (h : triL (prt l k) ≠ []) : ckB l k = false := by unfold ckB; simp [h]
theorem ck_bbo {l : List Int} {k : Nat} (h : bbo (ww l) l.length k = true) : ckB l k = false := by unfold ckB; simp [h]
theorem ck_yes {l : List Int} {k : Nat} (h1 : 1 ≤ k) (h : triL (prt l k) = []) (h2 : bbo (ww l) l.length k = false) : ckB l k = true := by unfold ckB; simp [h, h1, h2]

/-! Counting by a function. -/
theorem beaten1_any (n : Int) (a : Option Addr) (l : List Int) (cap p q k x : Nat) (W : World) (hx : Box W p 25 (.int .i64 n) (.slice a l.length cap)) (hq : Boxed W q 3 (.int .i64 (x : Int))) (hrow : IntRow W a l) (hok : Ok n l) (hk : k < l.length) (hx8 : x < 256) :
    Calls Try.prog 120 #[.int .i64 (k : Int), .pointer (some ⟨p, 0, none⟩), .pointer (some ⟨q, 0, none⟩)] W fun e W' => e = .returned (.bool (an x (ww l k) == 0)) ∧ Below W.heap.size W W' := by
  have hl : l.length ≤ maxLen := by have := (okVa hok).le; unfold maxLen; omega
  have hC := beatsAllOf_any n a l cap k (x : Int) W hrow hl hk
  have he : allOf (x : Int) (l.getD k 0) = (an x (ww l k) == 0) := by
    unfold allOf
    rw [(hok.ww hk).1, andNot256 x _ hx8 (hok.ww hk).2.2, Bool.eq_iff_iff, beq_iff_eq, beq_iff_eq]
    omega
  rw [he] at hC
  have HC := Lib.hid hC
  have c0 := hx.c0
  have c1 := hx.c1
  have c2 := hq.cell
  clear hC he hx hq hrow hok
  go_enter Try.func120, Try.ntmps120
  go_wp2_with fail
  refine HC.out.mono ?_
  rintro e w' ⟨rfl, hb⟩
  go_wp2
  go_ret
  exact ⟨rfl, hb⟩
theorem cn_bd (p : Nat → Bool) : ∀ k, Kk.cn p k ≤ k
  | 0 => Nat.le_refl _
  | k + 1 => by
    have := cn_bd p k
    simp only [Kk.cn]
    split <;> omega

set_option maxHeartbeats 1000000 in
theorem countBeaten_any (n : Int) (a : Option Addr) (l : List Int) (cap p q x : Nat) (w : World) (hx : Box w p 25 (.int .i64 n) (.slice a l.length cap)) (hq : Boxed w q 3 (.int .i64 (x : Int))) (hrow : IntRow w a l) (hok : Ok n l) (hx8 : x < 256) :
    Calls Try.prog 86 #[.int .i64 (l.length : Int), .func (.func 120) #[] #[.pointer (some ⟨p, 0, none⟩), .pointer (some ⟨q, 0, none⟩)]] w fun e w' => e = .returned (.int .i64 ((Kk.cn (fun k => an x (ww l k) == 0) l.length : Nat) : Int)) ∧ Below w.heap.size w w' := by
  have hl8 : l.length ≤ 8 := (okVa hok).le
  have HC : Hid (∀ W k, Below w.heap.size w W → k < l.length → Calls Try.prog 120 #[.int .i64 (k : Int), .pointer (some ⟨p, 0, none⟩), .pointer (some ⟨q, 0, none⟩)] W fun e W' => e = .returned (.bool (an x (ww l k) == 0)) ∧ Below W.heap.size W W') := by
    intro W k hb hk
    refine beaten1_any n a l cap p q k x W (hx.below hb hx.lt) (hq.kept (grown_of_below hb) (by simp)) (hrow.below hb (Nat.le_refl _)) hok hk hx8
  obtain ⟨pr, hpr⟩ : ∃ pr : Nat → Bool, pr = fun k => an x (ww l k) == 0 := ⟨_, rfl⟩
  have HP : Hid (∀ k, (an x (ww l k) == 0) = pr k) := fun k => by rw [hpr]
  rw [← hpr]
  clear hx hq hrow hok hpr
  go_enter Try.func86, Try.ntmps86
  go_wp2
  go_loopw [5, 8] (fun c i wr => ∃ k q : Nat, k ≤ l.length ∧ i = .int .i64 (k : Int) ∧ c = .int .i64 (q : Int) ∧ q ≤ k ∧ Hid (q = Kk.cn pr k) ∧ Below w.heap.size w wr) (fun _ i _ => l.length - (intOf i).toNat)
  case atStart => exact ⟨0, 0, Nat.zero_le _, rfl, rfl, Nat.le_refl _, rfl, Below.refl _ _⟩
  case round =>
    obtain ⟨k, q, hk, rfl, rfl, hqk, hq, hb⟩ := hrel
    by_cases hlt : k < l.length
    · have hkb : (k : Int) < (l.length : Int) := by omega
      cases hp : pr k
      · have hn : Hid (q = Kk.cn pr (k + 1)) := by show _ = _; simp only [Kk.cn]; rw [hp, hq.out]; rfl
        have HPK := Lib.hid ((HP.out k).trans hp)
        clear hp hq
        go_wp2_with fail
        refine (HC.out _ k hb hlt).mono ?_
        rintro e w2 ⟨rfl, hb2⟩
        rw [HPK.out]
        have hb4 := hb.trans (hb2.mono hb.size)
        go_wp2
        go_roundw
        case rel => exact ⟨k + 1, q, by omega, by go_num, rfl, by omega, hn, hb4⟩
        case measure => simp [intOf]; omega
      · have hn : Hid (q + 1 = Kk.cn pr (k + 1)) := by show _ = _; simp only [Kk.cn]; rw [hp, hq.out]; rfl
        have HPK := Lib.hid ((HP.out k).trans hp)
        clear hp hq
        go_wp2_with fail
        refine (HC.out _ k hb hlt).mono ?_
        rintro e w2 ⟨rfl, hb2⟩
        rw [HPK.out]
        have hb4 := hb.trans (hb2.mono hb.size)
        go_wp2
        go_roundw
        case rel => exact ⟨k + 1, q + 1, by omega, by go_num, by go_num, by omega, hn, hb4⟩
        case measure => simp [intOf]; omega
    · obtain rfl : k = l.length := by omega
      go_wp2
      go_ret
      exact ⟨by rw [← hq.out]; rfl, hb⟩

set_option maxHeartbeats 1000000 in
theorem isBeatenByOne_any (n : Int) (a : Option Addr) (l : List Int) (cap x : Nat) (w : World) (hrow : IntRow w a l) (hok : Ok n l) (hx8 : x < 256) :
    Calls Try.prog 75 #[.agg #[.int .i64 n, .slice a l.length cap], .int .i64 (x : Int)] w fun e w' => e = .returned (.bool (bbo (ww l) l.length x)) ∧ Below w.heap.size w w' := by
  obtain rfl : n = (l.length : Int) := hok.2.2.1.symm
  obtain ⟨W1, hW1⟩ : ∃ W1, W1 = w.alloc (.cells #[.int .i64 (l.length : Int), .slice a l.length cap] 25) := ⟨_, rfl⟩
  obtain ⟨W2, hW2⟩ : ∃ W2, W2 = W1.alloc (.cells #[.int .i64 (x : Int)] 3) := ⟨_, rfl⟩
  have s1 : W1.heap.size = w.heap.size + 1 := by rw [hW1]; simp
  have b1 : Below w.heap.size w W1 := by rw [hW1]; exact (Below.refl _ _).alloc (Nat.le_refl _) _
  have b2 : Below w.heap.size w W2 := by rw [hW2]; exact b1.alloc b1.size _
  have x1 : Box W1 w.heap.size 25 (.int .i64 (l.length : Int)) (.slice a l.length cap) := by rw [hW1]; exact Box.new _ _ _ _
  have g2 : W1.grownBy W2 none := by rw [hW2]; exact World.grownBy_alloc _ _ _
  have x2 : Box W2 w.heap.size 25 (.int .i64 (l.length : Int)) (.slice a l.length cap) := x1.grown g2 (by simp)
  have y2 : Boxed W2 (w.heap.size + 1) 3 (.int .i64 (x : Int)) := by rw [hW2, ← s1]; exact Boxed.new _ _ _
  have hr2 := hrow.below b2 (Nat.le_refl _)
  have hc := countBeaten_any _ a l cap w.heap.size (w.heap.size + 1) x W2 x2 y2 hr2 hok hx8
  obtain ⟨c, hcc⟩ : ∃ c, c = Kk.cn (fun k => an x (ww l k) == 0) l.length := ⟨_, rfl⟩
  have HE : Hid (decide (0 < c) = bbo (ww l) l.length x) := by show _ = _; rw [hcc]; rfl
  rw [← hcc] at hc
  have HC := Lib.hid hc
  have HW : Hid (W2 = (w.alloc (.cells #[.int .i64 (l.length : Int), .slice a l.length cap] 25)).alloc (.cells #[.int .i64 (x : Int)] 3)) := by rw [hW2, hW1]; exact rfl
  have c0 := x2.c0
  have B2 := Lib.hid b2
  clear hW1 hW2 s1 b1 b2 x1 g2 x2 y2 hr2 hc hcc hrow hok
  go_enter Try.func75, Try.ntmps75
  go_wp2_with fail
  rw [← HW.out]
  refine HC.out.mono ?_
  rintro e w' ⟨rfl, hb⟩
  go_wp2
  go_ret
  exact ⟨by rw [← HE.out]; simp, B2.out.trans (hb.mono B2.out.size)⟩
end Go.Proofs.Ytgjogbihadiojaa
