/-
  Numbers counted by a function that reads ('countBelow'); 'RankBy' of the program. No conditions but the bounds that Go gives a slice.
-/
import Derived.Test.YtpndfmlkceplcaaGa
import Derived.Test.YtpndfmlkceplcaaF
import Derived.Shelf.Abstract
namespace Go.Proofs.Ytpndfmlkceplcaa
open Go.ChangeShapes Go.WideShapes Go.ChangeAt Go.RowKit
set_option linter.unusedVariables false

/-- How many numbers below one are as a test says. -/
def cntG (p : Nat → Bool) : Nat → Nat
  | 0 => 0
  | k + 1 => if p k then cntG p k + 1 else cntG p k
theorem cntG_le (p : Nat → Bool) : ∀ k, cntG p k ≤ k
  | 0 => Nat.le_refl _
  | k + 1 => by
    have := cntG_le p k
    simp only [cntG]
    split <;> omega

set_option maxHeartbeats 1000000 in
theorem countBelow_any (n : Nat) (hn : n ≤ 1000) (gf : Nat) (cb : Array Value) (pr : Nat → Bool) (w : World) (eg : ∀ args w, (callFunc gf args).run Try.prog w = .ok (.enter gf args) w)
    (HC : ∀ W k, Below w.heap.size w W → k < n → Calls Try.prog gf (#[.int .i64 (k : Int)] ++ cb) W fun e W' => e = .returned (.bool (pr k)) ∧ Below W.heap.size W W') :
    Calls Try.prog 106 #[.int .i64 (n : Int), .func (.func gf) #[] cb] w fun e w' => e = .returned (.int .i64 ((cntG pr n : Nat) : Int)) ∧ Below w.heap.size w w' := by
  have HCH := Lib.hid HC
  clear HC
  go_enter Try.func106, Try.ntmps106
  go_wp2
  go_loopw [5, 8] (fun c i wr => ∃ k q : Nat, k ≤ n ∧ i = .int .i64 (k : Int) ∧ c = .int .i64 (q : Int) ∧ q ≤ k ∧ Hid (q = cntG pr k) ∧ Below w.heap.size w wr) (fun _ i _ => n - (intOf i).toNat)
  case atStart => exact ⟨0, 0, Nat.zero_le _, rfl, rfl, Nat.le_refl _, rfl, Below.refl _ _⟩
  case round =>
    obtain ⟨k, q, hk, rfl, rfl, hqk, hq, hb⟩ := hrel
    by_cases hlt : k < n
    · have hkb : (k : Int) < (n : Int) := by omega
      cases hp : pr k
      · have hn : Hid (q = cntG pr (k + 1)) := by show _ = _; simp only [cntG]; rw [hp, hq.out]; rfl
        have HPK := Lib.hid hp
        clear hp hq
        go_wp2_with (go_at_fn gf; refine (HCH.out _ k hb hlt).mono ?_; rintro e w2 ⟨rfl, hb2⟩; rw [HPK.out]; have hb4 := hb.trans (hb2.mono hb.size))
        go_roundw
        case rel => exact ⟨k + 1, q, by omega, by go_num, rfl, by omega, hn, hb4⟩
        case measure => simp [intOf]; omega
      · have hn : Hid (q + 1 = cntG pr (k + 1)) := by show _ = _; simp only [cntG]; rw [hp, hq.out]; rfl
        have HPK := Lib.hid hp
        clear hp hq
        go_wp2_with (go_at_fn gf; refine (HCH.out _ k hb hlt).mono ?_; rintro e w2 ⟨rfl, hb2⟩; rw [HPK.out]; have hb4 := hb.trans (hb2.mono hb.size))
        go_roundw
        case rel => exact ⟨k + 1, q + 1, by omega, by go_num, by go_num, by omega, hn, hb4⟩
        case measure => simp [intOf]; omega
    · obtain rfl : k = n := by omega
      go_wp2
      go_ret
      exact ⟨by rw [← hq.out]; rfl, hb⟩

/-- The question of 'RankBy': whether an element is greater. -/
theorem rank1_any (p q k n cap : Nat) (a : Option Addr) (l : List Int) (x : Int) (W : World) (hp : W.cell? ⟨p, 0, none⟩ = some (.slice a n cap)) (hq : W.cell? ⟨q, 0, none⟩ = some (.int .i64 x)) (hn : l.length = n) (hrow : IntRow W a l) (hk : k < n) :
    Calls Try.prog 107 #[.int .i64 (k : Int), .pointer (some ⟨p, 0, none⟩), .pointer (some ⟨q, 0, none⟩)] W fun e W' => e = .returned (.bool (decide (x < l.getD k 0))) ∧ Below W.heap.size W W' := by
  subst hn
  obtain ⟨b, off, rfl, hb, hc⟩ := row_at hrow hk
  have f1 := hc k hk
  have hki : (k : Int) < (l.length : Int) := by omega
  generalize l.getD k 0 = y at f1 ⊢
  clear hc hrow
  go_enter Try.func107, Try.ntmps107
  go_wp2
  go_region
  all_goals
    go_wp2
    go_ret
    exact ⟨rfl, (Below.refl _ _).drew⟩
end Go.Proofs.Ytpndfmlkceplcaa
