/-
  RealizeScores of the model: 'l03Least'. No conditions.
-/
import Derived.Test.Ytnlbijmkehijiaa3U
import Derived.Test.Ytnlbijmkehijiaa3Z
namespace Go.Proofs.Ytnlbijmkehijiaa
open Go.ChangeShapes Go.WideShapes Go.ChangeAt Go.RowKit
set_option linter.unusedVariables false

def bv (b : Bool) : Value := .bool b
/-- The player that 'l03Least' holds before the player k. -/
def leastTo (left : List Int) (dn : List Bool) : Nat → Int
  | 0 => -1
  | k + 1 => if dn.getD k false = false ∧ (leastTo left dn k < 0 ∨ left.getD k 0 < left.getD (leastTo left dn k).toNat 0) then (k : Int) else leastTo left dn k
theorem leastTo_cases (left : List Int) (dn : List Bool) (k : Nat) : leastTo left dn k = -1 ∨ ∃ a : Nat, leastTo left dn k = a ∧ a < k := by
  induction k with
  | zero => exact .inl rfl
  | succ k ih =>
    unfold leastTo
    split
    · exact .inr ⟨k, rfl, by omega⟩
    · rcases ih with h | ⟨a, h1, h2⟩
      · exact .inl h
      · exact .inr ⟨a, h1, by omega⟩
theorem leastTo_spec (left : List Int) (dn : List Bool) (k : Nat) : (leastTo left dn k = -1 ∧ ∀ x, x < k → dn.getD x false = true) ∨ ∃ a : Nat, leastTo left dn k = a ∧ a < k ∧ dn.getD a false = false ∧ ∀ x, x < k → dn.getD x false = false → Tmpm.leK left a x = true := by
  induction k with
  | zero => exact .inl ⟨rfl, fun x h => absurd h (Nat.not_lt_zero _)⟩
  | succ k ih =>
    unfold leastTo
    rcases ih with ⟨h, hd⟩ | ⟨a, h, hak, hda, hx⟩
    · rw [h]
      split
      · rename_i hc
        refine .inr ⟨k, rfl, by omega, hc.1, fun x hx h2 => ?_⟩
        have : x = k := by
          rcases Nat.lt_or_ge x k with h3 | h3
          · rw [hd x h3] at h2; cases h2
          · omega
        rw [this, Tmpm.leK_iff]; exact .inr ⟨rfl, Nat.le_refl _⟩
      · rename_i hc
        refine .inl ⟨rfl, fun x hx => ?_⟩
        by_cases e : x = k
        · cases hk : dn.getD k false
          · exact absurd ⟨hk, .inl (by decide)⟩ hc
          · rw [e, hk]
        · exact hd x (by omega)
    · rw [h, Int.toNat_natCast]
      split
      · rename_i hc
        have hlt : left.getD k 0 < left.getD a 0 := by rcases hc.2 with h3 | h3 <;> omega
        refine .inr ⟨k, rfl, by omega, hc.1, fun x hxk h2 => ?_⟩
        rw [Tmpm.leK_iff]
        by_cases e : x = k
        · subst e; exact .inr ⟨rfl, Nat.le_refl _⟩
        · have := hx x (by omega) h2
          rw [Tmpm.leK_iff] at this; omega
      · rename_i hc
        refine .inr ⟨a, rfl, by omega, hda, fun x hxk h2 => ?_⟩
        by_cases e : x = k
        · subst e
          rw [Tmpm.leK_iff]
          have : ¬ left.getD x 0 < left.getD a 0 := fun h4 => hc ⟨h2, .inr h4⟩
          omega
        · exact hx x (by omega) h2
theorem least_nil (left : List Int) (n : Nat) : leastTo left (Tmpm.dnL n []) n = -1 := by
  rcases leastTo_spec left (Tmpm.dnL n []) n with ⟨h, _⟩ | ⟨a, _, ha, hd, _⟩
  · exact h
  · rw [Tmpm.dnL_at _ _ _ ha] at hd; simp at hd
theorem least_head (left : List Int) (n a : Nat) (T : List Nat) (hlt : ∀ x ∈ a :: T, x < n) (hs : (a :: T).Pairwise fun a b => Tmpm.leK left a b = true) : leastTo left (Tmpm.dnL n (a :: T)) n = a := by
  have han := hlt a (by simp)
  have hda : (Tmpm.dnL n (a :: T)).getD a false = false := by rw [Tmpm.dnL_at _ _ _ han]; simp
  rcases leastTo_spec left (Tmpm.dnL n (a :: T)) n with ⟨h, hd⟩ | ⟨b, h, hb, hd, hx⟩
  · rw [hd a han] at hda; cases hda
  · rw [h]
    rw [Tmpm.dnL_at _ _ _ hb] at hd
    have hm : b ∈ a :: T := by
      cases hc : (a :: T).contains b
      · rw [hc] at hd; cases hd
      · exact List.contains_iff_mem.1 hc
    have h1 := hx a han hda
    rcases List.mem_cons.1 hm with rfl | hm
    · rfl
    · have h2 := (List.pairwise_cons.1 hs).1 b hm
      rw [Tmpm.leK_anti h1 h2]

set_option maxRecDepth 100000 in
set_option maxHeartbeats 1000000 in
theorem least_any (B1 B2 g1 g2 n c1 c2 : Nat) (left : List Int) (dn : List Bool) (w : World) (hn : n ≤ 64)
    (h1 : w.ownsRow B1 3 1 (.slice (some ⟨g1, 0, none⟩) n c1) n (left.map iv)) (h2 : w.ownsRow B2 4 1 (.slice (some ⟨g2, 0, none⟩) n c2) n (dn.map bv)) :
    Calls Try.prog 48 #[.slice (some ⟨g1, 0, none⟩) n c1, .slice (some ⟨g2, 0, none⟩) n c2] w fun e w' => e = .returned (.int .i64 (leastTo left dn n)) ∧ w = w' := by
  have hl1 : left.length = n := by simpa using h1.1
  have hl2 : dn.length = n := by simpa using h2.1
  have hc1 : ∀ k, k < n → w.cell? ⟨g1, k, none⟩ = some (.int .i64 (left.getD k 0)) := by
    intro k hk
    have := h1.cellAt k (by omega)
    rw [List.getElem?_map, show left[k]? = some (left.getD k 0) by rw [List.getD_eq_getElem?_getD, List.getElem?_eq_getElem (by omega)]; rfl] at this
    exact this
  have hc2 : ∀ k, k < n → w.cell? ⟨g2, k, none⟩ = some (.bool (dn.getD k false)) := by
    intro k hk
    have := h2.cellAt k (by omega)
    rw [List.getElem?_map, show dn[k]? = some (dn.getD k false) by rw [List.getD_eq_getElem?_getD, List.getElem?_eq_getElem (by omega)]; rfl] at this
    exact this
  have H1 := Lib.hid hc1
  have H2 := Lib.hid hc2
  clear hc1 hc2 h1 h2 hl1 hl2
  go_enter Try.func48, Try.ntmps48
  go_wp2
  go_loopw [5, 10] (fun bvv iv wr => ∃ (k : Nat) (b : Int), k ≤ n ∧ iv = .int .i64 k ∧ bvv = .int .i64 b ∧ Hid (b = leastTo left dn k) ∧ wr = w) (fun _ i _ => n - (intOf i).toNat)
  case atStart => exact ⟨0, -1, Nat.zero_le _, rfl, rfl, rfl, rfl⟩
  case round =>
    obtain ⟨k, b, hk, rfl, rfl, hb, rfl⟩ := hrel
    by_cases hlt : k < n
    · have hki : (k : Int) < (n : Int) := by omega
      have c1 := H1.out k hlt
      have c2 := H2.out k hlt
      obtain ⟨x, hx⟩ : ∃ x, x = left.getD k 0 := ⟨_, rfl⟩
      rw [← hx] at c1
      cases hd : dn.getD k false
      · rw [hd] at c2
        rcases leastTo_cases left dn k with h | ⟨a, h, ha⟩
        · have hb1 : b = -1 := by rw [hb.out, h]
          subst hb1
          have hnx : Hid ((k : Int) = leastTo left dn (k + 1)) := by
            show _ = _
            unfold leastTo
            rw [h, if_pos ⟨hd, .inl (by decide)⟩]
          clear hb
          go_wp2
          go_roundw
          case rel => exact ⟨k + 1, _, by omega, by go_num, rfl, hnx, by first | exact rfl | trivial⟩
          case measure => simp [intOf]; omega
        · have hb1 : b = (a : Int) := by rw [hb.out, h]
          subst hb1
          have c3 := H1.out a (by omega)
          obtain ⟨y, hy⟩ : ∃ y, y = left.getD a 0 := ⟨_, rfl⟩
          rw [← hy] at c3
          have hb0 : ¬ (a : Int) < 0 := by omega
          have han : (a : Int) < (n : Int) := by omega
          by_cases hxy : x < y
          · have hnx : Hid ((k : Int) = leastTo left dn (k + 1)) := by
              show _ = _
              unfold leastTo
              rw [h, if_pos ⟨hd, .inr (by rw [← hx]; show x < left.getD (Int.toNat (a : Int)) 0; rw [Int.toNat_natCast, ← hy]; exact hxy)⟩]
            clear hb hy hx
            go_wp2
            go_roundw
            case rel => exact ⟨k + 1, _, by omega, by go_num, rfl, hnx, by first | exact rfl | trivial⟩
            case measure => simp [intOf]; omega
          · have hnx : Hid ((a : Int) = leastTo left dn (k + 1)) := by
              show _ = _
              unfold leastTo
              rw [h, if_neg]
              rintro ⟨_, h4 | h4⟩
              · omega
              · rw [Int.toNat_natCast, ← hx, ← hy] at h4; exact hxy h4
            clear hb hy hx
            go_wp2
            go_roundw
            case rel => exact ⟨k + 1, _, by omega, by go_num, rfl, hnx, by first | exact rfl | trivial⟩
            case measure => simp [intOf]; omega
      · rw [hd] at c2
        have hnx : Hid (b = leastTo left dn (k + 1)) := by
          show _ = _
          unfold leastTo
          rw [if_neg (by rintro ⟨h4, _⟩; rw [hd] at h4; cases h4)]
          exact hb.out
        clear hb hx
        go_wp2
        go_roundw
        case rel => exact ⟨k + 1, _, by omega, by go_num, rfl, hnx, by first | exact rfl | trivial⟩
        case measure => simp [intOf]; omega
    · obtain rfl : k = n := by omega
      have hki : ¬ (k : Int) < (k : Int) := by omega
      go_wp2
      go_ret
      exact ⟨by rw [hb.out]; rfl, rfl⟩
end Go.Proofs.Ytnlbijmkehijiaa
