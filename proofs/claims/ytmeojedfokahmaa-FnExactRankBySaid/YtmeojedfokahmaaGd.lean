/-
  'RankBy' of the model. No conditions but the bounds that Go gives a slice.
-/
import Derived.Test.YtmeojedfokahmaaGh
namespace Go.Proofs.Ytmeojedfokahmaa
open Go.ChangeShapes Go.WideShapes Go.ChangeAt Go.RowKit Go.Sort
set_option linter.unusedVariables false

theorem rank_snoc (f : Nat → Int) (k : Nat) : (List.range k).map f ++ [f k] = (List.range (k + 1)).map f := by
  rw [List.range_succ, List.map_append]; rfl

set_option maxRecDepth 100000 in
set_option maxHeartbeats 2000000 in
theorem specRankBy (a : Option Addr) (l : List Int) (cap : Nat) (w : World) (hrow : IntRow w a l) (hl : l.length ≤ maxLen) :
    Calls Try.prog 53 #[.slice a l.length cap] w fun e w' => (∃ a0 c0, e = .returned (.slice a0 (rankR l).length c0) ∧ w'.ownsRow w.heap.size 3 1 (.slice a0 (rankR l).length c0) (rankR l).length ((rankR l).map iv)) ∧ Below w.heap.size w w' := by
  unfold maxLen at hl
  obtain ⟨n, hn⟩ : ∃ n, n = l.length := ⟨_, rfl⟩
  have HN := Lib.hid hn
  rw [← hn] at hl ⊢
  by_cases h40 : n ≤ 40
  · have h40i : ¬ (40 : Int) < (n : Int) := by omega
    have H0 := Lib.hid hrow
    have HRR : Hid (rankR l = (List.range n).map (rankF l)) := by show _ = _; unfold rankR rankL; rw [if_pos (by omega), ← hn]
    have HRl : Hid ((rankR l).length = n) := by show _ = _; rw [HRR.out]; simp
    have O1 := Lib.hid (own_empty w w.heap.size w.heap.size (Nat.le_refl _) rfl)
    have B1 := Lib.hid (Below.one w (.cells #[] 3))
    clear hrow hn
    go_enter Try.func53, Try.ntmps53
    go_wp2
    go_loopw [3, 15] (fun o i wr => ∃ (k g c : Nat), k ≤ n ∧ i = .int .i64 (k : Int) ∧ o = .slice (some ⟨g, 0, none⟩) k c ∧ Hid (wr.ownsRow w.heap.size 3 1 (.slice (some ⟨g, 0, none⟩) k c) k (((List.range k).map (rankF l)).map iv)) ∧ Hid (Below w.heap.size w wr)) (fun _ i _ => n - (intOf i).toNat)
    case atStart => exact ⟨0, w.heap.size, 0, Nat.zero_le _, rfl, rfl, O1, B1⟩
    case round =>
      clear O1 B1
      obtain ⟨k, g, c, hk, rfl, rfl, O1, B1⟩ := hrel
      by_cases hlt : k < n
      · have hki : (k : Int) < (n : Int) := by omega
        obtain ⟨b, off, rfl, hbb, hc⟩ := row_at H0.out (show k < l.length by have := HN.out; omega)
        have hck := (B1.out.cell (p := ⟨b, off + k, none⟩) hbb).trans (hc k (by have := HN.out; omega))
        have HCELL : Hid (∀ W j, Below w.heap.size w W → j < n → W.cell? ⟨b, off + j, none⟩ = some (.int .i64 (l.getD j 0))) := fun W j hW hj => (hW.cell (p := ⟨b, off + j, none⟩) hbb).trans (hc j (by have := HN.out; omega))
        obtain ⟨x, hx⟩ : ∃ x, x = l.getD k 0 := ⟨_, rfl⟩
        have HX := Lib.hid hx
        rw [← hx] at hck
        clear hc hx
        go_wp2
        go_loopw [6, 21] (fun m j wr2 => ∃ (y q : Nat), y ≤ n ∧ q ≤ y ∧ j = .int .i64 (y : Int) ∧ m = .int .i64 (1 + (q : Int)) ∧ Hid (q = cnt (fun j => decide (x < l.getD j 0)) y) ∧ wr2 = wr) (fun _ j _ => n - (intOf j).toNat)
        case atStart => exact ⟨0, 0, Nat.zero_le _, Nat.le_refl _, rfl, rfl, rfl, rfl⟩
        case round =>
          clear hck
          obtain ⟨y, q, hy, hqy, rfl, rfl, hq, rfl⟩ := hrel
          by_cases hlt2 : y < n
          · have hyi : (y : Int) < (n : Int) := by omega
            have hcy := HCELL.out wr y B1.out hlt2
            have HQ : Hid (cnt (fun j => decide (x < l.getD j 0)) (y + 1) = if decide (x < l.getD y 0) = true then q + 1 else q) := by show _ = _; simp only [cnt]; rw [← hq.out]
            generalize l.getD y 0 = u at hcy HQ
            by_cases hu : x < u
            · have HQ2 : Hid (q + 1 = cnt (fun j => decide (x < l.getD j 0)) (y + 1)) := by show _ = _; rw [HQ.out, if_pos (decide_eq_true hu)]
              clear HQ hq
              go_wp2
              go_roundw
              case rel => exact ⟨y + 1, q + 1, by omega, by omega, by go_num, by go_num, HQ2, trivial⟩
              case measure => simp [intOf]; omega
            · have HQ2 : Hid (q = cnt (fun j => decide (x < l.getD j 0)) (y + 1)) := by show _ = _; rw [HQ.out, if_neg (by simpa using hu)]
              clear HQ hq
              go_wp2
              go_roundw
              case rel => exact ⟨y + 1, q, by omega, by omega, by go_num, rfl, HQ2, trivial⟩
              case measure => simp [intOf]; omega
          · obtain rfl : y = n := by omega
            have HF : Hid (1 + (q : Int) = rankF l k) := by show _ = _; unfold rankF; rw [hq.out, HX.out, HN.out]
            have O4 : Hid ((wr.alloc (.cells #[.int .i64 (1 + (q : Int))] 3)).ownsRow w.heap.size 3 1 (.slice (some ⟨g, 0, none⟩) k c) k (((List.range k).map (rankF l)).map iv)) := by
              have hgn : wr.grownBy (wr.alloc (.cells #[.int .i64 (1 + (q : Int))] 3)) none := World.grownBy_alloc _ _ _
              exact own_grown O1.out hgn (fun k _ e => by cases e)
            have B4 := Lib.hid (B1.out.alloc B1.out.size (.cells #[.int .i64 (1 + (q : Int))] 3))
            have HC4 : Hid (∀ j, j < 1 → (wr.alloc (.cells #[.int .i64 (1 + (q : Int))] 3)).cell? ((⟨wr.heap.size, 0, none⟩ : Addr).add j) = some (iv ([1 + (q : Int)].getD j 0))) := fun j hj => by
              obtain rfl : j = 0 := by omega
              rw [Addr.add_lit]
              simp [iv]
            clear hq O1 B1
            go_wp2_with (at_builtin; refine list_append_int _ rfl _ _ rfl w.heap.size g k c ((List.range k).map (rankF l)) rfl O4.out ⟨wr.heap.size, 0, none⟩ 1 1 [1 + (q : Int)] rfl rfl HC4.out (by omega) B4.out.size (k + 1) rfl ?_)
            intro g4 c4 w4 hown4 hg4 hb4
            have BB4 := Lib.hid (B4.out.trans hb4)
            have OO4 : Hid (w4.ownsRow w.heap.size 3 1 (.slice (some ⟨g4, 0, none⟩) (k + 1) c4) (k + 1) (((List.range (k + 1)).map (rankF l)).map iv)) := by
              show World.ownsRow _ _ _ _ _ _ _
              rw [← rank_snoc, ← HF.out]
              first | exact hown4 | simpa using hown4
            clear hown4 hg4 hb4 HC4 O4
            go_wp2
            go_roundw
            case rel => exact ⟨k + 1, g4, c4, by omega, by go_num, rfl, OO4, BB4⟩
            case measure => simp [intOf]; omega
      · obtain rfl : k = n := by omega
        go_wp2
        go_ret
        refine ⟨⟨some ⟨g, 0, none⟩, c, by rw [HRl.out]; rfl, ?_⟩, B1.out⟩
        rw [HRl.out, HRR.out]; exact O1.out
  · have h40i : (40 : Int) < (n : Int) := by omega
    have HRR : Hid (rankR l = []) := by show _ = _; unfold rankR; rw [if_neg (by omega)]
    clear hrow hn
    go_enter Try.func53, Try.ntmps53
    go_wp2
    go_ret
    rw [HRR.out]
    exact ⟨⟨none, 0, rfl, own_nil _ _⟩, Below.refl _ _⟩
end Go.Proofs.Ytmeojedfokahmaa
