/-
  'OrderBy' of the program, whole. No conditions but the bounds that Go gives a slice.
-/
import Derived.Test.YtpndfmlkceplcaaGw
namespace Go.Proofs.Ytpndfmlkceplcaa
open Go.ChangeShapes Go.WideShapes Go.ChangeAt Go.RowKit Go.Sort Go.Shelf Go.Lib
set_option linter.unusedVariables false

theorem insertion_none (a : Option Addr) (c : Nat) (fv : Value) (w : World) : Calls Try.prog 181 #[.slice a 0 c, .int .i64 0, .int .i64 0, fv] w fun e w' => e = .returned (.tuple #[]) ∧ w = w' := by
  go_enter Try.func181, Try.ntmps181
  go_wp2
  refine wp_loop_rounds 1 ?_
  rw [rounds_succ]
  go_wp2
  go_end0
  exact ⟨rfl, rfl⟩
theorem stable_none (a : Option Addr) (c : Nat) (fv : Value) (w : World) : Calls Try.prog 154 #[.slice a 0 c, .int .i64 0, fv] w fun e w' => e = .returned (.tuple #[]) ∧ w = w' := by
  go_enter Try.func154, Try.ntmps154
  go_wp2
  refine wp_loop_rounds 1 ?_
  rw [rounds_succ]
  go_wp2_with fail
  refine (insertion_none _ _ _ _).mono ?_
  rintro e w1 ⟨rfl, rfl⟩
  go_wp2
  refine wp_loop_rounds 1 ?_
  rw [rounds_succ]
  go_wp2
  go_end0
  exact ⟨rfl, rfl⟩
theorem sortStable_none (a : Option Addr) (c : Nat) (fv : Value) (w : World) : Calls Try.prog 103 #[.slice a 0 c, fv] w fun e w' => e = .returned (.tuple #[]) ∧ w = w' := by
  go_enter Try.func103, Try.ntmps103
  go_wp2_with fail
  refine (stable_none _ _ _ _).mono ?_
  rintro e w1 ⟨rfl, rfl⟩
  go_wp2
  go_end0
  exact ⟨rfl, rfl⟩

/-- What both 'OrderBy' answer. -/
def ordR (l : List Int) : List Int := if l.length ≤ 40 then (ordL l).map Int.ofNat else []
theorem ordR_len (l : List Int) : (ordR l).length ≤ 40 := by
  unfold ordR
  split
  · rw [List.length_map, ordL_len]; assumption
  · simp

set_option maxRecDepth 100000 in
set_option maxHeartbeats 2000000 in
theorem implOrderBy (a : Option Addr) (l : List Int) (cap : Nat) (w : World) (hrow : IntRow w a l) (hl : l.length ≤ maxLen) :
    Calls Try.prog 38 #[.slice a l.length cap] w fun e w' => (∃ a0 c0, e = .returned (.slice a0 (ordR l).length c0) ∧ w'.ownsRow w.heap.size 3 1 (.slice a0 (ordR l).length c0) (ordR l).length ((ordR l).map iv)) ∧ Below w.heap.size w w' := by
  unfold maxLen at hl
  obtain ⟨n, hn⟩ : ∃ n, n = l.length := ⟨_, rfl⟩
  obtain ⟨W1, hW1⟩ : ∃ W1, W1 = w.alloc (.cells #[.slice a n cap] 22) := ⟨_, rfl⟩
  have HW1 := Lib.hid hW1
  have hb1 : Below w.heap.size w W1 := by rw [hW1]; exact (Below.refl _ _).alloc (Nat.le_refl _) _
  have hs1 : W1.heap.size = w.heap.size + 1 := by rw [hW1]; simp
  have hp : W1.cell? ⟨w.heap.size, 0, none⟩ = some (.slice a n cap) := by rw [hW1]; simp
  have HN := Lib.hid hn
  rw [← hn] at hl ⊢
  by_cases h40 : n ≤ 40
  · have HR : Hid (decide ((n : Int) ≤ 40) = true) := decide_eq_true (by omega)
    obtain ⟨i0, hi, hz0, hz1, hz2⟩ := info_parts infoInt
    have hrow0 := Lib.hid hrow
    have HB1 := Lib.hid hb1
    have HRR : Hid (ordR l = (ordL l).map Int.ofNat) := by show _ = _; unfold ordR; rw [if_pos (by omega)]
    have HRl : Hid ((ordR l).length = n) := by show _ = _; rw [HRR.out, List.length_map, ordL_len, hn]
    clear hW1 hb1 hrow hn
    go_enter Try.func38, Try.ntmps38
    go_wp2_with fail
    rw [← HW1.out]
    refine (isRanked_any a n cap _).mono ?_
    rintro e w2 ⟨rfl, rfl⟩
    rw [HR.out]
    go_wp2_with (refine wpList_make_full _ rfl _ _ 22 rfl W1.heap.size 3 i0 (.int .i64 0) 1 Try.underlying22 hi hz0 hz1 .i64 .i64 _ _ n rfl rfl rfl rfl ?c1 ?c2 ?c3 ?_)
    case c1 => rw [hz2]; omega
    case c2 => unfold maxLen; omega
    case c3 => exact Nat.le_refl _
    intro w2 hown hg
    have hb2 : Below W1.heap.size W1 w2 := (Below.refl _ W1).grown hg (Nat.le_refl _) (fun k hk => by cases hk)
    rw [zerosI, ← fillR_zero (fun i => (i : Int))] at hown
    obtain ⟨g, hgv⟩ : ∃ g, g = w.heap.size + 1 := ⟨_, rfl⟩
    have hown2 : w2.ownsRow w.heap.size 3 1 (.slice (some ⟨g, 0, none⟩) n n) n ((fillR (fun i => (i : Int)) n 0).map iv) := by rw [hgv]; exact (show w2.ownsRow (w.heap.size + 1) _ _ _ _ _ from hown).mono (Nat.le_succ _)
    have hp2 : w2.cell? ⟨w.heap.size, 0, none⟩ = some (.slice a n cap) := (hb2.cell (p := ⟨w.heap.size, 0, none⟩) (by show w.heap.size < _; omega)).trans hp
    have O2 := Lib.hid hown2
    have B2 := Lib.hid (HB1.out.trans (hb2.mono HB1.out.size))
    have hg2 : Hid (g < w2.heap.size ∧ w.heap.size < w2.heap.size) := by show _ ∧ _; have := (hown2.lt g rfl).2; exact ⟨this, by have := hb2.size; omega⟩
    have hgw : Hid (w.heap.size < g) := by show _ < _; omega
    rw [← hgv]
    clear hown hown2 hg hb2 hgv hs1 hp HB1 HW1
    go_wp2
    go_loopw [13] (fun i wr => ∃ k : Nat, k ≤ n ∧ i = .int .i64 (k : Int) ∧ Hid (wr.ownsRow w.heap.size 3 1 (.slice (some ⟨g, 0, none⟩) n n) n ((fillR (fun i => (i : Int)) n k).map iv)) ∧ Hid (wr.cell? ⟨w.heap.size, 0, none⟩ = some (.slice a n cap)) ∧ Hid (Below w.heap.size w wr) ∧ Hid (g < wr.heap.size ∧ w.heap.size < wr.heap.size)) (fun i _ => n - (intOf i).toNat)
    case atStart => exact ⟨0, Nat.zero_le _, rfl, O2, hp2, B2, hg2⟩
    case round =>
      clear O2 hp2 B2 hg2
      obtain ⟨k, hk, rfl, O1, hp1, B1, hg1⟩ := hrel
      by_cases hlt : k < n
      · have hki : (k : Int) < (n : Int) := by omega
        obtain ⟨v0, hcl⟩ := own_cell0 O1.out hlt
        have hfc := O1.out.frozenAt k
        have hst := O1.out.stored k (iv (k : Int))
        rw [← List.map_set, fillR_set (fun i => (i : Int)) _ _ hlt] at hst
        have O4 : Hid ((wr.setCell ⟨g, k, none⟩ (.int .i64 (k : Int))).ownsRow w.heap.size 3 1 (.slice (some ⟨g, 0, none⟩) n n) n ((fillR (fun i => (i : Int)) n (k + 1)).map iv)) := hst.1
        have P4 : Hid ((wr.setCell ⟨g, k, none⟩ (.int .i64 (k : Int))).cell? ⟨w.heap.size, 0, none⟩ = some (.slice a n cap)) := by
          show _ = _
          rw [World.cell?_setCell_other _ _ _ _ (by intro e; simp only [Addr.mk.injEq] at e; have := hgw.out; omega)]
          exact hp1.out
        have B4 : Hid (Below w.heap.size w (wr.setCell ⟨g, k, none⟩ (.int .i64 (k : Int)))) := B1.out.setCell (p := ⟨g, k, none⟩) (Nat.le_of_lt hgw.out) _
        have S4 : Hid (g < (wr.setCell ⟨g, k, none⟩ (.int .i64 (k : Int))).heap.size ∧ w.heap.size < (wr.setCell ⟨g, k, none⟩ (.int .i64 (k : Int))).heap.size) := by
          show _ ∧ _; have := hg1.out; simp; omega
        clear hst O1 hp1 B1 hg1
        go_wp2
        go_roundw
        case rel => exact ⟨k + 1, by omega, by go_num, O4, P4, B4, S4⟩
        case measure => simp [intOf]; omega
      · obtain rfl : k = n := by omega
        have hrw := Lib.hid (hrow0.out.below B1.out (Nat.le_refl _))
        have HSO : Hid (Calls Try.prog 103 #[.slice (some ⟨g, 0, none⟩) k k, .func (.func 104) #[] #[.pointer (some ⟨w.heap.size, 0, none⟩)]] wr fun e w' => e = .returned (.tuple #[]) ∧ w'.ownsRow w.heap.size 3 1 (.slice (some ⟨g, 0, none⟩) k k) k (((ordL l).map Int.ofNat).map iv) ∧ Below w.heap.size w w') := by
          rcases Nat.eq_zero_or_pos k with h0 | h0
          · subst h0
            refine (sortStable_none _ _ _ _).mono ?_
            rintro e w' ⟨rfl, rfl⟩
            have hl0 : l = [] := List.eq_nil_of_length_eq_zero HN.out.symm
            refine ⟨rfl, ?_, B1.out⟩
            have := O1.out
            rw [hl0]
            exact this
          · have hga : blk a ≠ some g := by
              intro e
              rcases hrow0.out with h | ⟨ba, off, rfl, hbl, _⟩
              · rw [h] at HN; have := HN.out; simp at this; omega
              · simp only [blk] at e
                have e2 : ba = g := by simpa using e
                have := hgw.out
                omega
            refine (sortIdx_any l k cap HN.out.symm h0 h40 w.heap.size g w.heap.size a wr hp1.out hg1.out.2 (by have := hgw.out; omega) hga hrw.out O1.out).mono ?_
            rintro e w' ⟨rfl, ho, hg⟩
            exact ⟨rfl, ho, B1.out.grown hg (by have := B1.out.size; omega) (fun k hk => by cases hk; have := hgw.out; omega)⟩
        clear O1 hp1 B1 hg1 hrw
        go_wp2_with fail
        refine HSO.out.mono ?_
        rintro e w5 ⟨rfl, ho5, hb5⟩
        have O5 := Lib.hid ho5
        have B5 := Lib.hid hb5
        clear ho5 hb5 HSO
        go_wp2
        go_ret
        refine ⟨⟨some ⟨g, 0, none⟩, k, by rw [HRl.out]; rfl, ?_⟩, B5.out⟩
        rw [HRl.out, HRR.out]; exact O5.out
  · have HR : Hid (decide ((n : Int) ≤ 40) = false) := decide_eq_false (by omega)
    have HRR : Hid (ordR l = []) := by show _ = _; unfold ordR; rw [if_neg (by omega)]
    have HB1 := Lib.hid hb1
    clear hW1 hb1 hrow hn
    go_enter Try.func38, Try.ntmps38
    go_wp2_with fail
    rw [← HW1.out]
    refine (isRanked_any a n cap _).mono ?_
    rintro e w2 ⟨rfl, rfl⟩
    rw [HR.out]
    go_wp2
    go_ret
    rw [HRR.out]
    exact ⟨⟨none, 0, rfl, own_nil _ _⟩, HB1.out⟩
end Go.Proofs.Ytpndfmlkceplcaa
