/-
  'RankBy' of the program. No conditions but the bounds that Go gives a slice.
-/
import Derived.Test.YtpndfmlkceplcaaGb
namespace Go.Proofs.Ytpndfmlkceplcaa
open Go.ChangeShapes Go.WideShapes Go.ChangeAt Go.RowKit
set_option linter.unusedVariables false

/-- A row that is being filled. -/
def fillR (f : Nat → Int) (n k : Nat) : List Int := (List.range n).map fun i => if i < k then f i else 0
theorem fillR_len (f : Nat → Int) (n k : Nat) : (fillR f n k).length = n := by simp [fillR]
theorem fillR_zero (f : Nat → Int) (n : Nat) : fillR f n 0 = List.replicate n 0 := by
  apply List.ext_getElem (by simp [fillR])
  intro i h1 h2
  simp [fillR]
theorem fillR_all (f : Nat → Int) (n : Nat) : fillR f n n = (List.range n).map f := by
  apply List.ext_getElem (by simp [fillR])
  intro i h1 h2
  simp only [fillR, List.getElem_map, List.getElem_range]
  rw [if_pos (by simpa using h2)]
theorem fillR_set (f : Nat → Int) (n k : Nat) (h : k < n) : (fillR f n k).set k (f k) = fillR f n (k + 1) := by
  apply List.ext_getElem (by simp [fillR])
  intro i h1 h2
  rw [List.getElem_set]
  simp only [fillR, List.getElem_map, List.getElem_range]
  by_cases e : k = i
  · subst e; rw [if_pos rfl, if_pos (Nat.lt_succ_self k)]
  · rw [if_neg e]
    by_cases c : i < k
    · rw [if_pos c, if_pos (by omega)]
    · rw [if_neg c, if_neg (by omega)]
theorem zerosI (k : Nat) : (madeCells #[Value.int .i64 0] k).toList = (List.replicate k (0 : Int)).map iv := by
  rw [toList_madeCells_one]; simp [iv]

/-- A place's rank. -/
def rankF (l : List Int) (i : Nat) : Int := 1 + ((cntG (fun k => decide (l.getD i 0 < l.getD k 0)) l.length : Nat) : Int)
def rankL (l : List Int) : List Int := (List.range l.length).map (rankF l)
/-- What both 'RankBy' answer. -/
def rankR (l : List Int) : List Int := if l.length ≤ 40 then rankL l else []
theorem rankR_len (l : List Int) : (rankR l).length ≤ 40 := by
  unfold rankR rankL
  split
  · simpa using (by assumption : l.length ≤ 40)
  · simp
theorem own_nil (W : World) (B : Nat) : W.ownsRow B 3 1 (.slice none 0 0) 0 (([] : List Int).map iv) := by
  first | exact World.ownsRow_nil _ _ _ | (refine ⟨rfl, .inl ⟨rfl, ?_⟩⟩; first | rfl | trivial | simp)

theorem own_cell0 {w : World} {B g n c : Nat} {L : List Int} (h : w.ownsRow B 3 1 (.slice (some ⟨g, 0, none⟩) n c) n (L.map iv)) {j : Nat} (hj : j < n) : ∃ x : Int, w.cell? ⟨g, j, none⟩ = some (.int .i64 x) := by
  have hl : L.length = n := by have := h.1; simpa using this
  rw [h.cellAt j (by omega), List.getElem?_map, List.getElem?_eq_getElem (show j < L.length by omega)]
  exact ⟨_, rfl⟩
set_option maxRecDepth 100000 in
set_option maxHeartbeats 2000000 in
theorem implRankBy (a : Option Addr) (l : List Int) (cap : Nat) (w : World) (hrow : IntRow w a l) (hl : l.length ≤ maxLen) :
    Calls Try.prog 39 #[.slice a l.length cap] w fun e w' => (∃ a0 c0, e = .returned (.slice a0 (rankR l).length c0) ∧ w'.ownsRow w.heap.size 3 1 (.slice a0 (rankR l).length c0) (rankR l).length ((rankR l).map iv)) ∧ Below w.heap.size w w' := by
  unfold maxLen at hl
  obtain ⟨n, hn⟩ : ∃ n, n = l.length := ⟨_, rfl⟩
  obtain ⟨W1, hW1⟩ : ∃ W1, W1 = w.alloc (.cells #[.slice a n cap] 22) := ⟨_, rfl⟩
  have HW1 := Lib.hid hW1
  have hb1 : Below w.heap.size w W1 := by rw [hW1]; exact (Below.refl _ _).alloc (Nat.le_refl _) _
  have hs1 : W1.heap.size = w.heap.size + 1 := by rw [hW1]; simp
  have hp : W1.cell? ⟨w.heap.size, 0, none⟩ = some (.slice a n cap) := by rw [hW1]; simp
  have HN := Lib.hid hn
  rw [← hn] at hl ⊢
  by_cases h40 : n ≤ 40
  · have HR : Hid (decide ((n : Int) ≤ 40) = true) := decide_eq_true (by omega)
    obtain ⟨i0, hi, hz0, hz1, hz2⟩ := info_parts infoInt
    have hrow0 := Lib.hid hrow
    have H1 := Lib.hid (hrow.below hb1 (Nat.le_refl _))
    have HB1 := Lib.hid hb1
    have HRR : Hid (rankR l = (List.range n).map (rankF l)) := by show _ = _; unfold rankR rankL; rw [if_pos (by omega), ← hn]
    clear hW1 hb1 hrow hn
    go_enter Try.func39, Try.ntmps39
    go_wp2_with fail
    rw [← HW1.out]
    refine (isRanked_any a n cap _).mono ?_
    rintro e w2 ⟨rfl, rfl⟩
    rw [HR.out]
    go_wp2_with (refine wpList_make_full _ rfl _ _ 22 rfl W1.heap.size 3 i0 (.int .i64 0) 1 Try.underlying22 hi hz0 hz1 .i64 .i64 _ _ n rfl rfl rfl rfl ?c1 ?c2 ?c3 ?_)
    case c1 => rw [hz2]; omega
    case c2 => unfold maxLen; omega
    case c3 => exact Nat.le_refl _
    intro w2 hown hg
    have hb2 : Below W1.heap.size W1 w2 := (Below.refl _ W1).grown hg (Nat.le_refl _) (fun k hk => by cases hk)
    rw [zerosI, ← fillR_zero (rankF l)] at hown
    obtain ⟨g, hgv⟩ : ∃ g, g = w.heap.size + 1 := ⟨_, rfl⟩
    have hown2 : w2.ownsRow w.heap.size 3 1 (.slice (some ⟨g, 0, none⟩) n n) n ((fillR (rankF l) n 0).map iv) := by rw [hgv]; exact (show w2.ownsRow (w.heap.size + 1) _ _ _ _ _ from hown).mono (Nat.le_succ _)
    have hp2 : w2.cell? ⟨w.heap.size, 0, none⟩ = some (.slice a n cap) := (hb2.cell (p := ⟨w.heap.size, 0, none⟩) (by show w.heap.size < _; omega)).trans hp
    have O2 := Lib.hid hown2
    have B2 := Lib.hid (HB1.out.trans (hb2.mono HB1.out.size))
    have R2 := Lib.hid (H1.out.below hb2 (Nat.le_refl _))
    have hg2 : Hid (g < w2.heap.size ∧ w.heap.size < w2.heap.size) := by show _ ∧ _; have := (hown2.lt g rfl).2; exact ⟨this, by have := hb2.size; omega⟩
    have hgw : Hid (w.heap.size < g) := by show _ < _; omega
    rw [← hgv]
    clear hown hown2 hg hb2 hgv hs1 hp H1 HB1 HW1
    go_wp2
    go_loopw [14] (fun i wr => ∃ k : Nat, k ≤ n ∧ i = .int .i64 (k : Int) ∧ Hid (wr.ownsRow w.heap.size 3 1 (.slice (some ⟨g, 0, none⟩) n n) n ((fillR (rankF l) n k).map iv)) ∧ Hid (wr.cell? ⟨w.heap.size, 0, none⟩ = some (.slice a n cap)) ∧ Hid (IntRow wr a l) ∧ Hid (Below w.heap.size w wr) ∧ Hid (g < wr.heap.size ∧ w.heap.size < wr.heap.size)) (fun i _ => n - (intOf i).toNat)
    case atStart => exact ⟨0, Nat.zero_le _, rfl, O2, hp2, R2, B2, hg2⟩
    case round =>
      clear O2 hp2 R2 B2 hg2
      obtain ⟨k, hk, rfl, O1, hp1, R1, B1, hg1⟩ := hrel
      by_cases hlt : k < n
      · have hki : (k : Int) < (n : Int) := by omega
        obtain ⟨b, off, rfl, hbb, hc⟩ := row_at R1.out (show k < l.length by have := HN.out; omega)
        have hck := hc k (by have := HN.out; omega)
        obtain ⟨x, hx⟩ : ∃ x, x = l.getD k 0 := ⟨_, rfl⟩
        have HX := Lib.hid hx
        rw [← hx] at hck
        obtain ⟨q, hq⟩ : ∃ q, q = wr.heap.size := ⟨_, rfl⟩
        obtain ⟨W3, hW3⟩ : ∃ W3, W3 = wr.alloc (.cells #[.int .i64 x] 3) := ⟨_, rfl⟩
        have HW3 := Lib.hid hW3
        have hb3 : Below wr.heap.size wr W3 := by rw [hW3]; exact (Below.refl _ _).alloc (Nat.le_refl _) _
        have hq3 : W3.cell? ⟨q, 0, none⟩ = some (.int .i64 x) := by
          rw [hW3, hq]; simp
        have hs3 : W3.heap.size = q + 1 := by rw [hW3, hq]; simp
        have hp3 := (hb3.cell (p := ⟨w.heap.size, 0, none⟩) hg1.out.2).trans hp1.out
        have hr3 := R1.out.below hb3 (Nat.le_refl _)
        have ho3 := own_below O1.out hb3
        have hB3 := B1.out.trans (hb3.mono B1.out.size)
        have hCB := countBelow_any n (by omega) 107 #[.pointer (some ⟨w.heap.size, 0, none⟩), .pointer (some ⟨q, 0, none⟩)] (fun j => decide (l.getD k 0 < l.getD j 0)) W3 (enters_of Try.func107 (by kernel_rfl) rfl)
          (fun W j hW hj => rank1_any w.heap.size q j n cap _ l (l.getD k 0) W ((hW.cell (p := ⟨w.heap.size, 0, none⟩) (by show w.heap.size < _; have := hb3.size; have := hg1.out.2; omega)).trans hp3) ((hW.cell (p := ⟨q, 0, none⟩) (by show q < _; omega)).trans (by rw [← hx]; exact hq3)) HN.out.symm (hr3.below hW (Nat.le_refl _)) hj)
        obtain ⟨z, hz⟩ : ∃ z, z = cntG (fun j => decide (l.getD k 0 < l.getD j 0)) n := ⟨_, rfl⟩
        rw [← hz] at hCB
        have hz40 : z ≤ n := by rw [hz]; exact cntG_le _ _
        have HZ : Hid (1 + (z : Int) = rankF l k) := by show _ = _; unfold rankF; rw [hz, HN.out]
        have HCB := Lib.hid hCB
        have HO3 := Lib.hid ho3
        have HP3 := Lib.hid hp3
        have HR3 := Lib.hid hr3
        have HB3 := Lib.hid hB3
        have hp1' : wr.cell? ⟨w.heap.size, 0, none⟩ = _ := hp1.out
        have HGS : Hid (g < W3.heap.size ∧ w.heap.size < W3.heap.size) := by show _ ∧ _; have := hb3.size; have := hg1.out; omega
        have hp4 := hp3
        rw [hW3] at hp4
        clear hW3 hp3 hb3 hq3 hs3 hr3 ho3 hB3 hCB hz hx O1 R1 B1 hc hbb hp1 hg1
        go_wp2_with fail
        rw [← HW3.out]
        rw [← hq]
        refine HCB.out.mono ?_
        rintro e w4 ⟨rfl, hb4⟩
        have ho4 := own_below HO3.out hb4
        have hfc := ho4.frozenAt k
        obtain ⟨v0, hcl⟩ := own_cell0 ho4 hlt
        have hst := ho4.stored k (iv (rankF l k))
        rw [← List.map_set, fillR_set _ _ _ hlt] at hst
        rw [← HZ.out] at hst
        have hst1 : Hid ((w4.setCell ⟨g, k, none⟩ (.int .i64 (1 + (z : Int)))).ownsRow w.heap.size 3 1 (.slice (some ⟨g, 0, none⟩) n n) n ((fillR (rankF l) n (k + 1)).map iv)) := hst.1
        have hgr := hst.2
        have hb5 : Below w.heap.size w (w4.setCell ⟨g, k, none⟩ (.int .i64 (1 + (z : Int)))) := (HB3.out.trans (hb4.mono HB3.out.size)).setCell (p := ⟨g, k, none⟩) (Nat.le_of_lt hgw.out) _
        have hp5 : (w4.setCell ⟨g, k, none⟩ (.int .i64 (1 + (z : Int)))).cell? ⟨w.heap.size, 0, none⟩ = some (.slice (some ⟨b, off, none⟩) n cap) := by
          rw [World.cell?_setCell_other _ _ _ _ (by intro e; simp only [Addr.mk.injEq] at e; have := hgw.out; omega)]
          exact (hb4.cell (p := ⟨w.heap.size, 0, none⟩) HGS.out.2).trans (by rw [HW3.out]; exact hp4)
        have hr5 : IntRow (w4.setCell ⟨g, k, none⟩ (.int .i64 (1 + (z : Int)))) (some ⟨b, off, none⟩) l := hrow0.out.below hb5 (Nat.le_refl _)
        have hs5 : Hid (g < (w4.setCell ⟨g, k, none⟩ (.int .i64 (1 + (z : Int)))).heap.size ∧ w.heap.size < (w4.setCell ⟨g, k, none⟩ (.int .i64 (1 + (z : Int)))).heap.size) := by
          show _ ∧ _; have := hb4.size; have := HGS.out; simp; omega
        have HP5 := Lib.hid hp5
        have HR5 := Lib.hid hr5
        have HB5 := Lib.hid hb5
        have hz1000 : (z : Int) ≤ 1000 := by omega
        clear hst hgr hb5 hp5 hr5 ho4 hb4 hp4 HCB HO3 HR3 HB3
        go_wp2
        go_roundw
        case rel => exact ⟨k + 1, by omega, by go_num, hst1, HP5, HR5, HB5, hs5⟩
        case measure => simp [intOf]; omega
      · obtain rfl : k = n := by omega
        have HRl : Hid ((rankR l).length = k) := by show _ = _; rw [HRR.out]; simp
        have O2 := O1
        rw [fillR_all] at O2
        clear O1
        go_wp2
        go_ret
        refine ⟨⟨some ⟨g, 0, none⟩, k, by rw [HRl.out]; rfl, ?_⟩, B1.out⟩
        rw [HRl.out, HRR.out]; exact O2.out
  · have HR : Hid (decide ((n : Int) ≤ 40) = false) := decide_eq_false (by omega)
    have HRR : Hid (rankR l = []) := by show _ = _; unfold rankR; rw [if_neg (by omega)]
    have HB1 := Lib.hid hb1
    clear hW1 hb1 hrow hn
    go_enter Try.func39, Try.ntmps39
    go_wp2_with fail
    rw [← HW1.out]
    refine (isRanked_any a n cap _).mono ?_
    rintro e w2 ⟨rfl, rfl⟩
    rw [HR.out]
    go_wp2
    go_ret
    rw [HRR.out]
    exact ⟨⟨none, 0, rfl, own_nil _ _⟩, HB1.out⟩
end Go.Proofs.Ytpndfmlkceplcaa
