/-
  A player moved to another place by the model ('l08Move'). No conditions but the bounds that Go gives a slice.
-/
import Derived.Test.YteegbkbphfmooaaQh
namespace Go.Proofs.Yteegbkbphfmooaa
open Go.ChangeShapes Go.WideShapes Go.ChangeAt Go.RowKit Go.Sort
set_option linter.unusedVariables false

theorem own_cap {w : World} {B g n c : Nat} {e : TypeId} {xs : List Value} (h : w.ownsRow B e 1 (.slice (some ⟨g, 0, none⟩) n c) n xs) : n ≤ c ∧ c ≤ maxLen := by
  rcases h.2 with ⟨hn, _⟩ | ⟨g2, c2, cur, he, _, _, h1, h2, _⟩
  · cases hn
  · simp only [Value.slice.injEq, true_and] at he
    obtain ⟨_, rfl⟩ := he
    exact ⟨h1, h2⟩
theorem takeD (L : List Int) (k j : Nat) (h : j < k) : (L.take k).getD j 0 = L.getD j 0 := by
  rw [List.getD_eq_getElem?_getD, List.getD_eq_getElem?_getD, List.getElem?_take, if_pos h]
theorem dropD (L : List Int) (k j : Nat) : (L.drop k).getD j 0 = L.getD (k + j) 0 := by
  rw [List.getD_eq_getElem?_getD, List.getD_eq_getElem?_getD, List.getElem?_drop]
theorem cell_own {w : World} {B g n c : Nat} {L : List Int} (h : w.ownsRow B 3 1 (.slice (some ⟨g, 0, none⟩) n c) n (L.map iv)) {j : Nat} (hj : j < n) : w.cell? ⟨g, j, none⟩ = some (iv (L.getD j 0)) := by
  have hl : L.length = n := by have := h.1; simpa using this
  rw [h.cellAt j (by omega), List.getElem?_map, List.getD_eq_getElem?_getD, List.getElem?_eq_getElem (show j < L.length by omega)]; rfl

set_option maxRecDepth 100000 in
set_option maxHeartbeats 4000000 in
theorem l08Move_any (m : Nat) (an : Option Addr) (o : List Nat) (cn i k : Nat) (w : World) (ho : Rv.Od m o) (h8 : m ≤ 8) (hrn : IntRow w an (ni o)) (hcn : m ≤ cn) (hcm : cn ≤ maxLen) (hi : i < m) (hk : k < m) :
    Calls Try.prog 137 #[.slice an m cn, .int .i64 (i : Int), .int .i64 (k : Int)] w fun e w' => (∃ g c, e = .returned (.slice (some ⟨g, 0, none⟩) m c) ∧ w'.ownsRow w.heap.size 3 1 (.slice (some ⟨g, 0, none⟩) m c) m ((ni (Rv.mv o i k)).map iv)) ∧ Below w.heap.size w w' := by
  have hol := ho.len
  obtain ⟨b, off, rfl, hb, hcx⟩ := ord_at hrn (show i < o.length by omega)
  have hall : ∀ W, Below w.heap.size w W → ∀ j, j < m → W.cell? ⟨b, off + j, none⟩ = some (iv ((ni o).getD j 0)) := fun W hW j hj => by
    obtain ⟨b2, off2, he, hb2, hc2⟩ := ord_at hrn (show j < o.length by omega)
    obtain ⟨rfl, rfl⟩ : b = b2 ∧ off = off2 := by simpa using he
    rw [ni_at (show j < o.length by omega)]
    exact (hW.cell (p := ⟨b, off + j, none⟩) hb2).trans hc2
  have hmv := mv_cells o i k
  have hnl : (ni o).length = m := by rw [ni_len]; exact hol
  obtain ⟨x, hx⟩ : ∃ x, x = o.getD i 0 := ⟨_, rfl⟩
  obtain ⟨L, hL⟩ : ∃ L, L = ni o := ⟨_, rfl⟩
  rw [← hL] at hall hmv hnl
  rw [← hx] at hmv hcx
  obtain ⟨R, hR⟩ : ∃ R, R = L.take i ++ L.drop (i + 1) := ⟨_, rfl⟩
  rw [← hR] at hmv
  have hRl : R.length = m - 1 := by rw [hR]; simp; omega
  have HR := Lib.hid hR
  have HRL := Lib.hid hRl
  have HMV := Lib.hid hmv
  have hs1 := slice_to b off m cn i (by omega) hcn hcm
  obtain ⟨ad2, had⟩ : ∃ ad2 : Addr, ad2 = if cn = i + 1 then ⟨b, off, none⟩ else ⟨b, off + (i + 1), none⟩ := ⟨_, rfl⟩
  have had2 : i + 1 < m → ad2 = ⟨b, off + (i + 1), none⟩ := fun h => by rw [had, if_neg (by omega)]
  have hs2 : (if cn = i + 1 then some (⟨b, off, none⟩ : Addr) else some ⟨b, off + (i + 1), none⟩) = some ad2 := by rw [had]; split <;> rfl
  have hw1 : IntKind.i64.wrap ((i : Int) + 1) = (i : Int) + 1 := IntWalk.i64_in _ ⟨by omega, by omega⟩
  have hw2 : ((i : Int) + 1).toNat = i + 1 := by omega
  have hw3 : (0 : Int) ≤ (i : Int) + 1 := by omega
  have hw4 : (i : Int) + 1 ≤ (m : Int) := by omega
  clear had
  have HC1 : Hid (∀ W, Below w.heap.size w W → ∀ j, j < i → W.cell? ((⟨b, off, none⟩ : Addr).add j) = some (iv ((L.take i).getD j 0))) := fun W hW j hj => by
    rw [Addr.add_lit, takeD L i j hj]; exact hall W hW j (by omega)
  have HC2 : Hid (∀ W, Below w.heap.size w W → ∀ j, j < m - (i + 1) → W.cell? (ad2.add j) = some (iv ((L.drop (i + 1)).getD j 0))) := fun W hW j hj => by
    rw [had2 (by omega), Addr.add_lit, dropD, show off + (i + 1) + j = off + (i + 1 + j) by omega]; exact hall W hW _ (by omega)
  have HCX : Hid (∀ W, Below w.heap.size w W → W.cell? ⟨b, off + i, none⟩ = some (.int .i64 (x : Int))) := fun W hW => (hW.cell (p := ⟨b, off + i, none⟩) hb).trans hcx
  have HL1 : Hid ((L.take i).length = i) := by show _ = _; simp; omega
  have HL2 : Hid ((L.drop (i + 1)).length = m - (i + 1)) := by show _ = _; simp; omega
  have O1 := Lib.hid (own_empty w w.heap.size w.heap.size (Nat.le_refl _) rfl).drew
  have B1 := Lib.hid (Below.one w (.cells #[] 3)).drew
  have hii : (i : Int) < (m : Int) := by omega
  clear hall hmv hcx hx hL hR had2 hrn ho hol hRl hnl hb
  go_enter Try.func137, Try.ntmps137
  go_wp2
  go_region_law (first
    | (refine step_append_int _ (by rfl) (.tmp 9) (.tmp 12) rfl w.heap.size w.heap.size 0 0 [] rfl O1.out ⟨b, off, none⟩ i cn (L.take i) rfl HL1.out (HC1.out _ B1.out) (by omega) B1.out.size i (by omega) ?_
       intro g1 c1 w1 hown1 hg1 hb1
       have BB1 := Lib.hid (B1.out.trans hb1)
       have OO1 := Lib.hid hown1
       clear hown1 hg1 hb1)
    | (refine step_append_int _ (by rfl) (.tmp 13) (.tmp 17) rfl w.heap.size g1 i c1 ([] ++ L.take i) rfl OO1.out ad2 (m - (i + 1)) (cn - (i + 1)) (L.drop (i + 1)) rfl HL2.out (HC2.out _ BB1.out) (by omega) BB1.out.size (m - 1) (by omega) ?_
       intro g2 c2 w2 hown2 hg2 hb2
       have BB2 := Lib.hid (BB1.out.trans hb2)
       have OO2 : Hid (w2.ownsRow w.heap.size 3 1 (.slice (some ⟨g2, 0, none⟩) (m - 1) c2) (m - 1) (R.map iv)) := (show w2.ownsRow _ _ _ _ _ _ from (by rw [HR.out]; exact hown2))
       clear hown2 hg2 hb2))
  clear hs1 hs2 hw1 hw2 hw3 hw4 HC1 HC2 HL1 HL2 O1 OO1
  obtain ⟨hc2a, hc2b⟩ := own_cap OO2.out
  have hg2 := (OO2.out.lt g2 rfl).2
  have HR2 : Hid (∀ W, Below w2.heap.size w2 W → ∀ j, j < m - 1 → W.cell? ⟨g2, 0 + j, none⟩ = some (iv (R.getD j 0))) := fun W hW j hj => by
    rw [Nat.zero_add]; exact (hW.cell (p := ⟨g2, j, none⟩) hg2).trans (cell_own OO2.out hj)
  have hs3 := slice_to g2 0 (m - 1) c2 k (by omega) hc2a hc2b
  obtain ⟨ad5, had5, hs5⟩ := slice_rest g2 0 (m - 1) c2 k (by omega) hc2a hc2b
  have HC3 : Hid (∀ W, Below w2.heap.size w2 W → ∀ j, j < k → W.cell? ((⟨g2, 0, none⟩ : Addr).add j) = some (iv ((R.take k).getD j 0))) := fun W hW j hj => by
    rw [Addr.add_lit, takeD R k j hj]; exact HR2.out W hW j (by omega)
  have HC5 : Hid (∀ W, Below w2.heap.size w2 W → ∀ j, j < m - 1 - k → W.cell? (ad5.add j) = some (iv ((R.drop k).getD j 0))) := fun W hW j hj => by
    rw [had5 (by omega), Addr.add_lit, dropD, Nat.add_assoc]; exact HR2.out W hW _ (by omega)
  have HL3 : Hid ((R.take k).length = k) := by show _ = _; rw [List.length_take, HRL.out]; omega
  have HL5 : Hid ((R.drop k).length = m - 1 - k) := by show _ = _; rw [List.length_drop, HRL.out]
  have O3 := Lib.hid (own_empty w2 w2.heap.size w2.heap.size (Nat.le_refl _) rfl)
  have B3 := Lib.hid (Below.one w2 (.cells #[] 3))
  clear had5 HR2 OO2
  go_wp2_with (at_builtin; refine list_append_int _ rfl _ _ rfl w2.heap.size w2.heap.size 0 0 [] rfl O3.out ⟨g2, 0, none⟩ k c2 (R.take k) rfl HL3.out (HC3.out _ B3.out) (by omega) B3.out.size k (by omega) ?_)
  intro g3 c3 w3 hown3 hg3 hb3
  have BB3 := Lib.hid (B3.out.trans hb3)
  have hcx3 : w3.cell? ⟨b, off + i, none⟩ = some (.int .i64 (x : Int)) := HCX.out w3 (BB2.out.trans (BB3.out.mono BB2.out.size))
  have OO3 : Hid (w3.ownsRow w2.heap.size 3 1 (.slice (some ⟨g3, 0, none⟩) k c3) k ((R.take k).map iv)) := (show w3.ownsRow _ _ _ _ _ _ from (by first | exact hown3 | (rw [List.map_take]; exact hown3) | simpa using hown3))
  have O4 : Hid ((w3.alloc (.cells #[.int .i64 (x : Int)] 3)).ownsRow w2.heap.size 3 1 (.slice (some ⟨g3, 0, none⟩) k c3) k ((R.take k).map iv)) := by
    have hgn : w3.grownBy (w3.alloc (.cells #[.int .i64 (x : Int)] 3)) none := World.grownBy_alloc _ _ _
    exact own_grown OO3.out hgn (fun k _ e => by cases e)
  have B4 := Lib.hid (BB3.out.alloc BB3.out.size (.cells #[.int .i64 (x : Int)] 3))
  have HC4 : Hid (∀ j, j < 1 → (w3.alloc (.cells #[.int .i64 (x : Int)] 3)).cell? ((⟨w3.heap.size, 0, none⟩ : Addr).add j) = some (iv ([(x : Int)].getD j 0))) := fun j hj => by
    obtain rfl : j = 0 := by omega
    rw [Addr.add_lit]
    have hh : (w3.alloc (.cells #[.int .i64 (x : Int)] 3)).heap[w3.heap.size]? = some (.cells #[.int .i64 (x : Int)] 3 (0, 0)) := by show (w3.heap.push _)[w3.heap.size]? = _; simp
    exact cell1 hh
  clear hown3 hg3 hb3 HC3 HL3 O3
  go_wp2_with (at_builtin; refine list_append_int _ rfl _ _ rfl w2.heap.size g3 k c3 (R.take k) rfl O4.out ⟨w3.heap.size, 0, none⟩ 1 1 [(x : Int)] rfl rfl HC4.out (by omega) B4.out.size (k + 1) rfl ?_)
  intro g4 c4 w4 hown4 hg4 hb4
  have BB4 := Lib.hid (B4.out.trans hb4)
  have OO4 : Hid (w4.ownsRow w2.heap.size 3 1 (.slice (some ⟨g4, 0, none⟩) (k + 1) c4) (k + 1) ((R.take k ++ [(x : Int)]).map iv)) := (show w4.ownsRow _ _ _ _ _ _ from (by first | exact hown4 | (rw [List.map_append, List.map_take]; exact hown4) | simpa using hown4))
  clear hown4 hg4 hb4 HC4 O4 OO3 hcx3
  go_wp2_with (at_builtin; refine list_append_int _ rfl _ _ rfl w2.heap.size g4 (k + 1) c4 (R.take k ++ [(x : Int)]) rfl OO4.out ad5 (m - 1 - k) (c2 - k) (R.drop k) rfl HL5.out (HC5.out _ BB4.out) (by omega) BB4.out.size m (by omega) ?_)
  intro g5 c5 w5 hown5 hg5 hb5
  have BB5 := Lib.hid (BB2.out.trans ((BB4.out.trans hb5).mono BB2.out.size))
  have OO5 : Hid (w5.ownsRow w.heap.size 3 1 (.slice (some ⟨g5, 0, none⟩) m c5) m ((ni (Rv.mv o i k)).map iv)) := by
    have h5 : w5.ownsRow w2.heap.size 3 1 (.slice (some ⟨g5, 0, none⟩) m c5) m ((R.take k ++ [(x : Int)] ++ R.drop k).map iv) := by first | exact hown5 | (rw [List.map_append, List.map_append, List.map_take, List.map_drop]; exact hown5) | simpa using hown5
    have := h5.mono BB2.out.size
    rw [List.append_assoc, List.singleton_append, HMV.out] at this
    exact this
  clear hown5 hg5 hb5
  go_wp2
  go_ret
  exact ⟨⟨g5, c5, rfl, OO5.out⟩, BB5.out⟩
end Go.Proofs.Yteegbkbphfmooaa
