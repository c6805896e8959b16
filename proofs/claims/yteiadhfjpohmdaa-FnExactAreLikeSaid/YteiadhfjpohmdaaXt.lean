/-
  'l11Count', 'l11Names' of the model. Condition: one to six players.
-/
import Derived.Test.YteiadhfjpohmdaaXj
import Derived.Deep.RegionWith
namespace Go.Proofs.Yteiadhfjpohmdaa
open Go.ChangeShapes Go.WideShapes Go.ChangeAt Go.RowKit
set_option linter.unusedVariables false

theorem fct_pos : ∀ n, 0 < Rn.fct n
  | 0 => by decide
  | n + 1 => Nat.mul_pos (fct_pos n) (Nat.succ_pos n)
set_option maxHeartbeats 1000000 in
theorem l11Count_any (n : Nat) (h1 : 1 ≤ n) (h6 : n ≤ 6) (w : World) :
    Calls Try.prog 92 #[.int .i64 (n : Int)] w fun e w' => e = .returned (.int .i64 (Rn.fct n : Int)) ∧ Below w.heap.size w w' := by
  go_enter Try.func92, Try.ntmps92
  go_wp2
  go_loopw [3, 4] (fun q i wr => ∃ k z : Nat, 1 ≤ k ∧ k ≤ n ∧ i = .int .i64 ((k : Int) + 1) ∧ q = .int .i64 (z : Int) ∧ z ≤ 720 ∧ Hid (z = Rn.fct k) ∧ Below w.heap.size w wr) (fun _ i _ => n + 1 - (intOf i).toNat)
  case atStart => exact ⟨1, 1, Nat.le_refl _, h1, rfl, rfl, by omega, rfl, Below.refl _ _⟩
  case round =>
    obtain ⟨k, z, hk1, hk, rfl, rfl, hz7, hz, hb⟩ := hrel
    by_cases hlt : k < n
    · have hki : (k : Int) + 1 ≤ (n : Int) := by omega
      obtain ⟨y, hy⟩ : ∃ y, y = Rn.fct (k + 1) := ⟨_, rfl⟩
      have hyz : y = z * (k + 1) := by rw [hy, hz.out]; rfl
      have hy7 : y ≤ 720 := by rw [hy]; exact Rn.fct_le (by omega)
      have hp : (z : Int) * ((k : Int) + 1) = (y : Int) := by rw [hyz, Int.natCast_mul]; rfl
      have hwk : wrap64 ((z : Int) * ((k : Int) + 1)) = (y : Int) := by rw [hp]; unfold wrap64; omega
      have hwk2 : IntKind.i64.wrap ((z : Int) * ((k : Int) + 1)) = (y : Int) := by rw [hp, IntKind.wrap_i64]; omega
      have HY := Lib.hid hy
      have HP : Hid (Value.int .i64 ((z : Int) * ((k : Int) + 1)) = Value.int .i64 (y : Int)) := by show _ = _; rw [hp]
      clear hy hyz hz hp
      go_wp2
      go_roundw
      case rel => exact ⟨k + 1, y, by omega, by omega, by go_num, by first | rfl | exact HP.out, hy7, HY.out, hb⟩
      case measure => simp [intOf] <;> omega
    · obtain rfl : k = n := by omega
      go_wp2
      go_ret
      exact ⟨by rw [← hz.out]; rfl, hb⟩

/-- Where the list stands. -/
structure Nm1 (n index k idx : Nat) (left out : List Nat) : Prop where
  ll : left.length = k
  lo : out.length + k = n
  eq : Rn.nmL n (Rn.turnN n) index = out ++ Rn.nmL k left idx
theorem Nm1.step {n index k idx : Nat} {left out : List Nat} (h : Nm1 n index (k + 1) idx left out) : Nm1 n index k (idx / (k + 1)) (left.eraseIdx (idx % (k + 1))) (out ++ [left.getD (idx % (k + 1)) 0]) := by
  have hlt : idx % (k + 1) < k + 1 := Nat.mod_lt _ (Nat.succ_pos k)
  refine ⟨?_, ?_, ?_⟩
  · rw [List.length_eraseIdx, h.ll, if_pos hlt]; omega
  · have := h.lo; simp; omega
  · rw [h.eq]; simp [Rn.nmL]
theorem erase_parts (L : List Int) (r : Nat) : L.eraseIdx r = L.take r ++ L.drop (r + 1) := List.eraseIdx_eq_take_drop_succ L r

set_option maxRecDepth 100000 in
set_option maxHeartbeats 4000000 in
theorem l11Names_any (n index : Nat) (h1 : 1 ≤ n) (h6 : n ≤ 6) (hx : index < 100000) (w : World) :
    Calls Try.prog 93 #[.int .i64 (n : Int), .int .i64 (index : Int)] w fun e w' => (∃ g c, e = .returned (.slice (some ⟨g, 0, none⟩) n c) ∧ w'.ownsRow w.heap.size 3 1 (.slice (some ⟨g, 0, none⟩) n c) n (((Rn.nmL n (Rn.turnN n) index).map Int.ofNat).map iv)) ∧ Below w.heap.size w w' := by
  go_enter Try.func93, Try.ntmps93
  go_wp2_with fail
  refine (l11Turn_any n h1 (by omega) w).mono ?_
  rintro e w1 ⟨⟨gl, cl, rfl, hol⟩, hb1⟩
  have O0 : Hid ((w1.alloc (.cells #[] 3)).ownsRow w.heap.size 3 1 (.slice (some ⟨w1.heap.size, 0, none⟩) 0 0) 0 ((([] : List Nat).map Int.ofNat).map iv)) := own_empty w1 w.heap.size w1.heap.size hb1.size rfl
  have OL0 : Hid ((w1.alloc (.cells #[] 3)).ownsRow w.heap.size 3 1 (.slice (some ⟨gl, 0, none⟩) n cl) n (((Rn.turnN n).map Int.ofNat).map iv)) := own_grown hol (World.grownBy_alloc _ _ none) (fun k _ e => by cases e)
  have B0 : Hid (Below w.heap.size w (w1.alloc (.cells #[] 3))) := hb1.alloc hb1.size _
  have hgl : gl ≠ w1.heap.size := by have := (hol.lt gl rfl).2; omega
  have HN0 : Hid (Nm1 n index n index (Rn.turnN n) []) := ⟨by simp [Rn.turnN], by simp, by simp⟩
  clear hol hb1
  go_wp2
  go_loopw [1, 5, 6, 7] (fun ix lf ou kk wr => ∃ (k idx gl cl go co q : Nat) (left out : List Nat), k + q = n ∧ idx < 100000 ∧ ix = .int .i64 (idx : Int) ∧ lf = .slice (some ⟨gl, 0, none⟩) k cl ∧ ou = .slice (some ⟨go, 0, none⟩) q co ∧ kk = .int .i64 (k : Int) ∧ gl ≠ go ∧ Hid (Nm1 n index k idx left out) ∧ Hid (wr.ownsRow w.heap.size 3 1 (.slice (some ⟨gl, 0, none⟩) k cl) k ((left.map Int.ofNat).map iv)) ∧ Hid (wr.ownsRow w.heap.size 3 1 (.slice (some ⟨go, 0, none⟩) q co) q ((out.map Int.ofNat).map iv)) ∧ Hid (Below w.heap.size w wr)) (fun _ _ _ kk _ => (intOf kk).toNat)
  case atStart => exact ⟨n, index, gl, cl, w1.heap.size, 0, 0, _, _, by omega, hx, rfl, rfl, rfl, rfl, hgl, HN0.out, OL0.out, O0.out, B0.out⟩
  case round =>
    clear OL0 O0 B0 HN0 hgl
    obtain ⟨k, idx, gl, cl, go, co, q, left, out, hkq, hix, rfl, rfl, rfl, rfl, hne, hnm, hol, hoo, hb⟩ := hrel
    by_cases hk0 : k = 0
    · subst hk0
      obtain rfl : q = n := by omega
      have HE : Hid (Rn.nmL q (Rn.turnN q) index = out) := by show _ = _; rw [hnm.out.eq]; simp [Rn.nmL]
      go_wp2
      go_ret
      exact ⟨⟨go, co, rfl, by rw [HE.out]; exact hoo.out⟩, hb.out⟩
    · have hki : (0 : Int) < (k : Int) := by omega
      obtain ⟨r, hr⟩ : ∃ r, r = idx % k := ⟨_, rfl⟩
      obtain ⟨d, hd⟩ : ∃ d, d = idx / k := ⟨_, rfl⟩
      have hrk : r < k := by rw [hr]; exact Nat.mod_lt _ (by omega)
      have hdx : d < 100000 := by rw [hd]; exact Nat.lt_of_le_of_lt (Nat.div_le_self _ _) hix
      have hr1 : (idx : Int).tmod (k : Int) = (r : Int) := by rw [hr, Int.tmod_eq_emod_of_nonneg (Int.natCast_nonneg _), Int.natCast_emod]
      have hr2 : (idx : Int) % (k : Int) = (r : Int) := by rw [hr, Int.natCast_emod]
      have hd1 : (idx : Int).tdiv (k : Int) = (d : Int) := by rw [hd, Int.tdiv_eq_ediv_of_nonneg (Int.natCast_nonneg _), Int.natCast_ediv]
      have hd2 : (idx : Int) / (k : Int) = (d : Int) := by rw [hd, Int.natCast_ediv]
      have hri : (r : Int) < (k : Int) := by omega
      obtain ⟨y, hy⟩ : ∃ y, y = left.getD r 0 := ⟨_, rfl⟩
      have hll : left.length = k := hnm.out.ll
      have hcl : wr.cell? ⟨gl, r, none⟩ = some (.int .i64 (y : Int)) := by
        rw [cell_own hol.out hrk, hy, List.getD_eq_getElem?_getD, List.getElem?_map, List.getD_eq_getElem?_getD, List.getElem?_eq_getElem (by omega)]
        rfl
      have HST : Hid (Nm1 n index (k - 1) d (left.eraseIdx r) (out ++ [y])) := by
        show Nm1 _ _ _ _ _ _
        obtain ⟨k', rfl⟩ : ∃ k', k = k' + 1 := ⟨k - 1, by omega⟩
        rw [hr, hd, hy, hr]
        exact hnm.out.step
      have hcap := own_cap hol.out
      have HLL := Lib.hid hll
      have O1 : Hid ((wr.alloc (.cells #[.int .i64 (y : Int)] 3)).ownsRow w.heap.size 3 1 (.slice (some ⟨go, 0, none⟩) q co) q ((out.map Int.ofNat).map iv)) := own_grown hoo.out (World.grownBy_alloc _ _ none) (fun k _ e => by cases e)
      have OL1 : Hid ((wr.alloc (.cells #[.int .i64 (y : Int)] 3)).ownsRow w.heap.size 3 1 (.slice (some ⟨gl, 0, none⟩) k cl) k ((left.map Int.ofNat).map iv)) := own_grown hol.out (World.grownBy_alloc _ _ none) (fun k _ e => by cases e)
      have B1 := Lib.hid (hb.out.alloc hb.out.size (.cells #[.int .i64 (y : Int)] 3))
      have HC1 : Hid (∀ j, j < 1 → (wr.alloc (.cells #[.int .i64 (y : Int)] 3)).cell? ((⟨wr.heap.size, 0, none⟩ : Addr).add j) = some (iv ([(y : Int)].getD j 0))) := fun j hj => by
        obtain rfl : j = 0 := by omega
        rw [Addr.add_lit]
        have hh : (wr.alloc (.cells #[.int .i64 (y : Int)] 3)).heap[wr.heap.size]? = some (.cells #[.int .i64 (y : Int)] 3 (0, 0)) := by show (wr.heap.push _)[wr.heap.size]? = _; simp
        exact cell1 hh
      have HKK : Hid (Value.int .i64 ((k : Int) - 1) = Value.int .i64 ((k - 1 : Nat) : Int)) := by show _ = _; congr 1; omega
      clear hr hd hy hll hol hoo hnm hb
      go_wp2_with (at_builtin; refine list_append_int _ rfl _ _ rfl w.heap.size go q co (out.map Int.ofNat) rfl O1.out ⟨wr.heap.size, 0, none⟩ 1 1 [(y : Int)] rfl rfl HC1.out (by omega) B1.out.size (q + 1) rfl ?_)
      intro g2 c2 w2 ho2 hg2 hb2
      have H2 : Hid (w2.ownsRow w.heap.size 3 1 (.slice (some ⟨g2, 0, none⟩) (q + 1) c2) (q + 1) (((out ++ [y]).map Int.ofNat).map iv)) := by
        show World.ownsRow _ _ _ _ _ _ _
        have e : ((out ++ [y]).map Int.ofNat).map iv = List.map (iv ∘ Int.ofNat) out ++ [iv (y : Int)] := by simp
        rw [e]; exact ho2
      have OL2 : Hid (w2.ownsRow w.heap.size 3 1 (.slice (some ⟨gl, 0, none⟩) k cl) k ((left.map Int.ofNat).map iv)) := own_grown OL1.out hg2 (fun k hk e => by cases hk; cases e; exact hne rfl)
      have B2 := Lib.hid (B1.out.trans hb2)
      clear ho2 hg2 hb2 hcl O1 OL1 HC1
      obtain ⟨L, hL⟩ : ∃ L, L = left.map Int.ofNat := ⟨_, rfl⟩
      obtain ⟨R, hR⟩ : ∃ R, R = L.take r ++ L.drop (r + 1) := ⟨_, rfl⟩
      have hRe : R = (left.eraseIdx r).map Int.ofNat := by rw [hR, hL, List.eraseIdx_eq_take_drop_succ]; simp
      have hLl : L.length = k := by rw [hL, List.length_map]; exact HLL.out
      have OL3 : w2.ownsRow w.heap.size 3 1 (.slice (some ⟨gl, 0, none⟩) k cl) k (L.map iv) := by rw [hL]; exact OL2.out
      have hgl2 := (OL3.lt gl rfl).2
      have hall : ∀ W, Below w2.heap.size w2 W → ∀ j, j < k → W.cell? ⟨gl, j, none⟩ = some (iv (L.getD j 0)) := fun W hW j hj => (hW.cell (p := ⟨gl, j, none⟩) hgl2).trans (cell_own OL3 hj)
      have hs1 := slice_to gl 0 k cl r (by omega) hcap.1 hcap.2
      obtain ⟨ad2, had⟩ : ∃ ad2 : Addr, ad2 = if cl = r + 1 then ⟨gl, 0, none⟩ else ⟨gl, r + 1, none⟩ := ⟨_, rfl⟩
      have had2 : r + 1 < k → ad2 = ⟨gl, r + 1, none⟩ := fun h => by rw [had, if_neg (by have := hcap.1; omega)]
      have hs2 : (if cl = r + 1 then some (⟨gl, 0, none⟩ : Addr) else some ⟨gl, r + 1, none⟩) = some ad2 := by rw [had]; split <;> rfl
      have hw1 : IntKind.i64.wrap ((r : Int) + 1) = (r : Int) + 1 := IntWalk.i64_in _ ⟨by omega, by omega⟩
      have hw2 : ((r : Int) + 1).toNat = r + 1 := by omega
      have hw3 : (0 : Int) ≤ (r : Int) + 1 := by omega
      have hw4 : (r : Int) + 1 ≤ (k : Int) := by omega
      have HD1 : Hid (∀ W, Below w2.heap.size w2 W → ∀ j, j < r → W.cell? ((⟨gl, 0, none⟩ : Addr).add j) = some (iv ((L.take r).getD j 0))) := fun W hW j hj => by
        rw [Addr.add_lit, takeD L r j hj, Nat.zero_add]; exact hall W hW j (by omega)
      have HD2 : Hid (∀ W, Below w2.heap.size w2 W → ∀ j, j < k - (r + 1) → W.cell? (ad2.add j) = some (iv ((L.drop (r + 1)).getD j 0))) := fun W hW j hj => by
        rw [had2 (by omega), Addr.add_lit, dropD]; exact hall W hW _ (by omega)
      have HL1 : Hid ((L.take r).length = r) := by show _ = _; simp; omega
      have HL2 : Hid ((L.drop (r + 1)).length = k - (r + 1)) := by show _ = _; simp; omega
      have P1 := Lib.hid (own_empty w2 w2.heap.size w2.heap.size (Nat.le_refl _) rfl).drew
      have C1 := Lib.hid (Below.one w2 (.cells #[] 3)).drew
      have HR := Lib.hid hR
      have HRE := Lib.hid hRe
      have hkm : k ≤ cl := hcap.1
      clear had had2 hall OL2 OL3 hL hR hRe hLl hcap
      go_wp2
      go_region_law (first
        | (refine step_append_int _ (by rfl) (.tmp 30) (.tmp 33) rfl w2.heap.size w2.heap.size 0 0 [] rfl P1.out ⟨gl, 0, none⟩ r cl (L.take r) rfl HL1.out (HD1.out _ C1.out) (by omega) C1.out.size r (by omega) ?_
           intro g3 c3 w3 hown3 hg3 hb3
           have BB3 := Lib.hid (C1.out.trans hb3)
           have OO3 := Lib.hid hown3
           clear hown3 hg3 hb3)
        | (refine step_append_int _ (by rfl) (.tmp 34) (.tmp 38) rfl w2.heap.size g3 r c3 ([] ++ L.take r) rfl OO3.out ad2 (k - (r + 1)) (cl - (r + 1)) (L.drop (r + 1)) rfl HL2.out (HD2.out _ BB3.out) (by omega) BB3.out.size (k - 1) (by omega) ?_
           intro g4 c4 w4 hown4 hg4 hb4
           have BB4 := Lib.hid (BB3.out.trans hb4)
           have OO4 : Hid (w4.ownsRow w2.heap.size 3 1 (.slice (some ⟨g4, 0, none⟩) (k - 1) c4) (k - 1) (R.map iv)) := (show w4.ownsRow _ _ _ _ _ _ from (by rw [HR.out]; exact hown4))
           clear hown4 hg4 hb4))
      all_goals
        have hne4 : g4 ≠ g2 := by have h1 := (OO4.out.lt g4 rfl).1; have h2 := (H2.out.lt g2 rfl).2; omega
        have J1 : Hid (w4.ownsRow w.heap.size 3 1 (.slice (some ⟨g4, 0, none⟩) (k - 1) c4) (k - 1) (((left.eraseIdx r).map Int.ofNat).map iv)) := by
          show World.ownsRow _ _ _ _ _ _ _
          rw [← HRE.out]; exact OO4.out.mono B2.out.size
        have J2 : Hid (w4.ownsRow w.heap.size 3 1 (.slice (some ⟨g2, 0, none⟩) (q + 1) c2) (q + 1) (((out ++ [y]).map Int.ofNat).map iv)) := own_below H2.out BB4.out
        have J3 := Lib.hid (B2.out.trans (BB4.out.mono B2.out.size))
        clear hs1 hs2 hw1 hw2 hw3 hw4 HD1 HD2 HL1 HL2 P1 OO3
        simp [go_sem]
        go_wp2
        go_roundw
        case rel => exact ⟨k - 1, d, g4, c4, g2, c2, q + 1, _, _, by omega, hdx, rfl, rfl, rfl, by first | exact HKK.out | go_num, hne4, HST.out, J1.out, J2.out, J3.out⟩
        case measure => simp [intOf] <;> omega
end Go.Proofs.Yteiadhfjpohmdaa
