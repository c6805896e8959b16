/-
  'l09Order' and 'OrderBy' of the model. No conditions but the bounds that Go gives a slice.
-/
import Derived.Test.YtmeojedfokahmaaGx
import Derived.Test.YtmeojedfokahmaaGh
namespace Go.Proofs.Ytmeojedfokahmaa
open Go.ChangeShapes Go.WideShapes Go.ChangeAt Go.RowKit Go.Sort
set_option linter.unusedVariables false

def niG (o : List Nat) : List Int := o.map Int.ofNat
theorem niG_at (o : List Nat) {j : Nat} (h : j < o.length) : (niG o).getD j 0 = ((o.getD j 0 : Nat) : Int) := by
  unfold niG
  rw [List.getD_eq_getElem?_getD, List.getD_eq_getElem?_getD, List.getElem?_map, List.getElem?_eq_getElem h]; rfl

set_option maxRecDepth 100000 in
set_option maxHeartbeats 4000000 in
theorem l09Order_any (a : Option Addr) (l : List Int) (cap : Nat) (w : World) (hrow : IntRow w a l) (hl : l.length ≤ 40) :
    Calls Try.prog 101 #[.slice a l.length cap] w fun e w' => (∃ g c, e = .returned (.slice (some ⟨g, 0, none⟩) l.length c) ∧ w'.ownsRow w.heap.size 3 1 (.slice (some ⟨g, 0, none⟩) l.length c) l.length ((niG (ordL l)).map iv)) ∧ Below w.heap.size w w' := by
  obtain ⟨n, hn⟩ : ∃ n, n = l.length := ⟨_, rfl⟩
  have HN := Lib.hid hn
  have H0 := Lib.hid hrow
  rw [← hn] at hl ⊢
  have O1 := Lib.hid (own_empty w w.heap.size w.heap.size (Nat.le_refl _) rfl)
  have B1 := Lib.hid (Below.one w (.cells #[] 3))
  clear hrow hn
  go_enter Try.func101, Try.ntmps101
  go_wp2
  go_loopw [3, 11] (fun o i wr => ∃ (k g c : Nat), k ≤ n ∧ i = .int .i64 (k : Int) ∧ o = .slice (some ⟨g, 0, none⟩) k c ∧ Hid (wr.ownsRow w.heap.size 3 1 (.slice (some ⟨g, 0, none⟩) k c) k ((niG (ordTo l k)).map iv)) ∧ Hid (Below w.heap.size w wr)) (fun _ i _ => n - (intOf i).toNat)
  case atStart => exact ⟨0, w.heap.size, 0, Nat.zero_le _, rfl, rfl, O1, B1⟩
  case round =>
    clear O1 B1
    obtain ⟨k, g, c, hk, rfl, rfl, O1, B1⟩ := hrel
    by_cases hlt : k < n
    · have hki : (k : Int) < (n : Int) := by omega
      obtain ⟨b, off, rfl, hbb, hc⟩ := row_at H0.out (show k < l.length by have := HN.out; omega)
      have hck := (B1.out.cell (p := ⟨b, off + k, none⟩) hbb).trans (hc k (by have := HN.out; omega))
      have HCELL : Hid (∀ j, j < n → wr.cell? ⟨b, off + j, none⟩ = some (.int .i64 (l.getD j 0))) := fun j hj => (B1.out.cell (p := ⟨b, off + j, none⟩) hbb).trans (hc j (by have := HN.out; omega))
      obtain ⟨O, hO⟩ : ∃ O, O = ordTo l k := ⟨_, rfl⟩
      have HO := Lib.hid hO
      have hOl : O.length = k := by rw [hO]; exact ordTo_len l k
      have hOlt : ∀ j, j < k → O.getD j 0 < k := fun j hj => by
        rw [List.getD_eq_getElem?_getD, List.getElem?_eq_getElem (by omega)]
        exact ordTo_lt l k _ (by rw [← hO]; exact List.getElem_mem _)
      have HOLT := Lib.hid hOlt
      have HOL := Lib.hid hOl
      have O2 := O1
      rw [← hO] at O2
      obtain ⟨x, hx⟩ : ∃ x, x = l.getD k 0 := ⟨_, rfl⟩
      have HX := Lib.hid hx
      rw [← hx] at hck
      clear hc hx O1 hO hOl hOlt
      go_wp2
      go_loopw [6] (fun v wr2 => ∃ j : Nat, v = .int .i64 (j : Int) ∧ j ≤ k ∧ Hid (posO l O x j = posO l O x k) ∧ wr2 = wr) (fun v _ => (intOf v).toNat)
      case atStart => exact ⟨k, rfl, Nat.le_refl _, rfl, rfl⟩
      case round =>
        clear hck
        obtain ⟨j, rfl, hj, hpo, rfl⟩ := hrel
        have fin : posO l O x j = j → Hid (posO l O x k = j) := fun h => hpo.out.symm.trans h
        have FIN := Lib.hid fin
        clear fin
        rcases Nat.eq_zero_or_pos j with h0 | h0
        · have HP := FIN.out (by rw [h0]; rfl)
          have hd0 : decide ((0 : Int) < (j : Int)) = false := decide_eq_false (by omega)
          have hd1 : ¬ (0 : Int) < (j : Int) := by omega
          clear FIN hpo h0
          obtain ⟨hca, hcb⟩ := own_cap O2.out
          have hgs := (O2.out.lt g rfl).2
          have hnl : (niG O).length = k := by unfold niG; rw [List.length_map]; exact HOL.out
          obtain ⟨R, hR⟩ : ∃ R, R = niG O := ⟨_, rfl⟩
          have hnext : Hid (R.take j ++ [(k : Int)] ++ R.drop j = niG (ordTo l (k + 1))) := by
            show _ = _
            have e1 : ordTo l (k + 1) = O.take j ++ (k :: O.drop j) := by
              rw [ordTo, ← HO.out, ← HX.out, HOL.out, HP.out]
            rw [e1, hR]
            unfold niG
            rw [List.map_append, List.map_cons, List.map_take, List.map_drop, List.append_assoc]
            rfl
          rw [← hR] at O2 hnl
          have HR2 : Hid (∀ W, Below wr.heap.size wr W → ∀ i, i < k → W.cell? ⟨g, 0 + i, none⟩ = some (iv (R.getD i 0))) := fun W hW i hi => by
            rw [Nat.zero_add]; exact (hW.cell (p := ⟨g, i, none⟩) hgs).trans (cell_own O2.out hi)
          have hs3 := slice_to g 0 k c j hj hca hcb
          obtain ⟨ad5, had5, hs5⟩ := slice_rest g 0 k c j hj hca hcb
          have HC3 : Hid (∀ W, Below wr.heap.size wr W → ∀ i, i < j → W.cell? ((⟨g, 0, none⟩ : Addr).add i) = some (iv ((R.take j).getD i 0))) := fun W hW i hi => by
            rw [Addr.add_lit, takeD R j i hi]; exact HR2.out W hW i (by omega)
          have HC5 : Hid (∀ W, Below wr.heap.size wr W → ∀ i, i < k - j → W.cell? (ad5.add i) = some (iv ((R.drop j).getD i 0))) := fun W hW i hi => by
            rw [had5 (by omega), Addr.add_lit, dropD, Nat.add_assoc]; exact HR2.out W hW _ (by omega)
          have HL3 : Hid ((R.take j).length = j) := by show _ = _; rw [List.length_take, hnl]; omega
          have HL5 : Hid ((R.drop j).length = k - j) := by show _ = _; rw [List.length_drop, hnl]
          have O3 := Lib.hid (own_empty wr wr.heap.size wr.heap.size (Nat.le_refl _) rfl)
          have B3 := Lib.hid (Below.one wr (.cells #[] 3))
          have hk40 : k ≤ 40 := by omega
          clear had5 HR2 hR hnl hgs
          go_wp2_with (at_builtin; refine list_append_int _ rfl _ _ rfl wr.heap.size wr.heap.size 0 0 [] rfl O3.out ⟨g, 0, none⟩ j c (R.take j) rfl HL3.out (HC3.out _ B3.out) (by omega) B3.out.size j (by omega) ?_)
          intro g3 c3 w3 hown3 hg3 hb3
          have BB3 := Lib.hid (B3.out.trans hb3)
          have OO3 : Hid (w3.ownsRow wr.heap.size 3 1 (.slice (some ⟨g3, 0, none⟩) j c3) j ((R.take j).map iv)) := (show w3.ownsRow _ _ _ _ _ _ from (by first | exact hown3 | (rw [List.map_take]; exact hown3) | simpa using hown3))
          have O4 : Hid ((w3.alloc (.cells #[.int .i64 (k : Int)] 3)).ownsRow wr.heap.size 3 1 (.slice (some ⟨g3, 0, none⟩) j c3) j ((R.take j).map iv)) := by
            have hgn : w3.grownBy (w3.alloc (.cells #[.int .i64 (k : Int)] 3)) none := World.grownBy_alloc _ _ _
            exact own_grown OO3.out hgn (fun k _ e => by cases e)
          have B4 := Lib.hid (BB3.out.alloc BB3.out.size (.cells #[.int .i64 (k : Int)] 3))
          have HC4 : Hid (∀ i, i < 1 → (w3.alloc (.cells #[.int .i64 (k : Int)] 3)).cell? ((⟨w3.heap.size, 0, none⟩ : Addr).add i) = some (iv ([(k : Int)].getD i 0))) := fun i hi => by
            obtain rfl : i = 0 := by omega
            rw [Addr.add_lit]
            simp [iv]
          clear hown3 hg3 hb3 HC3 HL3 O3
          go_wp2_with (at_builtin; refine list_append_int _ rfl _ _ rfl wr.heap.size g3 j c3 (R.take j) rfl O4.out ⟨w3.heap.size, 0, none⟩ 1 1 [(k : Int)] rfl rfl HC4.out (by omega) B4.out.size (j + 1) rfl ?_)
          intro g4 c4 w4 hown4 hg4 hb4
          have BB4 := Lib.hid (B4.out.trans hb4)
          have OO4 : Hid (w4.ownsRow wr.heap.size 3 1 (.slice (some ⟨g4, 0, none⟩) (j + 1) c4) (j + 1) ((R.take j ++ [(k : Int)]).map iv)) := (show w4.ownsRow _ _ _ _ _ _ from (by first | exact hown4 | (rw [List.map_append, List.map_take]; exact hown4) | simpa using hown4))
          clear hown4 hg4 hb4 HC4 O4 OO3
          go_wp2_with (at_builtin; refine list_append_int _ rfl _ _ rfl wr.heap.size g4 (j + 1) c4 (R.take j ++ [(k : Int)]) rfl OO4.out ad5 (k - j) (c - j) (R.drop j) rfl HL5.out (HC5.out _ BB4.out) (by omega) BB4.out.size (k + 1) (by omega) ?_)
          intro g5 c5 w5 hown5 hg5 hb5
          have BB5 := Lib.hid (B1.out.trans ((BB4.out.trans hb5).mono B1.out.size))
          have OO5 : Hid (w5.ownsRow w.heap.size 3 1 (.slice (some ⟨g5, 0, none⟩) (k + 1) c5) (k + 1) ((niG (ordTo l (k + 1))).map iv)) := by
            have h5 : w5.ownsRow wr.heap.size 3 1 (.slice (some ⟨g5, 0, none⟩) (k + 1) c5) (k + 1) ((R.take j ++ [(k : Int)] ++ R.drop j).map iv) := by first | exact hown5 | (rw [List.map_append, List.map_append, List.map_take, List.map_drop]; exact hown5) | simpa using hown5
            have := h5.mono B1.out.size
            rw [hnext.out] at this
            exact this
          clear hown5 hg5 hb5
          go_wp2
          go_roundw
          case rel => exact ⟨k + 1, g5, c5, by omega, by go_num, rfl, OO5, BB5⟩
          case measure => simp [intOf]; omega
        · obtain ⟨q, hqj⟩ : ∃ q, j = q + 1 := ⟨j - 1, by omega⟩
          have hq : q < k := by omega
          have e1 : ((j : Int) - 1).toNat = q := by omega
          have e2 : (0 : Int) ≤ (j : Int) - 1 := by omega
          have e3 : (j : Int) - 1 < (k : Int) := by omega
          have e5 : (0 : Int) < (j : Int) := by omega
          have e6 : decide ((0 : Int) < (j : Int)) = true := decide_eq_true e5
          obtain ⟨y, hy⟩ : ∃ y, y = O.getD q 0 := ⟨_, rfl⟩
          have hyk : y < k := by rw [hy]; exact HOLT.out q hq
          have hyi : (y : Int) < (n : Int) := by omega
          have c1 : wr.cell? ⟨g, q, none⟩ = some (.int .i64 (y : Int)) := by
            rw [cell_own O2.out hq, niG_at O (by rw [HOL.out]; exact hq), hy]; rfl
          have c2 := HCELL.out y (by omega)
          obtain ⟨u, hu⟩ : ∃ u, u = l.getD y 0 := ⟨_, rfl⟩
          rw [← hu] at c2
          have HPS : Hid (posO l O x j = if u < x then posO l O x q else j) := by show _ = _; rw [hqj, posO, ← hy, ← hu]
          have HQJ := Lib.hid hqj
          clear hy hu hqj
          by_cases hux : u < x
          · have hpo2 : Hid (posO l O x q = posO l O x k) := by show _ = _; rw [← hpo.out, HPS.out, if_pos hux]
            clear hpo HPS FIN
            go_wp2
            go_roundw
            case rel => exact ⟨q, by have := HQJ.out; congr 1; omega, by omega, hpo2, trivial⟩
            case measure => have := HQJ.out; simp [intOf]; omega
          · have HP := FIN.out (by rw [HPS.out, if_neg hux])
            have hud : decide (u < x) = false := decide_eq_false hux
            clear hpo HPS FIN
            obtain ⟨hca, hcb⟩ := own_cap O2.out
            have hgs := (O2.out.lt g rfl).2
            have hnl : (niG O).length = k := by unfold niG; rw [List.length_map]; exact HOL.out
            obtain ⟨R, hR⟩ : ∃ R, R = niG O := ⟨_, rfl⟩
            have hnext : Hid (R.take j ++ [(k : Int)] ++ R.drop j = niG (ordTo l (k + 1))) := by
              show _ = _
              have e1 : ordTo l (k + 1) = O.take j ++ (k :: O.drop j) := by
                rw [ordTo, ← HO.out, ← HX.out, HOL.out, HP.out]
              rw [e1, hR]
              unfold niG
              rw [List.map_append, List.map_cons, List.map_take, List.map_drop, List.append_assoc]
              rfl
            rw [← hR] at O2 hnl
            have HR2 : Hid (∀ W, Below wr.heap.size wr W → ∀ i, i < k → W.cell? ⟨g, 0 + i, none⟩ = some (iv (R.getD i 0))) := fun W hW i hi => by
              rw [Nat.zero_add]; exact (hW.cell (p := ⟨g, i, none⟩) hgs).trans (cell_own O2.out hi)
            have hs3 := slice_to g 0 k c j hj hca hcb
            obtain ⟨ad5, had5, hs5⟩ := slice_rest g 0 k c j hj hca hcb
            have HC3 : Hid (∀ W, Below wr.heap.size wr W → ∀ i, i < j → W.cell? ((⟨g, 0, none⟩ : Addr).add i) = some (iv ((R.take j).getD i 0))) := fun W hW i hi => by
              rw [Addr.add_lit, takeD R j i hi]; exact HR2.out W hW i (by omega)
            have HC5 : Hid (∀ W, Below wr.heap.size wr W → ∀ i, i < k - j → W.cell? (ad5.add i) = some (iv ((R.drop j).getD i 0))) := fun W hW i hi => by
              rw [had5 (by omega), Addr.add_lit, dropD, Nat.add_assoc]; exact HR2.out W hW _ (by omega)
            have HL3 : Hid ((R.take j).length = j) := by show _ = _; rw [List.length_take, hnl]; omega
            have HL5 : Hid ((R.drop j).length = k - j) := by show _ = _; rw [List.length_drop, hnl]
            have O3 := Lib.hid (own_empty wr wr.heap.size wr.heap.size (Nat.le_refl _) rfl)
            have B3 := Lib.hid (Below.one wr (.cells #[] 3))
            have hk40 : k ≤ 40 := by omega
            clear had5 HR2 hR hnl hgs
            go_wp2_with (at_builtin; refine list_append_int _ rfl _ _ rfl wr.heap.size wr.heap.size 0 0 [] rfl O3.out ⟨g, 0, none⟩ j c (R.take j) rfl HL3.out (HC3.out _ B3.out) (by omega) B3.out.size j (by omega) ?_)
            intro g3 c3 w3 hown3 hg3 hb3
            have BB3 := Lib.hid (B3.out.trans hb3)
            have OO3 : Hid (w3.ownsRow wr.heap.size 3 1 (.slice (some ⟨g3, 0, none⟩) j c3) j ((R.take j).map iv)) := (show w3.ownsRow _ _ _ _ _ _ from (by first | exact hown3 | (rw [List.map_take]; exact hown3) | simpa using hown3))
            have O4 : Hid ((w3.alloc (.cells #[.int .i64 (k : Int)] 3)).ownsRow wr.heap.size 3 1 (.slice (some ⟨g3, 0, none⟩) j c3) j ((R.take j).map iv)) := by
              have hgn : w3.grownBy (w3.alloc (.cells #[.int .i64 (k : Int)] 3)) none := World.grownBy_alloc _ _ _
              exact own_grown OO3.out hgn (fun k _ e => by cases e)
            have B4 := Lib.hid (BB3.out.alloc BB3.out.size (.cells #[.int .i64 (k : Int)] 3))
            have HC4 : Hid (∀ i, i < 1 → (w3.alloc (.cells #[.int .i64 (k : Int)] 3)).cell? ((⟨w3.heap.size, 0, none⟩ : Addr).add i) = some (iv ([(k : Int)].getD i 0))) := fun i hi => by
              obtain rfl : i = 0 := by omega
              rw [Addr.add_lit]
              simp [iv]
            clear hown3 hg3 hb3 HC3 HL3 O3
            go_wp2_with (at_builtin; refine list_append_int _ rfl _ _ rfl wr.heap.size g3 j c3 (R.take j) rfl O4.out ⟨w3.heap.size, 0, none⟩ 1 1 [(k : Int)] rfl rfl HC4.out (by omega) B4.out.size (j + 1) rfl ?_)
            intro g4 c4 w4 hown4 hg4 hb4
            have BB4 := Lib.hid (B4.out.trans hb4)
            have OO4 : Hid (w4.ownsRow wr.heap.size 3 1 (.slice (some ⟨g4, 0, none⟩) (j + 1) c4) (j + 1) ((R.take j ++ [(k : Int)]).map iv)) := (show w4.ownsRow _ _ _ _ _ _ from (by first | exact hown4 | (rw [List.map_append, List.map_take]; exact hown4) | simpa using hown4))
            clear hown4 hg4 hb4 HC4 O4 OO3
            go_wp2_with (at_builtin; refine list_append_int _ rfl _ _ rfl wr.heap.size g4 (j + 1) c4 (R.take j ++ [(k : Int)]) rfl OO4.out ad5 (k - j) (c - j) (R.drop j) rfl HL5.out (HC5.out _ BB4.out) (by omega) BB4.out.size (k + 1) (by omega) ?_)
            intro g5 c5 w5 hown5 hg5 hb5
            have BB5 := Lib.hid (B1.out.trans ((BB4.out.trans hb5).mono B1.out.size))
            have OO5 : Hid (w5.ownsRow w.heap.size 3 1 (.slice (some ⟨g5, 0, none⟩) (k + 1) c5) (k + 1) ((niG (ordTo l (k + 1))).map iv)) := by
              have h5 : w5.ownsRow wr.heap.size 3 1 (.slice (some ⟨g5, 0, none⟩) (k + 1) c5) (k + 1) ((R.take j ++ [(k : Int)] ++ R.drop j).map iv) := by first | exact hown5 | (rw [List.map_append, List.map_append, List.map_take, List.map_drop]; exact hown5) | simpa using hown5
              have := h5.mono B1.out.size
              rw [hnext.out] at this
              exact this
            clear hown5 hg5 hb5
            go_wp2
            go_roundw
            case rel => exact ⟨k + 1, g5, c5, by omega, by go_num, rfl, OO5, BB5⟩
            case measure => simp [intOf]; omega
    · obtain rfl : k = n := by omega
      have O2 := O1
      have he : ordTo l k = ordL l := by unfold ordL; rw [← HN.out]
      rw [he] at O2
      clear O1
      go_wp2
      go_ret
      exact ⟨⟨g, c, rfl, O2.out⟩, B1.out⟩

set_option maxHeartbeats 400000 in
theorem specOrderBy (a : Option Addr) (l : List Int) (cap : Nat) (w : World) (hrow : IntRow w a l) (hl : l.length ≤ maxLen) :
    Calls Try.prog 55 #[.slice a l.length cap] w fun e w' => (∃ a0 c0, e = .returned (.slice a0 (ordR l).length c0) ∧ w'.ownsRow w.heap.size 3 1 (.slice a0 (ordR l).length c0) (ordR l).length ((ordR l).map iv)) ∧ Below w.heap.size w w' := by
  unfold maxLen at hl
  obtain ⟨n, hn⟩ : ∃ n, n = l.length := ⟨_, rfl⟩
  by_cases h40 : n ≤ 40
  · have h40i : ¬ (40 : Int) < (n : Int) := by omega
    have hC := l09Order_any a l cap w hrow (by omega)
    have HRR : Hid (ordR l = niG (ordL l)) := by show _ = _; unfold ordR; rw [if_pos (by omega)]; rfl
    have HRl : Hid ((ordR l).length = n) := by show _ = _; rw [HRR.out]; unfold niG; rw [List.length_map, ordL_len, hn]
    rw [← hn] at hC hl ⊢
    have HC := Lib.hid hC
    clear hC hrow hn
    go_enter Try.func55, Try.ntmps55
    go_wp2_with fail
    refine HC.out.mono ?_
    rintro e w' ⟨⟨g, c, rfl, ho⟩, hb⟩
    have HO := Lib.hid ho
    clear ho
    go_wp2
    go_ret
    refine ⟨⟨some ⟨g, 0, none⟩, c, by rw [HRl.out]; rfl, ?_⟩, hb⟩
    rw [HRl.out, HRR.out]; exact HO.out
  · have h40i : (40 : Int) < (n : Int) := by omega
    have HRR : Hid (ordR l = []) := by show _ = _; unfold ordR; rw [if_neg (by omega)]
    rw [← hn] at hl ⊢
    clear hrow hn
    go_enter Try.func55, Try.ntmps55
    go_wp2
    go_ret
    rw [HRR.out]
    exact ⟨⟨none, 0, rfl, own_nil _ _⟩, Below.refl _ _⟩
end Go.Proofs.Ytmeojedfokahmaa
