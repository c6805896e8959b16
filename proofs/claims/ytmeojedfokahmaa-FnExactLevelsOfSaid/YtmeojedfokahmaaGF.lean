/-
  'LevelsOf' of the program, walked. No conditions but the bounds that Go gives a slice.
-/
import Derived.Test.YtmeojedfokahmaaGE
namespace Go.Proofs.Ytmeojedfokahmaa
open Go.ChangeShapes Go.WideShapes Go.ChangeAt Go.RowKit Go.Sort
set_option linter.unusedVariables false

theorem slice_cut3 (g off r c e : Nat) (he : e ≤ r) (hc : r ≤ c) (hc2 : c ≤ maxLen) : ∀ W : World, (Instr.sliceAt 23 (.slice (some ⟨g, off, none⟩) r c) none (some (.int .i64 (e : Int))) (some (.int .i64 (e : Int)))).run Try.prog W = .ok (.slice (some ⟨g, off, none⟩) e e) W := by
  unfold maxLen at hc2
  have h0 : (0 : Int) ≤ (e : Int) := by omega
  have hmi : (e : Int) ≤ (c : Int) := by omega
  have hec : e ≤ c := by omega
  intro W
  simp [go_sem, Try.underlying23, Try.sizeOf3, hec]
theorem own_someG {w : World} {B m c : Nat} {a : Option Addr} {xs : List Value} (h : w.ownsRow B 3 1 (.slice a m c) m xs) (h1 : 0 < m) : ∃ g, a = some ⟨g, 0, none⟩ := by
  rcases h.2 with ⟨_, hn⟩ | ⟨g, c2, cur, he, _⟩
  · omega
  · simp only [Value.slice.injEq] at he
    exact ⟨g, he.1⟩
theorem own_ss_empty (w : World) (B : Nat) (hB : B ≤ w.heap.size) : OwnSS (w.alloc (.cells #[] 23)) B (some ⟨w.heap.size, 0, none⟩) 0 [] [] :=
  ⟨rfl, ⟨rfl, .inr ⟨w.heap.size, 0, #[], rfl, hB, World.alloc_heap_new w _, Nat.le_refl _, by unfold maxLen; omega, rfl, rfl⟩⟩, fun i h => absurd h (Nat.not_lt_zero _), fun i j h => absurd h (Nat.not_lt_zero _)⟩

set_option maxRecDepth 100000 in
set_option maxHeartbeats 4000000 in
theorem implLevels (a : Option Addr) (l : List Int) (cap : Nat) (w : World) (hrow : IntRow w a l) (hl : l.length ≤ maxLen) :
    Calls Try.prog 41 #[.slice a l.length cap] w fun e w' => (∃ a0 c0 gs, e = .returned (.slice a0 (levR l).length c0) ∧ OwnSS w' w.heap.size a0 c0 gs (levR l)) ∧ Below w.heap.size w w' := by
  obtain ⟨n, hn⟩ : ∃ n, n = l.length := ⟨_, rfl⟩
  obtain ⟨W1, hW1⟩ : ∃ W1, W1 = w.alloc (.cells #[.slice a n cap] 23) := ⟨_, rfl⟩
  obtain ⟨W2, hW2⟩ : ∃ W2, W2 = W1.alloc (.cells #[] 23) := ⟨_, rfl⟩
  have hb1 : Below w.heap.size w W1 := by rw [hW1]; exact (Below.refl _ _).alloc (Nat.le_refl _) _
  have hs1 : W1.heap.size = w.heap.size + 1 := by rw [hW1]; simp
  have hb2 : Below w.heap.size w W2 := by rw [hW2]; exact hb1.alloc hb1.size _
  have hs2 : W2.heap.size = w.heap.size + 1 + 1 := by rw [hW2]; simp [hs1]
  have bp2 : Boxed W2 w.heap.size 23 (.slice a n cap) := by rw [hW2, hW1]; exact (Boxed.new w _ _).alloc _
  have ss2 : OwnSS W2 (w.heap.size + 1) (some ⟨w.heap.size + 1, 0, none⟩) 0 [] [] := by
    have := own_ss_empty W1 (w.heap.size + 1) (by omega)
    rw [hW2]; rw [hs1] at this; exact this
  have hC := implOrderBy a l cap W2 (hrow.below hb2 (Nat.le_refl _)) hl
  rw [← hn] at hC hl ⊢
  have HC := Lib.hid hC
  have HW2 : Hid (W2 = (w.alloc (.cells #[.slice a n cap] 23)).alloc (.cells #[] 23)) := by rw [hW2, hW1]; exact rfl
  have HB2 := Lib.hid hb2
  have HSS := Lib.hid ss2
  have HBP := Lib.hid bp2
  have hc0 := bp2.cell
  have HN := Lib.hid hn
  have HROW := Lib.hid hrow
  have HS2 := Lib.hid hs2
  obtain ⟨r0, hr0⟩ : ∃ r0, r0 = (ordR l).length := ⟨_, rfl⟩
  rw [← hr0] at HC
  have HR0 := Lib.hid hr0
  rw [hW2, hW1] at hc0
  clear hC hW1 hW2 hb1 hb2 hs1 hs2 bp2 ss2 hrow hn hl hr0
  rcases Nat.eq_zero_or_pos r0 with h0 | h0
  · have HR : Hid (levR l = []) := by
      show _ = _
      have h1 := HR0.out
      unfold ordR at h1
      unfold levR
      split
      · rename_i h
        rw [if_pos h, List.length_map, ordL_len] at h1
        have : ordL l = [] := List.eq_nil_of_length_eq_zero (by rw [ordL_len]; omega)
        rw [this]; rfl
      · rfl
    rw [HR.out]
    subst h0
    go_enter Try.func41, Try.ntmps41
    go_wp2_with fail
    rw [← HW2.out]
    refine HC.out.mono ?_
    rintro e w3 ⟨⟨a3, c3, rfl, ho3⟩, hb3⟩
    have S3 := Lib.hid (HSS.out.below hb3)
    have B3 := Lib.hid (HB2.out.trans (hb3.mono HB2.out.size))
    have bx := Boxed.new w3 23 (.slice a3 0 c3)
    have hc1 := bx.cell
    have S4 : Hid (OwnSS (w3.alloc (.cells #[.slice a3 0 c3] 23)) w.heap.size (some ⟨w.heap.size + 1, 0, none⟩) 0 [] []) := (S3.out.aside (World.grownBy_alloc w3 _ none) (fun k e => by cases e)).mono (Nat.le_succ _)
    have B4 : Hid (Below w.heap.size w (w3.alloc (.cells #[.slice a3 0 c3] 23))) := B3.out.alloc B3.out.size _
    clear ho3 hb3 hc0 bx
    go_wp2
    refine wp_loop_rounds 1 ?_
    rw [rounds_succ]
    go_wp2
    go_ret
    exact ⟨⟨some ⟨w.heap.size + 1, 0, none⟩, 0, [], rfl, S4.out⟩, B4.out⟩
  · have h40 : n ≤ 40 ∧ r0 = n := by
      have h1 := HR0.out
      unfold ordR at h1
      split at h1
      · rename_i h
        rw [List.length_map, ordL_len] at h1
        have := HN.out
        omega
      · simp at h1; omega
    obtain ⟨hn40, rfl⟩ := h40
    obtain ⟨O, hO⟩ : ∃ O, O = ordL l := ⟨_, rfl⟩
    have hOl : O.length = r0 := by rw [hO, ordL_len]; exact HN.out.symm
    have HOR : Hid (ordR l = niG O) := by show _ = _; unfold ordR; rw [if_pos (by have := HN.out; omega), hO]; rfl
    have HLR : Hid (levR l = (lvlF l O).map niG) := by show _ = _; unfold levR; rw [if_pos (by have := HN.out; omega), hO]
    have HOS : Hid (O.Pairwise (leI l)) := by rw [hO]; exact ordTo_sorted l _
    have HOlt : Hid (∀ j, j < r0 → O.getD j 0 < r0) := fun j hj => by
      rw [List.getD_eq_getElem?_getD, List.getElem?_eq_getElem (by omega)]
      have := ordTo_lt l l.length O[j] (by rw [show ordTo l l.length = O from hO.symm]; exact List.getElem_mem _)
      have := HN.out
      show O[j] < r0
      omega
    have HOl := Lib.hid hOl
    rw [HOR.out] at HC
    clear hO hOl
    go_enter Try.func41, Try.ntmps41
    go_wp2_with fail
    rw [← HW2.out]
    refine HC.out.mono ?_
    rintro e w3 ⟨⟨a3, c3, rfl, ho3⟩, hb3⟩
    obtain ⟨g, rfl⟩ := own_someG ho3 h0
    have hgl := ho3.lt g rfl
    have hcap := own_cap ho3
    have hs2 := HS2.out
    have hs3 := hb3.size
    have bx := Boxed.new w3 23 (.slice (some ⟨g, 0, none⟩) r0 c3)
    have hgal : w3.grownBy (w3.alloc (.cells #[.slice (some ⟨g, 0, none⟩) r0 c3] 23)) none := World.grownBy_alloc _ _ _
    have B3 := HB2.out.trans (hb3.mono HB2.out.size)
    have L0 : Hid (Lv w (w3.alloc (.cells #[.slice (some ⟨g, 0, none⟩) r0 c3] 23)) (w.heap.size + 1) w.heap.size w3.heap.size g a r0 cap l O c3 (some ⟨w.heap.size + 1, 0, none⟩) 0 [] [] (.slice (some ⟨g, 0, none⟩) r0 c3)) :=
      ⟨B3.alloc B3.size _, (HSS.out.below hb3).aside hgal (fun k e => by cases e), own_grown (ho3.mono (by omega)) hgal (fun k _ e => by cases e), (HBP.out.kept (grown_of_below hb3) (by simp)).alloc _, bx,
        fun k hk => by simp [blk] at hk; omega, fun i hi => absurd hi (Nat.not_lt_zero _), fun i hi => absurd hi (Nat.not_lt_zero _), hgl.2, fun k hk => by simp [blk] at hk; omega, Nat.lt_succ_self _, by omega, Nat.le_refl _, by simp; omega⟩
    have hfirst : Hid (([] : List (List Int)) ++ (lvlF l (O.drop 0)).map niG = levR l) := by show _ = _; rw [HLR.out]; simp
    obtain ⟨q0, hq0⟩ : ∃ q0, q0 = w3.heap.size := ⟨_, rfl⟩
    have HCP := Lib.hid hcap
    have hc1 := bx.cell
    clear ho3 hb3 hgl hs2 hs3 hgal B3 bx hc0 HC HSS HBP
    go_wp2
    rw [← hq0]
    rw [← hq0] at L0
    clear hc1
    go_loopg [3, 4] r0 (fun gh out lp wr => ∃ (q r c p co : Nat) (ao : Option Addr) (gs : List (Nat × Nat)) (Ls : List (List Int)) (ad : Addr), out = .slice ao Ls.length co ∧ lp = .pointer (some ⟨q, 0, none⟩) ∧ p + r = r0 ∧ Ls.length ≤ p ∧ r ≤ gh ∧ r ≤ c ∧ c ≤ maxLen ∧ Hid (0 < r → ad = ⟨g, p, none⟩) ∧ Hid (Lv w wr (w.heap.size + 1) w.heap.size q g a r0 cap l O c3 ao co gs Ls (.slice (some ad) r c)) ∧ Hid (Ls ++ (lvlF l (O.drop p)).map niG = levR l))
    case atStart => exact ⟨q0, r0, c3, 0, 0, some ⟨w.heap.size + 1, 0, none⟩, [], [], ⟨g, 0, none⟩, rfl, rfl, Nat.zero_add _, Nat.le_refl _, Nat.le_refl _, HCP.out.1, HCP.out.2, fun _ => rfl, L0, hfirst⟩
    case round =>
      clear L0 hfirst
      obtain ⟨q, r, c, p, co, ao, gs, Ls, ad, rfl, rfl, hpr, hLp, hrg, hrc, hcm, had, hL, hR⟩ := hrel
      have b0 := hL.out.bq.cell
      by_cases hlt : 0 < r
      · obtain rfl := had.out hlt
        have hri : (0 : Int) < (r : Int) := by omega
        obtain ⟨L, hLe⟩ : ∃ L, L = O.drop p := ⟨_, rfl⟩
        have hLl : L.length = r := by rw [hLe, List.length_drop]; have := HOl.out; omega
        have hLat : ∀ j, j < r → L.getD j 0 = O.getD (p + j) 0 := fun j hj => by
          rw [hLe, List.getD_eq_getElem?_getD, List.getD_eq_getElem?_getD, List.getElem?_drop]
        obtain ⟨e, he⟩ : ∃ e, e = gl l L := ⟨_, rfl⟩
        have he1 : 1 ≤ e := by rw [he]; exact gl_pos l L (by omega)
        have her : e ≤ r := by rw [he]; have := gl_le l L; omega
        have HLS : Hid (L.Pairwise (leI l)) := by rw [hLe]; exact HOS.out.sublist (List.drop_sublist _ _)
        have HCELL : Hid (∀ W, Below wr.heap.size wr W → ∀ j, j < r → W.cell? ⟨g, p + j, none⟩ = some (.int .i64 ((L.getD j 0 : Nat) : Int))) := fun W hW j hj => by
          rw [hLat j hj, cell_own (own_below hL.out.og hW) (show p + j < r0 by omega), niG_at O (by have := HOl.out; omega)]; rfl
        have hcut := lvlF_cut l L (by omega)
        rw [← he] at hcut
        have hRn : Hid ((Ls ++ [niG (L.take e)]) ++ (lvlF l (O.drop (p + e))).map niG = levR l) := by
          show _ = _
          rw [← hR.out, ← hLe, hcut, List.map_cons, hLe, List.drop_drop, List.append_assoc]
          rfl
        have hcb := countBelow_any r (by omega) 95 #[.pointer (some ⟨w.heap.size, 0, none⟩), .pointer (some ⟨q, 0, none⟩)] (fun i => eqK l (L.getD 0 0) (L.getD i 0)) wr (enters_of Try.func95 (by kernel_rfl) rfl)
          (fun W k hW hk => level1_any w.heap.size q k r0 cap r c g p a l L W (hL.out.bp.kept (grown_of_below hW) (by simp)).cell (hL.out.bq.kept (grown_of_below hW) (by simp)).cell HN.out.symm (HROW.out.below (hL.out.hb.trans (hW.mono hL.out.hb.size)) (Nat.le_refl _)) hk hLl
            (fun j hj => by rw [hLat j hj]; exact HOlt.out _ (by omega)) (HCELL.out W hW))
        rw [← hLl, gl_count HLS.out (by omega), ← he, hLl] at hcb
        have HCB := Lib.hid hcb
        have hs3 := slice_cut3 g p r c e her hrc hcm
        obtain ⟨ad5, had5, hs5⟩ := slice_rest g p r c e her hrc hcm
        have hTl : (niG (L.take e)).length = e := by unfold niG; rw [List.length_map, List.length_take]; omega
        have HTl := Lib.hid hTl
        have HTc : Hid (∀ j, j < e → (niG (L.take e)).getD j 0 = ((L.getD j 0 : Nat) : Int)) := fun j hj => by
          rw [niG_at _ (by rw [List.length_take]; omega), List.getD_eq_getElem?_getD, List.getElem?_take, if_pos hj, List.getD_eq_getElem?_getD]
        have hgwr := (hL.out.og.lt g rfl).2
        obtain ⟨i0, hi, hz0, hz1, hz2⟩ := info_parts infoSS
        have HAD5 := Lib.hid had5
        clear hcb hcut he hLat hLe hR had hLl had5 hTl
        go_wp2_with fail
        refine HCB.out.mono ?_
        rintro ex w1 ⟨rfl, hb1⟩
        have b1 := (hL.out.bq.kept (grown_of_below hb1) (by simp)).cell
        have HCO := Lib.hid (copyOf_any g p e e (niG (L.take e)) w1 HTl.out (by omega) (fun j hj => by rw [HTc.out j hj]; exact HCELL.out w1 hb1 j (by omega)) (Nat.lt_of_lt_of_le hgwr hb1.size))
        have B1 := Lib.hid hb1
        clear hb1 b0
        go_wp2_with fail
        refine HCO.out.mono ?_
        rintro ex w2 ⟨⟨gn, rfl, hgn, hogn⟩, hb2⟩
        have B2 := Lib.hid (B1.out.trans (hb2.mono B1.out.size))
        have HGN : Hid (wr.heap.size ≤ gn) := Nat.le_trans B1.out.size hgn
        have OGN : Hid (w2.ownsRow wr.heap.size 3 1 (.slice (some ⟨gn, 0, none⟩) (niG (L.take e)).length e) (niG (L.take e)).length ((niG (L.take e)).map iv)) := by
          show World.ownsRow _ _ _ _ _ _ _
          rw [HTl.out]; exact hogn.mono B1.out.size
        have g12 : wr.grownBy (w2.alloc (.cells #[.slice (some ⟨gn, 0, none⟩) e e] 23)) none := (grown_of_below B2.out).trans (World.grownBy_alloc w2 _ none)
        have hout := (hL.out.ss.aside g12 (fun k e => by cases e)).out
        have HOW := Lib.hid hout
        have hb3 : w.heap.size + 1 ≤ (w2.alloc (.cells #[.slice (some ⟨gn, 0, none⟩) e e] 23)).heap.size := by have := hL.out.Bs; have := g12.size; omega
        have HC3 : Hid (∀ j u, [Value.slice (some ⟨gn, 0, none⟩) e e][j]? = some u → (w2.alloc (.cells #[.slice (some ⟨gn, 0, none⟩) e e] 23)).cell? ((⟨w2.heap.size, 0, none⟩ : Addr).add j) = some u) := fun j u hj => by
          obtain ⟨hj1, rfl⟩ := List.getElem?_eq_some_iff.1 hj
          obtain rfl : j = 0 := by simpa using hj1
          rw [Addr.add_lit]; simp
        have G12 := Lib.hid g12
        have hLsn : Ls.length ≤ r0 := by omega
        clear hb2 hgn hogn b1 HCB HCO g12 hout
        go_wp2_with (at_builtin; refine wpList_append_own _ rfl _ _ 34 rfl (w.heap.size + 1) 23 i0 (.slice none 0 0) 1 24 Try.underlying34 hi hz0 hz1 hz2 rfl (by decide) _ _ _ rfl HOW.out ⟨w2.heap.size, 0, none⟩ 1 1 [.slice (some ⟨gn, 0, none⟩) e e] rfl rfl HC3.out (by intro u hu; simp at hu; subst hu; rfl) (by unfold maxLen; omega) (by omega) hb3 ?_)
        intro v4 w4 hown4 hg4 hnil4
        obtain ⟨g4, c4, rfl⟩ : ∃ g4 c4, v4 = .slice (some ⟨g4, 0, none⟩) (Ls.length + 1) c4 := by
          rcases hown4.2 with ⟨hv, _⟩ | ⟨g4, c4, cur, hv, _⟩
          · exact absurd hv (by simpa using hnil4)
          · exact ⟨g4, c4, hv⟩
        rw [blk_own] at hg4
        have bq4 := (hL.out.bq.kept G12.out (by simp)).kept hg4 (fun e => absurd (hL.out.ql q e.symm) (Nat.lt_irrefl _))
        have b4 := bq4.cell
        have b5 := bq4.frozen
        have HST := Lib.hid (Lv.step hL.out (by omega) HOl.out B2.out HTl.out OGN.out HGN.out hg4 hown4 (.slice (some ad5) (r - e) (c - e)))
        clear bq4 hown4 hg4 hnil4 HOW HC3 hL HCELL
        go_wp2
        go_roundg (r - e)
        case measure => omega
        case rel => exact ⟨w4.heap.size, r - e, c - e, p + e, c4, some ⟨g4, 0, none⟩, gs ++ [(gn, e)], Ls ++ [niG (L.take e)], ad5, by rw [List.length_append]; rfl, rfl, by omega, by rw [List.length_append]; simp; omega, by omega, by omega, by omega, fun h => HAD5.out (by omega), HST.out, hRn⟩
      · obtain rfl : r = 0 := by omega
        have hfin : Hid (Ls = levR l) := by
          show _ = _
          have := hR.out
          rw [List.drop_eq_nil_of_le (by have := HOl.out; omega)] at this
          simpa [lvlF, lvl] using this
        have S9 := Lib.hid (hL.out.ss.mono (Nat.le_succ _))
        have B9 := Lib.hid hL.out.hb
        clear hL hR had
        go_wp2
        go_ret
        refine ⟨⟨ao, co, gs, by rw [← hfin.out]; rfl, ?_⟩, B9.out⟩
        rw [← hfin.out]; exact S9.out
end Go.Proofs.Ytmeojedfokahmaa
